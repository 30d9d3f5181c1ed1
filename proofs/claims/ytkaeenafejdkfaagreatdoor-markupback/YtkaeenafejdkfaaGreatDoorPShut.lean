/- The program: the innermost open element of some tags is shut. -/
import Derived.Test.YtkaeenafejdkfaaGreatDoorM12
import Derived.Test.YtkaeenafejdkfaaGreatDoorGTree
import Derived.Test.YtkaeenafejdkfaaGreatDoorM06
import Derived.Test.YtkaeenafejdkfaaGreatDoorM11
namespace Go.Proofs.YtkaeenafejdkfaaGreatDoor
open Go.RowKit Go.Shelf
attribute [local go_sem] Oper.semAt_some

/-- how many stay open; none: nothing is shut -/
def shutI (A B : Int → Bool) : List Int → Option Nat
  | [] => none
  | z :: l => if A z = true then some l.length else if B z = true then none else shutI A B l
theorem shutI_none {A B : Int → Bool} : ∀ {l : List Int}, (∀ z ∈ l, A z = false ∧ B z = false) → shutI A B l = none
  | [], _ => rfl
  | z :: l, h => by
    unfold shutI
    rw [(h z (by simp)).1, (h z (by simp)).2]
    exact shutI_none fun y hy => h y (by simp [hy])
theorem shutI_at {A B : Int → Bool} : ∀ {l : List Int} {k : Nat} {z : Int}, l[k]? = some z → (∀ j y, j < k → l[j]? = some y → A y = false ∧ B y = false) → shutI A B l = if A z = true then some (l.length - 1 - k) else if B z = true then none else shutI A B (l.drop (k + 1))
  | [], k, z, h, _ => by simp at h
  | x :: l, 0, z, h, _ => by
    obtain rfl : x = z := by simpa using h
    rw [shutI]
    simp
  | x :: l, k + 1, z, h, hn => by
    have h0 := hn 0 x (by omega) rfl
    rw [shutI, h0.1, h0.2]
    simp only [Bool.false_eq_true, if_false]
    rw [shutI_at (l := l) (k := k) (z := z) (by simpa using h) (fun j y hj hy => hn (j + 1) y (by omega) (by simpa using hy))]
    simp only [List.length_cons, List.drop_succ_cons]
    have : l.length + 1 - 1 - (k + 1) = l.length - 1 - k := by omega
    rw [this]
theorem rev_get (zs : List Int) (k : Nat) (hk : k < zs.length) : zs.reverse[k]? = some (bkF zs k).2 := by
  unfold bkF
  rw [List.getElem?_reverse hk]
  rw [List.getElem?_eq_getElem (by omega)]
  rfl
theorem Only.grown {gb : Nat} {w W W' : World} {row : Option Nat} (h : Only gb w W) (hg : W.grownBy W' row) (hr : ∀ r, row = some r → w.heap.size ≤ r) : Only gb w W' := by
  have hb : Below w.heap.size W W' := (Below.refl _ W).grown hg h.size hr
  exact ⟨hb.os.trans h.os, hb.tape.trans h.tape, hb.output.trans h.output, Nat.le_trans h.size hb.size, fun k hk hne => (hb.block k hk).trans (h.block k hk hne)⟩
theorem four_new (w : World) (a b c d : Value) (r s t u : TypeId) : ((((w.alloc (.cells #[a] r)).alloc (.cells #[b] s)).alloc (.cells #[c] t)).alloc (.cells #[d] u)).cell? ⟨w.heap.size, 0, none⟩ = some a ∧ ((((w.alloc (.cells #[a] r)).alloc (.cells #[b] s)).alloc (.cells #[c] t)).alloc (.cells #[d] u)).cell? ⟨w.heap.size + 1, 0, none⟩ = some b ∧ ((((w.alloc (.cells #[a] r)).alloc (.cells #[b] s)).alloc (.cells #[c] t)).alloc (.cells #[d] u)).cell? ⟨w.heap.size + 1 + 1, 0, none⟩ = some c ∧ ((((w.alloc (.cells #[a] r)).alloc (.cells #[b] s)).alloc (.cells #[c] t)).alloc (.cells #[d] u)).cell? ⟨w.heap.size + 1 + 1 + 1, 0, none⟩ = some d := by
  have e1 : (w.alloc (.cells #[a] r)).heap.size = w.heap.size + 1 := by simp
  have e2 : ((w.alloc (.cells #[a] r)).alloc (.cells #[b] s)).heap.size = w.heap.size + 1 + 1 := by simp
  have e3 : (((w.alloc (.cells #[a] r)).alloc (.cells #[b] s)).alloc (.cells #[c] t)).heap.size = w.heap.size + 1 + 1 + 1 := by simp
  refine ⟨?_, ?_, ?_, ?_⟩
  · rw [cell_of_row _ w.heap.size 0 #[a] r (0, 0) (by rw [Below.heap_alloc _ _ _ (by omega), Below.heap_alloc _ _ _ (by omega), Below.heap_alloc _ _ _ (by omega)]; exact heap_alloc_new w _)]; rfl
  · rw [cell_of_row _ (w.heap.size + 1) 0 #[b] s (0, 0) (by rw [Below.heap_alloc _ _ _ (by omega), Below.heap_alloc _ _ _ (by omega), ← e1]; exact heap_alloc_new _ _)]; rfl
  · rw [cell_of_row _ (w.heap.size + 1 + 1) 0 #[c] t (0, 0) (by rw [Below.heap_alloc _ _ _ (by omega), ← e2]; exact heap_alloc_new _ _)]; rfl
  · rw [cell_of_row _ (w.heap.size + 1 + 1 + 1) 0 #[d] u (0, 0) (by rw [← e3]; exact heap_alloc_new _ _)]; rfl
def ShutPost (w : World) (gb tb : Nat) (a : Option Addr) (cap : Nat) (r : Option Nat) (e : Ending) (w' : World) : Prop := e = .returned (.tuple #[]) ∧ match r with
  | none => Below w.heap.size w w'
  | some m => Only gb w w' ∧ w'.heap[gb]? = some (.cells #[.pointer (some ⟨tb, 0, none⟩), .slice a m cap, .int .i64 0] 117 (0, 0))
theorem shut_fin {W4 W : World} {gb tb n cap xn : Nat} {a : Option Addr} {tx : Int} (hB : Below W4.heap.size W4 W) (hg : W.heap[gb]? = some (.cells #[.pointer (some ⟨tb, 0, none⟩), .slice a n cap, .int .i64 tx] 117 (0, 0))) :
    KeepsOthers W ((W.setCell ⟨gb, 1, none⟩ (.slice a xn cap)).setCell ⟨gb, 2, none⟩ (.int .i64 0)).drew ∧ Only gb W4 ((W.setCell ⟨gb, 1, none⟩ (.slice a xn cap)).setCell ⟨gb, 2, none⟩ (.int .i64 0)).drew ∧ ((W.setCell ⟨gb, 1, none⟩ (.slice a xn cap)).setCell ⟨gb, 2, none⟩ (.int .i64 0)).drew.heap[gb]? = some (.cells #[.pointer (some ⟨tb, 0, none⟩), .slice a xn cap, .int .i64 0] 117 (0, 0)) := by
  refine ⟨((KeepsOthers.setCell _ _ _).trans (KeepsOthers.setCell _ _ _)).trans (KeepsOthers.drew _), ?_, ?_⟩
  · have h := (((Only.of (b := gb) hB).set 1 (.slice a xn cap)).set 2 (.int .i64 0)).drew 1
    exact ⟨h.os, h.tape, h.output, h.size, h.block⟩
  · show ((W.setCell ⟨gb, 1, none⟩ (.slice a xn cap)).setCell ⟨gb, 2, none⟩ (.int .i64 0)).heap[gb]? = _
    simp [World.setCell, Array.getElem?_modify, hg]
def hitT (ns : List Nd) (A : List ByteArray) (z : Int) : Bool := Lib.containsS A (tagOf ns z.toNat)

set_option maxRecDepth 100000 in
set_option maxHeartbeats 8000000 in
theorem shut_any {w : World} {M : Nat → Lab} {tb gb : Nat} {nv uv : Value} {ps : List Pn} {us : List Value} {a : Option Addr} {cap : Nat} {tx : Int} {zs : List Int} (hL : Lies w M tb nv uv ps us) (hg : w.heap[gb]? = some (.cells #[.pointer (some ⟨tb, 0, none⟩), .slice a zs.length cap, .int .i64 tx] 117 (0, 0)))
    (hz : IntsIn w.heap.size w (.slice a zs.length cap) zs) (hzn : ∀ z ∈ zs, ∃ (i : Nat) (p : Pn), z = i ∧ ps[i]? = some p) (hzl : zs.length ≤ 1000) (hcap : zs.length ≤ cap ∧ cap ≤ 9223372036854775807) {tv lv : Value} {A B : List ByteArray} (hTA : StrsAt w tv A) (hTB : StrsAt w lv B) (htv : ∃ x y z, tv = .slice x y z) (hlv : ∃ x y z, lv = .slice x y z) :
    Calls Tryz.prog 114 #[.pointer (some ⟨gb, 0, none⟩), tv, lv] w (ShutPost w gb tb a cap (shutI (hitT (nodesOf ps) A) (hitT (nodesOf ps) B) zs.reverse)) := by
  obtain ⟨tx1, tx2, tx3, rfl⟩ := htv
  obtain ⟨lx1, lx2, lx3, rfl⟩ := hlv
  refine (callsIn_wide (n := 5)).1 ?_
  refine callsIn_of_wp_marks Tryz.func114 rfl trivial ?_ rfl
  simp only [Tryz.ntmps114, List.size_toArray, List.length_cons, List.length_nil, Nat.reduceAdd, Nat.reduceSub, Array.replicate_succ, Array.replicate_zero, List.push_toArray, List.append_toArray, List.nil_append, List.cons_append]
  have hgl : gb < w.heap.size := lt_of_heap hg
  have hgc1 : w.cell? ⟨gb, 1, none⟩ = some (.slice a zs.length cap) := by rw [cell_of_row w gb _ _ _ _ hg]; rfl
  have hg3 : ∀ o1 o2 o3, (((w.alloc o1).alloc o2).alloc o3).heap[gb]? = some (.cells #[.pointer (some ⟨tb, 0, none⟩), .slice a zs.length cap, .int .i64 tx] 117 (0, 0)) := fun o1 o2 o3 => by
    rw [Below.heap_alloc _ _ _ (by simp; omega), Below.heap_alloc _ _ _ (by simp; omega), Below.heap_alloc _ _ _ hgl]; exact hg
  have hgc : ∀ o1 o2 o3, (((w.alloc o1).alloc o2).alloc o3).cell? ⟨gb, 1, none⟩ = some (.slice a zs.length cap) := fun o1 o2 o3 => by rw [cell_of_row _ gb _ _ _ _ (hg3 o1 o2 o3)]; rfl
  gi_wp2_with (refine ⟨trivial, ?_⟩; gi_at_call 143; refine (back_in Fence.wide _ trivial rfl _ _ _ _).mono ?_; rintro e w' ⟨rfl, rfl⟩)
  obtain ⟨W4, hW4⟩ : ∃ W4, W4 = ((((w.alloc (.cells #[.pointer (some ⟨gb, 0, none⟩)] 168)).alloc (.cells #[.slice tx1 tx2 tx3] 108)).alloc (.cells #[.slice lx1 lx2 lx3] 108)).alloc (.cells #[.slice a zs.length cap] 48)) := ⟨_, rfl⟩
  rw [← hW4]
  have hsz : W4.heap.size = w.heap.size + 1 + 1 + 1 + 1 := by rw [hW4]; simp
  have hB4 : Below w.heap.size w W4 := by
    rw [hW4]
    exact ((((Below.refl _ w).alloc (Nat.le_refl _) _).alloc (by simp) _).alloc (by simp; omega) _).alloc (by simp; omega) _
  obtain ⟨hk0, hk1, hk2, hk3⟩ : W4.cell? ⟨w.heap.size, 0, none⟩ = some (.pointer (some ⟨gb, 0, none⟩)) ∧ W4.cell? ⟨w.heap.size + 1, 0, none⟩ = some (.slice tx1 tx2 tx3) ∧ W4.cell? ⟨w.heap.size + 1 + 1, 0, none⟩ = some (.slice lx1 lx2 lx3) ∧ W4.cell? ⟨w.heap.size + 1 + 1 + 1, 0, none⟩ = some (.slice a zs.length cap) := by rw [hW4]; exact four_new _ _ _ _ _ _ _ _ _
  have hg4 : W4.heap[gb]? = some (.cells #[.pointer (some ⟨tb, 0, none⟩), .slice a zs.length cap, .int .i64 tx] 117 (0, 0)) := (hB4.block gb hgl).trans hg
  have hz4 : IntsIn W4.heap.size W4 (.slice a zs.length cap) zs := by
    rcases hz with hz | ⟨b, c, h1, h2, h3⟩
    · exact .inl hz
    · exact .inr ⟨b, c, h1, Nat.lt_of_lt_of_le h2 hB4.size, fun j hj => (hB4.cell (p := ⟨b, j, none⟩) h2).trans (h3 j hj)⟩
  clear hW4 hgc hg3
  refine wpIn_rangeFunc_ownF rfl (by omega) (gf := 167) (lb := #[.pointer (some ⟨w.heap.size + 1 + 1 + 1, 0, none⟩)]) rfl trivial (enters_of Tryz.func167 (by kernel_rfl) rfl)
    (back_stops Fence.wide _ trivial rfl (by omega) (w.heap.size + 1 + 1 + 1) W4.heap.size (.slice a zs.length cap) zs (by omega) W4 (by omega) (Nat.le_refl _) hk3 hz4) belowK_t (belowK_b (Nat.le_refl _)) (Below.refl _ _) (fun _ => rfl)
    (fun pre W => (∀ y ∈ pre, hitT (nodesOf ps) A y.1.2 = false ∧ hitT (nodesOf ps) B y.1.2 = false) ∧ Below W4.heap.size W4 W)
    (fun c pre W => c = .ret ∧ ∃ q x, pre = q ++ [x] ∧ (∀ y ∈ q, hitT (nodesOf ps) A y.1.2 = false ∧ hitT (nodesOf ps) B y.1.2 = false) ∧ ((hitT (nodesOf ps) A x.1.2 = true ∧ Only gb W4 W ∧ W.heap[gb]? = some (.cells #[.pointer (some ⟨tb, 0, none⟩), .slice a x.1.1.toNat cap, .int .i64 0] 117 (0, 0))) ∨ (hitT (nodesOf ps) A x.1.2 = false ∧ hitT (nodesOf ps) B x.1.2 = true ∧ Below W4.heap.size W4 W)))
    (fun s U V row hs hg hr => ⟨hs.1, hs.2.grown hg hs.2.size (fun k e => (hr k e).1)⟩)
    (fun c s U V row hs hg hr => by
      obtain ⟨h1, q, x, h2, h3, h4⟩ := hs
      refine ⟨h1, q, x, h2, h3, ?_⟩
      rcases h4 with ⟨e1, e2, e3⟩ | ⟨e1, e2, e3⟩
      · refine .inl ⟨e1, e2.grown hg (fun r e => (hr r e).1), ?_⟩
        have hb : Below W4.heap.size U V := (Below.refl _ U).grown hg e2.size (fun k e => (hr k e).1)
        exact (hb.block gb (by omega)).trans e3
      · exact .inr ⟨e1, e2, e3.grown hg e3.size (fun k e => (hr k e).1)⟩)
    ⟨by simp, Below.refl _ _⟩
    (fun x => { tmps := #[.pointer (some ⟨gb, 0, none⟩), .slice tx1 tx2 tx3, .slice lx1 lx2 lx3, .pointer (some ⟨w.heap.size, 0, none⟩), .pointer (some ⟨w.heap.size + 1, 0, none⟩), .pointer (some ⟨w.heap.size + 1 + 1, 0, none⟩), .int .i64 x.1.1, .int .i64 x.1.2, undef, .pointer (some ⟨gb, 0, none⟩), .pointer (some ⟨gb, 0, none⟩), .pointer (some ⟨gb, 1, none⟩), .slice a zs.length cap, .func (.func 167) #[] #[.pointer (some ⟨w.heap.size + 1 + 1 + 1, 0, none⟩)], .int .i64 x.1.1, .int .i64 x.1.2, undef, undef, undef, undef, undef, undef, undef, undef, undef, undef, undef, undef, undef, undef, undef, undef, undef, undef, undef, undef, undef, undef, undef, undef], defers := [] }) ?assign ?body ?done ?stop
  case assign =>
    intro l x W K hK
    gi_wp2
    exact hK
  case body =>
    rintro l pre ⟨⟨xi, xz⟩, hex⟩ W ⟨hno, hB⟩ hlen
    obtain ⟨k, hkl, hxk⟩ := id hex
    have hmem : xz ∈ zs := by
      have e : (bkF zs k).2 = xz := by rw [← hxk]
      have := rev_get zs k hkl
      rw [e] at this
      exact List.mem_reverse.1 (List.mem_of_getElem? this)
    obtain ⟨i, p, rfl, hp⟩ := hzn xz hmem
    have hxi : xi = (zs.length : Int) - 1 - k := by have := congrArg Prod.fst hxk; exact this
    have c0 := (hB.cell (p := ⟨w.heap.size, 0, none⟩) (by show w.heap.size < _; omega)).trans hk0
    have c1 := (hB.cell (p := ⟨w.heap.size + 1, 0, none⟩) (by show w.heap.size + 1 < _; omega)).trans hk1
    have c2 := (hB.cell (p := ⟨w.heap.size + 1 + 1, 0, none⟩) (by show w.heap.size + 1 + 1 < _; omega)).trans hk2
    have gW := (hB.block gb (by omega)).trans hg4
    have g0 : W.cell? ⟨gb, 0, none⟩ = some (.pointer (some ⟨tb, 0, none⟩)) := by rw [cell_of_row W gb _ _ _ _ gW]; rfl
    have g1 : W.cell? ⟨gb, 1, none⟩ = some (.slice a zs.length cap) := by rw [cell_of_row W gb _ _ _ _ gW]; rfl
    have g2 : W.cell? ⟨gb, 2, none⟩ = some (.int .i64 tx) := by rw [cell_of_row W gb _ _ _ _ gW]; rfl
    have gf : ∀ o, W.frozen? ⟨gb, o, none⟩ = false := fun o => by simp [World.frozen?, gW]
    have hBw : Below w.heap.size w W := hB4.trans (hB.mono hB4.size)
    have HL := hid (hL.below hBw)
    have HA := hid (hTA.below hBw)
    have HB := hid (hTB.below hBw)
    have HP := hid hp
    have htag : tagOf (nodesOf ps) ((i : Int).toNat) = p.n.tag := by unfold tagOf; rw [Int.toNat_natCast, nodes_get hp]
    obtain ⟨xn, hxn⟩ : ∃ xn : Nat, xi = (xn : Int) := ⟨xi.toNat, by omega⟩
    subst hxn
    have hx2 : xn ≤ cap := by omega
    have hx3 : (xn : Int) ≤ (cap : Int) := by omega
    have hmx : Tryz.prog.follows Departure.mixedOrders = true := by kernel_rfl
    have HXK := hid hxk
    have HNO := hid hno
    have HBW := hid hB
    clear hxi hno hB hBw hlen hmem hkl
    cases eA : Lib.containsS A p.n.tag
    · cases eB : Lib.containsS B p.n.tag
      · gi_wp2_with (first
          | (refine ⟨trivial, ?_⟩; gi_at_call 50; refine (CallsIn.inRound l (callsIn_wide.2 (tag_any HL.out HP.out))).mono ?_; rintro e w' ⟨rfl, rfl⟩)
          | (refine ⟨trivial, ?_⟩; gi_at_call 144; first | (refine (CallsIn.inRound l (callsIn_wide.2 (contains_any HA.out _))).mono ?_; clear HA; rintro e w' ⟨rfl, rfl⟩; rw [eA]) | (refine (CallsIn.inRound l (callsIn_wide.2 (contains_any HB.out _))).mono ?_; clear HB; rintro e w' ⟨rfl, rfl⟩; rw [eB])))
        exact ⟨KeepsOthers.refl _, Below.refl _ _, fun y hy => (List.mem_append.1 hy).elim (HNO.out y) (fun e => by
          rw [List.mem_singleton] at e
          subst e
          exact ⟨by show hitT _ _ (i : Int) = _; unfold hitT; rw [htag, eA], by show hitT _ _ (i : Int) = _; unfold hitT; rw [htag, eB]⟩), HBW.out⟩
      · gi_wp2_with (first
          | (refine ⟨trivial, ?_⟩; gi_at_call 50; refine (CallsIn.inRound l (callsIn_wide.2 (tag_any HL.out HP.out))).mono ?_; rintro e w' ⟨rfl, rfl⟩)
          | (refine ⟨trivial, ?_⟩; gi_at_call 144; first | (refine (CallsIn.inRound l (callsIn_wide.2 (contains_any HA.out _))).mono ?_; clear HA; rintro e w' ⟨rfl, rfl⟩; rw [eA]) | (refine (CallsIn.inRound l (callsIn_wide.2 (contains_any HB.out _))).mono ?_; clear HB; rintro e w' ⟨rfl, rfl⟩; rw [eB])))
        exact ⟨KeepsOthers.refl _, rfl, pre, _, rfl, HNO.out, .inr ⟨by show hitT _ _ (i : Int) = _; unfold hitT; rw [htag, eA], by show hitT _ _ (i : Int) = _; unfold hitT; rw [htag, eB], HBW.out⟩⟩
    · gi_wp2_with (first
        | (refine ⟨trivial, ?_⟩; gi_at_call 50; refine (CallsIn.inRound l (callsIn_wide.2 (tag_any HL.out HP.out))).mono ?_; rintro e w' ⟨rfl, rfl⟩)
        | (refine ⟨trivial, ?_⟩; gi_at_call 144; refine (CallsIn.inRound l (callsIn_wide.2 (contains_any HA.out _))).mono ?_; rintro e w' ⟨rfl, rfl⟩; rw [eA]))
      gi_region
      all_goals gi_wp2
      all_goals
        obtain ⟨z1, z2, z3⟩ := shut_fin (xn := xn) HBW.out gW
        exact ⟨z1, rfl, pre, _, rfl, HNO.out, .inl ⟨by show hitT _ _ (i : Int) = _; unfold hitT; rw [htag, eA], z2, by rw [Int.toNat_natCast]; exact z3⟩⟩
  case done =>
    rintro D ys W hD hys ⟨hno, hB⟩ hK
    have hnone : shutI (hitT (nodesOf ps) A) (hitT (nodesOf ps) B) zs.reverse = none := by
      apply shutI_none
      intro z hz
      obtain ⟨k, hk, hkz⟩ := List.getElem_of_mem hz
      rw [List.length_reverse] at hk
      have h1 := rev_get zs k hk
      rw [List.getElem?_eq_getElem (by simpa using hk), hkz] at h1
      have h2 : bkF zs k ∈ ys.map Subtype.val := by
        rw [hys]; unfold upto; exact List.mem_map.2 ⟨k, List.mem_range.2 hk, rfl⟩
      obtain ⟨y, hy, hyv⟩ := List.mem_map.1 h2
      have := hno y hy
      rw [hyv, ← Option.some.inj h1] at this
      exact this
    rw [hnone]
    gi_wp2
    refine ⟨by simp, .inl ⟨_, _, rfl, run_takeDeferred hK, ?_⟩⟩
    refine ⟨_, results_none rfl _ _ _, rfl, ?_⟩
    exact (hB4.trans (hB.mono hB4.size)).trans (belowK_b (w := w) (Nat.le_refl _) W D _ _ (by omega) hK rfl rfl)
  case stop =>
    rintro D c pre W hD ⟨k, hk, hpre⟩ ⟨rfl, q, x, rfl, hno, hor⟩ hK
    -- which one it was
    have hql : q.length + 1 = k := by
      have e := congrArg List.length hpre
      rw [List.length_map, upto_length, List.length_append, List.length_singleton] at e
      exact e
    have hmap : q.map Subtype.val ++ [x.1] = upto (bkF zs) (q.length + 1) := by
      rw [hql, ← hpre, List.map_append]; rfl
    rw [upto_succ] at hmap
    have hq : q.map Subtype.val = upto (bkF zs) q.length := (List.append_inj' hmap rfl).1
    have hx : x.1 = bkF zs q.length := by
      have := (List.append_inj' hmap rfl).2
      exact List.singleton_inj.1 this
    have hqz : q.length < zs.length := by omega
    have hgx : zs.reverse[q.length]? = some x.1.2 := by rw [hx]; exact rev_get zs _ hqz
    have hbef : ∀ (j : Nat) (y : Int), j < q.length → zs.reverse[j]? = some y → hitT (nodesOf ps) A y = false ∧ hitT (nodesOf ps) B y = false := by
      intro j y hj hy
      have h1 := rev_get zs j (by omega)
      have h2 : bkF zs j ∈ q.map Subtype.val := by
        rw [hq]; unfold upto; exact List.mem_map.2 ⟨j, List.mem_range.2 hj, rfl⟩
      obtain ⟨z, hz, hzv⟩ := List.mem_map.1 h2
      have := hno z hz
      rw [hzv, ← Option.some.inj (hy.symm.trans h1)] at this
      exact this
    have hat := shutI_at (A := hitT (nodesOf ps) A) (B := hitT (nodesOf ps) B) hgx hbef
    rw [List.length_reverse] at hat
    have hx1 : x.1.1.toNat = zs.length - 1 - q.length := by
      rw [hx]; show ((zs.length : Int) - 1 - q.length).toNat = _; omega
    have hput : Below w.heap.size W (W.putObj D (.deferred none)) := belowK_b (w := w) (Nat.le_refl _) W D _ _ (by omega) hK rfl rfl
    rcases hor with ⟨e1, e2, e3⟩ | ⟨e1, e2, e3⟩
    · rw [if_pos e1] at hat
      rw [hat, ← hx1]
      gi_wp2
      refine ⟨by simp, .inl ⟨_, _, rfl, run_takeDeferred hK, ?_⟩⟩
      refine ⟨_, results_none rfl _ _ _, rfl, ?_, ?_⟩
      · have hO : Only gb w W := ⟨e2.os.trans hB4.os, e2.tape.trans hB4.tape, e2.output.trans hB4.output, Nat.le_trans hB4.size e2.size, fun k hk hne => (e2.block k (Nat.lt_of_lt_of_le hk hB4.size) hne).trans (hB4.block k hk)⟩
        exact ⟨hput.os.trans hO.os, hput.tape.trans hO.tape, hput.output.trans hO.output, Nat.le_trans hO.size hput.size, fun k hk hne => (hput.block k hk).trans (hO.block k hk hne)⟩
      · exact (hput.block gb hgl).trans e3
    · rw [if_neg (by rw [e1]; simp), if_pos e2] at hat
      rw [hat]
      gi_wp2
      refine ⟨by simp, .inl ⟨_, _, rfl, run_takeDeferred hK, ?_⟩⟩
      exact ⟨_, results_none rfl _ _ _, rfl, (hB4.trans (e3.mono hB4.size)).trans hput⟩
end Go.Proofs.YtkaeenafejdkfaaGreatDoor
