/- Package events: Order, walked. -/
import Derived.Test.YtlfepdecgfcifaaGreatDoorM17
import Derived.Test.YtlfepdecgfcifaaGreatDoorM11
import Derived.Maps.Views
namespace Go.Proofs.YtlfepdecgfcifaaGreatDoor
open Go.RowKit Go.Maps
set_option linter.unusedVariables false
attribute [local go_sem] Oper.semAt_some

def turnI (ns : List Nd) (z : Int) : Int := match ns[z.toNat]? with | some n => turnN n | none => 0
def fltT (ns : List Nd) (L : List Int) : List Int := L.filter fun z => decide (0 < turnI ns z)
/-- in which order elements take the focus -/
def orderP (ns : List Nd) (L : List Int) : List Int := sortK (turnI ns) (fltT ns L)
theorem fltT_succ {ns : List Nd} {L : List Int} {k : Nat} {x : Int} (h : L[k]? = some x) : fltT ns (L.take (k + 1)) = if 0 < turnI ns x then fltT ns (L.take k) ++ [x] else fltT ns (L.take k) := by
  obtain ⟨hk, rfl⟩ := List.getElem?_eq_some_iff.1 h
  unfold fltT
  rw [List.take_succ_eq_append_getElem hk, List.filter_append]
  by_cases hx : 0 < turnI ns L[k]
  · rw [if_pos hx]
    simp [hx]
  · rw [if_neg hx]
    simp [hx]
theorem fltT_len (ns : List Nd) (L : List Int) (k : Nat) : (fltT ns (L.take k)).length ≤ k := Nat.le_trans (List.length_filter_le _ _) (by simp; omega)

theorem decNat_bd {l : List UInt8} {m : Nat} (hl : l.length ≤ 18) (h : Lib.decNat l = some m) : m < 1000000000000000000 := by
  unfold Lib.decNat at h
  split at h
  · cases h
  · exact Lib.decFrom_lt18 h hl
theorem atoi_bd {l : List UInt8} {n : Int} (hl : l.length ≤ 18) (h : Lib.atoi l = some n) : -1000000000000000000 ≤ n ∧ n ≤ 1000000000000000000 := by
  unfold Lib.atoi at h
  split at h
  · cases h
  · rename_i b r
    simp only [List.length_cons] at hl
    split at h
    · cases hd : Lib.decNat r with
      | none => rw [hd] at h; cases h
      | some m =>
        rw [hd] at h
        simp only [Option.map_some, Option.some.injEq] at h
        have := decNat_bd (by omega) hd
        omega
    · split at h
      · cases hd : Lib.decNat r with
        | none => rw [hd] at h; cases h
        | some m =>
          rw [hd] at h
          simp only [Option.map_some, Option.some.injEq] at h
          have := decNat_bd (by omega) hd
          omega
      · cases hd : Lib.decNat (b :: r) with
        | none => rw [hd] at h; cases h
        | some m =>
          rw [hd] at h
          simp only [Option.map_some, Option.some.injEq] at h
          have := decNat_bd (by simp; omega) hd
          omega
theorem wholeP_bd (s : ByteArray) : -1000000000000000000 ≤ (wholeP s).1 ∧ (wholeP s).1 ≤ 1000000000000000000 := by
  unfold wholeP
  split
  · constructor <;> decide
  · rename_i h9
    split
    · have := trimPrefix_len s.data.toList
      cases h : Lib.atoi s.data.toList with
      | none => constructor <;> decide
      | some n => exact atoi_bd (by omega) h
    · constructor <;> decide
theorem turnI_bd (ns : List Nd) (z : Int) : -1000000000000000000 ≤ turnI ns z ∧ turnI ns z ≤ 1000000000000000000 := by
  unfold turnI
  split
  · rename_i n hn
    unfold turnN
    have := wholeP_bd (attrN n ⟨#[116, 97, 98, 105, 110, 100, 101, 120]⟩).1
    generalize (wholeP (attrN n ⟨#[116, 97, 98, 105, 110, 100, 101, 120]⟩).1).1 = q at this ⊢
    repeat' split
    all_goals omega
  · constructor <;> decide

/-- while the list (k of L) and the map of turns (m of L) are made -/
structure OrI (w wr : World) (uv pv : Value) (mb mo : Nat) (ns : List Nd) (L : List Int) (k m : Nat) : Prop where
  below : Below w.heap.size w wr
  und : wr.ownsRow w.heap.size 3 1 uv L.length (L.map intV)
  own : wr.ownsRow w.heap.size 3 1 pv (fltT ns (L.take k)).length ((fltT ns (L.take k)).map intV)
  var : wr.heap[mb]? = some (.cells #[.map (some mo)] 64 (0, 0))
  map : ∃ n D, n ≤ m ∧ IsMap D ∧ wr.ownsMap Tryz.prog 3 (plainElem (H := Unit) Tryz.prog 3) mo n D ∧ ∀ x : Int, D.atKey (.int .i64 x) (.lit (.int .i64 0)) = .lit (.int .i64 (if x ∈ fltT ns (L.take m) then turnI ns x else 0))
  lo : w.heap.size ≤ mo ∧ w.heap.size ≤ mb ∧ mo ≠ mb
  s1 : ∀ b, uv.ownBlock = some b → b ≠ mb ∧ b ≠ mo ∧ pv.ownBlock ≠ some b
  s2 : ∀ b, pv.ownBlock = some b → b ≠ mb ∧ b ≠ mo
theorem ownsMap_keep {w w' : World} {b n : Nat} {D : DataW Unit} (h : w.ownsMap Tryz.prog 3 (plainElem (H := Unit) Tryz.prog 3) b n D) (hb : w'.heap[b]? = w.heap[b]?) : w'.ownsMap Tryz.prog 3 (plainElem (H := Unit) Tryz.prog 3) b n D := by
  obtain ⟨es, clock, hb0, F, hs, hD⟩ := h
  exact ⟨es, clock, hb.trans hb0, F, hs, hD⟩
section
variable {w wr w' : World} {uv pv : Value} {mb mo : Nat} {ns : List Nd} {L : List Int} {k m : Nat}
theorem OrI.mo_lt (h : OrI w wr uv pv mb mo ns L k m) : mo < wr.heap.size := by
  obtain ⟨n, D, h1, h2, h3, h4⟩ := h.map
  exact h3.lt
theorem OrI.held (h : OrI w wr uv pv mb mo ns L k m) (hb : Below wr.heap.size wr w') : OrI w w' uv pv mb mo ns L k m := by
  obtain ⟨n, D, h1, h2, h3, h4⟩ := h.map
  exact ⟨h.below.trans (hb.mono h.below.size), own_same h.und (fun b hq => hb.block b (h.und.lt b hq).2), own_same h.own (fun b hq => hb.block b (h.own.lt b hq).2), (hb.block _ (ltH h.var)).trans h.var, ⟨n, D, h1, h2, ownsMap_keep h3 (hb.block _ h3.lt), h4⟩, h.lo, h.s1, h.s2⟩
theorem OrI.skip (h : OrI w wr uv pv mb mo ns L k k) {x : Int} (hx : L[k]? = some x) (ht : ¬ 0 < turnI ns x) : OrI w wr uv pv mb mo ns L (k + 1) (k + 1) := by
  have e := fltT_succ (ns := ns) hx
  rw [if_neg ht] at e
  obtain ⟨n, D, h1, h2, h3, h4⟩ := h.map
  exact ⟨h.below, h.und, by rw [e]; exact h.own, h.var, ⟨n, D, by omega, h2, h3, by rw [e]; exact h4⟩, h.lo, h.s1, h.s2⟩
theorem OrI.app (h : OrI w wr uv pv mb mo ns L k m) {x : Int} (hx : L[k]? = some x) (ht : 0 < turnI ns x) {o : Obj} {v1 : Value} (hv : w'.ownsRow w.heap.size 3 1 v1 ((fltT ns (L.take k)).length + 1) ((fltT ns (L.take k)).map intV ++ [.int .i64 x])) (hg : (wr.alloc o).grownBy w' pv.ownBlock) (hn : v1.ownBlock = pv.ownBlock ∨ v1.ownBlock = some (wr.alloc o).heap.size) : OrI w w' uv v1 mb mo ns L (k + 1) m := by
  have e := fltT_succ (ns := ns) hx
  rw [if_pos ht] at e
  have hsz : (wr.alloc o).heap.size = wr.heap.size + 1 := by simp
  rw [hsz] at hn
  have low : ∀ b, b < wr.heap.size → pv.ownBlock ≠ some b → w'.heap[b]? = wr.heap[b]? := fun b hb hne => (hg.block b (by omega) (fun q => hne q.symm)).trans (Below.heap_alloc _ _ _ hb)
  obtain ⟨n, D, h1, h2, h3, h4⟩ := h.map
  have hmb := ltH h.var
  have hmo := h3.lt
  refine ⟨(h.below.alloc h.below.size o).grown hg (by have := h.below.size; omega) (fun q hq => (h.own.lt q hq).1), own_same h.und (fun b hq => low b (h.und.lt b hq).2 (h.s1 b hq).2.2), ?_, (low mb hmb (fun q => (h.s2 mb q).1 rfl)).trans h.var, ⟨n, D, h1, h2, ownsMap_keep h3 (low mo hmo (fun q => (h.s2 mo q).2 rfl)), h4⟩, h.lo, fun b hq => ⟨(h.s1 b hq).1, (h.s1 b hq).2.1, ?_⟩, fun b hq => ?_⟩
  · rw [e, List.length_append, List.map_append]
    exact hv
  · have hbl := (h.und.lt b hq).2
    rcases hn with q | q
    · rw [q]; exact (h.s1 b hq).2.2
    · rw [q]; intro q2; injection q2 with q2; omega
  · rcases hn with q | q
    · exact h.s2 b (q.symm.trans hq)
    · rw [q] at hq
      injection hq with hq
      exact ⟨by omega, by omega⟩
theorem OrI.put (h : OrI w wr uv pv mb mo ns L (k + 1) k) {x : Int} (hx : L[k]? = some x) (ht : 0 < turnI ns x) {n : Nat} {D : DataW Unit} (hn : n ≤ k) (hD : IsMap D) (hm : ∀ x : Int, D.atKey (.int .i64 x) (.lit (.int .i64 0)) = .lit (.int .i64 (if x ∈ fltT ns (L.take k) then turnI ns x else 0))) (hw : w'.ownsMap Tryz.prog 3 (plainElem (H := Unit) Tryz.prog 3) mo (n + 1) (D.put (.int .i64 x) (.lit (.int .i64 (turnI ns x))))) (hg : wr.grownBy w' (some mo)) : OrI w w' uv pv mb mo ns L (k + 1) (k + 1) := by
  have e := fltT_succ (ns := ns) hx
  rw [if_pos ht] at e
  have low : ∀ b, b < wr.heap.size → b ≠ mo → w'.heap[b]? = wr.heap[b]? := fun b hb hne => hg.block b hb (fun q => by injection q with q; exact hne q)
  refine ⟨h.below.grown hg h.below.size (fun q hq => by injection hq with hq; have := h.lo.1; omega), own_same h.und (fun b hq => low b (h.und.lt b hq).2 (h.s1 b hq).2.1), own_same h.own (fun b hq => low b (h.own.lt b hq).2 (h.s2 b hq).2), (low mb (ltH h.var) (Ne.symm h.lo.2.2)).trans h.var, ⟨n + 1, _, by omega, hw.isMap, hw, fun y => ?_⟩, h.lo, h.s1, h.s2⟩
  rw [e]
  by_cases hy : y = x
  · subst hy
    rw [atKey_put_same (k := .int .i64 y) hD trivial, if_pos (by simp)]
  · rw [atKey_put_other (fun q => hy (by injection q)), hm y]
    by_cases hm2 : y ∈ fltT ns (L.take k)
    · rw [if_pos hm2, if_pos (List.mem_append_left _ hm2)]
    · rw [if_neg hm2, if_neg (by
        intro q
        rcases List.mem_append.1 q with q | q
        · exact hm2 q
        · simp only [List.mem_cons, List.not_mem_nil, or_false] at q
          exact hy q)]
end
theorem own_shapeG {w : World} {B n size : Nat} {e : TypeId} {v : Value} {xs : List Value} (h : w.ownsRow B e size v n xs) : ∃ a c, v = .slice a n c ∧ n ≤ c ∧ c ≤ 9223372036854775807 ∧ (0 < n → ∃ g, a = some ⟨g, 0, none⟩) := by
  obtain ⟨hl, ⟨rfl, h0⟩ | ⟨g', cap, cur, rfl, h1, h2, h3, h4, h5⟩⟩ := h
  · exact ⟨none, 0, by rw [h0], by omega, by omega, fun h => by omega⟩
  · unfold maxLen at h4
    exact ⟨_, cap, rfl, h3, by omega, fun _ => ⟨g', rfl⟩⟩
theorem makeMap0 (w : World) : (Instr.makeMap 64 none).run Tryz.prog w = .ok (.map (some w.heap.size)) (w.alloc (.map #[] 0)) := by
  simp [Instr.makeMap, Result.andThen]
theorem underNone_any {w : World} {M : Nat → Lab} {tb : Nat} {nv uv : Value} {ps : List Pn} {us : List Value} (h : Lies w M tb nv uv ps us) {a : Int} (hb : hasB ps.length a = false) : Calls Tryz.prog 31 #[.pointer (some ⟨tb, 0, none⟩), .int .i64 a] w fun e w' => e = .returned (.slice none 0 0) ∧ w' = w := by
  have H : Hid (Lies w M tb nv uv ps us) := h
  clear h
  go_enter Tryz.func31, Tryz.ntmps31
  go_wp2_with (go_at_call 54; refine (has_any H.out _).mono ?_; rintro e w' ⟨rfl, rfl⟩; rw [hb])
  go_ret
  exact ⟨rfl, rfl⟩
/-- what lies in a node, itself first; nothing in what is none -/
def undZ (ns : List Nd) (z : Int) : List Int := if hasB ns.length z then und ns (ns.length + 1) z.toNat else []
theorem own_monoF {w : World} {B C n size : Nat} {e : TypeId} {v : Value} {xs : List Value} (h : w.ownsRow B e size v n xs) (hC : C ≤ B) : w.ownsRow C e size v n xs := by
  obtain ⟨hl, h0 | ⟨g', cap, cur, h1, h2, h3⟩⟩ := h
  · exact ⟨hl, .inl h0⟩
  · exact ⟨hl, .inr ⟨g', cap, cur, h1, Nat.le_trans hC h2, h3⟩⟩
theorem rank_le (ns : List Nd) (i : Nat) (hi : i < ns.length) : rank ns i < ns.length + 1 := by unfold rank; split <;> omega
theorem undZ_any {w : World} {M : Nat → Lab} {tb : Nat} {nv uv : Value} {ps : List Pn} {us : List Value} (h : Lies w M tb nv uv ps us) (hs : Sound (nodesOf ps)) (hn : Neat (nodesOf ps)) (hl : ps.length ≤ 1000000) (z : Int) :
    Calls Tryz.prog 31 #[.pointer (some ⟨tb, 0, none⟩), .int .i64 z] w (UndPost w (undZ (nodesOf ps) z)) := by
  have hln : (nodesOf ps).length = ps.length := by simp [nodesOf]
  unfold undZ
  rw [hln]
  cases hb : hasB ps.length z
  · refine (underNone_any h hb).mono ?_
    rintro e w' ⟨rfl, rfl⟩
    exact ⟨_, rfl, World.ownsRow_nil _ _ _ _, Below.refl _ _⟩
  · have hz : 0 ≤ z ∧ z < (ps.length : Int) := by unfold hasB at hb; simpa using hb
    obtain ⟨i, rfl⟩ : ∃ i : Nat, z = i := ⟨z.toNat, by omega⟩
    rw [if_pos rfl, Int.toNat_natCast]
    have := rank_le (nodesOf ps) i (by omega)
    exact Under_any h hs hn hl (ps.length + 1) i (by omega) (by omega)
theorem undZ_mem {ns : List Nd} (hs : Sound ns) {z x : Int} (hx : x ∈ undZ ns z) : ∃ j : Nat, x = j ∧ j < ns.length := by
  unfold undZ at hx
  cases hb : hasB ns.length z
  · rw [hb] at hx; simp at hx
  · rw [hb, if_pos rfl] at hx
    have hz : 0 ≤ z ∧ z < (ns.length : Int) := by unfold hasB at hb; simpa using hb
    obtain ⟨b, h1, h2, _⟩ := und_anc hs _ _ (by omega) x hx
    exact ⟨b, h1, h2⟩
theorem undZ_nodup {ns : List Nd} (hs : Sound ns) (hn : Neat ns) (z : Int) : (undZ ns z).Nodup := by
  unfold undZ
  cases hb : hasB ns.length z
  · simp
  · have hz : 0 ≤ z ∧ z < (ns.length : Int) := by unfold hasB at hb; simpa using hb
    exact und_nodup hs hn _ _ (by omega)
theorem undZ_len {ns : List Nd} (hs : Sound ns) (hn : Neat ns) (z : Int) : (undZ ns z).length ≤ ns.length := by
  unfold undZ
  cases hb : hasB ns.length z
  · simp
  · have hz : 0 ≤ z ∧ z < (ns.length : Int) := by unfold hasB at hb; simpa using hb
    exact und_short hs hn _ _ (by omega)

theorem sort_call {wr : World} {g cap mb mo : Nat} {cur : Array Value} {F : List Int} {key : Int → Int} (hg1 : wr.heap[g]? = some (.cells cur 3 (0, 0))) (hcur : ∀ j : Nat, j < F.length → cur[j]? = some (.int .i64 (F[j]?.getD 0))) (h60 : F.length ≤ 60) (hvar : wr.cell? ⟨mb, 0, none⟩ = some (.map (some mo))) (hlt : mb < wr.heap.size)
    (hown : ∃ n D, wr.ownsMap Tryz.prog 3 (plainElem (H := Unit) Tryz.prog 3) mo n D ∧ ∀ x : Int, 0 ≤ x → x ≤ 1000000 → D.atKey (.int .i64 x) (.lit (.int .i64 0)) = .lit (.int .i64 (key x))) (n1 : mb ≠ g) (n2 : mo ≠ g) (hdf : ∀ k : Nat, 0 ≤ F[k]?.getD 0 ∧ F[k]?.getD 0 ≤ 1000000) :
    Calls Tryz.prog 33 #[.slice (some ⟨g, 0, none⟩) F.length cap, .func (.func 34) #[] #[.pointer (some ⟨mb, 0, none⟩)]] wr fun e w' => e = .returned (.tuple #[]) ∧ ∃ arr, w'.heap[g]? = some (.cells arr 3 (0, 0)) ∧ arr.size = cur.size ∧ KeepM wr g w' ∧ arr.toList.take (F.length * 1) = (sortK key F).map intV := by
  letI OX : OrdX := { mb := mb, mo := mo, key := key, sz := cur.size }
  refine (sortStable_any (OX := OX) (cap := cap) (n := F.length) (D := fun (k : Nat) => F[k]?.getD 0) ⟨cur, hg1, rfl, hcur⟩ h60 ⟨hvar, hlt, hown⟩ n1 n2 hdf).mono ?_
  rintro e w7 ⟨rfl, t, hso, hsr, hpr⟩
  obtain ⟨arr, a1, a2, a3⟩ := hso.row
  have hrange : (List.range F.length).map (fun (k : Nat) => F[k]?.getD 0) = F := by
    apply List.ext_getElem?
    intro i
    rw [List.getElem?_map]
    by_cases hi : i < F.length
    · rw [List.getElem?_range hi, List.getElem?_eq_getElem hi]; simp [hi]
    · rw [List.getElem?_eq_none (by simpa using hi), List.getElem?_eq_none (by omega)]; rfl
  have hsort := sorted_sortK (D := fun (k : Nat) => F[k]?.getD 0) (K := key) (n := F.length) (t := t) hsr hpr
  rw [hrange] at hsort
  refine ⟨rfl, arr, a1, a2, hso.keep, ?_⟩
  rw [← hsort]
  apply List.ext_getElem?
  intro i
  rw [List.getElem?_take]
  by_cases hi : i < F.length
  · rw [if_pos (by omega), Array.getElem?_toList, a3 i hi, List.map_map, List.getElem?_map, List.getElem?_range hi]
    rfl
  · rw [if_neg (by omega), List.getElem?_eq_none (by simp; omega)]

set_option maxHeartbeats 8000000 in
set_option maxRecDepth 100000 in
theorem order_any {w : World} {M : Nat → Lab} {tb : Nat} {nv uv : Value} {ps : List Pn} {us : List Value} (h : Lies w M tb nv uv ps us) (hs : Sound (nodesOf ps)) (hn : Neat (nodesOf ps)) (hl : ps.length ≤ 60) (hx : ErrSx w) (z : Int) :
    Calls Tryz.prog 9 #[.pointer (some ⟨tb, 0, none⟩), .int .i64 z] w (UndPost w (orderP (nodesOf ps) (undZ (nodesOf ps) z))) := by
  obtain ⟨i0, hi, hz0, hz1, hz2⟩ := info_parts Tryz.infoInt
  have hmm := makeMap0
  have hln : (nodesOf ps).length = ps.length := by simp [nodesOf]
  have hb2 : Below w.heap.size w ((w.alloc (.map #[] 0)).alloc (.cells #[.map (some w.heap.size)] 64)) := ((Below.refl _ w).alloc (Nat.le_refl _) _).alloc (by simp) _
  have UN := hid (undZ_any (h.below hb2) hs hn (by omega) z)
  obtain ⟨ns, hns⟩ : ∃ ns, nodesOf ps = ns := ⟨_, rfl⟩
  obtain ⟨L, hL⟩ : ∃ L, undZ ns z = L := ⟨_, rfl⟩
  have HMEM : Hid (∀ x ∈ L, ∃ j : Nat, x = j ∧ j < ns.length) := fun x hx => by rw [← hL] at hx; exact undZ_mem (hns ▸ hs) hx
  have hlen : L.length ≤ ns.length := by rw [← hL]; exact undZ_len (hns ▸ hs) (hns ▸ hn) z
  have HNS := hid hns
  rw [hns] at UN hln ⊢
  rw [hL] at UN ⊢
  have HLI := hid (fun (W : World) (hb : Below w.heap.size w W) => h.below hb)
  have HEX := hid (fun (W : World) (hb : Below w.heap.size w W) => hx.held hb)
  have HB2 := hid hb2
  clear h hs hn hx hL hns hb2
  go_enter Tryz.func9, Tryz.ntmps9
  go_wp2_with fail
  refine UN.out.mono ?_
  rintro e w3 ⟨uv3, rfl, hu, hb3⟩
  obtain ⟨ua, uc, rfl, hu1, hu2, hu3⟩ := own_shapeG hu
  have H0 : Hid (OrI w w3 (.slice ua L.length uc) (.slice none 0 0) (w.heap.size + 1) w.heap.size ns L 0 0) := by
    have hm3 : w3.heap[w.heap.size + 1]? = some (.cells #[.map (some w.heap.size)] 64 (0, 0)) := by
      have := heap_alloc_new (w.alloc (.map #[] 0)) (.cells #[.map (some w.heap.size)] 64)
      rw [show (w.alloc (.map #[] 0)).heap.size = w.heap.size + 1 by simp] at this
      exact (hb3.block _ (by simp)).trans this
    have ho3 : w3.ownsMap Tryz.prog 3 (plainElem (H := Unit) Tryz.prog 3) w.heap.size 0 (.map []) := ownsMap_keep (World.ownsMap_made w _ _ _) ((hb3.block _ (by simp; omega)).trans (Below.heap_alloc _ _ _ (by simp)))
    have hsz : ((w.alloc (.map #[] 0)).alloc (.cells #[.map (some w.heap.size)] 64)).heap.size = w.heap.size + 2 := by simp
    rw [hsz] at hu hb3
    refine ⟨HB2.out.trans (hb3.mono (by omega)), own_monoF hu (by omega), World.ownsRow_nil _ _ _ _, hm3, ⟨0, .map [], Nat.le_refl _, ho3.isMap, ho3, fun x => ?_⟩, ⟨Nat.le_refl _, by omega, by omega⟩, fun b hb => ⟨?_, ?_, by simp [Value.ownBlock]⟩, fun b hb => by simp [Value.ownBlock] at hb⟩
    · simp [fltT]
      rfl
    · have := (hu.lt b hb).1; omega
    · have := (hu.lt b hb).1; omega
  clear hu hb3 UN
  go_wp2_with fail
  go_loopw [5, 15] (fun pv iv wr => ∃ k : Nat, k ≤ L.length ∧ iv = .int .i64 k ∧ Hid (OrI w wr (.slice ua L.length uc) pv (w.heap.size + 1) w.heap.size ns L k k)) (fun _ iv _ => L.length - (intOf iv).toNat)
  case atStart => exact ⟨0, by omega, rfl, H0⟩
  case round =>
    obtain ⟨k, hk, rfl, HI⟩ := hrel
    by_cases hlt : k < L.length
    · obtain ⟨g, rfl⟩ := hu3 (by omega)
      obtain ⟨x, hx⟩ : ∃ x, L[k]? = some x := ⟨_, List.getElem?_eq_getElem hlt⟩
      have HX := hid hx
      obtain ⟨j, rfl, hj⟩ := HMEM.out x (List.mem_of_getElem? hx)
      obtain ⟨p, hp⟩ : ∃ p, ps[j]? = some p := ⟨_, List.getElem?_eq_getElem (by omega)⟩
      have htn : turnI ns (j : Int) = turnN p.n := by
        unfold turnI
        rw [← HNS.out, Int.toNat_natCast, show (nodesOf ps)[j]? = some p.n by unfold nodesOf; rw [List.getElem?_map, hp]; rfl]
      have c0 : wr.cell? ⟨g, k, none⟩ = some (.int .i64 (j : Int)) := by
        rw [HI.out.und.cellAt k (by omega), List.getElem?_map, hx]
        rfl
      have TN := hid (turn_any (HLI.out wr HI.out.below) hp (HEX.out wr HI.out.below))
      rw [← htn] at TN
      have hlt' : (k : Int) < (L.length : Int) := by omega
      obtain ⟨tv, htv⟩ : ∃ t, turnI ns (j : Int) = t := ⟨_, rfl⟩
      rw [htv] at TN
      have HTV := hid htv
      clear hx hp htn htv
      go_wp2_with fail
      refine TN.out.mono ?_
      rintro e w4 ⟨rfl, hb4⟩
      have H4 := hid (HI.out.held hb4)
      clear hb4 c0 TN
      by_cases ht : 0 < tv
      · have HT : Hid (0 < turnI ns (j : Int)) := by show _ < _; rw [HTV.out]; exact ht
        have hfl := fltT_len ns L k
        have hbs := H4.out.below.size
        obtain ⟨pa, pc, rfl, _, _, _⟩ := own_shapeG H4.out.own
        have kc : keyOf Tryz.prog 3 (.int .i64 (j : Int)) = some (.int .i64 (j : Int)) := keyOf_int_mk Tryz.underlying3 (WalkArith.wf_i64 (by omega))
        have htb := turnI_bd ns (j : Int)
        rw [HTV.out] at htb
        go_wp2_with first
          | (at_builtin; refine wpList_app_own _ (by rfl) _ _ 32 (by rfl) w.heap.size 3 i0 (.int .i64 0) 1 8 Tryz.underlying32 hi hz0 hz1 hz2 rfl (by decide) (.slice pa (fltT ns (L.take k)).length pc) (fltT ns (L.take k)).length ((fltT ns (L.take k)).map intV) (by rfl) (H4.out.own.alloc _) _ 1 [.int .i64 (j : Int)] (by rfl) ⟨rfl, by simp [Value.oneCell'], _, _, rfl, .inr ⟨_, rfl, cell_one_new _ _ _⟩⟩ (by unfold maxLen; omega) (by omega) (by simp; omega) ?_
             intro v1 w5 hv1 hg1 hx1
             have HJ := hid (H4.out.app HX.out HT.out hv1 hg1 hx1)
             have c6 : w5.cell? ⟨w.heap.size + 1, 0, none⟩ = some (.map (some w.heap.size)) := (by rw [cell_of_row _ _ _ _ _ _ HJ.out.var]; rfl)
             obtain ⟨n, D, m1, m2, m3, m4⟩ := HJ.out.map
             have HM := hid (And.intro m1 (And.intro m2 (And.intro m3 m4)))
             clear hv1 hg1 hx1 m2 m3 m4)
          | (at_mapUpdate; refine wpList_mapUpdate_own _ rfl _ _ _ 64 rfl 3 3 lawInt Tryz.underlying64 _ w.heap.size n _ rfl HM.out.2.2.1 (by unfold maxLen; omega) _ _ _ rfl rfl kc _ [] (plainElem_int Tryz.underlying3 (WalkArith.wf_i64 (by omega))) ?_
             intro w6 hown6 hgrow6
             have HP := hid (HJ.out.put HX.out HT.out m1 HM.out.2.1 HM.out.2.2.2 (by rw [HTV.out]; exact hown6) hgrow6)
             clear hown6 hgrow6)
        go_roundw
        case rel => exact ⟨k + 1, by omega, by go_num, HP.out⟩
        case measure => simp [intOf]; omega
      · have HT : Hid (¬ 0 < turnI ns (j : Int)) := by show ¬ _ < _; rw [HTV.out]; exact ht
        go_wp2_with fail
        go_roundw
        case rel => exact ⟨k + 1, by omega, by go_num, H4.out.skip HX.out (by have := HT.out; omega)⟩
        case measure => simp [intOf]; omega
    · obtain rfl : k = L.length := by omega
      have htk : L.take L.length = L := List.take_length
      have hfl := fltT_len ns L L.length
      obtain ⟨n, D, m1, m2, m3, m4⟩ := HI.out.map
      rw [htk] at hfl m4
      have c6 : wr.cell? ⟨w.heap.size + 1, 0, none⟩ = some (.map (some w.heap.size)) := by rw [cell_of_row _ _ _ _ _ _ HI.out.var]; rfl
      have hown := HI.out.own
      rw [htk] at hown
      obtain ⟨_, ⟨ho1, ho2⟩ | ⟨g, cap, cur, rfl, hg0, hg1, hg2, hg3, hg4, hg5⟩⟩ := hown
      · subst ho1
        have hnil : fltT ns L = [] := List.eq_nil_of_length_eq_zero ho2
        have e0 : orderP ns L = [] := by unfold orderP; rw [hnil]; rfl
        have HE0 := hid e0
        clear e0
        have SN := hid (fun W => sortStable_nil (OX := { mb := w.heap.size + 1, mo := w.heap.size, key := fun _ => 0, sz := 0 }) W)
        unfold ordF at SN
        clear m3 m4
        go_wp2_with fail
        refine (SN.out _).mono ?_
        rintro e w7 ⟨rfl, hw7⟩
        rw [hw7]
        go_wp2_with fail
        go_returns
        exact ⟨_, rfl, by rw [HE0.out]; exact World.ownsRow_nil _ _ _ _, HI.out.below⟩
      · obtain ⟨F, hF⟩ : ∃ F, fltT ns L = F := ⟨_, rfl⟩
        have HF := hid hF
        have HFR : Hid (∀ x ∈ F, 0 ≤ x ∧ x ≤ 1000000) := fun x hx => by
          rw [← hF] at hx
          obtain ⟨j, rfl, hj⟩ := HMEM.out x (List.mem_filter.1 hx).1
          omega
        have HKE : Hid (∀ x ∈ F, (if x ∈ F then turnI ns x else 0) = turnI ns x) := fun x hx => if_pos hx
        rw [hF] at m4 hfl hg2 hg5 ⊢
        have hm4 : ∀ x : Int, 0 ≤ x → x ≤ 1000000 → D.atKey (.int .i64 x) (.lit (.int .i64 0)) = .lit (.int .i64 (if x ∈ F then turnI ns x else 0)) := fun x _ _ => m4 x
        have hcur : ∀ j : Nat, j < F.length → cur[j]? = some (.int .i64 (F[j]?.getD 0)) := fun j hj => by
          have h1 : (cur.toList.take (F.length * 1))[j]? = (F.map intV)[j]? := by rw [hg5]
          rw [List.getElem?_take, if_pos (by omega), List.getElem?_map, List.getElem?_eq_getElem hj] at h1
          rw [List.getElem?_eq_getElem hj, ← Array.getElem?_toList, h1]
          rfl
        have hdf : ∀ k : Nat, 0 ≤ F[k]?.getD 0 ∧ F[k]?.getD 0 ≤ 1000000 := fun k => by
          cases hq : F[k]? with
          | none => exact ⟨by decide, by decide⟩
          | some x => exact HFR.out x (List.mem_of_getElem? hq)
        have SS := hid (sort_call (cap := cap) hg1 hcur (by omega) c6 (ltH HI.out.var) ⟨n, D, m3, hm4⟩ (Ne.symm (HI.out.s2 g rfl).1) (Ne.symm (HI.out.s2 g rfl).2) hdf)
        have HG := hid (And.intro hg0 (And.intro hg2 (And.intro hg3 hg4)))
        clear m3 m4 hm4 hcur hdf hg5
        go_wp2_with fail
        refine SS.out.mono ?_
        rintro e w7 ⟨rfl, arr, a1, a2, hk, a3⟩
        have hBF : Hid (Below w.heap.size w w7) := ⟨hk.os.trans HI.out.below.os, hk.tape.trans HI.out.below.tape, hk.output.trans HI.out.below.output, Nat.le_trans HI.out.below.size hk.size, fun b hb => (hk.block b (Nat.lt_of_lt_of_le hb HI.out.below.size) (by omega)).trans (HI.out.below.block b hb)⟩
        rw [sortK_congr F HKE.out] at a3
        have hlenS : (sortK (turnI ns) F).length = F.length := sortK_length _ _
        have HR : Hid (w7.ownsRow w.heap.size 3 1 (.slice (some ⟨g, 0, none⟩) F.length cap) (orderP ns L).length ((orderP ns L).map intV)) := by
          show World.ownsRow _ _ _ _ _ _ _
          unfold orderP
          rw [HF.out, hlenS]
          exact ⟨by simp [hlenS], .inr ⟨g, cap, arr, rfl, HG.out.1, a1, HG.out.2.1, HG.out.2.2.1, by rw [a2]; exact HG.out.2.2.2, a3⟩⟩
        clear a1 a2 a3 hk
        go_wp2_with fail
        go_returns
        exact ⟨_, rfl, HR.out, hBF.out⟩
end Go.Proofs.YtlfepdecgfcifaaGreatDoor
