/- The program: Write of a text's tree: what is spelt of it, read again, is that tree. -/
import Derived.Test.YtkaeenafejdkfaaGreatDoorM29
import Derived.Test.YtkaeenafejdkfaaGreatDoorM38
import Derived.Test.YtkaeenafejdkfaaGreatDoorPRead
import Derived.Test.YtkaeenafejdkfaaGreatDoorBRead
import Derived.Handy
import Derived.Test.YtkaeenafejdkfaaGreatDoorM11
import Derived.Test.YtkaeenafejdkfaaGreatDoorM30
import Derived.Test.YtkaeenafejdkfaaGreatDoorM31
namespace Go.Proofs.YtkaeenafejdkfaaGreatDoor
open Go.RowKit

theorem Errs.belowO {w w' : World} (h : Errs w (fun _ => .other)) (hb : Below w.heap.size w w') : Errs w' (fun _ => .other) := by
  refine ⟨fun _ _ => rfl, fun g hg => ?_⟩
  obtain ⟨t, a, hc⟩ := h.cell g hg
  exact ⟨t, a, (hb.cell (p := ⟨g, 0, none⟩) (World.block_lt_of_cell? w _ hc)).trans hc⟩
theorem Errs.bound {w : World} (h : Errs w (fun _ => .other)) : ∃ bv, w.cell? ⟨0, 0, none⟩ = some bv := by
  obtain ⟨t, a, hc⟩ := h.cell 0 (by decide)
  exact ⟨_, hc⟩
theorem spellT_size (ns : List Nd) : (⟨(spellT ns).toArray⟩ : ByteArray).size = (spellT ns).length := by simp [ByteArray.size]

set_option maxHeartbeats 8000000 in
set_option maxRecDepth 100000 in
theorem write_any {w : World} (h7 : Errs w (fun _ => .other)) (m8 : Int) (h8 : w.cell? ⟨8, 0, none⟩ = some (.int .i64 m8)) {M : Nat → Lab} {tb : Nat} {nv uv : Value} {ps : List Pn} {us : List Value} (h : Lies w M tb nv uv ps us) {s : ByteArray} (hr : readS s = .ok (nodesOf ps)) (hs : s.size ≤ 1500) :
    Calls Tryz.prog 9 #[.pointer (some ⟨tb, 0, none⟩), .int .i64 0] w fun e w' => e = .returned (.tuple #[.string ⟨(spellT (nodesOf ps)).toArray⟩, .nilIface]) ∧ Below w.heap.size w w' := by
  have hl8 := World.block_lt_of_cell? w _ h8
  have hmf : ∀ (fn : Fn) (first cap : Array Value) (w : World), (Instr.makeFunc fn first cap).run Tryz.prog w = .ok (.func fn first cap) w := fun _ _ _ _ => rfl
  obtain ⟨hback, hlen⟩ := spell_back hr
  obtain ⟨hcov, hwf, hfew⟩ := readS_end hr
  obtain ⟨n0, hn0, hk0, _⟩ := hwf.root
  obtain ⟨p0, hp0, rfl⟩ := nodesOf_get hn0
  obtain ⟨n1, hn1, hc0⟩ := hcov
  obtain rfl : p0.n = n1 := Option.some.inj (hn0.symm.trans hn1)
  have hF : ∀ (j : Nat) (q : Pn), ps[j]? = some q → q.n.kids.length ≤ 100000 ∧ q.n.attrs.length ≤ 100000 := fun j q hq => by
    have := hfew j q.n (nodes_get hq)
    exact ⟨this.1, by omega⟩
  have hT := spellT_at hn0
  have HB0 : Hid (∀ o1 o2, Below w.heap.size w ((w.alloc o1).alloc o2)) := fun o1 o2 => ((Below.refl _ _).alloc (Nat.le_refl _) _).alloc (by simp) _
  have HKind : Hid (∀ W, Below w.heap.size w W → Calls Tryz.prog 32 #[.pointer (some ⟨tb, 0, none⟩), .int .i64 0] W fun e w' => e = .returned (.int .i64 1) ∧ w' = W) := by
    intro W hW
    have := kind_any (h.below hW) hp0
    rw [hk0] at this
    exact this
  have HSpell : Hid (∀ W, Below w.heap.size w W → Calls Tryz.prog 35 #[.pointer (some ⟨tb, 0, none⟩), .int .i64 0] W fun e w' => e = .returned (.string ⟨(spellT (nodesOf ps)).toArray⟩) ∧ Below W.heap.size W w') := by
    intro W hW
    rw [hT]
    refine spell_any (h.below hW) hF hp0 hc0 ?_
    rw [← hT]; omega
  have HRead : Hid (∀ W, Below w.heap.size w W → Calls Tryz.prog 8 #[.string ⟨(spellT (nodesOf ps)).toArray⟩] W fun e w' => ∃ tb', e = .returned (.tuple #[.pointer (some ⟨tb', 0, none⟩), .nilIface]) ∧ Below W.heap.size W w' ∧ ∀ W2, Below w'.heap.size w' W2 → Calls Tryz.prog 36 #[.pointer (some ⟨tb, 0, none⟩), .int .i64 0, .pointer (some ⟨tb', 0, none⟩), .int .i64 0] W2 fun e w' => e = .returned (.bool true) ∧ Below W2.heap.size W2 w') := by
    intro W hW
    have h7' := h7.belowO hW
    obtain ⟨bv, hbv⟩ := h7'.bound
    have hsz := spellT_size (nodesOf ps)
    refine (read_any ⟨(spellT (nodesOf ps)).toArray⟩ (by omega) m8 ((hW.cell (p := ⟨8, 0, none⟩) hl8).trans h8) h7' _ hbv).mono ?_
    have hR : readR ⟨(spellT (nodesOf ps)).toArray⟩ = .ok (nodesOf ps) := by unfold readR; rw [if_neg (by omega)]; exact hback
    rw [hR]
    rintro e w' ⟨tb', M', nv', uv', ps', rfl, hL, hps, hm⟩
    have hb := moved_below hm
    refine ⟨tb', rfl, hb, fun W2 hW2 => ?_⟩
    exact alike_any hps.symm hF ⟨h.below (hW.trans ((hb.trans (hW2.mono hb.size)).mono hW.size)), hL.below hW2⟩ hp0 hc0
  clear h7 h8 h hr hback hwf hfew hn0 hn1 hp0 hc0 hF hT hlen
  go_enter Tryz.func9, Tryz.ntmps9
  go_wp2_with fail
  obtain ⟨W0, hW0⟩ : ∃ W0, W0 = (w.alloc (.cells #[.pointer (some ⟨tb, 0, none⟩)] 31)).alloc (.cells #[.int .i64 0] 3) := ⟨_, rfl⟩
  have c1 : W0.cell? ⟨w.heap.size, 0, none⟩ = some (.pointer (some ⟨tb, 0, none⟩)) := by
    rw [hW0, World.cell?_alloc_lt _ _ ⟨w.heap.size, 0, none⟩ (by simp), cell_of_row _ _ _ _ _ _ (heap_alloc_new w _)]; rfl
  have c2 : W0.cell? ⟨w.heap.size + 1, 0, none⟩ = some (.int .i64 0) := by
    have := heap_alloc_new (w.alloc (.cells #[.pointer (some ⟨tb, 0, none⟩)] 31)) (.cells #[.int .i64 0] 3)
    rw [World.size_alloc] at this
    rw [hW0, cell_of_row _ _ _ _ _ _ this]; rfl
  have hB0 : Below w.heap.size w W0 := by rw [hW0]; exact HB0.out _ _
  rw [← hW0]
  have HB := hid hB0
  have hb1 := World.block_lt_of_cell? W0 _ c1
  have hb2 := World.block_lt_of_cell? W0 _ c2
  clear hW0 hB0 HB0
  refine (HKind.out _ HB.out).mono ?_
  rintro e W1 ⟨rfl, rfl⟩
  have HW1 : Hid (Calls Tryz.prog 34 #[.pointer (some ⟨w.heap.size, 0, none⟩), .pointer (some ⟨w.heap.size + 1, 0, none⟩)] (W1.alloc (.cells #[.nilIface] 33)) fun e w' => e = .returned (.string ⟨(spellT (nodesOf ps)).toArray⟩) ∧ Below (W1.alloc (.cells #[.nilIface] 33)).heap.size (W1.alloc (.cells #[.nilIface] 33)) w') := by
    refine write1_any (tb := tb) _ ?_ ?_ (HSpell.out _ (HB.out.alloc HB.out.size _))
    · exact (World.cell?_alloc_lt _ _ ⟨w.heap.size, 0, none⟩ hb1).trans c1
    · exact (World.cell?_alloc_lt _ _ ⟨w.heap.size + 1, 0, none⟩ hb2).trans c2
  go_wp2_with fail
  refine (guardS_any _ HW1.out).mono ?_
  rintro e W2 ⟨rfl, hB2⟩
  have HB2 := hid (HB.out.trans (hB2.mono HB.out.size))
  have d1 := (hB2.cell (p := ⟨w.heap.size, 0, none⟩) hb1).trans c1
  have d2 := (hB2.cell (p := ⟨w.heap.size + 1, 0, none⟩) hb2).trans c2
  have hd1 := World.block_lt_of_cell? W2 _ d1
  have hd2 := World.block_lt_of_cell? W2 _ d2
  clear hB2 c1 c2 hb1 hb2 HW1
  go_wp2_with fail
  refine (HRead.out _ HB2.out).mono ?_
  rintro e W3 ⟨tb', rfl, hB3, hal⟩
  have HB3 := hid (HB2.out.trans (hB3.mono HB2.out.size))
  have e1 := (hB3.cell (p := ⟨w.heap.size, 0, none⟩) hd1).trans d1
  have e2 := (hB3.cell (p := ⟨w.heap.size + 1, 0, none⟩) hd2).trans d2
  have HAL := hid hal
  clear hB3 hal d1 d2 hd1 hd2
  go_wp2_with fail
  refine (HAL.out _ (Below.refl _ _)).mono ?_
  rintro e W4 ⟨rfl, hB4⟩
  have HB4 := hid (HB3.out.trans (hB4.mono HB3.out.size))
  clear hB4
  go_wp2_with fail
  go_returns
  exact ⟨rfl, HB4.out⟩
end Go.Proofs.YtkaeenafejdkfaaGreatDoor

/- Two lists of attributes that are one. -/
namespace Go.Proofs.YtkaeenafejdkfaaGreatDoor
open Go.RowKit

set_option maxHeartbeats 4000000 in
set_option maxRecDepth 100000 in
theorem sameAttrs_any {w : World} {v u : Value} {l : List (ByteArray × ByteArray)} (hv : AttrsAt w v l) (hu : AttrsAt w u l) (hl : l.length ≤ 1099511627776) :
    Calls Tryz.prog 52 #[v, u] w fun e w' => e = .returned (.bool true) ∧ Below w.heap.size w w' := by
  obtain ⟨a, c, rfl, ha⟩ := hv
  obtain ⟨b, d, rfl, hb⟩ := hu
  have HA : Hid _ := ha
  have HB : Hid _ := hb
  clear ha hb
  go_enter Tryz.func52, Tryz.ntmps52
  go_wp2
  go_loopw [5] (fun i wr => ∃ k : Nat, k ≤ l.length ∧ i = .int .i64 k ∧ Hid (Below w.heap.size w wr)) (fun i _ => l.length - (intOf i).toNat)
  case atStart => exact ⟨0, by omega, rfl, Below.refl _ _⟩
  case round =>
    obtain ⟨k, hk, rfl, hbel⟩ := hrel
    by_cases hlt : k < l.length
    · obtain ⟨⟨yn, yv⟩, hy⟩ : ∃ y, l[k]? = some y := ⟨_, List.getElem?_eq_getElem hlt⟩
      obtain ⟨g, rfl, e1, f1⟩ := HA.out k _ hy
      obtain ⟨g2, rfl, e2, f2⟩ := HB.out k _ hy
      have e1' := (hbel.out.cell (p := ⟨g, k * 2, none⟩) (World.block_lt_of_cell? w _ e1)).trans e1
      have e2' := (hbel.out.cell (p := ⟨g2, k * 2, none⟩) (World.block_lt_of_cell? w _ e2)).trans e2
      have f1' := (hbel.out.cell (p := ⟨g, k * 2 + 1, none⟩) (World.block_lt_of_cell? w _ f1)).trans f1
      have f2' := (hbel.out.cell (p := ⟨g2, k * 2 + 1, none⟩) (World.block_lt_of_cell? w _ f2)).trans f2
      dsimp only at e1' e2' f1' f2'
      clear hy e1 e2 f1 f2
      go_wp2
      go_quiet (fail)
      go_wp2
      go_roundw
      case rel => exact ⟨k + 1, by omega, by go_num, below_drewN hbel.out _⟩
      case measure => simp [intOf]; omega
    · go_wp2
      go_ret
      exact ⟨rfl, hbel.out⟩
end Go.Proofs.YtkaeenafejdkfaaGreatDoor

/- The document's answer: all that lies in a node of any tree; the order of two nodes. -/
namespace Go.Proofs.YtkaeenafejdkfaaGreatDoor
open Go.RowKit

set_option maxHeartbeats 4000000 in
set_option maxRecDepth 100000 in
theorem runder_any {EX : Ext} {w0 : World} {M : Nat → Lab} {tb : Nat} {nv uv : Value} {ps : List Pn} {us : List Value} (h : RLies (EX := EX) w0 M tb nv uv ps us) (hs : WF (nodesOf ps)) : ∀ (f i : Nat), i < ps.length → rkU (nodesOf ps) i < f → ∀ (w : World) (x : Int), x = i → Below w0.heap.size w0 w → (und (nodesOf ps) f i).length ≤ 1000000000 →
    Calls Tryz.prog 56 #[.pointer (some ⟨tb, 0, none⟩), .int .i64 x] w (UndPost w (und (nodesOf ps) f i)) := by
  obtain ⟨i0, hi, hz0, hz1, hz2⟩ := info_parts Tryz.infoInt
  intro f
  induction f with
  | zero => intro i _ hr; omega
  | succ f ih =>
    intro i hil hr w x hx hB hlen
    subst hx
    obtain ⟨p, hp⟩ : ∃ p, ps[i]? = some p := ⟨_, List.getElem?_eq_getElem hil⟩
    have hb : hasB ps.length i = true := hasB_of hp
    have hpn := nodes_get hp
    rw [und_succ hpn] at hlen ⊢
    obtain ⟨nb, cap, rfl, hc, hm, _, hnl, _⟩ := h.form hp
    obtain ⟨ka, kc, hkv, hk1, hk2⟩ := (h.node i p hp).2.shape
    have hlt : tb < w0.heap.size := lt_of_heap h.head
    have HK : Hid (∀ (k : Nat) (y : Int), p.n.kids[k]? = some y → ∃ g b, ka = some ⟨g, 0, none⟩ ∧ g < w0.heap.size ∧ w0.cell? ⟨g, k, none⟩ = some (.int .i64 y) ∧ y = (b : Nat) ∧ b < ps.length ∧ rkU (nodesOf ps) b < f) := by
      intro k y hy
      have hkl : k < p.n.kids.length := (List.getElem?_eq_some_iff.1 hy).1
      obtain ⟨g, c, hv, _, _, _, hg⟩ := (h.node i p hp).2.form (by omega)
      rw [hkv] at hv
      cases hv
      obtain ⟨b, _, e1, e2, _, _, e3⟩ := hs.rank hpn (List.mem_of_getElem? hy)
      exact ⟨g, b, rfl, hg, ((h.node i p hp).2.cell hkv (j := k) (u := .int .i64 y) (by simp [hy, intV])).1, e1, by simpa [nodesOf] using e2, by omega⟩
    have k5 := (h.cellN rfl (f := 5) hp (by omega) rfl).1
    rw [hkv] at k5
    have HC : Hid (∀ wr, Below w0.heap.size w0 wr → wr.cell? ⟨tb, 0, none⟩ = some (.slice (some ⟨nb, 0, none⟩) ps.length cap) ∧ wr.cell? ⟨nb, i * 6 + 5, none⟩ = some (.slice ka p.n.kids.length kc)) := fun wr hb => ⟨(hb.cell (p := ⟨tb, 0, none⟩) hlt).trans h.cell0, (hb.cell (p := ⟨nb, i * 6 + 5, none⟩) hnl).trans k5⟩
    have IH : Hid _ := ih
    have H : Hid (RLies (EX := EX) w M tb (.slice (some ⟨nb, 0, none⟩) ps.length cap) uv ps us) := h.below hB
    have HB : Hid (Below w0.heap.size w0 w) := hB
    have hsz := hB.size
    have i1 : (0 : Int) ≤ (i : Int) := by omega
    have i2 : (i : Int) < (ps.length : Int) := by omega
    have HL : Hid (∀ k, ((i : Int) :: (p.n.kids.take k).flatMap fun x => und (nodesOf ps) f x.toNat).length ≤ 1000000000) := by
      intro k
      have := flat_le p.n.kids (fun x => und (nodesOf ps) f x.toNat) k
      simp only [List.length_cons] at hlen ⊢
      omega
    have HO : Hid ((w.alloc (.cells #[.int .i64 i] 3)).ownsRow w.heap.size 3 1 (.slice (some ⟨w.heap.size, 0, none⟩) 1 1) 1 [.int .i64 i]) := ⟨rfl, .inr ⟨w.heap.size, 1, _, rfl, Nat.le_refl _, heap_alloc_new w _, Nat.le_refl _, by unfold maxLen; omega, rfl, rfl⟩⟩
    unfold maxLen at hm hk2
    clear h hs ih hp hpn hB hlen k5
    go_enter Tryz.func56, Tryz.ntmps56
    go_wp2_with (go_at_call 15; refine (rhas_any H.out _).mono ?_; rintro e w' ⟨rfl, rfl⟩; rw [hb])
    go_loopw [6, 7] (fun lv iv wr => ∃ k : Nat, k ≤ p.n.kids.length ∧ iv = .int .i64 k ∧ Hid (wr.ownsRow w'.heap.size 3 1 lv ((i : Int) :: (p.n.kids.take k).flatMap fun x => und (nodesOf ps) f x.toNat).length (((i : Int) :: (p.n.kids.take k).flatMap fun x => und (nodesOf ps) f x.toNat).map intV)) ∧ Hid (Below w'.heap.size w' wr)) (fun _ iv _ => p.n.kids.length - (intOf iv).toNat)
    case atStart => exact ⟨0, by omega, rfl, HO.out, (Below.refl _ _).alloc (Nat.le_refl _) _⟩
    case round =>
      obtain ⟨k, hk, rfl, hO, hbel⟩ := hrel
      have hB0 : Hid (Below w0.heap.size w0 wr) := HB.out.trans (hbel.out.mono hsz)
      obtain ⟨d0, d5⟩ := HC.out wr hB0.out
      have hsz2 := hbel.out.size
      by_cases hkl : k < p.n.kids.length
      · obtain ⟨y, hy⟩ : ∃ y, p.n.kids[k]? = some y := ⟨_, List.getElem?_eq_getElem hkl⟩
        obtain ⟨g, b, rfl, hg, cy, rfl, hb1, hb2⟩ := HK.out k y hy
        have cy' := (hB0.out.cell (p := ⟨g, k, none⟩) hg).trans cy
        have hll := HL.out (k + 1)
        rw [flat_succ hy] at hll
        simp only [List.length_cons, List.length_append, Int.toNat_natCast] at hll
        have HY : Hid _ := flat_succ hy (fun x => und (nodesOf ps) f x.toNat)
        clear hy cy
        go_wp2_with (first
          | (go_at_call 56; refine (IH.out b hb1 hb2 _ _ rfl hB0.out (by omega)).mono ?_; rintro e w2 ⟨v2, rfl, ho2, hB2⟩
             obtain ⟨a2, e2, hv2⟩ := own_shape ho2
             subst hv2
             have H2 : Hid _ := And.intro ho2 hB2
             have hsz3 := hB2.size
             clear ho2 hB2)
          | (at_builtin; refine wpList_app_own _ (by rfl) _ _ 48 (by rfl) w'.heap.size 3 i0 (.int .i64 0) 1 8 Tryz.underlying48 hi hz0 hz1 hz2 rfl (by decide) u6 _ _ (by rfl) (own_below hO.out H2.out.2 (Nat.le_refl _)) _ _ ((und (nodesOf ps) f b).map intV) (by rfl) (own_src H2.out.1 (one_int _)) (by unfold maxLen; simp only [List.length_cons]; omega) (by simp only [List.length_cons]; omega) (by omega) ?_
             intro v3 w3 hv3 hg3 _
             have H3 : Hid _ := And.intro hv3 ((hbel.out.trans (H2.out.2.mono hsz2)).grown hg3 (by omega) (fun q hq => (hO.out.lt q hq).1))
             clear hv3 hg3))
        go_roundw
        case rel =>
          go_light
          refine ⟨k + 1, by omega, by go_num, ?_, H3.out.2⟩
          show World.ownsRow _ _ _ _ _ _ _
          rw [HY.out]
          have := H3.out.1
          simpa [Nat.add_assoc, Nat.add_comm, Nat.add_left_comm] using this
        case measure => go_light; simp [intOf]; omega
      · obtain rfl : k = p.n.kids.length := by omega
        rw [List.take_length] at hO
        obtain ⟨a5, e5, hv5⟩ := own_shape hO.out
        subst hv5
        go_wp2
        go_ret
        exact ⟨_, rfl, hO.out, hbel.out⟩

end Go.Proofs.YtkaeenafejdkfaaGreatDoor
