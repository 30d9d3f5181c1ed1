/- The program: two trees that have the same nodes are alike. -/
import Derived.Test.YtkaeenafejdkfaaGreatDoorM27
import Derived.Deep.RegionHeld3
namespace Go.Proofs.YtkaeenafejdkfaaGreatDoor
open Go.RowKit

/-- two trees that have the same nodes -/
structure Two (w : World) (M1 M2 : Nat → Lab) (t1 t2 : Nat) (n1 u1 n2 u2 : Value) (ps qs : List Pn) (us1 us2 : List Value) : Prop where
  a : Lies w M1 t1 n1 u1 ps us1
  b : Lies w M2 t2 n2 u2 qs us2
theorem Two.below {w w' : World} {M1 M2 : Nat → Lab} {t1 t2 : Nat} {n1 u1 n2 u2 : Value} {ps qs : List Pn} {us1 us2 : List Value} (h : Two w M1 M2 t1 t2 n1 u1 n2 u2 ps qs us1 us2) (hb : Below w.heap.size w w') : Two w' M1 M2 t1 t2 n1 u1 n2 u2 ps qs us1 us2 := ⟨h.a.below hb, h.b.below hb⟩

set_option maxHeartbeats 8000000 in
set_option maxRecDepth 100000 in
theorem alike1_same {w : World} {M1 M2 : Nat → Lab} {t1 t2 : Nat} {n1 u1 n2 u2 : Value} {ps qs : List Pn} {us1 us2 : List Value} (h : Two w M1 M2 t1 t2 n1 u1 n2 u2 ps qs us1 us2) {j : Nat} {p q : Pn} (hp : ps[j]? = some p) (hq : qs[j]? = some q) (hpq : p.n = q.n) (hal : p.n.attrs.length ≤ 100000)
    {b c : Nat} (h1 : w.cell? ⟨b, 0, none⟩ = some (.pointer (some ⟨t1, 0, none⟩))) (h2 : w.cell? ⟨c, 0, none⟩ = some (.pointer (some ⟨t2, 0, none⟩)))
    (IH : ∀ W, Below w.heap.size w W → Calls Tryz.prog 36 #[.pointer (some ⟨t1, 0, none⟩), .int .i64 j, .pointer (some ⟨t2, 0, none⟩), .int .i64 j] W fun e w' => e = .returned (.bool true) ∧ Below W.heap.size W w') :
    Calls Tryz.prog 78 #[.int .i64 j, .int .i64 j, .pointer (some ⟨b, 0, none⟩), .pointer (some ⟨c, 0, none⟩)] w fun e w' => e = .returned (.bool true) ∧ Below w.heap.size w w' := by
  have hd : Below w.heap.size w w.drew := (Below.refl _ _).drew
  have K1 := hid (kind_any (h.a.below hd) hp)
  have K2 := hid (kind_any (h.b.below hd) hq)
  have T1 := hid (tag_any (h.a.below hd) hp)
  have T2 := hid (tag_any (h.b.below hd) hq)
  have W1 := hid (words_any (h.a.below hd) hp)
  have W2 := hid (words_any (h.b.below hd) hq)
  rw [← hpq] at K2 T2 W2
  have A1 : Hid (∀ W, Below w.heap.size w W → Calls Tryz.prog 53 #[.pointer (some ⟨t1, 0, none⟩), .int .i64 j] W fun e w' => ∃ v', e = .returned v' ∧ AttrsAt w' v' p.n.attrs ∧ Below W.heap.size W w') := by
    intro W hW
    refine (attrs_any (h.a.below hW) hp (by omega)).mono ?_
    rintro e w' ⟨v', rfl, ho, hb⟩
    exact ⟨v', rfl, own_attrs ho, hb⟩
  have A2 : Hid (∀ W, Below w.heap.size w W → Calls Tryz.prog 53 #[.pointer (some ⟨t2, 0, none⟩), .int .i64 j] W fun e w' => ∃ v', e = .returned v' ∧ AttrsAt w' v' p.n.attrs ∧ Below W.heap.size W w') := by
    intro W hW
    refine (attrs_any (h.b.below hW) hq (by rw [← hpq]; omega)).mono ?_
    rintro e w' ⟨v', rfl, ho, hb⟩
    exact ⟨v', rfl, by rw [hpq]; exact own_attrs ho, hb⟩
  have hb1 := World.block_lt_of_cell? w _ h1
  have hb2 := World.block_lt_of_cell? w _ h2
  have HI := hid IH
  clear h IH hp hq
  go_enter Tryz.func78, Tryz.ntmps78
  go_wp2_with fail
  go_region_held3 (fun wx => wx.cell? ⟨b, 0, none⟩ = some (.pointer (some ⟨t1, 0, none⟩)) ∧ wx.cell? ⟨c, 0, none⟩ = some (.pointer (some ⟨t2, 0, none⟩))) (go_keep)
    (first
      | (go_at_call 32; with_reducible refine K1.out.mono ?_; rintro e wk ⟨rfl, rfl⟩)
      | (go_at_call 32; with_reducible refine K2.out.mono ?_; rintro e wk ⟨rfl, rfl⟩)
      | (go_at_call 50; with_reducible refine T1.out.mono ?_; rintro e wk ⟨rfl, rfl⟩)
      | (go_at_call 50; with_reducible refine T2.out.mono ?_; rintro e wk ⟨rfl, rfl⟩)
      | (go_at_call 51; with_reducible refine W1.out.mono ?_; rintro e wk ⟨rfl, rfl⟩)
      | (go_at_call 51; with_reducible refine W2.out.mono ?_; rintro e wk ⟨rfl, rfl⟩)
      | (go_at_call 53; with_reducible refine (A1.out _ hd).mono ?_; rintro e wa ⟨va, rfl, hAa, hBa⟩
         have HA1 : Hid (AttrsAt wa va p.n.attrs ∧ Below w.heap.size w wa) := ⟨hAa, hd.trans hBa⟩
         have k1 : wa.cell? ⟨b, 0, none⟩ = some (.pointer (some ⟨t1, 0, none⟩)) := (HA1.out.2.cell (p := ⟨b, 0, none⟩) hb1).trans h1
         have k2 : wa.cell? ⟨c, 0, none⟩ = some (.pointer (some ⟨t2, 0, none⟩)) := (HA1.out.2.cell (p := ⟨c, 0, none⟩) hb2).trans h2
         clear hAa hBa)
      | (go_at_call 53; with_reducible refine (A2.out _ hd).mono ?_; rintro e wb ⟨vb, rfl, hAb, hBb⟩
         have HA2 : Hid (AttrsAt wb vb p.n.attrs ∧ Below w.heap.size w wb) := ⟨hAb, hd.trans hBb⟩
         have k1 : wb.cell? ⟨b, 0, none⟩ = some (.pointer (some ⟨t1, 0, none⟩)) := (HA2.out.2.cell (p := ⟨b, 0, none⟩) hb1).trans h1
         have k2 : wb.cell? ⟨c, 0, none⟩ = some (.pointer (some ⟨t2, 0, none⟩)) := (HA2.out.2.cell (p := ⟨c, 0, none⟩) hb2).trans h2
         clear hAb hBb)
      | (go_at_call 53; with_reducible refine (A2.out _ HA1.out.2).mono ?_; rintro e wb ⟨vb, rfl, hAb, hBb⟩
         have HA : Hid (AttrsAt wb va p.n.attrs ∧ AttrsAt wb vb p.n.attrs ∧ Below w.heap.size w wb) := ⟨HA1.out.1.belowW hBb, hAb, HA1.out.2.trans (hBb.mono HA1.out.2.size)⟩
         have m1 : wb.cell? ⟨b, 0, none⟩ = some (.pointer (some ⟨t1, 0, none⟩)) := (HA.out.2.2.cell (p := ⟨b, 0, none⟩) hb1).trans h1
         have m2 : wb.cell? ⟨c, 0, none⟩ = some (.pointer (some ⟨t2, 0, none⟩)) := (HA.out.2.2.cell (p := ⟨c, 0, none⟩) hb2).trans h2
         clear hAb hBb)
      | (go_at_call 53; with_reducible refine (A1.out _ HA2.out.2).mono ?_; rintro e wb ⟨va, rfl, hAb, hBb⟩
         have HA : Hid (AttrsAt wb va p.n.attrs ∧ AttrsAt wb vb p.n.attrs ∧ Below w.heap.size w wb) := ⟨hAb, HA2.out.1.belowW hBb, HA2.out.2.trans (hBb.mono HA2.out.2.size)⟩
         have m1 : wb.cell? ⟨b, 0, none⟩ = some (.pointer (some ⟨t1, 0, none⟩)) := (HA.out.2.2.cell (p := ⟨b, 0, none⟩) hb1).trans h1
         have m2 : wb.cell? ⟨c, 0, none⟩ = some (.pointer (some ⟨t2, 0, none⟩)) := (HA.out.2.2.cell (p := ⟨c, 0, none⟩) hb2).trans h2
         clear hAb hBb)
      | (go_at_call 79; with_reducible refine (equalA_same HA.out.1 HA.out.2.1 hal).mono ?_; rintro e wq ⟨rfl, hBq⟩
         have HQ : Hid (Below w.heap.size w wq) := HA.out.2.2.trans (hBq.mono HA.out.2.2.size)
         have o1 : wq.cell? ⟨b, 0, none⟩ = some (.pointer (some ⟨t1, 0, none⟩)) := (HQ.out.cell (p := ⟨b, 0, none⟩) hb1).trans h1
         have o2 : wq.cell? ⟨c, 0, none⟩ = some (.pointer (some ⟨t2, 0, none⟩)) := (HQ.out.cell (p := ⟨c, 0, none⟩) hb2).trans h2
         clear hBq)
      | (go_at_call 36; with_reducible refine (HI.out _ HQ.out).mono ?_; rintro e wz ⟨rfl, hBz⟩
         have HZ : Hid (Below w.heap.size w wz) := HQ.out.trans (hBz.mono HQ.out.size)
         have r1 : wz.cell? ⟨b, 0, none⟩ = some (.pointer (some ⟨t1, 0, none⟩)) := (HZ.out.cell (p := ⟨b, 0, none⟩) hb1).trans h1
         have r2 : wz.cell? ⟨c, 0, none⟩ = some (.pointer (some ⟨t2, 0, none⟩)) := (HZ.out.cell (p := ⟨c, 0, none⟩) hb2).trans h2
         clear hBz))
  all_goals go_wp2_with fail
  all_goals go_ret
  all_goals exact ⟨rfl, HZ.out⟩
end Go.Proofs.YtkaeenafejdkfaaGreatDoor
