/- A kid is pulled out from among its parent's kids. -/
import Derived.Test.YtjfklhfdonbpgaaGreatDoorDel
import Derived.Test.YtjfklhfdonbpgaaGreatDoorPut
import Derived.Test.YtjfklhfdonbpgaaGreatDoorM00
namespace Go.Proofs.YtjfklhfdonbpgaaGreatDoor
open Go.RowKit
attribute [local go_sem ↓] Go.wp_at_zero Go.wp_at_succ

/-- the nodes behind it -/
def pullP (ps : List Pn) (q i : Nat) (m p : Pn) (kv : Value) : List Pn := (ps.set q ⟨{ m.n with kids := m.n.kids.eraseIdx (idx m.n.kids i) }, m.av, kv⟩).set i ⟨{ p.n with parent := -1 }, p.av, p.kv⟩

theorem Lies.drewN {w : World} {M : Nat → Lab} {tb : Nat} {nv uv : Value} {ps : List Pn} {us : List Value} (h : Lies w M tb nv uv ps us) (n : Nat) : Lies (w.drewN n) M tb nv uv ps us :=
  h.far (Nat.le_refl _) (fun _ _ _ => rfl)
theorem Moved.drewN {w w' : World} {M M' : Nat → Lab} (h : Moved w M w' M') (n : Nat) : Moved w M (w'.drewN n) M' := ⟨h.os, h.tape, h.output, h.size, h.lab, h.far⟩

theorem kids_row {w : World} {M : Nat → Lab} {tb : Nat} {nv uv : Value} {ps : List Pn} {us : List Value} (h : Lies w M tb nv uv ps us) {q kg kn kc : Nat} {m : Pn} (hm : ps[q]? = some m) (hkv : m.kv = .slice (some ⟨kg, 0, none⟩) (kn + 1) kc) (hkn : m.n.kids.length = kn + 1) : Row w M (.kids q) 3 1 (.slice (some ⟨kg, 0, none⟩) (kn + 1) kc) (kn + 1) (m.n.kids.map intV) := by
  have := (h.node q m hm).2
  rw [hkv, hkn] at this
  exact this

set_option maxHeartbeats 8000000 in
set_option maxRecDepth 100000 in
theorem pull_kid {w : World} {M : Nat → Lab} {tb : Nat} {nv uv : Value} {ps : List Pn} {us : List Value} (h : Lies w M tb nv uv ps us) {i q : Nat} {p m : Pn} (hp : ps[i]? = some p) (hq : p.n.parent = q) (hm : ps[q]? = some m) (hk : (i : Int) ∈ m.n.kids) (hiq : q ≠ i) :
    Calls Tryz.prog 78 #[.pointer (some ⟨tb, 0, none⟩), .int .i64 i] w fun e w' => e = .returned (.tuple #[.int .i64 q, .int .i64 (idx m.n.kids i : Nat)]) ∧ ∃ kv', Lies w' M tb nv uv (pullP ps q i m p kv') us ∧ Moved w M w' M := by
  obtain ⟨nb, cap, rfl, hc, hmx, hnM, hnl, hil⟩ := h.form hp
  have hql : q < ps.length := (List.getElem?_eq_some_iff.1 hm).1
  have hix : idx m.n.kids i < m.n.kids.length := List.findIdx_lt_length.2 ⟨_, hk, by simp⟩
  obtain ⟨kn, hkn⟩ : ∃ kn, m.n.kids.length = kn + 1 := ⟨m.n.kids.length - 1, by omega⟩
  obtain ⟨kg, kc, hkv, hkc, hkm, _, _⟩ := (h.node q m hm).2.form (by omega)
  rw [hkn] at hkv
  have c0 := h.cell0
  have c4 := (h.cellN rfl (f := 4) hp (by omega) rfl).1
  rw [hq] at c4
  have c5 := (h.cellN rfl (f := 5) hm (by omega) rfl).1
  rw [hkv] at c5
  have H : Hid (Lies w M tb (.slice (some ⟨nb, 0, none⟩) ps.length cap) uv ps us) := h
  have HP : Hid (ps[i]? = some p ∧ p.n.parent = q ∧ ps[q]? = some m ∧ (i : Int) ∈ m.n.kids ∧ m.kv = .slice (some ⟨kg, 0, none⟩) (kn + 1) kc ∧ m.n.kids.length = kn + 1) := ⟨hp, hq, hm, hk, hkv, hkn⟩
  obtain ⟨at_, hat⟩ : ∃ a, idx m.n.kids i = a := ⟨_, rfl⟩
  have HAT : Hid (idx m.n.kids i = at_) := hat
  have hatl : at_ < kn + 1 := by omega
  rw [hat]
  have HLEN : Hid ((m.n.kids.eraseIdx at_).length = kn) := by
    show _ = kn
    rw [List.length_eraseIdx, hkn, if_pos hatl]
    omega
  have hn1 : ¬ ((q : Int) = -1) := by omega
  have hn1b : ((q : Int) == -1) = false := by simp
  have i1 : (0 : Int) ≤ (i : Int) := by omega
  have i2 : (i : Int) < (ps.length : Int) := by omega
  have i3 : (0 : Int) ≤ (q : Int) := by omega
  have i4 : (q : Int) < (ps.length : Int) := by omega
  unfold maxLen at hmx hkm
  have hwr : IntKind.i64.wrap ((at_ : Int) + 1) = (at_ : Int) + 1 := by
    rw [IntKind.wrap_i64]
    omega
  clear h hp hq hm hk hkv hkn hat hix
  go_enter Tryz.func78, Tryz.ntmps78
  go_wp2_with (go_at_call 88; refine (place_any H.out HP.out.1 HP.out.2.1 HP.out.2.2.1 HP.out.2.2.2.1).mono ?_; rintro e w1 ⟨rfl, nd, hw1⟩; rw [HAT.out]
               have d0 : w1.cell? ⟨tb, 0, none⟩ = some (.slice (some ⟨nb, 0, none⟩) ps.length cap) := by (rw [hw1]; exact c0)
               have d5 : w1.cell? ⟨nb, q * 6 + 5, none⟩ = some (.slice (some ⟨kg, 0, none⟩) (kn + 1) kc) := by (rw [hw1]; exact c5)
               have HL1 : Hid (Lies w1 M tb (.slice (some ⟨nb, 0, none⟩) ps.length cap) uv ps us) := by (rw [hw1]; exact H.out.drewN nd)
               have HM1 : Hid (Moved w M w1 M) := by (rw [hw1]; exact (Moved.refl w M).drewN nd)
               have HKR : Hid (Row w1.drew M (.kids q) 3 1 (.slice (some ⟨kg, 0, none⟩) (kn + 1) kc) (kn + 1) (m.n.kids.map intV)) := kids_row HL1.out.drew HP.out.2.2.1 HP.out.2.2.2.2.1 HP.out.2.2.2.2.2
               clear hw1 c0 c4 c5)
  go_region_with
    ((go_at_call 91; refine (deleteI_any (g := kg) (m := kn) (cap := kc) (xs := m.n.kids) (l := .kids q) (M := M) HKR.out at_ hatl HL1.out.drew.fresh).mono ?_
      rintro e w2 ⟨rfl, hr, st⟩
      obtain ⟨q1, q2, q3, q4, q5⟩ := HL1.out.drew.setKids rfl HP.out.2.2.1 st (ks' := m.n.kids.eraseIdx at_) (kv' := .slice (some ⟨kg, 0, none⟩) kn kc) (by rw [HLEN.out]; exact hr)
      rw [HP.out.2.2.2.2.1] at q3
      have hb2 : (ps.set q ⟨{ m.n with kids := m.n.kids.eraseIdx at_ }, m.av, .slice (some ⟨kg, 0, none⟩) kn kc⟩)[i]? = some p := by (rw [List.getElem?_set_ne hiq]; exact HP.out.1)
      have f0 := q1.cell0
      obtain ⟨f4, f4f⟩ := q1.cellN rfl (f := 4) hb2 (by omega) rfl
      have HQ : Hid _ := And.intro (q1.setNode rfl (f := 4) (c := .int .i64 (-1)) hb2 (by omega) (p' := ⟨{ p.n with parent := -1 }, p.av, p.kv⟩) rfl (q1.node i p hb2).1 (q1.node i p hb2).2) (HM1.out.drew.trans q2)
      clear q1 q2 hr st hb2))
  all_goals go_wp2
  all_goals go_ret2
  all_goals refine ⟨rfl, .slice (some ⟨kg, 0, none⟩) kn kc, ?_, HQ.out.2.trans (HQ.out.1.2.moved (by intro e; cases e))⟩
  all_goals unfold pullP
  all_goals rw [HAT.out]
  all_goals exact HQ.out.1.1
end Go.Proofs.YtjfklhfdonbpgaaGreatDoor
