/- The document's Clear and Fit. -/
import Derived.Test.YthpffpgbmgnkcaaFQEdges
import Derived.Test.YthpffpgbmgnkcaaFLEdge
import Derived.Test.YthpffpgbmgnkcaaFAPure
namespace Go.Proofs.Ythpffpgbmgnkcaa
open Go.RowKit
set_option linter.unusedVariables false      -- bounds that are for the walk

set_option maxHeartbeats 2000000 in
set_option maxRecDepth 100000 in
theorem qclear_any {w : World} {B rb : Nat} {lv : Value} {fs : List Fl} {lo hi : Int} (h : QfAt w B rb lv fs lo hi) (hl : fs.length ≤ 200) (hb : Bd fs) (lf rt : Bool) :
    Calls Try.prog 14 #[.pointer (some ⟨rb, 0, none⟩), .bool lf, .bool rt] w fun e w' => e = .returned (.int .i64 (clearN lf rt fs).at_) ∧ Below w.heap.size w w' := by
  obtain ⟨rl, c0, c1, c2⟩ := h.cells
  obtain ⟨a, c, rfl, q1, q2⟩ := own_shapeQ h.row
  have H := hidF h
  have HB := hidF hb
  obtain ⟨n, hn⟩ : ∃ n, fs.length = n := ⟨_, rfl⟩
  have HN := hidF hn
  rw [hn] at q1 c2 H hl
  clear h hb hn
  obtain ⟨cf, hcf⟩ : ∃ g, clearN lf rt fs = g := ⟨_, rfl⟩
  have HCF := hidF hcf
  rw [hcf]
  clear hcf
  go_enter Try.func14, Try.ntmps14
  go_wp2_with fail
  go_loopw [7, 8, 9] (fun cv sv i wr => ∃ (k : Nat) (c : Int) (s : Bool), k ≤ n ∧ i = .int .i64 k ∧ cv = .int .i64 c ∧ sv = .bool s ∧ Hid (clearN lf rt (fs.take k) = ⟨c, s⟩ ∧ Below w.heap.size w wr)) (fun _ _ i _ => n - (intV i).toNat)
  case atStart => exact ⟨0, 0, false, Nat.zero_le _, rfl, rfl, rfl, rfl, Below.refl _ _⟩
  case round =>
    obtain ⟨k, c, s, hk, rfl, rfl, rfl, HZ⟩ := hrel
    have d2 := (HZ.out.2.cell (p := ⟨rb, 2, none⟩) rl).trans c2
    have d0 : rb < wr.heap.size := Nat.lt_of_lt_of_le rl HZ.out.2.size
    by_cases hlt : k < n
    · obtain ⟨o, ho⟩ : ∃ o, fs[k]? = some o := ⟨_, List.getElem?_eq_getElem (by rw [HN.out]; exact hlt)⟩
      obtain ⟨b, c9, hv, bl, e0, e1, e2, e3, e4⟩ := (H.out.below HZ.out.2).at ho
      have hvv : a = some ⟨b, 0, none⟩ := by cases hv; rfl
      subst hvv
      clear hv
      have HS := hidF (clearN_take (l := lf) (r := rt) ho)
      rw [HZ.out.1] at HS
      unfold clearS at HS
      obtain ⟨ub1, ub2, ub3, ub4, ub5, ub6, ub7, ub8⟩ := HB.out.at (by rw [HN.out]; exact hl) (List.mem_of_getElem? ho)
      have i1 : (0 : Int) ≤ (k : Int) := by omega
      have i2 : (k : Int) < (n : Int) := by omega
      obtain ⟨si, hsi⟩ : ∃ x, sideN lf rt o = x := ⟨_, rfl⟩
      rw [hsi] at HS
      unfold sideN at hsi
      have HSI := hidF hsi
      clear ho hsi
      obtain ⟨orr, ox, oy, ow, oh⟩ := o
      simp only at e0 e1 e2 e3 e4 HS HSI ub3 ub4 ub7 ub8
      have W1 : IntKind.i64.wrap (oy + oh) = oy + oh := by rw [IntKind.wrap_i64]; omega
      have BZ := hidF HZ.out.2
      cases s
      · simp only [Bool.not_false, Bool.true_or, if_true] at HS
        cases orr <;> cases lf <;> cases rt
        all_goals
          have e := HSI.out
          simp at e
          subst e
          simp only [Bool.false_eq_true, if_true, if_false] at HS
          go_wp2_with fail
          try (go_quiet (fail); go_wp2_with fail)
          go_roundw
          case rel => go_light; exact ⟨k + 1, _, _, by omega, by go_num, rfl, rfl, HS.out, by first | exact BZ.out | exact belD BZ.out _⟩
          case measure => simp [intV]; omega
      · simp only [Bool.not_true, Bool.false_or] at HS
        by_cases hgt : c < oy + oh
        · have hgt' : decide (c < oy + oh) = true := by simpa using hgt
          rw [hgt'] at HS
          clear hgt'
          cases orr <;> cases lf <;> cases rt
          all_goals
            have e := HSI.out
            simp at e
            subst e
            simp only [Bool.false_eq_true, if_true, if_false] at HS
            go_wp2_with fail
            try (go_quiet (fail); go_wp2_with fail)
            go_roundw
            case rel => go_light; exact ⟨k + 1, _, _, by omega, by go_num, rfl, rfl, HS.out, by first | exact BZ.out | exact belD BZ.out _⟩
            case measure => simp [intV]; omega
        · have hgt' : decide (c < oy + oh) = false := by simpa using hgt
          rw [hgt'] at HS
          clear hgt'
          cases orr <;> cases lf <;> cases rt
          all_goals
            have e := HSI.out
            simp at e
            subst e
            simp only [Bool.false_eq_true, if_true, if_false] at HS
            go_wp2_with fail
            try (go_quiet (fail); go_wp2_with fail)
            go_roundw
            case rel => go_light; exact ⟨k + 1, _, _, by omega, by go_num, rfl, rfl, HS.out, by first | exact BZ.out | exact belD BZ.out _⟩
            case measure => simp [intV]; omega
    · obtain rfl : k = n := by omega
      obtain ⟨e9⟩ : Nonempty (cf = ⟨c, s⟩) := ⟨by rw [← HCF.out, ← HZ.out.1, List.take_of_length_le (by rw [HN.out]; exact Nat.le_refl _)]⟩
      subst e9
      have BF := hidF HZ.out.2
      clear HZ HCF
      go_wp2_with fail
      go_returns
      exact ⟨rfl, BF.out⟩
end Go.Proofs.Ythpffpgbmgnkcaa
