/- The document's answer: which texts are names. -/
import Derived.Test.YtlfepdecgfcifaaGreatDoorM04
namespace Go.Proofs.YtlfepdecgfcifaaGreatDoor
open Go.RowKit

theorem sign_parts (c : Nat) : (signB c = true) ↔ ((97 ≤ c ∧ c ≤ 122) ∨ (48 ≤ c ∧ c ≤ 57) ∨ c = 45 ∨ c = 95 ∨ c = 58) := by
  unfold signB lowB digB
  simp
  omega
theorem low_parts (c : Nat) : (lowB c = true) ↔ (97 ≤ c ∧ c ≤ 122) := by
  unfold lowB
  simp
  omega

/-- a sign that may stand there -/
def mayB (k : Nat) (c : Nat) : Prop := (97 ≤ c ∧ c ≤ 122) ∨ (0 < k ∧ ((48 ≤ c ∧ c ≤ 57) ∨ c = 45 ∨ c = 95 ∨ c = 58))

set_option maxHeartbeats 8000000 in
set_option maxRecDepth 100000 in
theorem isName_any (s : ByteArray) (w : World) : Calls Tryz.prog 27 #[.string s] w fun e w' => e = .returned (.bool (nameB s)) ∧ w' = w := by
  by_cases h0 : s.size = 0
  · have H : Hid (nameB s = false) := by show nameB s = false; unfold nameB; simp [h0]
    go_enter Tryz.func27, Tryz.ntmps27
    go_wp2
    all_goals go_ret
    all_goals exact ⟨ret_bool H.out.symm, rfl⟩
  by_cases h4 : 40 < s.size
  · have H : Hid (nameB s = false) := by show nameB s = false; unfold nameB; simp [show ¬ s.size ≤ 40 by omega]
    go_enter Tryz.func27, Tryz.ntmps27
    go_wp2
    all_goals go_ret
    all_goals exact ⟨ret_bool H.out.symm, rfl⟩
  have hp : 0 < s.size := by omega
  have h0b : ((s.size : Int) == 0) = false := by rw [beq_eq_false_iff_ne]; omega
  have h0c : (s.size == 0) = false := by rw [beq_eq_false_iff_ne]; omega
  go_enter Tryz.func27, Tryz.ntmps27
  go_wp2
  go_loop [3] (fun i => ∃ k : Nat, k ≤ s.size ∧ i = .int .i64 k ∧ Hid ((s.data.toList.take k).all (fun c => signB c.toNat) = true ∧ (0 < k → lowB s[0].toNat = true))) (fun i => s.size - (intOf i).toNat)
  case atStart => exact ⟨0, by omega, rfl, (show ((s.data.toList.take 0).all (fun c => signB c.toNat) = true) ∧ (0 < 0 → lowB s[0].toNat = true) from ⟨by simp, fun h => absurd h (by omega)⟩)⟩
  case round =>
    obtain ⟨k, hk, rfl, ha⟩ := hrel
    by_cases hlt : k < s.size
    · obtain ⟨c, hc⟩ : ∃ c, s[k].toNat = c := ⟨_, rfl⟩
      by_cases hok : mayB k c
      · have H : Hid ((s.data.toList.take (k + 1)).all (fun c => signB c.toNat) = true ∧ (0 < k + 1 → lowB s[0].toNat = true)) := by
          have e1 : signB s[k].toNat = true := by rw [hc, sign_parts]; unfold mayB at hok; omega
          refine ⟨round_up s k hlt ha.out.1 e1, fun _ => ?_⟩
          by_cases hk0 : k = 0
          · subst hk0
            rw [low_parts, hc]
            unfold mayB at hok
            omega
          · exact ha.out.2 (by omega)
        have HOK : Hid (mayB k c) := hok
        clear hok
        go_wp2
        all_goals go_light
        all_goals first
          | (refine ⟨⟨k + 1, by omega, by go_num, H⟩, ?_⟩; simp [intOf]; omega)
          | (exfalso; have hq := HOK.out; unfold mayB at hq; simp_all; done)
          | (exfalso; have hq := HOK.out; unfold mayB at hq; simp_all; omega)
      · have H : Hid (nameB s = false) := by
          by_cases hs : signB s[k].toNat = true
          · rw [hc, sign_parts] at hs
            obtain rfl : k = 0 := by unfold mayB at hok; omega
            refine nameB_low s hp ?_
            cases hl : lowB s[0].toNat
            · rfl
            · rw [low_parts, hc] at hl
              exact absurd (.inl hl) hok
          · exact nameB_false s k hlt (by simpa using hs)
        have HOK : Hid (¬ mayB k c) := hok
        clear hok
        go_wp2
        all_goals go_light
        all_goals first
          | (go_ret; exact ⟨ret_bool H.out.symm, rfl⟩)
          | (exfalso; have hq := HOK.out; unfold mayB at hq; simp_all; done)
          | (exfalso; have hq := HOK.out; unfold mayB at hq; simp_all; omega)
    · have hke : k = s.size := by omega
      have H : Hid (nameB s = true) := nameB_true s hp (by omega) (ha.out.2 (by omega)) (by rw [← hke]; exact ha.out.1)
      go_wp2
      go_ret
      exact ⟨ret_bool H.out.symm, rfl⟩
end Go.Proofs.YtlfepdecgfcifaaGreatDoor
