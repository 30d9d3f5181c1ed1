/- Which texts are names. -/
import Derived.Test.YtiikjflaonhfdaaDoorLeaf
namespace Go.Proofs.YtiikjflaonhfdaaDoor
open Go.RowKit

def lowB (b : Int) : Bool := decide (97 ≤ b ∧ b ≤ 122)
def digB (b : Int) : Bool := decide (48 ≤ b ∧ b ≤ 57)
def signB (b : Int) : Bool := lowB b || digB b || b == 45 || b == 95 || b == 58
/-- the document's names -/
def nameB (s : ByteArray) : Bool := decide (0 < s.size) && decide (s.size ≤ 40) && lowB (s.data.toList.headD 0).toNat && s.data.toList.all fun c => signB c.toNat

theorem small_any (b : Int) (w : World) : Calls Tryd.prog 35 #[.int .u8 b] w fun e w' => e = .returned (.bool (lowB b)) ∧ w' = w := by
  go_enter Tryd.func35, Tryd.ntmps35
  go_wp2
  all_goals go_ret
  all_goals refine ⟨ret_bool ?_, rfl⟩
  all_goals (unfold lowB; simp; try omega)
theorem digit_any (b : Int) (w : World) : Calls Tryd.prog 36 #[.int .u8 b] w fun e w' => e = .returned (.bool (digB b)) ∧ w' = w := by
  go_enter Tryd.func36, Tryd.ntmps36
  go_wp2
  all_goals go_ret
  all_goals refine ⟨ret_bool ?_, rfl⟩
  all_goals (unfold digB; simp; try omega)

theorem take_all (s : ByteArray) (k : Nat) (h : k < s.size) (f : UInt8 → Bool) : ((s.data.toList.take (k + 1)).all f) = ((s.data.toList.take k).all f && f s[k]) := by
  rw [List.take_succ_eq_append_getElem (by simpa using h), List.all_append]
  simp
  rfl
theorem nameB_false (s : ByteArray) (k : Nat) (h : k < s.size) (hf : signB s[k].toNat = false) : nameB s = false := by
  have : (s.data.toList.all fun c => signB c.toNat) = false := by
    rw [List.all_eq_false]
    exact ⟨s[k], by exact List.getElem_mem (l := s.data.toList) (by simpa using h), by simpa using hf⟩
  unfold nameB
  rw [this, Bool.and_false]
theorem head_eq (s : ByteArray) (h0 : 0 < s.size) : s.data.toList.headD 0 = s[0] := by
  have hl : 0 < s.data.toList.length := by simpa using h0
  rw [List.headD_eq_head?_getD, List.head?_eq_getElem?, List.getElem?_eq_getElem hl]
  rfl
theorem nameB_low (s : ByteArray) (h0 : 0 < s.size) (h : lowB s[0].toNat = false) : nameB s = false := by
  unfold nameB
  rw [head_eq s h0, h]
  simp
theorem nameB_true (s : ByteArray) (h0 : 0 < s.size) (h1 : s.size ≤ 40) (h2 : lowB s[0].toNat = true) (h3 : (s.data.toList.take s.size).all (fun c => signB c.toNat) = true) : nameB s = true := by
  have e : s.data.toList.take s.size = s.data.toList := List.take_of_length_le (by simp)
  rw [e] at h3
  have e2 : s.data.toList.headD 0 = s[0] := by
    have hl : 0 < s.data.toList.length := by simpa using h0
    rw [List.headD_eq_head?_getD, List.head?_eq_getElem?, List.getElem?_eq_getElem hl]
    rfl
  unfold nameB
  rw [h3, e2, h2]
  simp [h0, h1]

theorem empty_of (s : ByteArray) (h : s.size = 0) : s.toList.isEmpty = true := by
  rw [← decide_eq_emptyBytes, decide_eq_true_eq]
  apply ByteArray.ext
  exact Array.eq_empty_of_size_eq_zero h
theorem not_empty (s : ByteArray) (h : 0 < s.size) : s.toList.isEmpty = false := by
  rw [← decide_eq_emptyBytes, decide_eq_false_iff_not]
  intro e
  subst e
  simp at h

theorem round_up (s : ByteArray) (k : Nat) (h : k < s.size) (ha : Hid ((s.data.toList.take k).all (fun c => signB c.toNat) = true)) (H : Hid (signB s[k].toNat = true)) : Hid ((s.data.toList.take (k + 1)).all (fun c => signB c.toNat) = true) := by
  show (s.data.toList.take (k + 1)).all (fun c => signB c.toNat) = true
  rw [take_all s k h, ha.out, H.out]
  rfl

set_option maxHeartbeats 4000000 in
set_option maxRecDepth 100000 in
theorem name_any (s : ByteArray) (w : World) : Calls Tryd.prog 15 #[.string s] w fun e w' => e = .returned (.bool (nameB s)) ∧ w' = w := by
  by_cases h0 : s.size = 0
  · have hN : nameB s = false := by unfold nameB; simp [h0]
    have H : Hid (nameB s = false) := hN
    clear hN
    have he := empty_of s h0
    go_enter Tryd.func15, Tryd.ntmps15
    go_wp2
    go_ret
    exact ⟨ret_bool H.out.symm, rfl⟩
  · have he := not_empty s (by omega)
    have hp : 0 < s.size := by omega
    by_cases h4 : 40 < s.size
    · have hN : nameB s = false := by unfold nameB; simp [show ¬ s.size ≤ 40 by omega]
      have H : Hid (nameB s = false) := hN
      clear hN
      go_enter Tryd.func15, Tryd.ntmps15
      go_wp2
      all_goals go_ret
      all_goals exact ⟨ret_bool H.out.symm, rfl⟩
    · cases hl : lowB s[0].toNat
      · have H : Hid (nameB s = false) := nameB_low s hp hl
        go_enter Tryd.func15, Tryd.ntmps15
        go_wp2_with (go_at_call 35; refine (small_any _ _).mono ?_; rintro e w' ⟨rfl, rfl⟩; rw [hl])
        all_goals go_ret
        all_goals exact ⟨ret_bool H.out.symm, rfl⟩
      · go_enter Tryd.func15, Tryd.ntmps15
        go_wp2_with (go_at_call 35; refine (small_any _ _).mono ?_; rintro e w' ⟨rfl, rfl⟩; rw [hl])
        go_loop [19] (fun i => ∃ k : Nat, k ≤ s.size ∧ i = .int .i64 k ∧ Hid ((s.data.toList.take k).all (fun c => signB c.toNat) = true)) (fun i => s.size - (intOf i).toNat)
        case atStart => exact ⟨0, by omega, rfl, (show ((s.data.toList.take 0).all (fun c => signB c.toNat) = true) by simp)⟩
        case round =>
          obtain ⟨k, hk, rfl, ha⟩ := hrel
          by_cases hlt : k < s.size
          · cases hs : signB s[k].toNat
            · have H : Hid (nameB s = false) := nameB_false s k hlt hs
              unfold signB at hs
              simp only [Bool.or_eq_false_iff, beq_eq_false_iff_ne, ne_eq] at hs
              obtain ⟨⟨⟨⟨q1, q2⟩, q3⟩, q4⟩, q5⟩ := hs
              go_wp2_with (first | (go_at_call 35; refine (small_any _ _).mono ?_; rintro e w' ⟨rfl, rfl⟩; rw [q1]) | (go_at_call 36; refine (digit_any _ _).mono ?_; rintro e w' ⟨rfl, rfl⟩; rw [q2]))
              all_goals go_light
              all_goals first | (go_ret; exact ⟨ret_bool H.out.symm, rfl⟩) | (rename_i hh; exfalso; rcases hh with (hh | hh) | hh <;> simp at hh <;> omega)
            · have H : Hid (signB s[k].toNat = true) := hs
              clear hs
              go_wp2_with (first | (go_at_call 35; refine (small_any _ _).mono ?_; rintro e w' ⟨rfl, rfl⟩; cases q1 : lowB s[k].toNat) | (go_at_call 36; refine (digit_any _ _).mono ?_; rintro e w' ⟨rfl, rfl⟩; cases q2 : digB s[k].toNat))
              all_goals go_light
              all_goals first | (refine ⟨⟨k + 1, by omega, by go_num, round_up s k hlt ha H⟩, ?_⟩; simp [intOf]; omega) | (rename_i h1 h2 hh; exfalso; have hs := H.out; unfold signB at hs; simp [*] at hs; simp at hh; omega)
          · have hke : k = s.size := by omega
            have H : Hid (nameB s = true) := nameB_true s hp (by omega) hl (by rw [← hke]; exact ha.out)
            go_wp2
            go_ret
            exact ⟨ret_bool H.out.symm, rfl⟩
end Go.Proofs.YtiikjflaonhfdaaDoor
