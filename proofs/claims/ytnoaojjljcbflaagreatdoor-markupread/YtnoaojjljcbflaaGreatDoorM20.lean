/- The program: the rune that digits tell; how long a reference's body is. -/
import Derived.Test.YtnoaojjljcbflaaGreatDoorM14
import Derived.Test.YtnoaojjljcbflaaGreatDoorShelf
import Derived.Test.YtnoaojjljcbflaaGreatDoorM15
import Derived.Test.YtnoaojjljcbflaaGreatDoorM19
namespace Go.Proofs.YtnoaojjljcbflaaGreatDoor
open Go.RowKit

theorem pdigit_at (c : Nat) (d : Int) (hd : digP c = d) (w : World) : Calls Tryz.prog 189 #[.int .u8 c] w fun e w' => e = .returned (.int .i64 d) ∧ w' = w := by
  rw [← hd]; exact pdigit_any c w
/-- what `numbered` answers -/
def numP (base : Nat) (l : List UInt8) : Int × Bool := match numL base l 0 with
  | none => (0, false)
  | some n => (runeN n, decide (l ≠ []))
def twoV (p : Int × Bool) : Value := .tuple #[.int .i32 p.1, .bool p.2]
theorem digP_lt {c : Nat} {d : Int} (h : digP c = d) (hd : d < 16) : digI c = d := by
  unfold digP at h; split at h <;> omega
theorem digP_bad {c : Nat} {d : Int} {b : Nat} (h : digP c = d) (hd : (b : Int) ≤ d) : digI c < 0 ∨ (b : Int) ≤ digI c := by
  unfold digP at h; split at h <;> omega
theorem digP_ge (c : Nat) : 0 ≤ digP c ∧ digP c ≤ 16 := by
  have := digI_lt c
  unfold digP; split <;> omega
theorem min_step {m b : Nat} {x d : Int} (hx : x = min (m : Int) 1114112) (hd : 0 ≤ d) (hb : 1 ≤ b) : min (x * b + d) 1114112 = min ((m * b + d.toNat : Nat) : Int) 1114112 := by
  have e : ((m * b + d.toNat : Nat) : Int) = (m : Int) * b + d := by rw [Int.natCast_add, Int.natCast_mul]; omega
  rw [e]
  rcases Int.le_total (m : Int) 1114112 with h | h
  · rw [Int.min_eq_left h] at hx; rw [hx]
  · rw [Int.min_eq_right h] at hx
    have h1 : (1114112 : Int) * 1 ≤ 1114112 * b := Int.mul_le_mul_of_nonneg_left (by omega) (by omega)
    have h2 : (1114112 : Int) * b ≤ (m : Int) * b := Int.mul_le_mul_of_nonneg_right h (by omega)
    rw [hx, Int.min_eq_right (by omega), Int.min_eq_right (by omega)]

theorem num_bad {m : Nat} {x : Int} (hx : x = min (m : Int) 1114112) (h : x = 0 ∨ Lib.validRune x = false) : (runeN m : Int) = 65533 := by
  unfold runeN
  rw [if_pos]
  · rfl
  · rcases h with h | h
    · left; omega
    · unfold Lib.validRune at h
      rw [decide_eq_false_iff_not] at h
      omega
theorem num_good {m : Nat} {x : Int} (hx : x = min (m : Int) 1114112) (h : ¬ (x = 0 ∨ Lib.validRune x = false)) : (runeN m : Int) = x := by
  have h2 : Lib.validRune x = true := by cases hv : Lib.validRune x; exact absurd (.inr hv) h; rfl
  unfold Lib.validRune at h2
  rw [decide_eq_true_eq] at h2
  have h0 : x ≠ 0 := fun e => h (.inl e)
  unfold runeN
  rw [if_neg (by omega)]
  omega

theorem emptyS (s : ByteArray) (h : s.size = 0) : s.toList.isEmpty = true := by
  rw [Lib.toList_data, List.isEmpty_iff]
  exact List.eq_nil_of_length_eq_zero (by simpa using h)
theorem notEmptyS (s : ByteArray) (h : 0 < s.size) : s.toList.isEmpty = false := by
  rw [Lib.toList_data]
  cases hl : s.data.toList with
  | nil =>
    have h2 : s.data.toList.length = 0 := by rw [hl]; rfl
    have h3 : s.data.toList.length = s.size := by simp
    omega
  | cons a l => rfl

set_option maxHeartbeats 8000000 in
set_option maxRecDepth 100000 in
theorem pnum_10 (s : ByteArray) (hs : s.size ≤ 100000) (w : World) :
    Calls Tryz.prog 185 #[.string s, .int .i64 10] w fun e w' => e = .returned (twoV (numP 10 s.data.toList)) ∧ w' = w := by
  obtain ⟨r, hr⟩ : ∃ r, r = numP 10 s.data.toList := ⟨_, rfl⟩
  rw [← hr]
  have HR := hid hr
  clear hr
  go_enter Tryz.func185, Tryz.ntmps185
  go_wp2_with fail
  go_loop [6, 11] (fun nv iv => ∃ (k : Nat) (x : Int), k ≤ s.size ∧ iv = .int .i64 k ∧ nv = .int .i64 x ∧ 0 ≤ x ∧ x ≤ 1114112 ∧ Hid (∃ m : Nat, numL 10 s.data.toList 0 = numL 10 (s.data.toList.drop k) m ∧ x = min (m : Int) 1114112)) (fun _ iv => s.size - (intOf iv).toNat)
  case atStart => exact ⟨0, 0, by omega, rfl, rfl, by omega, by omega, hid ⟨0, rfl, rfl⟩⟩
  case round =>
    obtain ⟨k, x, hk, rfl, rfl, hx0, hx1, hm⟩ := hrel
    by_cases hlt : k < s.size
    · obtain ⟨c, hc⟩ : ∃ c, s[k].toNat = c := ⟨_, rfl⟩
      obtain ⟨d, hd⟩ : ∃ d, digP c = d := ⟨_, rfl⟩
      have hd0 : 0 ≤ d := by rw [← hd]; exact (digP_ge c).1
      have hd1 : d ≤ 16 := by rw [← hd]; exact (digP_ge c).2
      have hll : k < s.data.toList.length := by simpa using hlt
      have hdl : digI s.data.toList[k].toNat = digI c := by rw [← hc]; rfl
      by_cases hbad : 10 ≤ d
      · have H : Hid (r = (0, false)) := by
          obtain ⟨m, hm1, _⟩ := hm.out
          show r = _
          rw [HR.out]
          unfold numP
          rw [hm1, numL_bad hll hdl (digP_bad (b := 10) hd hbad)]
        clear hdl hll
        go_wp2_with (go_at_call 189; refine (pdigit_at c d hd _).mono ?_; rintro e w' ⟨rfl, rfl⟩)
        all_goals go_light
        go_ret2
        exact ⟨by rw [H.out]; rfl, rfl⟩
      · have H : Hid (∃ m : Nat, numL 10 s.data.toList 0 = numL 10 (s.data.toList.drop (k + 1)) m ∧ min (x * 10 + d) 1114112 = min (m : Int) 1114112) := by
          obtain ⟨m, hm1, hm2⟩ := hm.out
          have hdd : digI s.data.toList[k].toNat = d := hdl.trans (digP_lt hd (by omega))
          exact ⟨_, hm1.trans (numL_step hll hdd hd0 (by omega)), min_step (b := 10) hm2 hd0 (by omega)⟩
        clear hdl hll
        go_wp2_with (go_at_call 189; refine (pdigit_at c d hd _).mono ?_; rintro e w' ⟨rfl, rfl⟩)
        all_goals go_light
        refine ⟨⟨k + 1, min (x * 10 + d) 1114112, by omega, by go_num, rfl, by omega, by omega, H⟩, ?_⟩
        simp [intOf]
        omega
    · obtain rfl : k = s.size := by omega
      have H : Hid (∃ m : Nat, r = ((runeN m : Int), decide (s.data.toList ≠ [])) ∧ x = min (m : Int) 1114112) := by
        obtain ⟨m, hm1, hm2⟩ := hm.out
        rw [drop_size] at hm1
        exact ⟨m, by rw [HR.out]; unfold numP; rw [hm1]; rfl, hm2⟩
      have hnz : x ≠ 0 → s.data.toList ≠ [] := by
        intro hx he
        obtain ⟨m, hm1, hm2⟩ := hm.out
        rw [drop_size, he] at hm1
        have : (0 : Nat) = m := by simpa [numL] using hm1
        subst this
        exact hx hm2
      clear HR hm
      obtain ⟨v, hv⟩ : ∃ v, Lib.validRune x = v := ⟨_, rfl⟩
      by_cases hx : x = 0 ∨ v = false
      · have H2 : Hid (r = (65533, decide (s.data.toList ≠ []))) := by
          obtain ⟨m, h1, h2⟩ := H.out
          show r = _
          rw [h1, num_bad h2 (by rw [hv]; exact hx)]
        clear H
        by_cases h0 : s.size = 0
        · have he := emptyS s h0
          have hr2 : decide (s.data.toList ≠ []) = false := by
            rw [decide_eq_false_iff_not]
            intro h
            exact h (List.eq_nil_of_length_eq_zero (by simpa using h0))
          rw [hr2] at H2
          clear h0 hr2
          rcases hx with hx | hx
          · have hq : (x == 0) = true := by rw [beq_iff_eq]; exact hx
            clear hx hv
            go_wp2_with (go_at_call 190; refine (Tryz.utf8_ValidRune _ _).mono ?_; rintro e w' ⟨rfl, rfl⟩)
            all_goals go_light
            all_goals first
              | (go_ret2; exact ⟨by rw [H2.out]; rfl, rfl⟩)
              | (exfalso; simp_all; done)
          · subst hx
            by_cases hx0' : x = 0
            · have hq : (x == 0) = true := by rw [beq_iff_eq]; exact hx0'
              clear hx0' hv
              go_wp2_with (go_at_call 190; refine (Tryz.utf8_ValidRune _ _).mono ?_; rintro e w' ⟨rfl, rfl⟩)
              all_goals go_light
              all_goals first
                | (go_ret2; exact ⟨by rw [H2.out]; rfl, rfl⟩)
                | (exfalso; simp_all; done)
            · have hq : (x == 0) = false := by rw [beq_eq_false_iff_ne]; exact hx0'
              go_wp2_with (go_at_call 190; refine (Tryz.utf8_ValidRune _ _).mono ?_; rintro e w' ⟨rfl, rfl⟩; rw [hv])
              all_goals go_light
              all_goals first
                | (go_ret2; exact ⟨by rw [H2.out]; rfl, rfl⟩)
                | (exfalso; simp_all; done)
        · have he := notEmptyS s (by omega)
          have hr2 : decide (s.data.toList ≠ []) = true := by
            rw [decide_eq_true_eq]
            intro h
            exact h0 (by have := congrArg List.length h; simpa using this)
          rw [hr2] at H2
          clear h0 hr2
          rcases hx with hx | hx
          · have hq : (x == 0) = true := by rw [beq_iff_eq]; exact hx
            clear hx hv
            go_wp2_with (go_at_call 190; refine (Tryz.utf8_ValidRune _ _).mono ?_; rintro e w' ⟨rfl, rfl⟩)
            all_goals go_light
            all_goals first
              | (go_ret2; exact ⟨by rw [H2.out]; rfl, rfl⟩)
              | (exfalso; simp_all; done)
          · subst hx
            by_cases hx0' : x = 0
            · have hq : (x == 0) = true := by rw [beq_iff_eq]; exact hx0'
              clear hx0' hv
              go_wp2_with (go_at_call 190; refine (Tryz.utf8_ValidRune _ _).mono ?_; rintro e w' ⟨rfl, rfl⟩)
              all_goals go_light
              all_goals first
                | (go_ret2; exact ⟨by rw [H2.out]; rfl, rfl⟩)
                | (exfalso; simp_all; done)
            · have hq : (x == 0) = false := by rw [beq_eq_false_iff_ne]; exact hx0'
              go_wp2_with (go_at_call 190; refine (Tryz.utf8_ValidRune _ _).mono ?_; rintro e w' ⟨rfl, rfl⟩; rw [hv])
              all_goals go_light
              all_goals first
                | (go_ret2; exact ⟨by rw [H2.out]; rfl, rfl⟩)
                | (exfalso; simp_all; done)
      · have H2 : Hid (r = (x, true)) := by
          obtain ⟨m, h1, h2⟩ := H.out
          show r = _
          rw [h1, num_good h2 (by rw [hv]; exact hx), show decide (s.data.toList ≠ []) = true by
            rw [decide_eq_true_eq]
            exact hnz (fun e => hx (.inl e))]
        clear H
        have hv2 : v = true := by cases v; exact absurd (.inr rfl) hx; rfl
        have hne : (x == 0) = false := by rw [beq_eq_false_iff_ne]; exact fun e => hx (.inl e)
        subst hv2
        go_wp2_with (go_at_call 190; refine (Tryz.utf8_ValidRune _ _).mono ?_; rintro e w' ⟨rfl, rfl⟩; rw [hv])
        all_goals go_light
        all_goals first
          | (go_ret2; exact ⟨by rw [H2.out]; rfl, rfl⟩)
          | (exfalso; simp_all; done)
set_option maxHeartbeats 8000000 in
set_option maxRecDepth 100000 in
theorem pnum_16 (s : ByteArray) (hs : s.size ≤ 100000) (w : World) :
    Calls Tryz.prog 185 #[.string s, .int .i64 16] w fun e w' => e = .returned (twoV (numP 16 s.data.toList)) ∧ w' = w := by
  obtain ⟨r, hr⟩ : ∃ r, r = numP 16 s.data.toList := ⟨_, rfl⟩
  rw [← hr]
  have HR := hid hr
  clear hr
  go_enter Tryz.func185, Tryz.ntmps185
  go_wp2_with fail
  go_loop [6, 11] (fun nv iv => ∃ (k : Nat) (x : Int), k ≤ s.size ∧ iv = .int .i64 k ∧ nv = .int .i64 x ∧ 0 ≤ x ∧ x ≤ 1114112 ∧ Hid (∃ m : Nat, numL 16 s.data.toList 0 = numL 16 (s.data.toList.drop k) m ∧ x = min (m : Int) 1114112)) (fun _ iv => s.size - (intOf iv).toNat)
  case atStart => exact ⟨0, 0, by omega, rfl, rfl, by omega, by omega, hid ⟨0, rfl, rfl⟩⟩
  case round =>
    obtain ⟨k, x, hk, rfl, rfl, hx0, hx1, hm⟩ := hrel
    by_cases hlt : k < s.size
    · obtain ⟨c, hc⟩ : ∃ c, s[k].toNat = c := ⟨_, rfl⟩
      obtain ⟨d, hd⟩ : ∃ d, digP c = d := ⟨_, rfl⟩
      have hd0 : 0 ≤ d := by rw [← hd]; exact (digP_ge c).1
      have hd1 : d ≤ 16 := by rw [← hd]; exact (digP_ge c).2
      have hll : k < s.data.toList.length := by simpa using hlt
      have hdl : digI s.data.toList[k].toNat = digI c := by rw [← hc]; rfl
      by_cases hbad : 16 ≤ d
      · have H : Hid (r = (0, false)) := by
          obtain ⟨m, hm1, _⟩ := hm.out
          show r = _
          rw [HR.out]
          unfold numP
          rw [hm1, numL_bad hll hdl (digP_bad (b := 16) hd hbad)]
        clear hdl hll
        go_wp2_with (go_at_call 189; refine (pdigit_at c d hd _).mono ?_; rintro e w' ⟨rfl, rfl⟩)
        all_goals go_light
        go_ret2
        exact ⟨by rw [H.out]; rfl, rfl⟩
      · have H : Hid (∃ m : Nat, numL 16 s.data.toList 0 = numL 16 (s.data.toList.drop (k + 1)) m ∧ min (x * 16 + d) 1114112 = min (m : Int) 1114112) := by
          obtain ⟨m, hm1, hm2⟩ := hm.out
          have hdd : digI s.data.toList[k].toNat = d := hdl.trans (digP_lt hd (by omega))
          exact ⟨_, hm1.trans (numL_step hll hdd hd0 (by omega)), min_step (b := 16) hm2 hd0 (by omega)⟩
        clear hdl hll
        go_wp2_with (go_at_call 189; refine (pdigit_at c d hd _).mono ?_; rintro e w' ⟨rfl, rfl⟩)
        all_goals go_light
        refine ⟨⟨k + 1, min (x * 16 + d) 1114112, by omega, by go_num, rfl, by omega, by omega, H⟩, ?_⟩
        simp [intOf]
        omega
    · obtain rfl : k = s.size := by omega
      have H : Hid (∃ m : Nat, r = ((runeN m : Int), decide (s.data.toList ≠ [])) ∧ x = min (m : Int) 1114112) := by
        obtain ⟨m, hm1, hm2⟩ := hm.out
        rw [drop_size] at hm1
        exact ⟨m, by rw [HR.out]; unfold numP; rw [hm1]; rfl, hm2⟩
      have hnz : x ≠ 0 → s.data.toList ≠ [] := by
        intro hx he
        obtain ⟨m, hm1, hm2⟩ := hm.out
        rw [drop_size, he] at hm1
        have : (0 : Nat) = m := by simpa [numL] using hm1
        subst this
        exact hx hm2
      clear HR hm
      obtain ⟨v, hv⟩ : ∃ v, Lib.validRune x = v := ⟨_, rfl⟩
      by_cases hx : x = 0 ∨ v = false
      · have H2 : Hid (r = (65533, decide (s.data.toList ≠ []))) := by
          obtain ⟨m, h1, h2⟩ := H.out
          show r = _
          rw [h1, num_bad h2 (by rw [hv]; exact hx)]
        clear H
        by_cases h0 : s.size = 0
        · have he := emptyS s h0
          have hr2 : decide (s.data.toList ≠ []) = false := by
            rw [decide_eq_false_iff_not]
            intro h
            exact h (List.eq_nil_of_length_eq_zero (by simpa using h0))
          rw [hr2] at H2
          clear h0 hr2
          rcases hx with hx | hx
          · have hq : (x == 0) = true := by rw [beq_iff_eq]; exact hx
            clear hx hv
            go_wp2_with (go_at_call 190; refine (Tryz.utf8_ValidRune _ _).mono ?_; rintro e w' ⟨rfl, rfl⟩)
            all_goals go_light
            all_goals first
              | (go_ret2; exact ⟨by rw [H2.out]; rfl, rfl⟩)
              | (exfalso; simp_all; done)
          · subst hx
            by_cases hx0' : x = 0
            · have hq : (x == 0) = true := by rw [beq_iff_eq]; exact hx0'
              clear hx0' hv
              go_wp2_with (go_at_call 190; refine (Tryz.utf8_ValidRune _ _).mono ?_; rintro e w' ⟨rfl, rfl⟩)
              all_goals go_light
              all_goals first
                | (go_ret2; exact ⟨by rw [H2.out]; rfl, rfl⟩)
                | (exfalso; simp_all; done)
            · have hq : (x == 0) = false := by rw [beq_eq_false_iff_ne]; exact hx0'
              go_wp2_with (go_at_call 190; refine (Tryz.utf8_ValidRune _ _).mono ?_; rintro e w' ⟨rfl, rfl⟩; rw [hv])
              all_goals go_light
              all_goals first
                | (go_ret2; exact ⟨by rw [H2.out]; rfl, rfl⟩)
                | (exfalso; simp_all; done)
        · have he := notEmptyS s (by omega)
          have hr2 : decide (s.data.toList ≠ []) = true := by
            rw [decide_eq_true_eq]
            intro h
            exact h0 (by have := congrArg List.length h; simpa using this)
          rw [hr2] at H2
          clear h0 hr2
          rcases hx with hx | hx
          · have hq : (x == 0) = true := by rw [beq_iff_eq]; exact hx
            clear hx hv
            go_wp2_with (go_at_call 190; refine (Tryz.utf8_ValidRune _ _).mono ?_; rintro e w' ⟨rfl, rfl⟩)
            all_goals go_light
            all_goals first
              | (go_ret2; exact ⟨by rw [H2.out]; rfl, rfl⟩)
              | (exfalso; simp_all; done)
          · subst hx
            by_cases hx0' : x = 0
            · have hq : (x == 0) = true := by rw [beq_iff_eq]; exact hx0'
              clear hx0' hv
              go_wp2_with (go_at_call 190; refine (Tryz.utf8_ValidRune _ _).mono ?_; rintro e w' ⟨rfl, rfl⟩)
              all_goals go_light
              all_goals first
                | (go_ret2; exact ⟨by rw [H2.out]; rfl, rfl⟩)
                | (exfalso; simp_all; done)
            · have hq : (x == 0) = false := by rw [beq_eq_false_iff_ne]; exact hx0'
              go_wp2_with (go_at_call 190; refine (Tryz.utf8_ValidRune _ _).mono ?_; rintro e w' ⟨rfl, rfl⟩; rw [hv])
              all_goals go_light
              all_goals first
                | (go_ret2; exact ⟨by rw [H2.out]; rfl, rfl⟩)
                | (exfalso; simp_all; done)
      · have H2 : Hid (r = (x, true)) := by
          obtain ⟨m, h1, h2⟩ := H.out
          show r = _
          rw [h1, num_good h2 (by rw [hv]; exact hx), show decide (s.data.toList ≠ []) = true by
            rw [decide_eq_true_eq]
            exact hnz (fun e => hx (.inl e))]
        clear H
        have hv2 : v = true := by cases v; exact absurd (.inr rfl) hx; rfl
        have hne : (x == 0) = false := by rw [beq_eq_false_iff_ne]; exact fun e => hx (.inl e)
        subst hv2
        go_wp2_with (go_at_call 190; refine (Tryz.utf8_ValidRune _ _).mono ?_; rintro e w' ⟨rfl, rfl⟩; rw [hv])
        all_goals go_light
        all_goals first
          | (go_ret2; exact ⟨by rw [H2.out]; rfl, rfl⟩)
          | (exfalso; simp_all; done)
end Go.Proofs.YtnoaojjljcbflaaGreatDoor

/- The program: the rune that a reference's body stands for. -/
namespace Go.Proofs.YtnoaojjljcbflaaGreatDoor
open Go.RowKit

set_option maxHeartbeats 4000000 in
set_option maxRecDepth 100000 in
theorem runeOf_amp (w : World) : Calls Tryz.prog 178 #[.string ⟨#[97, 109, 112]⟩] w fun e w' => e = .returned (twoV (38, true)) ∧ w' = w := by
  go_enter Tryz.func178, Tryz.ntmps178
  go_wp2_with fail
  go_ret2
  exact ⟨rfl, rfl⟩
set_option maxHeartbeats 4000000 in
set_option maxRecDepth 100000 in
theorem runeOf_lt (w : World) : Calls Tryz.prog 178 #[.string ⟨#[108, 116]⟩] w fun e w' => e = .returned (twoV (60, true)) ∧ w' = w := by
  go_enter Tryz.func178, Tryz.ntmps178
  go_wp2_with fail
  go_ret2
  exact ⟨rfl, rfl⟩
set_option maxHeartbeats 4000000 in
set_option maxRecDepth 100000 in
theorem runeOf_gt (w : World) : Calls Tryz.prog 178 #[.string ⟨#[103, 116]⟩] w fun e w' => e = .returned (twoV (62, true)) ∧ w' = w := by
  go_enter Tryz.func178, Tryz.ntmps178
  go_wp2_with fail
  go_ret2
  exact ⟨rfl, rfl⟩
set_option maxHeartbeats 4000000 in
set_option maxRecDepth 100000 in
theorem runeOf_quot (w : World) : Calls Tryz.prog 178 #[.string ⟨#[113, 117, 111, 116]⟩] w fun e w' => e = .returned (twoV (34, true)) ∧ w' = w := by
  go_enter Tryz.func178, Tryz.ntmps178
  go_wp2_with fail
  go_ret2
  exact ⟨rfl, rfl⟩
set_option maxHeartbeats 4000000 in
set_option maxRecDepth 100000 in
theorem runeOf_apos (w : World) : Calls Tryz.prog 178 #[.string ⟨#[97, 112, 111, 115]⟩] w fun e w' => e = .returned (twoV (39, true)) ∧ w' = w := by
  go_enter Tryz.func178, Tryz.ntmps178
  go_wp2_with fail
  go_ret2
  exact ⟨rfl, rfl⟩
set_option maxHeartbeats 4000000 in
set_option maxRecDepth 100000 in
theorem runeOf_nbsp (w : World) : Calls Tryz.prog 178 #[.string ⟨#[110, 98, 115, 112]⟩] w fun e w' => e = .returned (twoV (160, true)) ∧ w' = w := by
  go_enter Tryz.func178, Tryz.ntmps178
  go_wp2_with fail
  go_ret2
  exact ⟨rfl, rfl⟩
set_option maxHeartbeats 4000000 in
set_option maxRecDepth 100000 in
theorem runeOf_shy (w : World) : Calls Tryz.prog 178 #[.string ⟨#[115, 104, 121]⟩] w fun e w' => e = .returned (twoV (173, true)) ∧ w' = w := by
  go_enter Tryz.func178, Tryz.ntmps178
  go_wp2_with fail
  go_ret2
  exact ⟨rfl, rfl⟩
set_option maxHeartbeats 4000000 in
set_option maxRecDepth 100000 in
theorem runeOf_zwsp (w : World) : Calls Tryz.prog 178 #[.string ⟨#[122, 119, 115, 112]⟩] w fun e w' => e = .returned (twoV (8203, true)) ∧ w' = w := by
  go_enter Tryz.func178, Tryz.ntmps178
  go_wp2_with fail
  go_ret2
  exact ⟨rfl, rfl⟩
theorem pnum10_at (t : ByteArray) (ht : t.size ≤ 100000) (x : Int) (ok : Bool) (h : numP 10 t.data.toList = (x, ok)) (w : World) : Calls Tryz.prog 185 #[.string t, .int .i64 10] w fun e w' => e = .returned (.tuple #[.int .i32 x, .bool ok]) ∧ w' = w := by
  have := pnum_10 t ht w
  rw [h] at this
  exact this
theorem pnum16_at (t : ByteArray) (ht : t.size ≤ 100000) (x : Int) (ok : Bool) (h : numP 16 t.data.toList = (x, ok)) (w : World) : Calls Tryz.prog 185 #[.string t, .int .i64 16] w fun e w' => e = .returned (.tuple #[.int .i32 x, .bool ok]) ∧ w' = w := by
  have := pnum_16 t ht w
  rw [h] at this
  exact this
/-- an answer is that of the document -/
def Fits (p : Int × Bool) (q : Option Nat) : Prop := p.2 = q.isSome ∧ ∀ n, q = some n → p.1 = n
theorem fits_num (b : Nat) (l : List UInt8) : Fits (numP b l) (numRef b l) := by
  unfold numP numRef
  cases h : numL b l 0 with
  | none =>
    by_cases hl : l = []
    · rw [if_pos hl]; exact ⟨rfl, fun n hn => by cases hn⟩
    · rw [if_neg hl]; exact ⟨rfl, fun n hn => by cases hn⟩
  | some m =>
    by_cases hl : l = []
    · rw [if_pos hl]; exact ⟨by simp [hl], fun n hn => by cases hn⟩
    · rw [if_neg hl]
      exact ⟨by simp [hl], fun n hn => by obtain rfl := Option.some.inj hn; rfl⟩
theorem fits_no (x : Int) : Fits (x, false) none := ⟨rfl, fun n hn => by cases hn⟩
theorem two_stands {s : ByteArray} {a c : UInt8} : standsAt ⟨#[a, c]⟩ s 0 ↔ s.data.toList[0]? = some a ∧ s.data.toList[1]? = some c := by
  unfold standsAt
  show 0 + 2 ≤ s.size ∧ s.extract 0 (0 + 2) = _ ↔ _
  constructor
  · rintro ⟨h1, h2⟩
    have e0 := congrArg (fun x : ByteArray => x.data.toList) h2
    simp only [ext_list] at e0
    have f0 := congrArg (fun l : List UInt8 => l[0]?) e0
    have f1 := congrArg (fun l : List UInt8 => l[1]?) e0
    simpa using And.intro f0 f1
  · rintro ⟨h1, h2⟩
    have hl : 1 < s.size := by simpa using (List.getElem?_eq_some_iff.1 h2).1
    refine ⟨hl, ?_⟩
    apply ByteArray.ext
    apply Array.toList_inj.mp
    rw [ext_list, data_cons hl]
    rw [bytes_get s 0 (by omega)] at h1
    rw [bytes_get s 1 hl] at h2
    rw [Option.some.inj h1, Option.some.inj h2]
    rfl

set_option maxHeartbeats 8000000 in
set_option maxRecDepth 100000 in
theorem runeOf_rest (s : ByteArray) (hs : s.size ≤ 100000) (hno : ∀ j, j < 8 → nmA.getD j ⟨#[]⟩ ≠ s) (w : World) :
    Calls Tryz.prog 178 #[.string s] w fun e w' => (∃ p, e = .returned (twoV p) ∧ Fits p (bodyT s.data.toList)) ∧ w' = w := by
  have n0 : (s.toList == [97, 109, 112]) = false := by
    rw [beq_eq_false_iff_ne]
    exact fun e => hno 0 (by omega) (toList_inj' (by rw [e, Lib.toList_data]; rfl))
  have n1 : (s.toList == [108, 116]) = false := by
    rw [beq_eq_false_iff_ne]
    exact fun e => hno 1 (by omega) (toList_inj' (by rw [e, Lib.toList_data]; rfl))
  have n2 : (s.toList == [103, 116]) = false := by
    rw [beq_eq_false_iff_ne]
    exact fun e => hno 2 (by omega) (toList_inj' (by rw [e, Lib.toList_data]; rfl))
  have n3 : (s.toList == [113, 117, 111, 116]) = false := by
    rw [beq_eq_false_iff_ne]
    exact fun e => hno 3 (by omega) (toList_inj' (by rw [e, Lib.toList_data]; rfl))
  have n4 : (s.toList == [97, 112, 111, 115]) = false := by
    rw [beq_eq_false_iff_ne]
    exact fun e => hno 4 (by omega) (toList_inj' (by rw [e, Lib.toList_data]; rfl))
  have n5 : (s.toList == [110, 98, 115, 112]) = false := by
    rw [beq_eq_false_iff_ne]
    exact fun e => hno 5 (by omega) (toList_inj' (by rw [e, Lib.toList_data]; rfl))
  have n6 : (s.toList == [115, 104, 121]) = false := by
    rw [beq_eq_false_iff_ne]
    exact fun e => hno 6 (by omega) (toList_inj' (by rw [e, Lib.toList_data]; rfl))
  have n7 : (s.toList == [122, 119, 115, 112]) = false := by
    rw [beq_eq_false_iff_ne]
    exact fun e => hno 7 (by omega) (toList_inj' (by rw [e, Lib.toList_data]; rfl))
  clear hno
  cases e1 : decide (standsAt ⟨#[35]⟩ s 0)
  · have HF : Hid (Fits (0, false) (bodyT s.data.toList)) := by
      have : bodyT s.data.toList = none := by
        by_cases h2 : s.size < 2
        · exact bodyT_short h2
        · refine bodyT_no (by omega) (fun e => of_decide_eq_false e1 (stands_one.2 ?_))
          rw [bytes_get s 0 (by omega), UInt8.toNat_inj.mp (show s[0].toNat = (35 : UInt8).toNat from e)]
      show Fits _ _
      rw [this]; exact fits_no 0
    go_enter Tryz.func178, Tryz.ntmps178
    go_wp2_with (go_at_call 155; refine (prefix_dec s _ _).mono ?_; rintro e w' ⟨rfl, rfl⟩; rw [e1])
    all_goals go_light
    go_ret2
    exact ⟨⟨(0, false), rfl, HF.out⟩, rfl⟩
  · have h35 := stands_one.1 (of_decide_eq_true e1)
    have h1 : 0 < s.size := by simpa using (List.getElem?_eq_some_iff.1 h35).1
    have hc0 : s[0].toNat = 35 := by rw [bytes_get s 0 h1] at h35; rw [Option.some.inj h35]; rfl
    have hes1 : (s.extract 1 s.size).size ≤ 100000 := by rw [ByteArray.size_extract]; omega
    have hes2 : (s.extract 2 s.size).size ≤ 100000 := by rw [ByteArray.size_extract]; omega
    have hl1 : (s.extract 1 s.size).data.toList = s.data.toList.drop 1 := by rw [ext_list, List.take_of_length_le (by simp)]
    have hl2 : (s.extract 2 s.size).data.toList = s.data.toList.drop 2 := by rw [ext_list, List.take_of_length_le (by simp)]
    cases e2 : decide (standsAt ⟨#[35, 120]⟩ s 0)
    · cases e3 : decide (standsAt ⟨#[35, 88]⟩ s 0)
      · have HF : Hid (Fits (numP 10 (s.extract 1 s.size).data.toList) (bodyT s.data.toList)) := by
          show Fits _ _
          rw [hl1]
          by_cases h2 : s.size < 2
          · rw [bodyT_short h2, List.drop_of_length_le (by simp; omega)]
            exact fits_num 10 []
          · have g1 : s[1].toNat ≠ 120 := fun e => of_decide_eq_false e2 (two_stands.2 ⟨h35, by rw [bytes_get s 1 (by omega), UInt8.toNat_inj.mp (show s[1].toNat = (120 : UInt8).toNat from e)]⟩)
            have g2 : s[1].toNat ≠ 88 := fun e => of_decide_eq_false e3 (two_stands.2 ⟨h35, by rw [bytes_get s 1 (by omega), UInt8.toNat_inj.mp (show s[1].toNat = (88 : UInt8).toNat from e)]⟩)
            rw [bodyT_dec (by omega) hc0 g1 g2]
            exact fits_num 10 _
        obtain ⟨x, ok, hp⟩ : ∃ x ok, numP 10 (s.extract 1 s.size).data.toList = (x, ok) := ⟨_, _, rfl⟩
        rw [hp] at HF
        have HP := hid hp
        clear h35 hc0 hl1 hl2 hp
        go_enter Tryz.func178, Tryz.ntmps178
        go_wp2_with (first | (go_at_call 155; refine (prefix_dec s _ _).mono ?_; rintro e w' ⟨rfl, rfl⟩; first | rw [e1] | rw [e2] | rw [e3]) | (go_at_call 185; refine (pnum10_at (s.extract 1 s.size) hes1 x ok HP.out _).mono ?_; rintro e w' ⟨rfl, rfl⟩))
        all_goals go_light
        go_ret2
        exact ⟨⟨(x, ok), rfl, HF.out⟩, rfl⟩
      · have g := (two_stands.1 (of_decide_eq_true e3)).2
        have h2 : 1 < s.size := by simpa using (List.getElem?_eq_some_iff.1 g).1
        have HF : Hid (Fits (numP 16 (s.extract 2 s.size).data.toList) (bodyT s.data.toList)) := by
          show Fits _ _
          rw [hl2, bodyT_hex h2 hc0 (by rw [bytes_get s 1 h2] at g; rw [Option.some.inj g]; exact .inr rfl)]
          exact fits_num 16 _
        clear g
        obtain ⟨x, ok, hp⟩ : ∃ x ok, numP 16 (s.extract 2 s.size).data.toList = (x, ok) := ⟨_, _, rfl⟩
        rw [hp] at HF
        have HP := hid hp
        clear h35 hc0 hl1 hl2 hp
        go_enter Tryz.func178, Tryz.ntmps178
        go_wp2_with (first | (go_at_call 155; refine (prefix_dec s _ _).mono ?_; rintro e w' ⟨rfl, rfl⟩; first | rw [e1] | rw [e2] | rw [e3]) | (go_at_call 185; refine (pnum16_at (s.extract 2 s.size) hes2 x ok HP.out _).mono ?_; rintro e w' ⟨rfl, rfl⟩))
        all_goals go_light
        go_ret2
        exact ⟨⟨(x, ok), rfl, HF.out⟩, rfl⟩
    · have g := (two_stands.1 (of_decide_eq_true e2)).2
      have h2 : 1 < s.size := by simpa using (List.getElem?_eq_some_iff.1 g).1
      have HF : Hid (Fits (numP 16 (s.extract 2 s.size).data.toList) (bodyT s.data.toList)) := by
        show Fits _ _
        rw [hl2, bodyT_hex h2 hc0 (by rw [bytes_get s 1 h2] at g; rw [Option.some.inj g]; exact .inl rfl)]
        exact fits_num 16 _
      clear g
      obtain ⟨x, ok, hp⟩ : ∃ x ok, numP 16 (s.extract 2 s.size).data.toList = (x, ok) := ⟨_, _, rfl⟩
      rw [hp] at HF
      have HP := hid hp
      clear h35 hc0 hl1 hl2 hp
      go_enter Tryz.func178, Tryz.ntmps178
      go_wp2_with (first | (go_at_call 155; refine (prefix_dec s _ _).mono ?_; rintro e w' ⟨rfl, rfl⟩; first | rw [e1] | rw [e2]) | (go_at_call 185; refine (pnum16_at (s.extract 2 s.size) hes2 x ok HP.out _).mono ?_; rintro e w' ⟨rfl, rfl⟩))
      all_goals go_light
      go_ret2
      exact ⟨⟨(x, ok), rfl, HF.out⟩, rfl⟩
theorem runeOf_any (s : ByteArray) (hs : s.size ≤ 100000) (w : World) :
    Calls Tryz.prog 178 #[.string s] w fun e w' => (∃ p, e = .returned (twoV p) ∧ Fits p (bodyR s.data.toList)) ∧ w' = w := by
  by_cases h : ∀ j, j < 8 → nmA.getD j ⟨#[]⟩ ≠ s
  · rw [bodyR_rest h]
    exact runeOf_rest s hs h w
  · have h2 : ∃ j, j < 8 ∧ nmA.getD j ⟨#[]⟩ = s := by
      apply Classical.byContradiction
      intro hn
      exact h (fun j hj he => hn ⟨j, hj, he⟩)
    obtain ⟨j, hj, rfl⟩ := h2
    match j, hj with
    | 0, _ => exact (runeOf_amp w).mono (fun e w' ⟨h1, h2⟩ => ⟨⟨(38, true), h1, by decide, fun n hn => by obtain rfl := Option.some.inj hn; rfl⟩, h2⟩)
    | 1, _ => exact (runeOf_lt w).mono (fun e w' ⟨h1, h2⟩ => ⟨⟨(60, true), h1, by decide, fun n hn => by obtain rfl := Option.some.inj hn; rfl⟩, h2⟩)
    | 2, _ => exact (runeOf_gt w).mono (fun e w' ⟨h1, h2⟩ => ⟨⟨(62, true), h1, by decide, fun n hn => by obtain rfl := Option.some.inj hn; rfl⟩, h2⟩)
    | 3, _ => exact (runeOf_quot w).mono (fun e w' ⟨h1, h2⟩ => ⟨⟨(34, true), h1, by decide, fun n hn => by obtain rfl := Option.some.inj hn; rfl⟩, h2⟩)
    | 4, _ => exact (runeOf_apos w).mono (fun e w' ⟨h1, h2⟩ => ⟨⟨(39, true), h1, by decide, fun n hn => by obtain rfl := Option.some.inj hn; rfl⟩, h2⟩)
    | 5, _ => exact (runeOf_nbsp w).mono (fun e w' ⟨h1, h2⟩ => ⟨⟨(160, true), h1, by decide, fun n hn => by obtain rfl := Option.some.inj hn; rfl⟩, h2⟩)
    | 6, _ => exact (runeOf_shy w).mono (fun e w' ⟨h1, h2⟩ => ⟨⟨(173, true), h1, by decide, fun n hn => by obtain rfl := Option.some.inj hn; rfl⟩, h2⟩)
    | 7, _ => exact (runeOf_zwsp w).mono (fun e w' ⟨h1, h2⟩ => ⟨⟨(8203, true), h1, by decide, fun n hn => by obtain rfl := Option.some.inj hn; rfl⟩, h2⟩)
end Go.Proofs.YtnoaojjljcbflaaGreatDoor
