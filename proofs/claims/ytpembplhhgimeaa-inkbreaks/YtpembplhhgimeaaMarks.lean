/- What the small functions about marks answer: letters, digits, what holds a line together, what opens and closes; whether a number is one of a list. No conditions beyond the numbers' own kinds. -/
import Derived.Test.YtpembplhhgimeaaLeaf
import Derived.Test.YtpembplhhgimeaaRefw
namespace Go.Proofs.Ytpembplhhgimeaa
open Go.RowKit

def letB (r : Int) : Bool := decide (((65 ≤ r ∧ r ≤ 90) ∨ (97 ≤ r ∧ r ≤ 122) ∨ (192 ≤ r ∧ r ≤ 591)) ∧ r ≠ 215 ∧ r ≠ 247)
def digB (r : Int) : Bool := decide (48 ≤ r ∧ r ≤ 57)
def holdB (r : Int) : Bool := decide (r = 160 ∨ r = 8288)
def openB (r : Int) : Bool := decide (r = 12300 ∨ r = 12302 ∨ r = 65288)
def closeB (r : Int) : Bool := decide (r = 12289 ∨ r = 12290 ∨ r = 12301 ∨ r = 12303 ∨ r = 65289 ∨ r = 65292)

set_option maxHeartbeats 1000000 in
theorem letter_any (r : Int) (w : World) : Calls Try.prog 24 #[.int .i32 r] w fun e w' => e = .returned (.bool (letB r)) ∧ w' = w := by
  go_enter Try.func24, Try.ntmps24
  go_wp2
  all_goals go_ret
  all_goals go_light
  all_goals refine ⟨ret_bool ?_, rfl⟩
  all_goals rw [Bool.eq_iff_iff]
  all_goals simp [letB] at *
  all_goals omega

set_option maxHeartbeats 1000000 in
theorem isLetter_any (r : Int) (w : World) : Calls Try.prog 29 #[.int .i64 r] w fun e w' => e = .returned (.bool (letB r)) ∧ w' = w := by
  go_enter Try.func29, Try.ntmps29
  go_wp2
  all_goals go_ret
  all_goals go_light
  all_goals refine ⟨ret_bool ?_, rfl⟩
  all_goals rw [Bool.eq_iff_iff]
  all_goals simp [letB] at *
  all_goals omega

set_option maxHeartbeats 1000000 in
theorem digit_any (r : Int) (w : World) : Calls Try.prog 25 #[.int .i32 r] w fun e w' => e = .returned (.bool (digB r)) ∧ w' = w := by
  go_enter Try.func25, Try.ntmps25
  go_wp2
  all_goals go_ret
  all_goals go_light
  all_goals refine ⟨ret_bool ?_, rfl⟩
  all_goals rw [Bool.eq_iff_iff]
  all_goals simp [digB] at *
  all_goals omega

set_option maxHeartbeats 1000000 in
theorem holds_any (r : Int) (w : World) : Calls Try.prog 23 #[.int .i32 r] w fun e w' => e = .returned (.bool (holdB r)) ∧ w' = w := by
  go_enter Try.func23, Try.ntmps23
  go_wp2
  all_goals go_ret
  all_goals go_light
  all_goals refine ⟨ret_bool ?_, rfl⟩
  all_goals rw [Bool.eq_iff_iff]
  all_goals simp [holdB] at *
  all_goals omega

set_option maxHeartbeats 1000000 in
theorem opens_any (r : Int) (w : World) : Calls Try.prog 26 #[.int .i32 r] w fun e w' => e = .returned (.bool (openB r)) ∧ w' = w := by
  go_enter Try.func26, Try.ntmps26
  go_wp2
  all_goals go_ret
  all_goals go_light
  all_goals refine ⟨ret_bool ?_, rfl⟩
  all_goals rw [Bool.eq_iff_iff]
  all_goals simp [openB] at *
  all_goals omega

set_option maxHeartbeats 1000000 in
theorem closes_any (r : Int) (w : World) : Calls Try.prog 27 #[.int .i32 r] w fun e w' => e = .returned (.bool (closeB r)) ∧ w' = w := by
  go_enter Try.func27, Try.ntmps27
  go_wp2
  all_goals go_ret
  all_goals go_light
  all_goals refine ⟨ret_bool ?_, rfl⟩
  all_goals rw [Bool.eq_iff_iff]
  all_goals simp [closeB] at *
  all_goals omega

/-- is a number one of a list? -/
def oneB (r : Int) (xs : List Int) : Bool := decide (r ∈ xs)

set_option maxHeartbeats 1000000 in
theorem oneOf_any (r : Int) (xs : List Int) (g cap : Nat) (w : World) (hn : xs.length ≤ 1000) (hc : ∀ j (h : j < xs.length), w.cell? ⟨g, j, none⟩ = some (.int .i64 xs[j])) :
    Calls Try.prog 28 #[.int .i64 r, .slice (some ⟨g, 0, none⟩) xs.length cap] w fun e w' => e = .returned (.bool (oneB r xs)) ∧ w' = w := by
  go_enter Try.func28, Try.ntmps28
  go_wp2
  go_loop [5] (fun i => ∃ k : Nat, k ≤ xs.length ∧ i = .int .i64 k ∧ Hid (¬ r ∈ xs.take k)) (fun i => xs.length - (intOf i).toNat)
  case atStart => exact ⟨0, Nat.zero_le _, rfl, by show ¬ _; simp⟩
  case round =>
    obtain ⟨k, hk, rfl, hno⟩ := hrel
    by_cases hlt : k < xs.length
    · have hck := hc k hlt
      have ht : xs.take (k + 1) = xs.take k ++ [xs[k]] := List.take_succ_eq_append_getElem hlt
      obtain ⟨x, hx⟩ : ∃ x, xs[k] = x := ⟨_, rfl⟩
      have hm : xs[k] ∈ xs := List.getElem_mem hlt
      rw [hx] at hck ht hm
      have HT : Hid (xs.take (k + 1) = xs.take k ++ [x]) := ht
      have HM : Hid (x ∈ xs) := hm
      clear hc hx ht hm
      by_cases he : x = r
      · have he' : (x == r) = true := by simp [he]
        have HE : Hid (x = r) := he
        clear he
        go_wp2
        go_ret
        go_light
        exact ⟨ret_bool (by have := HM.out; rw [HE.out] at this; simp [oneB, this]), rfl⟩
      · have he' : (x == r) = false := by simp [he]
        have HE : Hid (¬ x = r) := he
        clear he
        go_wp2
        go_round
        case rel =>
          go_light
          refine ⟨k + 1, by omega, by go_num, ?_⟩
          show ¬ _
          rw [HT.out]
          intro hin
          rcases List.mem_append.1 hin with h | h
          · exact hno.out h
          · exact HE.out (by simpa using (List.mem_singleton.1 h).symm)
        case measure => go_light; simp [intOf]; omega
    · clear hc
      go_wp2
      go_ret
      go_light
      refine ⟨ret_bool ?_, rfl⟩
      have := hno.out
      rw [List.take_of_length_le (by omega)] at this
      simp [oneB, this]
end Go.Proofs.Ytpembplhhgimeaa
