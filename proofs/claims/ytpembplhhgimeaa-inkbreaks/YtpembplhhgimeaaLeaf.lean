/- What the small functions answer: how wide a rune is, whether it is wide, a size held in its bounds, a byte of a text, whether a number lies between two. No conditions beyond the numbers' own kinds. -/
import Derived.Test.YtpembplhhgimeaaChecked
import Derived.Test.YtpembplhhgimeaaPlain
import Derived.WalkKit
import Derived.Deep.Light
namespace Go.Proofs.Ytpembplhhgimeaa
open Go.RowKit

theorem ret_int {k : IntKind} {a b : Int} (h : a = b) : Ending.returned (.int k a) = .returned (.int k b) := by rw [h]
theorem ret_bool {a b : Bool} (h : a = b) : Ending.returned (.bool a) = .returned (.bool b) := by rw [h]

set_option maxHeartbeats 400000 in
theorem wide_any (r : Int) (w : World) : Calls Try.prog 22 #[.int .i32 r] w fun e w' => e = .returned (.bool (wideB r)) ∧ w' = w := by
  go_enter Try.func22, Try.ntmps22
  go_wp2
  all_goals (go_ret; refine ⟨ret_bool ?_, rfl⟩; rw [Bool.eq_iff_iff]; simp [wideB]; omega)

set_option maxHeartbeats 400000 in
theorem held_any (n : Int) (w : World) : Calls Try.prog 18 #[.int .i64 n] w fun e w' => e = .returned (.int .i64 (held n)) ∧ w' = w := by
  go_enter Try.func18, Try.ntmps18
  go_wp2
  all_goals (go_ret; refine ⟨ret_int ?_, rfl⟩; simp only [held]; repeat' split)
  all_goals omega

set_option maxHeartbeats 400000 in
theorem bounded_any (n : Int) (w : World) : Calls Try.prog 16 #[.int .i64 n] w fun e w' => e = .returned (.int .i64 (held n)) ∧ w' = w := by
  go_enter Try.func16, Try.ntmps16
  go_wp2
  all_goals (go_ret; refine ⟨ret_int ?_, rfl⟩; simp only [held]; repeat' split)
  all_goals omega

set_option maxHeartbeats 400000 in
theorem between1_any (n lo hi : Int) (w : World) : Calls Try.prog 31 #[.int .i64 n, .int .i64 lo, .int .i64 hi] w fun e w' => e = .returned (.bool (decide (lo ≤ n ∧ n ≤ hi))) ∧ w' = w := by
  go_enter Try.func31, Try.ntmps31
  go_wp2
  all_goals (go_ret; refine ⟨ret_bool ?_, rfl⟩; simp; try omega)

theorem bAt_in (s : ByteArray) (i : Int) (h : 0 ≤ i ∧ i < s.size) : wrap64 ((s[i.toNat]'(by omega)).toNat : Int) = bAt s i := by
  have e : s.get! i.toNat = s[i.toNat]'(by omega) := by
    simp [ByteArray.get!, getElem!_pos, show i.toNat < s.size by omega]; rfl
  have := (s[i.toNat]'(by omega)).toNat_lt
  rw [bAt, if_pos h, e, IntWalk.wrap64_in _ (by omega)]
theorem bAt_out (s : ByteArray) (i : Int) (h : ¬ (0 ≤ i ∧ i < s.size)) : -1 = bAt s i := by rw [bAt, if_neg h]

set_option maxHeartbeats 400000 in
theorem byteAt_any (s : ByteArray) (i : Int) (w : World) : Calls Try.prog 30 #[.string s, .int .i64 i] w fun e w' => e = .returned (.int .i64 (bAt s i)) ∧ w' = w := by
  go_enter Try.func30, Try.ntmps30
  go_wp2
  all_goals go_ret
  all_goals go_light
  · exact ⟨ret_int (bAt_out s i (by omega)), rfl⟩
  · exact ⟨ret_int (bAt_in s i (by omega)), rfl⟩
  · exact ⟨ret_int (bAt_out s i (by omega)), rfl⟩

set_option maxHeartbeats 2000000 in
theorem adv_any (r : Int) (w : World) : Calls Try.prog 17 #[.int .i32 r] w fun e w' => e = .returned (.int .i64 (adv r)) ∧ w' = w := by
  go_enter Try.func17, Try.ntmps17
  go_wp2_with (go_at_call 22; refine (wide_any _ _).mono ?_; rintro e w' ⟨rfl, rfl⟩)
  all_goals go_ret
  all_goals go_light
  all_goals refine ⟨ret_int ?_, rfl⟩
  all_goals (try simp only [beq_iff_eq, beq_eq_false_iff_ne, ne_eq] at *)
  all_goals (simp only [adv]; repeat' split)
  all_goals first | rfl | omega | simp_all
end Go.Proofs.Ytpembplhhgimeaa
