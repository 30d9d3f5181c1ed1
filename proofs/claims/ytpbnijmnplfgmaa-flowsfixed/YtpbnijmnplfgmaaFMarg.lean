/- Of, Join, Size: margins that meet. -/
import Derived.Test.YtpbnijmnplfgmaaFHold
namespace Go.Proofs.Ytpbnijmnplfgmaa
open Go.RowKit

set_option maxHeartbeats 400000 in
set_option maxRecDepth 100000 in
theorem of_any (n : Int) (w : World) :
    Calls Try.prog 9 #[.int .i64 n] w fun e w' => e = .returned (.agg #[.int .i64 (max (heldN n) 0), .int .i64 (min (heldN n) 0)]) ∧ Below w.heap.size w w' := by
  go_enter Try.func9, Try.ntmps9
  go_wp2_with fail
  refine (hold_pre [(⟨w.heap.size, 0, none⟩, n)] _ _ _ _ rfl (by simp) (by simp [HoldPre, go_sem]; omega)).mono ?_
  rintro e w' ⟨rfl, rfl⟩
  simp only [holdAll]
  go_wp2_with fail
  all_goals
    refine bodyPost_ret (v := .agg #[.int .i64 (max (heldN n) 0), .int .i64 (min (heldN n) 0)]) ?_ rfl ⟨rfl, by go_grown⟩
    simp [results, Try.results9, go_sem]
    omega

theorem sum_bd {a b : Int} (ha : -16777216 ≤ a ∧ a ≤ 16777216) (hb : -16777216 ≤ b ∧ b ≤ 16777216) : -33554432 ≤ a + b ∧ a + b ≤ 33554432 := by omega

set_option maxHeartbeats 400000 in
set_option maxRecDepth 100000 in
theorem size_any (a b : Int) (w : World) :
    Calls Try.prog 10 #[.agg #[.int .i64 a, .int .i64 b]] w fun e w' => e = .returned (.int .i64 (heldN a + heldN b)) ∧ Below w.heap.size w w' := by
  have h1 := heldN_bd a
  have h2 := heldN_bd b
  go_enter Try.func10, Try.ntmps10
  go_wp2_with fail
  refine (hold_pre [(⟨w.heap.size, 0, none⟩, a), (⟨w.heap.size, 1, none⟩, b)] _ _ _ _ rfl (by simp) (by simp [HoldPre, go_sem])).mono ?_
  rintro e w' ⟨rfl, rfl⟩
  simp only [holdAll]
  go_wp2_with fail
  go_returns
  exact ⟨rfl, by go_grown⟩

set_option maxHeartbeats 400000 in
set_option maxRecDepth 100000 in
theorem join_any (a b c d : Int) (w : World) :
    Calls Try.prog 12 #[.agg #[.int .i64 a, .int .i64 b], .agg #[.int .i64 c, .int .i64 d]] w fun e w' => e = .returned (.agg #[.int .i64 (max (heldN a) (heldN c)), .int .i64 (min (heldN b) (heldN d))]) ∧ Below w.heap.size w w' := by
  go_enter Try.func12, Try.ntmps12
  go_wp2_with fail
  refine (hold_pre [(⟨w.heap.size, 0, none⟩, a), (⟨w.heap.size, 1, none⟩, b), (⟨w.heap.size + 1, 0, none⟩, c), (⟨w.heap.size + 1, 1, none⟩, d)] _ _ _ _ rfl (by simp) (by simp [HoldPre, go_sem]; omega)).mono ?_
  rintro e w' ⟨rfl, rfl⟩
  simp only [holdAll]
  go_wp2_with fail
  all_goals
    refine bodyPost_ret (v := .agg #[.int .i64 (max (heldN a) (heldN c)), .int .i64 (min (heldN b) (heldN d))]) ?_ rfl ⟨rfl, by go_grown⟩
    simp [results, Try.results12, go_sem]
    omega

theorem heldN_cases (n : Int) : heldN n = if 16777216 < n then 16777216 else if n < -16777216 then -16777216 else n := by
  unfold heldN; repeat (first | omega | split)

set_option maxHeartbeats 400000 in
set_option maxRecDepth 100000 in
theorem held_any (n : Int) (w : World) :
    Calls Try.prog 11 #[.int .i64 n] w fun e w' => e = .returned (.int .i64 (heldN n)) ∧ w' = w := by
  by_cases h1 : 16777216 < n
  · go_enter Try.func11, Try.ntmps11
    go_wp2_with fail
    go_returns
    exact ⟨by rw [heldN_cases n]; congr 2; repeat (first | rfl | omega | split), rfl⟩
  · by_cases h2 : n < -16777216
    · go_enter Try.func11, Try.ntmps11
      go_wp2_with fail
      go_returns
      exact ⟨by rw [heldN_cases n]; congr 2; repeat (first | rfl | omega | split), rfl⟩
    · go_enter Try.func11, Try.ntmps11
      go_wp2_with fail
      go_returns
      exact ⟨by rw [heldN_cases n]; congr 2; repeat (first | rfl | omega | split), rfl⟩
end Go.Proofs.Ytpbnijmnplfgmaa
