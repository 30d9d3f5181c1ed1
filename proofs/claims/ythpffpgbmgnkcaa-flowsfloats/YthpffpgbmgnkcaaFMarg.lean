/- Of, Join, Size: margins that meet. -/
import Derived.Test.YthpffpgbmgnkcaaFHold
namespace Go.Proofs.Ythpffpgbmgnkcaa
open Go.RowKit

theorem sum_bd {a b : Int} (ha : -16777216 ≤ a ∧ a ≤ 16777216) (hb : -16777216 ≤ b ∧ b ≤ 16777216) : -33554432 ≤ a + b ∧ a + b ≤ 33554432 := by omega

theorem heldN_cases (n : Int) : heldN n = if 16777216 < n then 16777216 else if n < -16777216 then -16777216 else n := by
  unfold heldN; repeat (first | omega | split)

set_option maxHeartbeats 400000 in
set_option maxRecDepth 100000 in
theorem held_any (n : Int) (w : World) :
    Calls Try.prog 6 #[.int .i64 n] w fun e w' => e = .returned (.int .i64 (heldN n)) ∧ w' = w := by
  by_cases h1 : 16777216 < n
  · go_enter Try.func6, Try.ntmps6
    go_wp2_with fail
    go_returns
    exact ⟨by rw [heldN_cases n]; congr 2; repeat (first | rfl | omega | split), rfl⟩
  · by_cases h2 : n < -16777216
    · go_enter Try.func6, Try.ntmps6
      go_wp2_with fail
      go_returns
      exact ⟨by rw [heldN_cases n]; congr 2; repeat (first | rfl | omega | split), rfl⟩
    · go_enter Try.func6, Try.ntmps6
      go_wp2_with fail
      go_returns
      exact ⟨by rw [heldN_cases n]; congr 2; repeat (first | rfl | omega | split), rfl⟩
end Go.Proofs.Ythpffpgbmgnkcaa
