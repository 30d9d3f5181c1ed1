/- What the parts of Fixed.Solve answer. -/
import Derived.Test.YtpbnijmnplfgmaaFXPure
import Derived.Deep.QuietTactic
import Derived.BigQuiet
namespace Go.Proofs.Ytpbnijmnplfgmaa
open Go.RowKit

theorem ret_ib {a b : Int} {c d : Bool} (h1 : a = b) (h2 : c = d) : Ending.returned (.tuple #[.int .i64 a, .bool c]) = .returned (.tuple #[.int .i64 b, .bool d]) := by rw [h1, h2]

set_option maxHeartbeats 400000 in
theorem bounded_any (n least most : Int) (w : World) :
    Calls Try.prog 43 #[.int .i64 n, .int .i64 least, .int .i64 most] w fun e w' => e = .returned (.tuple #[.int .i64 (bndV n least most), .bool (bndB n least most)]) ∧ w' = w := by
  go_enter Try.func43, Try.ntmps43
  go_wp2
  all_goals
    go_returns
    refine ⟨ret_ib ?_ ?_, rfl⟩
    · simp only [bndV, bnd1]; (repeat' split) <;> omega
    · simp only [bndB, bnd1]; (repeat' split) <;> first | (simp; omega) | (simp; done)

set_option maxHeartbeats 400000 in
theorem sidesOf_any (l r : Int) (aL aR : Bool) (w : World) :
    Calls Try.prog 42 #[.int .i64 l, .int .i64 r, .bool aL, .bool aR] w fun e w' => e = .returned (.agg #[.int .i64 (z aL l), .int .i64 (z aR r), .bool aL, .bool aR]) ∧ w' = w.alloc (.cells #[.int .i64 (z aL l), .int .i64 (z aR r), .bool aL, .bool aR] 96) := by
  cases aL <;> cases aR
  all_goals
    go_enter Try.func42, Try.ntmps42
    go_wp2
    refine bodyPost_ret (v := .agg #[.int .i64 (z _ l), .int .i64 (z _ r), .bool _, .bool _]) ?_ rfl ⟨rfl, ?_⟩
    · simp [results, Try.results42, go_sem, z]
    · simp [z]

/-- what is within, ahead of its bounds -/
def firstN (I Fr To Fi free : Int) (aI both : Bool) : Int := if !aI then I else if both then max (free - Fr - To) 0 else Fi

set_option maxHeartbeats 400000 in
theorem first_any (Rm Fr To L I T A Fi Mn Mx At free : Int) (aF aT aL aI aR both : Bool) (h1 : -100000000 ≤ free) (h2 : free ≤ 100000000) (h3 : -16777216 ≤ Fr) (h4 : Fr ≤ 16777216) (h5 : -16777216 ≤ To) (h6 : To ≤ 16777216) (w : World) :
    Calls Try.prog 46 #[.agg #[.int .i64 Rm, .int .i64 Fr, .int .i64 To, .int .i64 L, .int .i64 I, .int .i64 T, .int .i64 A, .int .i64 Fi, .int .i64 Mn, .int .i64 Mx, .int .i64 At, .bool aF, .bool aT, .bool aL, .bool aI, .bool aR], .int .i64 free, .bool both] w fun e w' => e = .returned (.int .i64 (firstN I Fr To Fi free aI both)) ∧ w' = w.alloc (.cells #[.int .i64 Rm, .int .i64 Fr, .int .i64 To, .int .i64 L, .int .i64 I, .int .i64 T, .int .i64 A, .int .i64 Fi, .int .i64 Mn, .int .i64 Mx, .int .i64 At, .bool aF, .bool aT, .bool aL, .bool aI, .bool aR] 65) := by
  cases aI <;> cases both
  all_goals
    go_enter Try.func46, Try.ntmps46
    go_wp2
    all_goals
      go_returns
      exact ⟨ret_int (by simp [firstN]; try omega), rfl⟩

set_option maxHeartbeats 400000 in
theorem begin_any (Rm Fr To L I T A Fi Mn Mx At free : Int) (aF aT aL aI aR : Bool) (h1 : -400000000 ≤ free) (h2 : free ≤ 400000000) (h5 : -16777216 ≤ To) (h6 : To ≤ 16777216) (w : World) :
    Calls Try.prog 47 #[.agg #[.int .i64 Rm, .int .i64 Fr, .int .i64 To, .int .i64 L, .int .i64 I, .int .i64 T, .int .i64 A, .int .i64 Fi, .int .i64 Mn, .int .i64 Mx, .int .i64 At, .bool aF, .bool aT, .bool aL, .bool aI, .bool aR], .int .i64 free] w fun e w' => e = .returned (.int .i64 (beginN Fr To At free aF aT)) ∧ w' = w.alloc (.cells #[.int .i64 Rm, .int .i64 Fr, .int .i64 To, .int .i64 L, .int .i64 I, .int .i64 T, .int .i64 A, .int .i64 Fi, .int .i64 Mn, .int .i64 Mx, .int .i64 At, .bool aF, .bool aT, .bool aL, .bool aI, .bool aR] 65) := by
  cases aF <;> cases aT
  all_goals
    go_enter Try.func47, Try.ntmps47
    go_wp2
    all_goals
      go_returns
      exact ⟨ret_int (by simp [beginN]), rfl⟩
end Go.Proofs.Ytpbnijmnplfgmaa
