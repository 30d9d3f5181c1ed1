/- FlowsFixed: what lies at a place. -/
import Derived.Test.YtpbnijmnplfgmaaFXWalk
import Derived.Test.YtpbnijmnplfgmaaFXBoth
namespace Go.Proofs.Ytpbnijmnplfgmaa
open Go.RowKit

theorem fixed_any (Rm Fr To L I T A Fi Mn Mx At : Int) (aF aT aL aI aR : Bool) (w : World) :
    Calls Try.prog 7 #[.agg #[.int .i64 Rm, .int .i64 Fr, .int .i64 To, .int .i64 L, .int .i64 I, .int .i64 T, .int .i64 A, .int .i64 Fi, .int .i64 Mn, .int .i64 Mx, .int .i64 At, .bool aF, .bool aT, .bool aL, .bool aI, .bool aR]] w fun e w' => e = .returned (.bool true) ∧ Below w.heap.size w w' := by
  obtain ⟨p, hp⟩ : ∃ p, fans Rm Fr To L I T A Fi Mn Mx At aF aT aL aI aR = p := ⟨_, rfl⟩
  obtain ⟨p, q, r, s⟩ := p
  exact fixed_walk Rm Fr To L I T A Fi Mn Mx At p q r s aF aT aL aI aR (fun w => solveP_any Rm Fr To L I T A Fi Mn Mx At p q r s _ _ _ _ _ hp w) (fun w => solveQ_any Rm Fr To L I T A Fi Mn Mx At p q r s _ _ _ _ _ hp w) (fun w => solveP_any 10 0 0 0 0 0 0 0 0 (-1) 0 0 0 10 0 false false false true false one_f w) w
end Go.Proofs.Ytpbnijmnplfgmaa
