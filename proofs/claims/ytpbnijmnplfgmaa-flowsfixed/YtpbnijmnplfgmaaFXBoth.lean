/- What lies at a place: what the program and the document answer. -/
import Derived.Test.YtpbnijmnplfgmaaFXRFFFF
import Derived.Test.YtpbnijmnplfgmaaFXRFFFT
import Derived.Test.YtpbnijmnplfgmaaFXRFFTF
import Derived.Test.YtpbnijmnplfgmaaFXRFFTT
import Derived.Test.YtpbnijmnplfgmaaFXRFTF
import Derived.Test.YtpbnijmnplfgmaaFXRFTT
import Derived.Test.YtpbnijmnplfgmaaFXRTFF
import Derived.Test.YtpbnijmnplfgmaaFXRTFT
import Derived.Test.YtpbnijmnplfgmaaFXRTTF
import Derived.Test.YtpbnijmnplfgmaaFXRTTT
import Derived.Test.YtpbnijmnplfgmaaFXProg
namespace Go.Proofs.Ytpbnijmnplfgmaa
open Go.RowKit

/-- what both answer -/
def fans (Rm Fr To L I T A Fi Mn Mx At : Int) (aF aT aL aI aR : Bool) : Int × Int × Int × Int := fixedN (heldN Rm) (heldN Fr) (heldN To) (heldN L) (heldN I) (heldN T) (heldN A) (heldN Fi) (heldN Mn) (heldN Mx) (heldN At) aF aT aL aI aR

theorem solveP_any (Rm Fr To L I T A Fi Mn Mx At p q r s : Int) (aF aT aL aI aR : Bool) (h : fans Rm Fr To L I T A Fi Mn Mx At aF aT aL aI aR = (p, q, r, s)) (w : World) :
    Calls Try.prog 25 #[.agg #[.int .i64 Rm, .int .i64 Fr, .int .i64 To, .int .i64 L, .int .i64 I, .int .i64 T, .int .i64 A, .int .i64 Fi, .int .i64 Mn, .int .i64 Mx, .int .i64 At, .bool aF, .bool aT, .bool aL, .bool aI, .bool aR]] w fun e w' => e = .returned (.tuple #[.int .i64 p, .int .i64 q, .int .i64 r, .int .i64 s]) ∧ Below w.heap.size w w' := by
  have e1 : p = (fans Rm Fr To L I T A Fi Mn Mx At aF aT aL aI aR).1 := by rw [h]
  have e2 : q = (fans Rm Fr To L I T A Fi Mn Mx At aF aT aL aI aR).2.1 := by rw [h]
  have e3 : r = (fans Rm Fr To L I T A Fi Mn Mx At aF aT aL aI aR).2.2.1 := by rw [h]
  have e4 : s = (fans Rm Fr To L I T A Fi Mn Mx At aF aT aL aI aR).2.2.2 := by rw [h]
  rw [e1, e2, e3, e4]
  exact solveF_any Rm Fr To L I T A Fi Mn Mx At aF aT aL aI aR w

theorem solveQ_any (Rm Fr To L I T A Fi Mn Mx At p q r s : Int) (aF aT aL aI aR : Bool) (h : fans Rm Fr To L I T A Fi Mn Mx At aF aT aL aI aR = (p, q, r, s)) (w : World) :
    Calls Try.prog 26 #[.agg #[.int .i64 Rm, .int .i64 Fr, .int .i64 To, .int .i64 L, .int .i64 I, .int .i64 T, .int .i64 A, .int .i64 Fi, .int .i64 Mn, .int .i64 Mx, .int .i64 At, .bool aF, .bool aT, .bool aL, .bool aI, .bool aR]] w fun e w' => e = .returned (.tuple #[.int .i64 p, .int .i64 q, .int .i64 r, .int .i64 s]) ∧ Below w.heap.size w w' := by
  have e1 : p = (fans Rm Fr To L I T A Fi Mn Mx At aF aT aL aI aR).1 := by rw [h]
  have e2 : q = (fans Rm Fr To L I T A Fi Mn Mx At aF aT aL aI aR).2.1 := by rw [h]
  have e3 : r = (fans Rm Fr To L I T A Fi Mn Mx At aF aT aL aI aR).2.2.1 := by rw [h]
  have e4 : s = (fans Rm Fr To L I T A Fi Mn Mx At aF aT aL aI aR).2.2.2 := by rw [h]
  rw [e1, e2, e3, e4]
  clear h e1 e2 e3 e4
  unfold fans
  cases aF <;> cases aT <;> cases aL <;> cases aI <;> cases aR
  · exact solveFixed_fffff _ _ _ _ _ _ _ _ _ _ _ _
  · exact solveFixed_fffft _ _ _ _ _ _ _ _ _ _ _ _
  · exact solveFixed_fftff _ _ _ _ _ _ _ _ _ _ _ _
  · exact solveFixed_fftft _ _ _ _ _ _ _ _ _ _ _ _
  · exact solveFixed_ffftf _ _ _ _ _ _ _ _ _ _ _ _
  · exact solveFixed_ffftt _ _ _ _ _ _ _ _ _ _ _ _
  · exact solveFixed_ffttf _ _ _ _ _ _ _ _ _ _ _ _
  · exact solveFixed_ffttt _ _ _ _ _ _ _ _ _ _ _ _
  · exact solveFixed_ftf _ _ _ _ _ _ _ _ _ _ _ false false _
  · exact solveFixed_ftf _ _ _ _ _ _ _ _ _ _ _ false true _
  · exact solveFixed_ftt _ _ _ _ _ _ _ _ _ _ _ false false _
  · exact solveFixed_ftt _ _ _ _ _ _ _ _ _ _ _ false true _
  · exact solveFixed_ftf _ _ _ _ _ _ _ _ _ _ _ true false _
  · exact solveFixed_ftf _ _ _ _ _ _ _ _ _ _ _ true true _
  · exact solveFixed_ftt _ _ _ _ _ _ _ _ _ _ _ true false _
  · exact solveFixed_ftt _ _ _ _ _ _ _ _ _ _ _ true true _
  · exact solveFixed_tff _ _ _ _ _ _ _ _ _ _ _ false false _
  · exact solveFixed_tff _ _ _ _ _ _ _ _ _ _ _ false true _
  · exact solveFixed_tft _ _ _ _ _ _ _ _ _ _ _ false false _
  · exact solveFixed_tft _ _ _ _ _ _ _ _ _ _ _ false true _
  · exact solveFixed_tff _ _ _ _ _ _ _ _ _ _ _ true false _
  · exact solveFixed_tff _ _ _ _ _ _ _ _ _ _ _ true true _
  · exact solveFixed_tft _ _ _ _ _ _ _ _ _ _ _ true false _
  · exact solveFixed_tft _ _ _ _ _ _ _ _ _ _ _ true true _
  · exact solveFixed_ttf _ _ _ _ _ _ _ _ _ _ _ false false _
  · exact solveFixed_ttf _ _ _ _ _ _ _ _ _ _ _ false true _
  · exact solveFixed_ttt _ _ _ _ _ _ _ _ _ _ _ false false _
  · exact solveFixed_ttt _ _ _ _ _ _ _ _ _ _ _ false true _
  · exact solveFixed_ttf _ _ _ _ _ _ _ _ _ _ _ true false _
  · exact solveFixed_ttf _ _ _ _ _ _ _ _ _ _ _ true true _
  · exact solveFixed_ttt _ _ _ _ _ _ _ _ _ _ _ true false _
  · exact solveFixed_ttt _ _ _ _ _ _ _ _ _ _ _ true true _

theorem one_f : fans 10 0 0 0 0 0 0 0 0 (-1) 0 false false false true false = (0, 0, 10, 0) := by decide +kernel

end Go.Proofs.Ytpbnijmnplfgmaa
