/- FlowsWidths: a block's margins and width in any room. -/
import Derived.Test.YtpbnijmnplfgmaaFMLaw
import Derived.Test.YtpbnijmnplfgmaaFWRef
import Derived.Test.YtpbnijmnplfgmaaFWRef2
import Derived.Test.YtpbnijmnplfgmaaFWProg0
import Derived.Test.YtpbnijmnplfgmaaFWProg1
import Derived.Test.YtpbnijmnplfgmaaFWProg2
import Derived.Test.YtpbnijmnplfgmaaFWProg3
namespace Go.Proofs.Ytpbnijmnplfgmaa
open Go.RowKit

/-- what both answer -/
def wans (Rm L I T A Mn Mx : Int) (aL aI aR : Bool) : Int × Int × Int := widthN (heldN Rm) (heldN L) (heldN I) (heldN T) (heldN A) (heldN Mn) (heldN Mx) aL aI aR

theorem solveW_any (Rm L I T A Mn Mx p q r : Int) (aL aI aR : Bool) (h : wans Rm L I T A Mn Mx aL aI aR = (p, q, r)) (w : World) :
    Calls Try.prog 23 #[.agg #[.int .i64 Rm, .int .i64 L, .int .i64 I, .int .i64 T, .int .i64 A, .int .i64 Mn, .int .i64 Mx, .bool aL, .bool aI, .bool aR]] w
      fun e w' => e = .returned (.tuple #[.int .i64 p, .int .i64 q, .int .i64 r]) ∧ Below w.heap.size w w' := by
  have e1 : p = (wans Rm L I T A Mn Mx aL aI aR).1 := by rw [h]
  have e2 : q = (wans Rm L I T A Mn Mx aL aI aR).2.1 := by rw [h]
  have e3 : r = (wans Rm L I T A Mn Mx aL aI aR).2.2 := by rw [h]
  subst e1 e2 e3
  cases aL <;> cases aI <;> cases aR
  · exact solveW_fff _ _ _ _ _ _ _ _
  · exact solveW_fft _ _ _ _ _ _ _ _
  · exact solveW_ftf _ _ _ _ _ _ _ _
  · exact solveW_ftt _ _ _ _ _ _ _ _
  · exact solveW_tff _ _ _ _ _ _ _ _
  · exact solveW_tft _ _ _ _ _ _ _ _
  · exact solveW_ttf _ _ _ _ _ _ _ _
  · exact solveW_ttt _ _ _ _ _ _ _ _

theorem solveWidth_any (Rm L I T A Mn Mx p q r : Int) (aL aI aR : Bool) (h : wans Rm L I T A Mn Mx aL aI aR = (p, q, r)) (w : World) :
    Calls Try.prog 24 #[.agg #[.int .i64 Rm, .int .i64 L, .int .i64 I, .int .i64 T, .int .i64 A, .int .i64 Mn, .int .i64 Mx, .bool aL, .bool aI, .bool aR]] w
      fun e w' => e = .returned (.tuple #[.int .i64 p, .int .i64 q, .int .i64 r]) ∧ Below w.heap.size w w' := by
  have e1 : p = (wans Rm L I T A Mn Mx aL aI aR).1 := by rw [h]
  have e2 : q = (wans Rm L I T A Mn Mx aL aI aR).2.1 := by rw [h]
  have e3 : r = (wans Rm L I T A Mn Mx aL aI aR).2.2 := by rw [h]
  subst e1 e2 e3
  cases aL <;> cases aI <;> cases aR
  · exact solveWidth_fff _ _ _ _ _ _ _ _
  · exact solveWidth_fft _ _ _ _ _ _ _ _
  · exact solveWidth_ftf _ _ _ _ _ _ _ _
  · exact solveWidth_ftt _ _ _ _ _ _ _ _
  · exact solveWidth_tff _ _ _ _ _ _ _ _
  · exact solveWidth_tft _ _ _ _ _ _ _ _
  · exact solveWidth_ttf _ _ _ _ _ _ _ _
  · exact solveWidth_ttt _ _ _ _ _ _ _ _

theorem one_w : wans 10 0 0 0 0 0 (-1) false true false = (0, 10, 0) := by decide +kernel

set_option maxHeartbeats 1000000 in
set_option maxRecDepth 100000 in
theorem widths_any (Rm L I T A Mn Mx : Int) (aL aI aR : Bool) (w : World) :
    Calls Try.prog 6 #[.agg #[.int .i64 Rm, .int .i64 L, .int .i64 I, .int .i64 T, .int .i64 A, .int .i64 Mn, .int .i64 Mx, .bool aL, .bool aI, .bool aR]] w
      fun e w' => e = .returned (.bool true) ∧ Below w.heap.size w w' := by
  obtain ⟨p, hp⟩ : ∃ p, wans Rm L I T A Mn Mx aL aI aR = p := ⟨_, rfl⟩
  obtain ⟨p, q, r⟩ := p
  have HP : Hid (wans Rm L I T A Mn Mx aL aI aR = (p, q, r)) := hp
  clear hp
  go_enter Try.func6, Try.ntmps6
  go_wp2_with fail
  refine (solveW_any _ _ _ _ _ _ _ p q r _ _ _ HP.out _).mono ?_
  rintro e w1 ⟨rfl, b1⟩
  have s1 := b1.size
  simp at s1
  have c0 : w1.cell? ⟨w.heap.size, 0, none⟩ = some (.int .i64 Rm) := by rw [b1.cell (by simp; omega)]; simp [go_sem]
  have c1 : w1.cell? ⟨w.heap.size, 1, none⟩ = some (.int .i64 L) := by rw [b1.cell (by simp; omega)]; simp [go_sem]
  have c2 : w1.cell? ⟨w.heap.size, 2, none⟩ = some (.int .i64 I) := by rw [b1.cell (by simp; omega)]; simp [go_sem]
  have c3 : w1.cell? ⟨w.heap.size, 3, none⟩ = some (.int .i64 T) := by rw [b1.cell (by simp; omega)]; simp [go_sem]
  have c4 : w1.cell? ⟨w.heap.size, 4, none⟩ = some (.int .i64 A) := by rw [b1.cell (by simp; omega)]; simp [go_sem]
  have c5 : w1.cell? ⟨w.heap.size, 5, none⟩ = some (.int .i64 Mn) := by rw [b1.cell (by simp; omega)]; simp [go_sem]
  have c6 : w1.cell? ⟨w.heap.size, 6, none⟩ = some (.int .i64 Mx) := by rw [b1.cell (by simp; omega)]; simp [go_sem]
  have c7 : w1.cell? ⟨w.heap.size, 7, none⟩ = some (.bool aL) := by rw [b1.cell (by simp; omega)]; simp [go_sem]
  have c8 : w1.cell? ⟨w.heap.size, 8, none⟩ = some (.bool aI) := by rw [b1.cell (by simp; omega)]; simp [go_sem]
  have c9 : w1.cell? ⟨w.heap.size, 9, none⟩ = some (.bool aR) := by rw [b1.cell (by simp; omega)]; simp [go_sem]
  go_wp2_with fail
  refine (solveWidth_any _ _ _ _ _ _ _ p q r _ _ _ HP.out _).mono ?_
  rintro e w2 ⟨rfl, b2⟩
  go_wp2_with fail
  refine (solveW_any _ _ _ _ _ _ _ 0 10 0 _ _ _ one_w _).mono ?_
  rintro e w3 ⟨rfl, b3⟩
  go_wp2_with fail
  go_returns
  refine ⟨rfl, Below.step (Below.step0 ((((Below.refl _ w).alloc (Nat.le_refl _) _).alloc (by simp) _).trans (b1.mono (by simp; omega))) b2) b3⟩
end Go.Proofs.Ytpbnijmnplfgmaa
