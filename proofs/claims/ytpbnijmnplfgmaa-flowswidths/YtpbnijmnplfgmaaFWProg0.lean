/- The widths of a block, as the program reckons them (0). -/
import Derived.Test.YtpbnijmnplfgmaaFWRef0
import Derived.Deep.QuietTactic
import Derived.BigQuiet
namespace Go.Proofs.Ytpbnijmnplfgmaa
open Go.RowKit

set_option maxHeartbeats 1000000 in
set_option maxRecDepth 100000 in
theorem solveW_fff (Rm L I T A Mn Mx : Int) (w : World) :
    Calls Try.prog 23 #[.agg #[.int .i64 Rm, .int .i64 L, .int .i64 I, .int .i64 T, .int .i64 A, .int .i64 Mn, .int .i64 Mx, .bool false, .bool false, .bool false]] w
      fun e w' => e = .returned (.tuple #[.int .i64 (widthN (heldN Rm) (heldN L) (heldN I) (heldN T) (heldN A) (heldN Mn) (heldN Mx) false false false).1, .int .i64 (widthN (heldN Rm) (heldN L) (heldN I) (heldN T) (heldN A) (heldN Mn) (heldN Mx) false false false).2.1, .int .i64 (widthN (heldN Rm) (heldN L) (heldN I) (heldN T) (heldN A) (heldN Mn) (heldN Mx) false false false).2.2]) ∧ Below w.heap.size w w' := by
  obtain ⟨bR1, bR2⟩ := heldN_bd Rm
  obtain ⟨bL1, bL2⟩ := heldN_bd L
  obtain ⟨bI1, bI2⟩ := heldN_bd I
  obtain ⟨bT1, bT2⟩ := heldN_bd T
  obtain ⟨bA1, bA2⟩ := heldN_bd A
  obtain ⟨bN1, bN2⟩ := heldN_bd Mn
  obtain ⟨bX1, bX2⟩ := heldN_bd Mx
  go_enter Try.func23, Try.ntmps23
  go_wp2_with fail
  refine (hold_pre [(⟨w.heap.size, 0, none⟩, Rm), (⟨w.heap.size, 1, none⟩, L), (⟨w.heap.size, 2, none⟩, I), (⟨w.heap.size, 3, none⟩, T), (⟨w.heap.size, 4, none⟩, A), (⟨w.heap.size, 5, none⟩, Mn), (⟨w.heap.size, 6, none⟩, Mx)] _ _ _ _ rfl (by simp) (by simp [HoldPre, go_sem])).mono ?_
  rintro e w' ⟨rfl, rfl⟩
  simp only [holdAll]
  go_wp2
  all_goals
    (try go_quiet (fail))
    (try go_wp2)
    go_returns
    refine ⟨ret_int3 ?_ ?_ ?_, by first | exact below_drewN (by go_grown) _ | go_grown⟩ <;> simp only [widthN, z, takeN, bndV, bnd1, bndB] <;> simp <;> (repeat' split) <;> first | omega | (dsimp only; done) | (dsimp only; omega)

set_option maxHeartbeats 1000000 in
set_option maxRecDepth 100000 in
theorem solveW_fft (Rm L I T A Mn Mx : Int) (w : World) :
    Calls Try.prog 23 #[.agg #[.int .i64 Rm, .int .i64 L, .int .i64 I, .int .i64 T, .int .i64 A, .int .i64 Mn, .int .i64 Mx, .bool false, .bool false, .bool true]] w
      fun e w' => e = .returned (.tuple #[.int .i64 (widthN (heldN Rm) (heldN L) (heldN I) (heldN T) (heldN A) (heldN Mn) (heldN Mx) false false true).1, .int .i64 (widthN (heldN Rm) (heldN L) (heldN I) (heldN T) (heldN A) (heldN Mn) (heldN Mx) false false true).2.1, .int .i64 (widthN (heldN Rm) (heldN L) (heldN I) (heldN T) (heldN A) (heldN Mn) (heldN Mx) false false true).2.2]) ∧ Below w.heap.size w w' := by
  obtain ⟨bR1, bR2⟩ := heldN_bd Rm
  obtain ⟨bL1, bL2⟩ := heldN_bd L
  obtain ⟨bI1, bI2⟩ := heldN_bd I
  obtain ⟨bT1, bT2⟩ := heldN_bd T
  obtain ⟨bA1, bA2⟩ := heldN_bd A
  obtain ⟨bN1, bN2⟩ := heldN_bd Mn
  obtain ⟨bX1, bX2⟩ := heldN_bd Mx
  go_enter Try.func23, Try.ntmps23
  go_wp2_with fail
  refine (hold_pre [(⟨w.heap.size, 0, none⟩, Rm), (⟨w.heap.size, 1, none⟩, L), (⟨w.heap.size, 2, none⟩, I), (⟨w.heap.size, 3, none⟩, T), (⟨w.heap.size, 4, none⟩, A), (⟨w.heap.size, 5, none⟩, Mn), (⟨w.heap.size, 6, none⟩, Mx)] _ _ _ _ rfl (by simp) (by simp [HoldPre, go_sem])).mono ?_
  rintro e w' ⟨rfl, rfl⟩
  simp only [holdAll]
  go_wp2
  all_goals
    (try go_quiet (fail))
    (try go_wp2)
    go_returns
    refine ⟨ret_int3 ?_ ?_ ?_, by first | exact below_drewN (by go_grown) _ | go_grown⟩ <;> simp only [widthN, z, takeN, bndV, bnd1, bndB] <;> simp <;> (repeat' split) <;> first | omega | (dsimp only; done) | (dsimp only; omega)

end Go.Proofs.Ytpbnijmnplfgmaa
