/- The document's widths: where the left margin is auto. -/
import Derived.Test.YtpbnijmnplfgmaaFWRef0
import Derived.Deep.QuietTactic
import Derived.BigQuiet
namespace Go.Proofs.Ytpbnijmnplfgmaa
open Go.RowKit

set_option maxHeartbeats 1000000 in
set_option maxRecDepth 100000 in
theorem solveWidth_tff (Rm L I T A Mn Mx : Int) (w : World) :
    Calls Try.prog 24 #[.agg #[.int .i64 Rm, .int .i64 L, .int .i64 I, .int .i64 T, .int .i64 A, .int .i64 Mn, .int .i64 Mx, .bool true, .bool false, .bool false]] w
      fun e w' => e = .returned (.tuple #[.int .i64 (widthN (heldN Rm) (heldN L) (heldN I) (heldN T) (heldN A) (heldN Mn) (heldN Mx) true false false).1, .int .i64 (widthN (heldN Rm) (heldN L) (heldN I) (heldN T) (heldN A) (heldN Mn) (heldN Mx) true false false).2.1, .int .i64 (widthN (heldN Rm) (heldN L) (heldN I) (heldN T) (heldN A) (heldN Mn) (heldN Mx) true false false).2.2]) ∧ Below w.heap.size w w' := by
  obtain ⟨bR1, bR2⟩ := heldN_bd Rm
  obtain ⟨bL1, bL2⟩ := heldN_bd L
  obtain ⟨bI1, bI2⟩ := heldN_bd I
  obtain ⟨bT1, bT2⟩ := heldN_bd T
  obtain ⟨bA1, bA2⟩ := heldN_bd A
  obtain ⟨bN1, bN2⟩ := heldN_bd Mn
  obtain ⟨bX1, bX2⟩ := heldN_bd Mx
  go_enter Try.func24, Try.ntmps24
  go_wp2_with (first | (go_at_call 11; refine (held_any _ _).mono ?_; rintro e w' ⟨rfl, rfl⟩) | (go_at_call 37; refine (most_any _ _ _).mono ?_; rintro e w' ⟨rfl, rfl⟩) | (go_at_call 45; refine (down2_any _ (by omega) (by omega) _).mono ?_; rintro e w' ⟨rfl, rfl⟩))
  all_goals
    (try go_quiet (fail))
    (try go_wp2)
    go_returns
    refine ⟨ret_int3 ?_ ?_ ?_, by first | exact below_drewN (by go_grown) _ | go_grown⟩ <;> simp only [widthN, z, takeN, bndV, bnd1, bndB] <;> simp <;> (repeat' split) <;> first | omega | (dsimp only; done) | (dsimp only; omega)

set_option maxHeartbeats 1000000 in
set_option maxRecDepth 100000 in
theorem solveWidth_tft (Rm L I T A Mn Mx : Int) (w : World) :
    Calls Try.prog 24 #[.agg #[.int .i64 Rm, .int .i64 L, .int .i64 I, .int .i64 T, .int .i64 A, .int .i64 Mn, .int .i64 Mx, .bool true, .bool false, .bool true]] w
      fun e w' => e = .returned (.tuple #[.int .i64 (widthN (heldN Rm) (heldN L) (heldN I) (heldN T) (heldN A) (heldN Mn) (heldN Mx) true false true).1, .int .i64 (widthN (heldN Rm) (heldN L) (heldN I) (heldN T) (heldN A) (heldN Mn) (heldN Mx) true false true).2.1, .int .i64 (widthN (heldN Rm) (heldN L) (heldN I) (heldN T) (heldN A) (heldN Mn) (heldN Mx) true false true).2.2]) ∧ Below w.heap.size w w' := by
  obtain ⟨bR1, bR2⟩ := heldN_bd Rm
  obtain ⟨bL1, bL2⟩ := heldN_bd L
  obtain ⟨bI1, bI2⟩ := heldN_bd I
  obtain ⟨bT1, bT2⟩ := heldN_bd T
  obtain ⟨bA1, bA2⟩ := heldN_bd A
  obtain ⟨bN1, bN2⟩ := heldN_bd Mn
  obtain ⟨bX1, bX2⟩ := heldN_bd Mx
  go_enter Try.func24, Try.ntmps24
  go_wp2_with (first | (go_at_call 11; refine (held_any _ _).mono ?_; rintro e w' ⟨rfl, rfl⟩) | (go_at_call 37; refine (most_any _ _ _).mono ?_; rintro e w' ⟨rfl, rfl⟩) | (go_at_call 45; refine (down2_any _ (by omega) (by omega) _).mono ?_; rintro e w' ⟨rfl, rfl⟩))
  all_goals
    (try go_quiet (fail))
    (try go_wp2)
    go_returns
    refine ⟨ret_int3 ?_ ?_ ?_, by first | exact below_drewN (by go_grown) _ | go_grown⟩ <;> simp only [widthN, z, takeN, bndV, bnd1, bndB] <;> simp <;> (repeat' split) <;> first | omega | (dsimp only; done) | (dsimp only; omega)

set_option maxHeartbeats 1000000 in
set_option maxRecDepth 100000 in
theorem solveWidth_ttf (Rm L I T A Mn Mx : Int) (w : World) :
    Calls Try.prog 24 #[.agg #[.int .i64 Rm, .int .i64 L, .int .i64 I, .int .i64 T, .int .i64 A, .int .i64 Mn, .int .i64 Mx, .bool true, .bool true, .bool false]] w
      fun e w' => e = .returned (.tuple #[.int .i64 (widthN (heldN Rm) (heldN L) (heldN I) (heldN T) (heldN A) (heldN Mn) (heldN Mx) true true false).1, .int .i64 (widthN (heldN Rm) (heldN L) (heldN I) (heldN T) (heldN A) (heldN Mn) (heldN Mx) true true false).2.1, .int .i64 (widthN (heldN Rm) (heldN L) (heldN I) (heldN T) (heldN A) (heldN Mn) (heldN Mx) true true false).2.2]) ∧ Below w.heap.size w w' := by
  obtain ⟨bR1, bR2⟩ := heldN_bd Rm
  obtain ⟨bL1, bL2⟩ := heldN_bd L
  obtain ⟨bI1, bI2⟩ := heldN_bd I
  obtain ⟨bT1, bT2⟩ := heldN_bd T
  obtain ⟨bA1, bA2⟩ := heldN_bd A
  obtain ⟨bN1, bN2⟩ := heldN_bd Mn
  obtain ⟨bX1, bX2⟩ := heldN_bd Mx
  go_enter Try.func24, Try.ntmps24
  go_wp2_with (first | (go_at_call 11; refine (held_any _ _).mono ?_; rintro e w' ⟨rfl, rfl⟩) | (go_at_call 37; refine (most_any _ _ _).mono ?_; rintro e w' ⟨rfl, rfl⟩) | (go_at_call 45; refine (down2_any _ (by omega) (by omega) _).mono ?_; rintro e w' ⟨rfl, rfl⟩))
  all_goals
    (try go_quiet (fail))
    (try go_wp2)
    go_returns
    refine ⟨ret_int3 ?_ ?_ ?_, by first | exact below_drewN (by go_grown) _ | go_grown⟩ <;> simp only [widthN, z, takeN, bndV, bnd1, bndB] <;> simp <;> (repeat' split) <;> first | omega | (dsimp only; done) | (dsimp only; omega)

set_option maxHeartbeats 1000000 in
set_option maxRecDepth 100000 in
theorem solveWidth_ttt (Rm L I T A Mn Mx : Int) (w : World) :
    Calls Try.prog 24 #[.agg #[.int .i64 Rm, .int .i64 L, .int .i64 I, .int .i64 T, .int .i64 A, .int .i64 Mn, .int .i64 Mx, .bool true, .bool true, .bool true]] w
      fun e w' => e = .returned (.tuple #[.int .i64 (widthN (heldN Rm) (heldN L) (heldN I) (heldN T) (heldN A) (heldN Mn) (heldN Mx) true true true).1, .int .i64 (widthN (heldN Rm) (heldN L) (heldN I) (heldN T) (heldN A) (heldN Mn) (heldN Mx) true true true).2.1, .int .i64 (widthN (heldN Rm) (heldN L) (heldN I) (heldN T) (heldN A) (heldN Mn) (heldN Mx) true true true).2.2]) ∧ Below w.heap.size w w' := by
  obtain ⟨bR1, bR2⟩ := heldN_bd Rm
  obtain ⟨bL1, bL2⟩ := heldN_bd L
  obtain ⟨bI1, bI2⟩ := heldN_bd I
  obtain ⟨bT1, bT2⟩ := heldN_bd T
  obtain ⟨bA1, bA2⟩ := heldN_bd A
  obtain ⟨bN1, bN2⟩ := heldN_bd Mn
  obtain ⟨bX1, bX2⟩ := heldN_bd Mx
  go_enter Try.func24, Try.ntmps24
  go_wp2_with (first | (go_at_call 11; refine (held_any _ _).mono ?_; rintro e w' ⟨rfl, rfl⟩) | (go_at_call 37; refine (most_any _ _ _).mono ?_; rintro e w' ⟨rfl, rfl⟩) | (go_at_call 45; refine (down2_any _ (by omega) (by omega) _).mono ?_; rintro e w' ⟨rfl, rfl⟩))
  all_goals
    (try go_quiet (fail))
    (try go_wp2)
    go_returns
    refine ⟨ret_int3 ?_ ?_ ?_, by first | exact below_drewN (by go_grown) _ | go_grown⟩ <;> simp only [widthN, z, takeN, bndV, bnd1, bndB] <;> simp <;> (repeat' split) <;> first | omega | (dsimp only; done) | (dsimp only; omega)

end Go.Proofs.Ytpbnijmnplfgmaa
