/-
  DERIVED. GIVEN WITH THE SEED: THE PROGRAM's TIES (one call each: nine closed facts by the kernel) AND EACH ROW's TIE, after the 31st guide's Derived/Test/Toyas{Tie, Card}.lean. No idea stands in it: it is a product of the set-up. Laid BY PROGRAM, IN A SANDBOX (cutbox-door.mjs). By AI agents, Wed Nov 11 2026. No macro, syntax, notation, axiom, sorry.
-/
import Derived.Test.YtlfepdecgfcifaaDoorRows
import Derived.LaidByTextLater
import Derived.SevenTiedAt
import Derived.LaidSub
import Derived.LaidOnce
namespace Go.Proofs.YtlfepdecgfcifaaDoor
open Go
set_option maxRecDepth 100000
theorem seatTie1 : Tryd.prog.laidByTextLater [("casement/api.ErrBound", Rows.laid_casement_api_ErrBound), ("casement/api.ErrName", Rows.laid_casement_api_ErrName), ("casement/api.ErrNode", Rows.laid_casement_api_ErrNode), ("casement/api.ErrPlace", Rows.laid_casement_api_ErrPlace)] [.sentinel, .sentinel, .sentinel, .sentinel] true :=
  Program.laidByTextLater_by_one 85 8 2 (by kernel_rfl) (by kernel_rfl) (by kernel_rfl) (by kernel_rfl) (by kernel_rfl) (by kernel_rfl) (fun _ _ => by kernel_rfl)
theorem noOwnUnsafe : Tryd.pinned.checked.prog.headLifts.contains "ownunsafe" = false := by kernel_rfl
theorem tie : Tryd.prog.laidByTextLater [("casement/api.ErrBound", Rows.laid_casement_api_ErrBound), ("casement/api.ErrName", Rows.laid_casement_api_ErrName), ("casement/api.ErrNode", Rows.laid_casement_api_ErrNode), ("casement/api.ErrPlace", Rows.laid_casement_api_ErrPlace)] [.sentinel, .sentinel, .sentinel, .sentinel] true :=
  Program.laidByTextLater.sub seatTie1 ["casement/api.ErrBound", "casement/api.ErrName", "casement/api.ErrNode", "casement/api.ErrPlace"] (by kernel_rfl) (by kernel_rfl)
theorem eventsSent_row_tie : Rows.eventsSentRow.laidByTextAt .later Tryd.pinned [.sentinel, .sentinel, .sentinel, .sentinel] true :=
  OpenClaim.laidByTextAt_later rfl rfl tie noOwnUnsafe
theorem eventsSentUpto_row_tie : Rows.eventsSentUptoRow.laidByTextAt .later Tryd.pinned [.sentinel, .sentinel, .sentinel, .sentinel] true :=
  OpenClaim.laidByTextAt_later rfl rfl tie noOwnUnsafe
end Go.Proofs.YtlfepdecgfcifaaDoor
