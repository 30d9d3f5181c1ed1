/-
  DERIVED. GIVEN WITH THE SEED: THE CARDS: each row of YtlfepdecgfcifaaGreatDoorRows.lean that lists a variable, with what it lists TIED to the program's text (the seventh form; the later family's looks); each row that meets fmt, with fmt's text TOLD by the authors' own Lean function (tested against real Go, not proved from fmt's source: count such statements apart). THE CARD IS WHAT COUNTS. Prove the row's statement (the work); the ties are given (YtlfepdecgfcifaaGreatDoorTie.lean); close each card by the builder's one call (the guide's Derived/Test/ToyasCard.lean, 'card_holds'). Laid BY PROGRAM, IN A SANDBOX (cutbox-door.mjs). By AI agents, Wed Nov 11 2026. No macro, syntax, notation, axiom, sorry.
-/
import Derived.Test.YtlfepdecgfcifaaGreatDoorRows
import GoSem.ClaimSeven
namespace Go.Proofs.YtlfepdecgfcifaaGreatDoor
namespace Rows

/-- THE TIED CARD OF 'casementlaw5.EventsFocus'. -/
def eventsFocusCard : Claim7 := { stood := { row := eventsFocusRow, standIns := [], harness := (true, "2765d146d4fba01beea4b5cd6f7dbef7fde5b73a12e234a3508d2eb7be2bade5"), looks := true }, kinds := [], alts := [], laidByText := true, laidKinds := [.data, .data, .data, .data, .sentinel, .sentinel, .sentinel, .sentinel, .sentinel, .sentinel, .pinned], laidTests := true, laidLooks := .later }
def EventsFocusCardSaid : Prop := Claim7.holds Tryz.pinned (.plain (OpenSpec.ofChange eventsFocusSpec)) eventsFocusCard

/-- THE TIED CARD OF 'casementlaw5.EventsRound'. -/
def eventsRoundCard : Claim7 := { stood := { row := eventsRoundRow, standIns := [], harness := (true, "2765d146d4fba01beea4b5cd6f7dbef7fde5b73a12e234a3508d2eb7be2bade5"), looks := true }, kinds := [], alts := [], laidByText := true, laidKinds := [.data, .data, .data, .data, .sentinel, .sentinel, .sentinel, .sentinel, .sentinel, .sentinel, .pinned], laidTests := true, laidLooks := .later }
def EventsRoundCardSaid : Prop := Claim7.holds Tryz.pinned (.plain (OpenSpec.ofChange eventsRoundSpec)) eventsRoundCard

/-- THE SECOND FORM's CARD OF 'casementlaw5.EventsFocus'. -/
def eventsFocusUptoCard : Claim7 := { stood := { row := eventsFocusUptoRow, standIns := [], harness := (true, "2765d146d4fba01beea4b5cd6f7dbef7fde5b73a12e234a3508d2eb7be2bade5"), looks := true }, kinds := [], alts := [], laidByText := true, laidKinds := [.data, .data, .data, .data, .sentinel, .sentinel, .sentinel, .sentinel, .sentinel, .sentinel, .pinned], laidTests := true, laidLooks := .later }
def EventsFocusUptoCardSaid : Prop := Claim7.holds Tryz.pinned (.plain (OpenSpec.upto eventsFocusSpec)) eventsFocusUptoCard

/-- THE SECOND FORM's CARD OF 'casementlaw5.EventsRound'. -/
def eventsRoundUptoCard : Claim7 := { stood := { row := eventsRoundUptoRow, standIns := [], harness := (true, "2765d146d4fba01beea4b5cd6f7dbef7fde5b73a12e234a3508d2eb7be2bade5"), looks := true }, kinds := [], alts := [], laidByText := true, laidKinds := [.data, .data, .data, .data, .sentinel, .sentinel, .sentinel, .sentinel, .sentinel, .sentinel, .pinned], laidTests := true, laidLooks := .later }
def EventsRoundUptoCardSaid : Prop := Claim7.holds Tryz.pinned (.plain (OpenSpec.upto eventsRoundSpec)) eventsRoundUptoCard
end Rows
end Go.Proofs.YtlfepdecgfcifaaGreatDoor
