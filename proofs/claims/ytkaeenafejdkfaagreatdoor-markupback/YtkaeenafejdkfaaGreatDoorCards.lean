/-
  DERIVED. GIVEN WITH THE SEED: THE CARDS: each row of YtkaeenafejdkfaaGreatDoorRows.lean that lists a variable, with what it lists TIED to the program's text (the seventh form; the later family's looks); each row that meets fmt, with fmt's text TOLD by the authors' own Lean function (tested against real Go, not proved from fmt's source: count such statements apart). THE CARD IS WHAT COUNTS. Prove the row's statement (the work); the ties are given (YtkaeenafejdkfaaGreatDoorTie.lean); close each card by the builder's one call (the guide's Derived/Test/ToyasCard.lean, 'card_holds'). Laid BY PROGRAM, IN A SANDBOX (cutbox-door.mjs). By AI agents, Wed Nov 11 2026. No macro, syntax, notation, axiom, sorry.
-/
import Derived.Test.YtkaeenafejdkfaaGreatDoorRows
import GoSem.ClaimSeven
namespace Go.Proofs.YtkaeenafejdkfaaGreatDoor
namespace Rows

/-- THE TIED CARD OF 'casementlaw1.MarkupRead'. -/
def markupReadCard : Claim7 := { stood := { row := markupReadRow, standIns := [], harness := (true, "9a8383839f4bb7ec8d1d71ddf175b55fe8a7918933b0536befb80115187dff9d"), looks := true }, kinds := [], alts := [], laidByText := true, laidKinds := [.handle, .sentinel, .sentinel, .sentinel, .sentinel, .sentinel, .sentinel, .sentinel], laidTests := true, laidLooks := .later }
def MarkupReadCardSaid : Prop := Claim7.holds Tryz.pinned (.plain (OpenSpec.ofChange markupReadSpec)) markupReadCard

/-- THE TIED CARD OF 'casementlaw1.MarkupBack'. -/
def markupBackCard : Claim7 := { stood := { row := markupBackRow, standIns := [], harness := (true, "9a8383839f4bb7ec8d1d71ddf175b55fe8a7918933b0536befb80115187dff9d"), looks := true }, kinds := [], alts := [], laidByText := true, laidKinds := [.sentinel, .sentinel, .sentinel, .sentinel, .sentinel], laidTests := true, laidLooks := .later }
def MarkupBackCardSaid : Prop := Claim7.holds Tryz.pinned (.plain (OpenSpec.ofChange markupBackSpec)) markupBackCard

/-- THE TIED CARD OF 'casementlaw1.MarkupWrites'. -/
def markupWritesCard : Claim7 := { stood := { row := markupWritesRow, standIns := [], harness := (true, "9a8383839f4bb7ec8d1d71ddf175b55fe8a7918933b0536befb80115187dff9d"), looks := true }, kinds := [], alts := [], laidByText := true, laidKinds := [.handle, .sentinel, .sentinel, .sentinel, .sentinel, .sentinel, .sentinel, .sentinel], laidTests := true, laidLooks := .later }
def MarkupWritesCardSaid : Prop := Claim7.holds Tryz.pinned (.plain (OpenSpec.ofChange markupWritesSpec)) markupWritesCard

/-- THE SECOND FORM's CARD OF 'casementlaw1.MarkupRead'. -/
def markupReadUptoCard : Claim7 := { stood := { row := markupReadUptoRow, standIns := [], harness := (true, "9a8383839f4bb7ec8d1d71ddf175b55fe8a7918933b0536befb80115187dff9d"), looks := true }, kinds := [], alts := [], laidByText := true, laidKinds := [.handle, .sentinel, .sentinel, .sentinel, .sentinel, .sentinel, .sentinel, .sentinel], laidTests := true, laidLooks := .later }
def MarkupReadUptoCardSaid : Prop := Claim7.holds Tryz.pinned (.plain (OpenSpec.upto markupReadSpec)) markupReadUptoCard

/-- THE SECOND FORM's CARD OF 'casementlaw1.MarkupBack'. -/
def markupBackUptoCard : Claim7 := { stood := { row := markupBackUptoRow, standIns := [], harness := (true, "9a8383839f4bb7ec8d1d71ddf175b55fe8a7918933b0536befb80115187dff9d"), looks := true }, kinds := [], alts := [], laidByText := true, laidKinds := [.sentinel, .sentinel, .sentinel, .sentinel, .sentinel], laidTests := true, laidLooks := .later }
def MarkupBackUptoCardSaid : Prop := Claim7.holds Tryz.pinned (.plain (OpenSpec.upto markupBackSpec)) markupBackUptoCard

/-- THE SECOND FORM's CARD OF 'casementlaw1.MarkupWrites'. -/
def markupWritesUptoCard : Claim7 := { stood := { row := markupWritesUptoRow, standIns := [], harness := (true, "9a8383839f4bb7ec8d1d71ddf175b55fe8a7918933b0536befb80115187dff9d"), looks := true }, kinds := [], alts := [], laidByText := true, laidKinds := [.handle, .sentinel, .sentinel, .sentinel, .sentinel, .sentinel, .sentinel, .sentinel], laidTests := true, laidLooks := .later }
def MarkupWritesUptoCardSaid : Prop := Claim7.holds Tryz.pinned (.plain (OpenSpec.upto markupWritesSpec)) markupWritesUptoCard
end Rows
end Go.Proofs.YtkaeenafejdkfaaGreatDoor
