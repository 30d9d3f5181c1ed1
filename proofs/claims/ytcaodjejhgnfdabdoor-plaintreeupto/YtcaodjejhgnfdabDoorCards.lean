/-
  DERIVED. GIVEN WITH THE SEED: THE CARDS: each row of YtcaodjejhgnfdabDoorRows.lean that lists a variable, with what it lists TIED to the program's text (the seventh form; the later family's looks); each row that meets fmt, with fmt's text TOLD by the authors' own Lean function (tested against real Go, not proved from fmt's source: count such statements apart). THE CARD IS WHAT COUNTS. Prove the row's statement (the work); the ties are given (YtcaodjejhgnfdabDoorTie.lean); close each card by the builder's one call (the guide's Derived/Test/ToyasCard.lean, 'card_holds'). Laid BY PROGRAM, IN A SANDBOX (cutbox-door.mjs). By AI agents, Wed Nov 11 2026. No macro, syntax, notation, axiom, sorry.
-/
import Derived.Test.YtcaodjejhgnfdabDoorRows
import GoSem.ClaimSeven
namespace Go.Proofs.YtcaodjejhgnfdabDoor
namespace Rows

/-- THE TIED CARD OF 'casementlaw1.TreeOrders'. -/
def treeOrdersCard : Claim7 := { stood := { row := treeOrdersRow, standIns := [], harness := (true, "17e045603ffb5057f8b8f2b925795ed8b5f571ef134fe50ff63093c7681d8878"), looks := false }, kinds := [], alts := [], laidByText := true, laidKinds := [.sentinel, .sentinel, .sentinel, .sentinel], laidTests := true, laidLooks := .later }
def TreeOrdersCardSaid : Prop := Claim7.holds Tryd.pinned (.plain (OpenSpec.ofChange treeOrdersSpec)) treeOrdersCard

/-- THE TIED CARD OF 'casementlaw1.PlainTree'. -/
def plainTreeCard : Claim7 := { stood := { row := plainTreeRow, standIns := [], harness := (true, "17e045603ffb5057f8b8f2b925795ed8b5f571ef134fe50ff63093c7681d8878"), looks := false }, kinds := [], alts := [], laidByText := true, laidKinds := [.sentinel, .sentinel, .sentinel, .sentinel], laidTests := true, laidLooks := .later }
def PlainTreeCardSaid : Prop := Claim7.holds Tryd.pinned (.plain (OpenSpec.ofChange plainTreeSpec)) plainTreeCard

/-- THE SECOND FORM's CARD OF 'casementlaw1.TreeOrders'. -/
def treeOrdersUptoCard : Claim7 := { stood := { row := treeOrdersUptoRow, standIns := [], harness := (true, "17e045603ffb5057f8b8f2b925795ed8b5f571ef134fe50ff63093c7681d8878"), looks := false }, kinds := [], alts := [], laidByText := true, laidKinds := [.sentinel, .sentinel, .sentinel, .sentinel], laidTests := true, laidLooks := .later }
def TreeOrdersUptoCardSaid : Prop := Claim7.holds Tryd.pinned (.plain (OpenSpec.upto treeOrdersSpec)) treeOrdersUptoCard

/-- THE SECOND FORM's CARD OF 'casementlaw1.PlainTree'. -/
def plainTreeUptoCard : Claim7 := { stood := { row := plainTreeUptoRow, standIns := [], harness := (true, "17e045603ffb5057f8b8f2b925795ed8b5f571ef134fe50ff63093c7681d8878"), looks := false }, kinds := [], alts := [], laidByText := true, laidKinds := [.sentinel, .sentinel, .sentinel, .sentinel], laidTests := true, laidLooks := .later }
def PlainTreeUptoCardSaid : Prop := Claim7.holds Tryd.pinned (.plain (OpenSpec.upto plainTreeSpec)) plainTreeUptoCard
end Rows
end Go.Proofs.YtcaodjejhgnfdabDoor
