/-
  DERIVED. GIVEN WITH THE SEED: THE CARDS: each row of YtiikjflaonhfdaaDoorRows.lean that lists a variable, with what it lists TIED to the program's text (the seventh form; the later family's looks); each row that meets fmt, with fmt's text TOLD by the authors' own Lean function (tested against real Go, not proved from fmt's source: count such statements apart). THE CARD IS WHAT COUNTS. Prove the row's statement (the work); the ties are given (YtiikjflaonhfdaaDoorTie.lean); close each card by the builder's one call (the guide's Derived/Test/ToyasCard.lean, 'card_holds'). Laid BY PROGRAM, IN A SANDBOX (cutbox-door.mjs). By AI agents, Wed Nov 11 2026. No macro, syntax, notation, axiom, sorry.
-/
import Derived.Test.YtiikjflaonhfdaaDoorRows
import GoSem.ClaimSeven
namespace Go.Proofs.YtiikjflaonhfdaaDoor
namespace Rows

/-- THE TIED CARD OF 'casementlaw1.Names'. -/
def namesCard : Claim7 := { stood := { row := namesRow, standIns := [], harness := (true, "a3a6db3a52d974caf590597ccd993eaf5ad1b9cf6d076d1e6d46bea0f92b3419"), looks := true }, kinds := [], alts := [], laidByText := true, laidKinds := [.handle, .sentinel, .sentinel, .sentinel, .sentinel, .sentinel, .sentinel, .sentinel], laidTests := true, laidLooks := .later }
def NamesCardSaid : Prop := Claim7.holds Tryd.pinned (.plain (OpenSpec.ofChange namesSpec)) namesCard

/-- THE TIED CARD OF 'casementlaw1.TreeUndoes'. -/
def treeUndoesCard : Claim7 := { stood := { row := treeUndoesRow, standIns := [], harness := (true, "a3a6db3a52d974caf590597ccd993eaf5ad1b9cf6d076d1e6d46bea0f92b3419"), looks := true }, kinds := [], alts := [], laidByText := true, laidKinds := [.sentinel, .sentinel, .sentinel, .sentinel], laidTests := true, laidLooks := .later }
def TreeUndoesCardSaid : Prop := Claim7.holds Tryd.pinned (.plain (OpenSpec.ofChange treeUndoesSpec)) treeUndoesCard

/-- THE SECOND FORM's CARD OF 'casementlaw1.Names'. -/
def namesUptoCard : Claim7 := { stood := { row := namesUptoRow, standIns := [], harness := (true, "a3a6db3a52d974caf590597ccd993eaf5ad1b9cf6d076d1e6d46bea0f92b3419"), looks := true }, kinds := [], alts := [], laidByText := true, laidKinds := [.handle, .sentinel, .sentinel, .sentinel, .sentinel, .sentinel, .sentinel, .sentinel], laidTests := true, laidLooks := .later }
def NamesUptoCardSaid : Prop := Claim7.holds Tryd.pinned (.plain (OpenSpec.upto namesSpec)) namesUptoCard

/-- THE SECOND FORM's CARD OF 'casementlaw1.TreeUndoes'. -/
def treeUndoesUptoCard : Claim7 := { stood := { row := treeUndoesUptoRow, standIns := [], harness := (true, "a3a6db3a52d974caf590597ccd993eaf5ad1b9cf6d076d1e6d46bea0f92b3419"), looks := true }, kinds := [], alts := [], laidByText := true, laidKinds := [.sentinel, .sentinel, .sentinel, .sentinel], laidTests := true, laidLooks := .later }
def TreeUndoesUptoCardSaid : Prop := Claim7.holds Tryd.pinned (.plain (OpenSpec.upto treeUndoesSpec)) treeUndoesUptoCard
end Rows
end Go.Proofs.YtiikjflaonhfdaaDoor
