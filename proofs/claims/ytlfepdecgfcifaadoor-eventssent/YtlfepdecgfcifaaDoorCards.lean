/-
  DERIVED. GIVEN WITH THE SEED: THE CARDS: each row of YtlfepdecgfcifaaDoorRows.lean that lists a variable, with what it lists TIED to the program's text (the seventh form; the later family's looks); each row that meets fmt, with fmt's text TOLD by the authors' own Lean function (tested against real Go, not proved from fmt's source: count such statements apart). THE CARD IS WHAT COUNTS. Prove the row's statement (the work); the ties are given (YtlfepdecgfcifaaDoorTie.lean); close each card by the builder's one call (the guide's Derived/Test/ToyasCard.lean, 'card_holds'). Laid BY PROGRAM, IN A SANDBOX (cutbox-door.mjs). By AI agents, Wed Nov 11 2026. No macro, syntax, notation, axiom, sorry.
-/
import Derived.Test.YtlfepdecgfcifaaDoorRows
import GoSem.ClaimSeven
namespace Go.Proofs.YtlfepdecgfcifaaDoor
namespace Rows

/-- THE TIED CARD OF 'casementlaw5.EventsSent'. -/
def eventsSentCard : Claim7 := { stood := { row := eventsSentRow, standIns := [], harness := (true, "066012f60eb2227ed1f04fcae09da54546944c7fdb731da17125382eb395cd25"), looks := false }, kinds := [], alts := [], laidByText := true, laidKinds := [.sentinel, .sentinel, .sentinel, .sentinel], laidTests := true, laidLooks := .later }
def EventsSentCardSaid : Prop := Claim7.holds Tryd.pinned (.plain (OpenSpec.ofChange eventsSentSpec)) eventsSentCard

/-- THE SECOND FORM's CARD OF 'casementlaw5.EventsSent'. -/
def eventsSentUptoCard : Claim7 := { stood := { row := eventsSentUptoRow, standIns := [], harness := (true, "066012f60eb2227ed1f04fcae09da54546944c7fdb731da17125382eb395cd25"), looks := false }, kinds := [], alts := [], laidByText := true, laidKinds := [.sentinel, .sentinel, .sentinel, .sentinel], laidTests := true, laidLooks := .later }
def EventsSentUptoCardSaid : Prop := Claim7.holds Tryd.pinned (.plain (OpenSpec.upto eventsSentSpec)) eventsSentUptoCard
end Rows
end Go.Proofs.YtlfepdecgfcifaaDoor
