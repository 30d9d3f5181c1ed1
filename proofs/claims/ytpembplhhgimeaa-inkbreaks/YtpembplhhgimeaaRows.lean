/-
  No cell of these rows narrows 'for every input' (looked for: loops, veiled, ifaces, maps, wideKeys, modest, calm, conditions, laid).
  DERIVED. THE GIVEN ROWS OF THIS SEAT. 3 by the template 'for every input the law returns true; each argument reads behind the call as it read before'; 0 by the template 'total and deterministic' (their statements: YtpembplhhgimeaaTotals.lean).
  GIVEN WITH THE SEED: the statements are not yours to turn. If you find one false, say at which input.
  Laid BY PROGRAM, IN A SANDBOX (cutbox-rows.mjs): the forced cells as the released guide's own fill.sh prints them over the translation c3a33b42b8b7abc1… (all of the seat's roots in one cut). By AI agents, Wed Nov 11 2026. No macro, syntax, notation, axiom, sorry.
-/
import Derived.Test.YtpembplhhgimeaaChecked
import GoSem.Claim
import GoSem.ClaimJoined
import GoSem.ClaimMapViews
import Derived.JoinedTies
import Derived.KernelRfl
namespace Go.Proofs.Ytpembplhhgimeaa
/- THE CELL 'sum', in the pinned program and in every row, IS THE sha256 OF THE DUMP (.gsa) THAT YtpembplhhgimeaaProg.lean LOADS. Nothing in Lean hashes anything: it is a label: what it is worth is what the hold of that sum in a sandbox is worth. -/
noncomputable def Try.pinned : Pinned := { name := "ytpembplhhgimeaa", sum := "c3a33b42b8b7abc1def85e5218e523ebff73ae780e63496923bc22954a52d0a0", checked := Try.checked }
namespace Rows
def none {H : Type} : Left H := { results := [], args := [] }

/-- 'casementlaw1.InkWidths': WHATEVER THE INPUT: true; the input reads as it did. -/
def inkWidthsSpec : ChangeSpec := { name := "inkWidths", fn := fun _ => fun
  | [d1, d2] => { results := [.lit (.bool true)], args := [d1, d2] }
  | _ => none }
def inkWidthsRow : OpenClaim := { program := "ytpembplhhgimeaa", sum := "c3a33b42b8b7abc1def85e5218e523ebff73ae780e63496923bc22954a52d0a0", func := "casement/casementlaw1.InkWidths", spec := "inkWidths", apart := false }
def InkWidthsSaid : Prop := inkWidthsRow.holds Try.pinned (OpenSpec.ofChange inkWidthsSpec)

/-- ITS FALSE NEIGHBOUR: 'it returns false'. Refute it at one input. -/
def inkWidthsWrong : ChangeSpec := { name := "inkWidths", fn := fun _ => fun
  | [d1, d2] => { results := [.lit (.bool false)], args := [d1, d2] }
  | _ => none }
def InkWidthsWrongFalsely : Prop := inkWidthsRow.holds Try.pinned (OpenSpec.ofChange inkWidthsWrong)

/-- 'casementlaw1.InkBreaks': WHATEVER THE INPUT: true; the input reads as it did. -/
def inkBreaksSpec : ChangeSpec := { name := "inkBreaks", fn := fun _ => fun
  | [d] => { results := [.lit (.bool true)], args := [d] }
  | _ => none }
def inkBreaksRow : OpenClaim := { program := "ytpembplhhgimeaa", sum := "c3a33b42b8b7abc1def85e5218e523ebff73ae780e63496923bc22954a52d0a0", func := "casement/casementlaw1.InkBreaks", spec := "inkBreaks", apart := false }
def InkBreaksSaid : Prop := inkBreaksRow.holds Try.pinned (OpenSpec.ofChange inkBreaksSpec)

/-- ITS FALSE NEIGHBOUR: 'it returns false'. Refute it at one input. -/
def inkBreaksWrong : ChangeSpec := { name := "inkBreaks", fn := fun _ => fun
  | [d] => { results := [.lit (.bool false)], args := [d] }
  | _ => none }
def InkBreaksWrongFalsely : Prop := inkBreaksRow.holds Try.pinned (OpenSpec.ofChange inkBreaksWrong)

/-- 'casementlaw1.InkParts': WHATEVER THE INPUT: true; the input reads as it did. -/
def inkPartsSpec : ChangeSpec := { name := "inkParts", fn := fun _ => fun
  | [d1, d2, d3] => { results := [.lit (.bool true)], args := [d1, d2, d3] }
  | _ => none }
def inkPartsRow : OpenClaim := { program := "ytpembplhhgimeaa", sum := "c3a33b42b8b7abc1def85e5218e523ebff73ae780e63496923bc22954a52d0a0", func := "casement/casementlaw1.InkParts", spec := "inkParts", apart := false }
def InkPartsSaid : Prop := inkPartsRow.holds Try.pinned (OpenSpec.ofChange inkPartsSpec)

/-- ITS FALSE NEIGHBOUR: 'it returns false'. Refute it at one input. -/
def inkPartsWrong : ChangeSpec := { name := "inkParts", fn := fun _ => fun
  | [d1, d2, d3] => { results := [.lit (.bool false)], args := [d1, d2, d3] }
  | _ => none }
def InkPartsWrongFalsely : Prop := inkPartsRow.holds Try.pinned (OpenSpec.ofChange inkPartsWrong)

/- THE SECOND FORM. 'bulk': how many values and letters a reading holds, each counted each time it is reached (what is shared counts as often as it is met; a slice's spare places count too). A statement '..UptoSaid' is the law's where the arguments, and the package variables that the reading takes, are together of bulk at most 1048576: NARROWER than '..Said'. Prove '..Said' where nothing that the law and all that it calls make is longer than what came in: it says more and counts as full. Else prove '..UptoSaid'. A law counts once. -/
mutual
def uptoBulk {H : Type} : DataW H → Nat
  | .lit (.string bytes) => bytes.length + 1
  | .lit _ => 1
  | .nil => 1
  | .ptr d => uptoBulk d + 1
  | .slice elems spare => uptoBulkAll elems + uptoBulkAll spare + 1
  | .agg parts => uptoBulkAll parts + 1
  | .iface _ d => uptoBulk d + 1
  | .map entries => uptoBulkEntries entries + 1
  | .held _ => 1
def uptoBulkAll {H : Type} : List (DataW H) → Nat
  | [] => 0
  | d :: r => uptoBulk d + uptoBulkAll r
def uptoBulkEntries {H : Type} : List (Lit × DataW H) → Nat
  | [] => 0
  | x :: r => uptoBulkEntry x + uptoBulkEntries r
def uptoBulkEntry {H : Type} : Lit × DataW H → Nat
  | (.string bytes, d) => bytes.length + uptoBulk d + 1
  | (_, d) => uptoBulk d + 1
 end
def uptoSmall : (H : Type) → List (DataW H) → Bool := fun _ ds => decide (uptoBulkAll ds ≤ 1048576)
def OpenSpec.upto (s : _root_.Go.ChangeSpec) : _root_.Go.OpenSpec := { _root_.Go.OpenSpec.ofChange s with cond := some uptoSmall }

/-- 'casementlaw1.InkWidths', WHERE WHAT IT READS IS OF BULK AT MOST 1048576: true; the input reads as it did. -/
def inkWidthsUptoRow : OpenClaim := { program := "ytpembplhhgimeaa", sum := "c3a33b42b8b7abc1def85e5218e523ebff73ae780e63496923bc22954a52d0a0", func := "casement/casementlaw1.InkWidths", spec := "inkWidths", apart := false, narrowed := true }
def InkWidthsUptoSaid : Prop := inkWidthsUptoRow.holds Try.pinned (OpenSpec.upto inkWidthsSpec)

/-- 'casementlaw1.InkBreaks', WHERE WHAT IT READS IS OF BULK AT MOST 1048576: true; the input reads as it did. -/
def inkBreaksUptoRow : OpenClaim := { program := "ytpembplhhgimeaa", sum := "c3a33b42b8b7abc1def85e5218e523ebff73ae780e63496923bc22954a52d0a0", func := "casement/casementlaw1.InkBreaks", spec := "inkBreaks", apart := false, narrowed := true }
def InkBreaksUptoSaid : Prop := inkBreaksUptoRow.holds Try.pinned (OpenSpec.upto inkBreaksSpec)

/-- 'casementlaw1.InkParts', WHERE WHAT IT READS IS OF BULK AT MOST 1048576: true; the input reads as it did. -/
def inkPartsUptoRow : OpenClaim := { program := "ytpembplhhgimeaa", sum := "c3a33b42b8b7abc1def85e5218e523ebff73ae780e63496923bc22954a52d0a0", func := "casement/casementlaw1.InkParts", spec := "inkParts", apart := false, narrowed := true }
def InkPartsUptoSaid : Prop := inkPartsUptoRow.holds Try.pinned (OpenSpec.upto inkPartsSpec)

end Rows
end Go.Proofs.Ytpembplhhgimeaa
