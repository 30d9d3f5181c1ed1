/-
  No cell of these rows narrows 'for every input' (looked for: loops, veiled, ifaces, maps, wideKeys, modest, calm, conditions, laid).
  DERIVED. THE GIVEN ROWS OF THIS SEAT. 2 by the template 'for every input the law returns true; each argument reads behind the call as it read before'; 0 by the template 'total and deterministic' (their statements: YthpffpgbmgnkcaaTotals.lean).
  GIVEN WITH THE SEED: the statements are not yours to turn. If you find one false, say at which input.
  Laid BY PROGRAM, IN A SANDBOX (cutbox-rows.mjs): the forced cells as the released guide's own fill.sh prints them over the translation acc7a981ad23f06e… (all of the seat's roots in one cut). By AI agents, Wed Nov 11 2026. No macro, syntax, notation, axiom, sorry.
-/
import Derived.Test.YthpffpgbmgnkcaaChecked
import GoSem.Claim
import GoSem.ClaimJoined
import GoSem.ClaimMapViews
import Derived.JoinedTies
import Derived.KernelRfl
namespace Go.Proofs.Ythpffpgbmgnkcaa
/- THE CELL 'sum', in the pinned program and in every row, IS THE sha256 OF THE DUMP (.gsa) THAT YthpffpgbmgnkcaaProg.lean LOADS. Nothing in Lean hashes anything: it is a label: what it is worth is what the hold of that sum in a sandbox is worth. -/
noncomputable def Try.pinned : Pinned := { name := "ythpffpgbmgnkcaa", sum := "acc7a981ad23f06e796ce836dc4d9cd595e5af958ea9f79183c36358318ef61a", checked := Try.checked }
namespace Rows
def none {H : Type} : Left H := { results := [], args := [] }

/-- 'casementlaw4.FlowsFloats': WHATEVER THE INPUT: true; the input reads as it did. -/
def flowsFloatsSpec : ChangeSpec := { name := "flowsFloats", fn := fun _ => fun
  | [d1, d2, d3, d4] => { results := [.lit (.bool true)], args := [d1, d2, d3, d4] }
  | _ => none }
def flowsFloatsRow : OpenClaim := { program := "ythpffpgbmgnkcaa", sum := "acc7a981ad23f06e796ce836dc4d9cd595e5af958ea9f79183c36358318ef61a", func := "casement/casementlaw4.FlowsFloats", spec := "flowsFloats", unfollowed := true, recurses := true, apart := false }
def FlowsFloatsSaid : Prop := flowsFloatsRow.holds Try.pinned (OpenSpec.ofChange flowsFloatsSpec)

/-- ITS FALSE NEIGHBOUR: 'it returns false'. Refute it at one input. -/
def flowsFloatsWrong : ChangeSpec := { name := "flowsFloats", fn := fun _ => fun
  | [d1, d2, d3, d4] => { results := [.lit (.bool false)], args := [d1, d2, d3, d4] }
  | _ => none }
def FlowsFloatsWrongFalsely : Prop := flowsFloatsRow.holds Try.pinned (OpenSpec.ofChange flowsFloatsWrong)

/-- 'casementlaw4.FlowsApart': WHATEVER THE INPUT: true; the input reads as it did. -/
def flowsApartSpec : ChangeSpec := { name := "flowsApart", fn := fun _ => fun
  | [d1, d2] => { results := [.lit (.bool true)], args := [d1, d2] }
  | _ => none }
def flowsApartRow : OpenClaim := { program := "ythpffpgbmgnkcaa", sum := "acc7a981ad23f06e796ce836dc4d9cd595e5af958ea9f79183c36358318ef61a", func := "casement/casementlaw4.FlowsApart", spec := "flowsApart", unfollowed := true, recurses := true, apart := false }
def FlowsApartSaid : Prop := flowsApartRow.holds Try.pinned (OpenSpec.ofChange flowsApartSpec)

/-- ITS FALSE NEIGHBOUR: 'it returns false'. Refute it at one input. -/
def flowsApartWrong : ChangeSpec := { name := "flowsApart", fn := fun _ => fun
  | [d1, d2] => { results := [.lit (.bool false)], args := [d1, d2] }
  | _ => none }
def FlowsApartWrongFalsely : Prop := flowsApartRow.holds Try.pinned (OpenSpec.ofChange flowsApartWrong)

/- THE SECOND FORM. 'bulk': how many values and letters a reading holds, each counted each time it is reached (what is shared counts as often as it is met; a slice's spare places count too). A statement '..UptoSaid' is the law's where the arguments, and the package variables that the reading takes, are together of bulk at most 1048576: NARROWER than '..Said'. Prove '..Said' where nothing that the law and all that it calls make is longer than what came in: it says more and counts as full. Else prove '..UptoSaid'. A law counts once. -/
mutual
def uptoBulk {H : Type} : DataW H → Nat
  | .lit (.string bytes) => bytes.length + 1
  | .lit _ => 1
  | .nil => 1
  | .ptr d => uptoBulk d + 1
  | .slice elems spare => uptoBulkAll elems + uptoBulkAll spare + 1
  | .agg parts => uptoBulkAll parts + 1
  | .iface _ d => uptoBulk d + 1
  | .map entries => uptoBulkEntries entries + 1
  | .held _ => 1
def uptoBulkAll {H : Type} : List (DataW H) → Nat
  | [] => 0
  | d :: r => uptoBulk d + uptoBulkAll r
def uptoBulkEntries {H : Type} : List (Lit × DataW H) → Nat
  | [] => 0
  | x :: r => uptoBulkEntry x + uptoBulkEntries r
def uptoBulkEntry {H : Type} : Lit × DataW H → Nat
  | (.string bytes, d) => bytes.length + uptoBulk d + 1
  | (_, d) => uptoBulk d + 1
 end
def uptoSmall : (H : Type) → List (DataW H) → Bool := fun _ ds => decide (uptoBulkAll ds ≤ 1048576)
def OpenSpec.upto (s : _root_.Go.ChangeSpec) : _root_.Go.OpenSpec := { _root_.Go.OpenSpec.ofChange s with cond := some uptoSmall }

/-- 'casementlaw4.FlowsFloats', WHERE WHAT IT READS IS OF BULK AT MOST 1048576: true; the input reads as it did. -/
def flowsFloatsUptoRow : OpenClaim := { program := "ythpffpgbmgnkcaa", sum := "acc7a981ad23f06e796ce836dc4d9cd595e5af958ea9f79183c36358318ef61a", func := "casement/casementlaw4.FlowsFloats", spec := "flowsFloats", unfollowed := true, recurses := true, apart := false, narrowed := true }
def FlowsFloatsUptoSaid : Prop := flowsFloatsUptoRow.holds Try.pinned (OpenSpec.upto flowsFloatsSpec)

/-- 'casementlaw4.FlowsApart', WHERE WHAT IT READS IS OF BULK AT MOST 1048576: true; the input reads as it did. -/
def flowsApartUptoRow : OpenClaim := { program := "ythpffpgbmgnkcaa", sum := "acc7a981ad23f06e796ce836dc4d9cd595e5af958ea9f79183c36358318ef61a", func := "casement/casementlaw4.FlowsApart", spec := "flowsApart", unfollowed := true, recurses := true, apart := false, narrowed := true }
def FlowsApartUptoSaid : Prop := flowsApartUptoRow.holds Try.pinned (OpenSpec.upto flowsApartSpec)

end Rows
end Go.Proofs.Ythpffpgbmgnkcaa
