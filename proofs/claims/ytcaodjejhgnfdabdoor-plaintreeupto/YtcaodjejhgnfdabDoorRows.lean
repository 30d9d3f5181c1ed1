/-
  NARROWER THAN 'FOR EVERY INPUT', by the rows' own cells (each row's printed sentence says how): TreeOrders: laid · PlainTree: laid.
  DERIVED. THE GIVEN ROWS OF THIS SEAT. 2 by the template 'for every input the law returns true; each argument reads behind the call as it read before'; 0 by the template 'total and deterministic' (their statements: YtcaodjejhgnfdabDoorTotals.lean).
  GIVEN WITH THE SEED: the statements are not yours to turn. If you find one false, say at which input.
  Laid BY PROGRAM, IN A SANDBOX (cutbox-rows.mjs): the forced cells as the released guide's own fill.sh prints them over the translation 7a74a3885a7e02d6… (all of the seat's roots in one cut). By AI agents, Wed Nov 11 2026. No macro, syntax, notation, axiom, sorry.
-/
import Derived.Test.YtcaodjejhgnfdabDoorChecked
import GoSem.Claim
import GoSem.ClaimJoined
import GoSem.ClaimMapViews
import Derived.JoinedTies
import Derived.KernelRfl
namespace Go.Proofs.YtcaodjejhgnfdabDoor
/- THE CELL 'sum', in the pinned program and in every row, IS THE sha256 OF THE DUMP (.gsa) THAT YtcaodjejhgnfdabDoorProg.lean LOADS. Nothing in Lean hashes anything: it is a label: what it is worth is what the hold of that sum in a sandbox is worth. -/
noncomputable def Tryd.pinned : Pinned := { name := "ytcaodjejhgnfdabdoor", sum := "7a74a3885a7e02d6db595e7e416433370963b0fa4ee63fdeeeae3106884609bb", checked := Tryd.checked }
namespace Rows
def none {H : Type} : Left H := { results := [], args := [] }

/- WHAT THE LISTED PACKAGE-LEVEL VARIABLES READ AS WHEN THE CALL BEGINS. Each datum BY PROGRAM (the guide's laid-datum.mjs) off the statement by which the dump's own 'gosem.cut.vars' lays the variable. In a bare row this is a premise. The card (YtcaodjejhgnfdabDoorCards.lean) ties it to the program's text. -/
def laid_casement_api_ErrBound {H : Type} : DataW H := .iface "*errors.errorString" (.ptr (.agg [.lit (.string [99, 97, 115, 101, 109, 101, 110, 116, 58, 32, 98, 111, 117, 110, 100])]))
def laid_casement_api_ErrName {H : Type} : DataW H := .iface "*errors.errorString" (.ptr (.agg [.lit (.string [99, 97, 115, 101, 109, 101, 110, 116, 58, 32, 110, 97, 109, 101])]))
def laid_casement_api_ErrNode {H : Type} : DataW H := .iface "*errors.errorString" (.ptr (.agg [.lit (.string [99, 97, 115, 101, 109, 101, 110, 116, 58, 32, 110, 111, 100, 101])]))
def laid_casement_api_ErrPlace {H : Type} : DataW H := .iface "*errors.errorString" (.ptr (.agg [.lit (.string [99, 97, 115, 101, 109, 101, 110, 116, 58, 32, 112, 108, 97, 99, 101])]))

/-- 'casementlaw1.TreeOrders': WHATEVER THE INPUT: true; the input reads as it did. -/
def treeOrdersSpec : ChangeSpec := { name := "treeOrders", fn := fun _ => fun
  | [d1, d2, d3, d4] => { results := [.lit (.bool true)], args := [d1, d2, d3, d4] }
  | _ => none }
def treeOrdersRow : OpenClaim := { program := "ytcaodjejhgnfdabdoor", sum := "7a74a3885a7e02d6db595e7e416433370963b0fa4ee63fdeeeae3106884609bb", func := "casement/casementlaw1.TreeOrders", spec := "treeOrders", inPlace := ["slices.overlaps[int]"], unfollowed := true, recurses := true, named := ["casement/api.ErrName", "casement/api.ErrBound", "casement/api.ErrNode", "casement/api.ErrPlace"], apart := false, laid := [("casement/api.ErrBound", laid_casement_api_ErrBound), ("casement/api.ErrName", laid_casement_api_ErrName), ("casement/api.ErrNode", laid_casement_api_ErrNode), ("casement/api.ErrPlace", laid_casement_api_ErrPlace)] }
def TreeOrdersSaid : Prop := treeOrdersRow.holds Tryd.pinned (OpenSpec.ofChange treeOrdersSpec)

/-- ITS FALSE NEIGHBOUR: 'it returns false'. Refute it at one input. -/
def treeOrdersWrong : ChangeSpec := { name := "treeOrders", fn := fun _ => fun
  | [d1, d2, d3, d4] => { results := [.lit (.bool false)], args := [d1, d2, d3, d4] }
  | _ => none }
def TreeOrdersWrongFalsely : Prop := treeOrdersRow.holds Tryd.pinned (OpenSpec.ofChange treeOrdersWrong)

/-- 'casementlaw1.PlainTree': WHATEVER THE INPUT: true; the input reads as it did. -/
def plainTreeSpec : ChangeSpec := { name := "plainTree", fn := fun _ => fun
  | [d] => { results := [.lit (.bool true)], args := [d] }
  | _ => none }
def plainTreeRow : OpenClaim := { program := "ytcaodjejhgnfdabdoor", sum := "7a74a3885a7e02d6db595e7e416433370963b0fa4ee63fdeeeae3106884609bb", func := "casement/casementlaw1.PlainTree", spec := "plainTree", inPlace := ["slices.overlaps[int]"], unfollowed := true, recurses := true, named := ["casement/api.ErrName", "casement/api.ErrBound", "casement/api.ErrNode", "casement/api.ErrPlace"], apart := false, laid := [("casement/api.ErrBound", laid_casement_api_ErrBound), ("casement/api.ErrName", laid_casement_api_ErrName), ("casement/api.ErrNode", laid_casement_api_ErrNode), ("casement/api.ErrPlace", laid_casement_api_ErrPlace)] }
def PlainTreeSaid : Prop := plainTreeRow.holds Tryd.pinned (OpenSpec.ofChange plainTreeSpec)

/-- ITS FALSE NEIGHBOUR: 'it returns false'. Refute it at one input. -/
def plainTreeWrong : ChangeSpec := { name := "plainTree", fn := fun _ => fun
  | [d] => { results := [.lit (.bool false)], args := [d] }
  | _ => none }
def PlainTreeWrongFalsely : Prop := plainTreeRow.holds Tryd.pinned (OpenSpec.ofChange plainTreeWrong)

/- THE SECOND FORM. 'bulk': how many values and letters a reading holds, each counted each time it is reached (what is shared counts as often as it is met; a slice's spare places count too). A statement '..UptoSaid' is the law's where the arguments, and the package variables that the reading takes, are together of bulk at most 1048576: NARROWER than '..Said'. Prove '..Said' where nothing that the law and all that it calls make is longer than what came in: it says more and counts as full. Else prove '..UptoSaid'. A law counts once. -/
mutual
def uptoBulk {H : Type} : DataW H → Nat
  | .lit (.string bytes) => bytes.length + 1
  | .lit _ => 1
  | .nil => 1
  | .ptr d => uptoBulk d + 1
  | .slice elems spare => uptoBulkAll elems + uptoBulkAll spare + 1
  | .agg parts => uptoBulkAll parts + 1
  | .iface _ d => uptoBulk d + 1
  | .map entries => uptoBulkEntries entries + 1
  | .held _ => 1
def uptoBulkAll {H : Type} : List (DataW H) → Nat
  | [] => 0
  | d :: r => uptoBulk d + uptoBulkAll r
def uptoBulkEntries {H : Type} : List (Lit × DataW H) → Nat
  | [] => 0
  | x :: r => uptoBulkEntry x + uptoBulkEntries r
def uptoBulkEntry {H : Type} : Lit × DataW H → Nat
  | (.string bytes, d) => bytes.length + uptoBulk d + 1
  | (_, d) => uptoBulk d + 1
 end
def uptoSmall : (H : Type) → List (DataW H) → Bool := fun _ ds => decide (uptoBulkAll ds ≤ 1048576)
def OpenSpec.upto (s : _root_.Go.ChangeSpec) : _root_.Go.OpenSpec := { _root_.Go.OpenSpec.ofChange s with cond := some uptoSmall }

/-- 'casementlaw1.TreeOrders', WHERE WHAT IT READS IS OF BULK AT MOST 1048576: true; the input reads as it did. -/
def treeOrdersUptoRow : OpenClaim := { program := "ytcaodjejhgnfdabdoor", sum := "7a74a3885a7e02d6db595e7e416433370963b0fa4ee63fdeeeae3106884609bb", func := "casement/casementlaw1.TreeOrders", spec := "treeOrders", inPlace := ["slices.overlaps[int]"], unfollowed := true, recurses := true, named := ["casement/api.ErrName", "casement/api.ErrBound", "casement/api.ErrNode", "casement/api.ErrPlace"], apart := false, laid := [("casement/api.ErrBound", laid_casement_api_ErrBound), ("casement/api.ErrName", laid_casement_api_ErrName), ("casement/api.ErrNode", laid_casement_api_ErrNode), ("casement/api.ErrPlace", laid_casement_api_ErrPlace)], narrowed := true }
def TreeOrdersUptoSaid : Prop := treeOrdersUptoRow.holds Tryd.pinned (OpenSpec.upto treeOrdersSpec)

/-- 'casementlaw1.PlainTree', WHERE WHAT IT READS IS OF BULK AT MOST 1048576: true; the input reads as it did. -/
def plainTreeUptoRow : OpenClaim := { program := "ytcaodjejhgnfdabdoor", sum := "7a74a3885a7e02d6db595e7e416433370963b0fa4ee63fdeeeae3106884609bb", func := "casement/casementlaw1.PlainTree", spec := "plainTree", inPlace := ["slices.overlaps[int]"], unfollowed := true, recurses := true, named := ["casement/api.ErrName", "casement/api.ErrBound", "casement/api.ErrNode", "casement/api.ErrPlace"], apart := false, laid := [("casement/api.ErrBound", laid_casement_api_ErrBound), ("casement/api.ErrName", laid_casement_api_ErrName), ("casement/api.ErrNode", laid_casement_api_ErrNode), ("casement/api.ErrPlace", laid_casement_api_ErrPlace)], narrowed := true }
def PlainTreeUptoSaid : Prop := plainTreeUptoRow.holds Tryd.pinned (OpenSpec.upto plainTreeSpec)

end Rows
end Go.Proofs.YtcaodjejhgnfdabDoor
