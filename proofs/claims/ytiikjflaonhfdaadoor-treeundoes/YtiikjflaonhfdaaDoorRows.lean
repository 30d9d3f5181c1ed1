/-
  NARROWER THAN 'FOR EVERY INPUT', by the rows' own cells (each row's printed sentence says how): Names: laid · TreeUndoes: laid.
  DERIVED. THE GIVEN ROWS OF THIS SEAT. 2 by the template 'for every input the law returns true; each argument reads behind the call as it read before'; 0 by the template 'total and deterministic' (their statements: YtiikjflaonhfdaaDoorTotals.lean).
  GIVEN WITH THE SEED: the statements are not yours to turn. If you find one false, say at which input.
  Laid BY PROGRAM, IN A SANDBOX (cutbox-rows.mjs): the forced cells as the released guide's own fill.sh prints them over the translation 8e696fdc78377159… (all of the seat's roots in one cut). By AI agents, Wed Nov 11 2026. No macro, syntax, notation, axiom, sorry.
-/
import Derived.Test.YtiikjflaonhfdaaDoorChecked
import GoSem.Claim
import GoSem.ClaimJoined
import GoSem.ClaimMapViews
import Derived.JoinedTies
import Derived.KernelRfl
namespace Go.Proofs.YtiikjflaonhfdaaDoor
/- THE CELL 'sum', in the pinned program and in every row, IS THE sha256 OF THE DUMP (.gsa) THAT YtiikjflaonhfdaaDoorProg.lean LOADS. Nothing in Lean hashes anything: it is a label: what it is worth is what the hold of that sum in a sandbox is worth. -/
noncomputable def Tryd.pinned : Pinned := { name := "ytiikjflaonhfdaadoor", sum := "8e696fdc78377159268c0282a133292c3455f6707787a9adf942943750013706", checked := Tryd.checked }
namespace Rows
def none {H : Type} : Left H := { results := [], args := [] }

/- WHAT THE LISTED PACKAGE-LEVEL VARIABLES READ AS WHEN THE CALL BEGINS. Each datum BY PROGRAM (the guide's laid-datum.mjs) off the statement by which the dump's own 'gosem.cut.vars' lays the variable. In a bare row this is a premise. The card (YtiikjflaonhfdaaDoorCards.lean) ties it to the program's text. -/
def laid_errors_errorType {H : Type} : DataW H := .iface "internal/reflectlite.rtype" (.agg [.ptr (.lit (.string [101, 114, 114, 111, 114]))])
def laid_casement_api_ErrText {H : Type} : DataW H := .iface "*errors.errorString" (.ptr (.agg [.lit (.string [99, 97, 115, 101, 109, 101, 110, 116, 58, 32, 116, 101, 120, 116])]))
def laid_casement_api_ErrBound {H : Type} : DataW H := .iface "*errors.errorString" (.ptr (.agg [.lit (.string [99, 97, 115, 101, 109, 101, 110, 116, 58, 32, 98, 111, 117, 110, 100])]))
def laid_casement_api_ErrName {H : Type} : DataW H := .iface "*errors.errorString" (.ptr (.agg [.lit (.string [99, 97, 115, 101, 109, 101, 110, 116, 58, 32, 110, 97, 109, 101])]))
def laid_casement_api_ErrNode {H : Type} : DataW H := .iface "*errors.errorString" (.ptr (.agg [.lit (.string [99, 97, 115, 101, 109, 101, 110, 116, 58, 32, 110, 111, 100, 101])]))
def laid_casement_api_ErrPlace {H : Type} : DataW H := .iface "*errors.errorString" (.ptr (.agg [.lit (.string [99, 97, 115, 101, 109, 101, 110, 116, 58, 32, 112, 108, 97, 99, 101])]))
def laid_casement_api_ErrShape {H : Type} : DataW H := .iface "*errors.errorString" (.ptr (.agg [.lit (.string [99, 97, 115, 101, 109, 101, 110, 116, 58, 32, 115, 104, 97, 112, 101])]))
def laid_casement_api_ErrValue {H : Type} : DataW H := .iface "*errors.errorString" (.ptr (.agg [.lit (.string [99, 97, 115, 101, 109, 101, 110, 116, 58, 32, 118, 97, 108, 117, 101])]))

/-- 'casementlaw1.Names': WHATEVER THE INPUT: true; the input reads as it did. -/
def namesSpec : ChangeSpec := { name := "names", fn := fun _ => fun
  | [] => { results := [.lit (.bool true)], args := [] }
  | _ => none }
def namesRow : OpenClaim := { program := "ytiikjflaonhfdaadoor", sum := "8e696fdc78377159268c0282a133292c3455f6707787a9adf942943750013706", func := "casement/casementlaw1.Names", spec := "names", inPlace := ["internal/reflectlite.TypeOf", "internal/reflectlite.ValueOf", "(internal/reflectlite.Value).Type", "(internal/reflectlite.Value).IsNil", "(internal/reflectlite.Value).Elem", "(internal/reflectlite.Value).Set"], unfollowed := true, recurses := true, named := ["casement/api.ErrText", "casement/api.ErrValue", "casement/api.ErrBound", "casement/api.ErrName", "casement/api.ErrNode", "casement/api.ErrPlace", "casement/api.ErrShape", "errors.errorType"], apart := false, laid := [("errors.errorType", laid_errors_errorType), ("casement/api.ErrText", laid_casement_api_ErrText), ("casement/api.ErrBound", laid_casement_api_ErrBound), ("casement/api.ErrName", laid_casement_api_ErrName), ("casement/api.ErrNode", laid_casement_api_ErrNode), ("casement/api.ErrPlace", laid_casement_api_ErrPlace), ("casement/api.ErrShape", laid_casement_api_ErrShape), ("casement/api.ErrValue", laid_casement_api_ErrValue)] }
def NamesSaid : Prop := namesRow.holds Tryd.pinned (OpenSpec.ofChange namesSpec)

/-- ITS FALSE NEIGHBOUR: 'it returns false'. Refute it at one input. -/
def namesWrong : ChangeSpec := { name := "names", fn := fun _ => fun
  | [] => { results := [.lit (.bool false)], args := [] }
  | _ => none }
def NamesWrongFalsely : Prop := namesRow.holds Tryd.pinned (OpenSpec.ofChange namesWrong)

/-- 'casementlaw1.TreeUndoes': WHATEVER THE INPUT: true; the input reads as it did. -/
def treeUndoesSpec : ChangeSpec := { name := "treeUndoes", fn := fun _ => fun
  | [d1, d2] => { results := [.lit (.bool true)], args := [d1, d2] }
  | _ => none }
def treeUndoesRow : OpenClaim := { program := "ytiikjflaonhfdaadoor", sum := "8e696fdc78377159268c0282a133292c3455f6707787a9adf942943750013706", func := "casement/casementlaw1.TreeUndoes", spec := "treeUndoes", inPlace := ["slices.overlaps[int]", "slices.overlaps[casement/api.Attr]"], unfollowed := true, recurses := true, named := ["casement/api.ErrName", "casement/api.ErrBound", "casement/api.ErrNode", "casement/api.ErrPlace"], apart := false, laid := [("casement/api.ErrBound", laid_casement_api_ErrBound), ("casement/api.ErrName", laid_casement_api_ErrName), ("casement/api.ErrNode", laid_casement_api_ErrNode), ("casement/api.ErrPlace", laid_casement_api_ErrPlace)] }
def TreeUndoesSaid : Prop := treeUndoesRow.holds Tryd.pinned (OpenSpec.ofChange treeUndoesSpec)

/-- ITS FALSE NEIGHBOUR: 'it returns false'. Refute it at one input. -/
def treeUndoesWrong : ChangeSpec := { name := "treeUndoes", fn := fun _ => fun
  | [d1, d2] => { results := [.lit (.bool false)], args := [d1, d2] }
  | _ => none }
def TreeUndoesWrongFalsely : Prop := treeUndoesRow.holds Tryd.pinned (OpenSpec.ofChange treeUndoesWrong)

/- THE SECOND FORM. 'bulk': how many values and letters a reading holds, each counted each time it is reached (what is shared counts as often as it is met; a slice's spare places count too). A statement '..UptoSaid' is the law's where the arguments, and the package variables that the reading takes, are together of bulk at most 1048576: NARROWER than '..Said'. Prove '..Said' where nothing that the law and all that it calls make is longer than what came in: it says more and counts as full. Else prove '..UptoSaid'. A law counts once. -/
mutual
def uptoBulk {H : Type} : DataW H → Nat
  | .lit (.string bytes) => bytes.length + 1
  | .lit _ => 1
  | .nil => 1
  | .ptr d => uptoBulk d + 1
  | .slice elems spare => uptoBulkAll elems + uptoBulkAll spare + 1
  | .agg parts => uptoBulkAll parts + 1
  | .iface _ d => uptoBulk d + 1
  | .map entries => uptoBulkEntries entries + 1
  | .held _ => 1
def uptoBulkAll {H : Type} : List (DataW H) → Nat
  | [] => 0
  | d :: r => uptoBulk d + uptoBulkAll r
def uptoBulkEntries {H : Type} : List (Lit × DataW H) → Nat
  | [] => 0
  | x :: r => uptoBulkEntry x + uptoBulkEntries r
def uptoBulkEntry {H : Type} : Lit × DataW H → Nat
  | (.string bytes, d) => bytes.length + uptoBulk d + 1
  | (_, d) => uptoBulk d + 1
 end
def uptoSmall : (H : Type) → List (DataW H) → Bool := fun _ ds => decide (uptoBulkAll ds ≤ 1048576)
def OpenSpec.upto (s : _root_.Go.ChangeSpec) : _root_.Go.OpenSpec := { _root_.Go.OpenSpec.ofChange s with cond := some uptoSmall }

/-- 'casementlaw1.Names', WHERE WHAT IT READS IS OF BULK AT MOST 1048576: true; the input reads as it did. -/
def namesUptoRow : OpenClaim := { program := "ytiikjflaonhfdaadoor", sum := "8e696fdc78377159268c0282a133292c3455f6707787a9adf942943750013706", func := "casement/casementlaw1.Names", spec := "names", inPlace := ["internal/reflectlite.TypeOf", "internal/reflectlite.ValueOf", "(internal/reflectlite.Value).Type", "(internal/reflectlite.Value).IsNil", "(internal/reflectlite.Value).Elem", "(internal/reflectlite.Value).Set"], unfollowed := true, recurses := true, named := ["casement/api.ErrText", "casement/api.ErrValue", "casement/api.ErrBound", "casement/api.ErrName", "casement/api.ErrNode", "casement/api.ErrPlace", "casement/api.ErrShape", "errors.errorType"], apart := false, laid := [("errors.errorType", laid_errors_errorType), ("casement/api.ErrText", laid_casement_api_ErrText), ("casement/api.ErrBound", laid_casement_api_ErrBound), ("casement/api.ErrName", laid_casement_api_ErrName), ("casement/api.ErrNode", laid_casement_api_ErrNode), ("casement/api.ErrPlace", laid_casement_api_ErrPlace), ("casement/api.ErrShape", laid_casement_api_ErrShape), ("casement/api.ErrValue", laid_casement_api_ErrValue)], narrowed := true }
def NamesUptoSaid : Prop := namesUptoRow.holds Tryd.pinned (OpenSpec.upto namesSpec)

/-- 'casementlaw1.TreeUndoes', WHERE WHAT IT READS IS OF BULK AT MOST 1048576: true; the input reads as it did. -/
def treeUndoesUptoRow : OpenClaim := { program := "ytiikjflaonhfdaadoor", sum := "8e696fdc78377159268c0282a133292c3455f6707787a9adf942943750013706", func := "casement/casementlaw1.TreeUndoes", spec := "treeUndoes", inPlace := ["slices.overlaps[int]", "slices.overlaps[casement/api.Attr]"], unfollowed := true, recurses := true, named := ["casement/api.ErrName", "casement/api.ErrBound", "casement/api.ErrNode", "casement/api.ErrPlace"], apart := false, laid := [("casement/api.ErrBound", laid_casement_api_ErrBound), ("casement/api.ErrName", laid_casement_api_ErrName), ("casement/api.ErrNode", laid_casement_api_ErrNode), ("casement/api.ErrPlace", laid_casement_api_ErrPlace)], narrowed := true }
def TreeUndoesUptoSaid : Prop := treeUndoesUptoRow.holds Tryd.pinned (OpenSpec.upto treeUndoesSpec)

end Rows
end Go.Proofs.YtiikjflaonhfdaaDoor
