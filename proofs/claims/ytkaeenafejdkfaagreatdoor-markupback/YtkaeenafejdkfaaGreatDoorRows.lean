/-
  NARROWER THAN 'FOR EVERY INPUT', by the rows' own cells (each row's printed sentence says how): MarkupRead: laid · MarkupBack: laid · MarkupWrites: laid.
  DERIVED. THE GIVEN ROWS OF THIS SEAT. 3 by the template 'for every input the law returns true; each argument reads behind the call as it read before'; 0 by the template 'total and deterministic' (their statements: YtkaeenafejdkfaaGreatDoorTotals.lean).
  GIVEN WITH THE SEED: the statements are not yours to turn. If you find one false, say at which input.
  Laid BY PROGRAM, IN A SANDBOX (cutbox-rows.mjs): the forced cells as the released guide's own fill.sh prints them over the translation c673539afbcf5170… (all of the seat's roots in one cut). By AI agents, Wed Nov 11 2026. No macro, syntax, notation, axiom, sorry.
-/
import Derived.Test.YtkaeenafejdkfaaGreatDoorChecked
import GoSem.Claim
import GoSem.ClaimJoined
import GoSem.ClaimMapViews
import Derived.JoinedTies
import Derived.KernelRfl
namespace Go.Proofs.YtkaeenafejdkfaaGreatDoor
/- THE CELL 'sum', in the pinned program and in every row, IS THE sha256 OF THE DUMP (.gsa) THAT YtkaeenafejdkfaaGreatDoorProg.lean LOADS. Nothing in Lean hashes anything: it is a label: what it is worth is what the hold of that sum in a sandbox is worth. -/
noncomputable def Tryz.pinned : Pinned := { name := "ytkaeenafejdkfaagreatdoor", sum := "c673539afbcf5170d1850b63689f09ed59bd667a500429a29086eea38fd5cfff", checked := Tryz.checked }
namespace Rows
def none {H : Type} : Left H := { results := [], args := [] }

/- WHAT THE LISTED PACKAGE-LEVEL VARIABLES READ AS WHEN THE CALL BEGINS. Each datum BY PROGRAM (the guide's laid-datum.mjs) off the statement by which the dump's own 'gosem.cut.vars' lays the variable. In a bare row this is a premise. The card (YtkaeenafejdkfaaGreatDoorCards.lean) ties it to the program's text. -/
def laid_errors_errorType {H : Type} : DataW H := .iface "internal/reflectlite.rtype" (.agg [.ptr (.lit (.string [101, 114, 114, 111, 114]))])
def laid_casement_api_ErrText {H : Type} : DataW H := .iface "*errors.errorString" (.ptr (.agg [.lit (.string [99, 97, 115, 101, 109, 101, 110, 116, 58, 32, 116, 101, 120, 116])]))
def laid_casement_api_ErrBound {H : Type} : DataW H := .iface "*errors.errorString" (.ptr (.agg [.lit (.string [99, 97, 115, 101, 109, 101, 110, 116, 58, 32, 98, 111, 117, 110, 100])]))
def laid_casement_api_ErrName {H : Type} : DataW H := .iface "*errors.errorString" (.ptr (.agg [.lit (.string [99, 97, 115, 101, 109, 101, 110, 116, 58, 32, 110, 97, 109, 101])]))
def laid_casement_api_ErrNode {H : Type} : DataW H := .iface "*errors.errorString" (.ptr (.agg [.lit (.string [99, 97, 115, 101, 109, 101, 110, 116, 58, 32, 110, 111, 100, 101])]))
def laid_casement_api_ErrPlace {H : Type} : DataW H := .iface "*errors.errorString" (.ptr (.agg [.lit (.string [99, 97, 115, 101, 109, 101, 110, 116, 58, 32, 112, 108, 97, 99, 101])]))
def laid_casement_api_ErrShape {H : Type} : DataW H := .iface "*errors.errorString" (.ptr (.agg [.lit (.string [99, 97, 115, 101, 109, 101, 110, 116, 58, 32, 115, 104, 97, 112, 101])]))
def laid_casement_api_ErrValue {H : Type} : DataW H := .iface "*errors.errorString" (.ptr (.agg [.lit (.string [99, 97, 115, 101, 109, 101, 110, 116, 58, 32, 118, 97, 108, 117, 101])]))

/-- 'casementlaw1.MarkupRead': WHATEVER THE INPUT: true; the input reads as it did. -/
def markupReadSpec : ChangeSpec := { name := "markupRead", fn := fun _ => fun
  | [d] => { results := [.lit (.bool true)], args := [d] }
  | _ => none }
def markupReadRow : OpenClaim := { program := "ytkaeenafejdkfaagreatdoor", sum := "c673539afbcf5170d1850b63689f09ed59bd667a500429a29086eea38fd5cfff", func := "casement/casementlaw1.MarkupRead", spec := "markupRead", inPlace := ["internal/bytealg.IndexByteString", "internal/bytealg.IndexString", "internal/abi.NoEscape", "slices.overlaps[int]", "internal/reflectlite.TypeOf", "internal/reflectlite.ValueOf", "(internal/reflectlite.Value).Type", "(internal/reflectlite.Value).IsNil", "(internal/reflectlite.Value).Elem", "(internal/reflectlite.Value).Set"], unfollowed := true, recurses := true, named := ["casement/api.ErrBound", "internal/bytealg.MaxLen", "casement/api.ErrNode", "casement/api.ErrPlace", "casement/api.ErrName", "casement/api.ErrText", "casement/api.ErrShape", "casement/api.ErrValue", "errors.errorType"], apart := false, laid := [("errors.errorType", laid_errors_errorType), ("casement/api.ErrText", laid_casement_api_ErrText), ("casement/api.ErrBound", laid_casement_api_ErrBound), ("casement/api.ErrName", laid_casement_api_ErrName), ("casement/api.ErrNode", laid_casement_api_ErrNode), ("casement/api.ErrPlace", laid_casement_api_ErrPlace), ("casement/api.ErrShape", laid_casement_api_ErrShape), ("casement/api.ErrValue", laid_casement_api_ErrValue)] }
def MarkupReadSaid : Prop := markupReadRow.holds Tryz.pinned (OpenSpec.ofChange markupReadSpec)

/-- ITS FALSE NEIGHBOUR: 'it returns false'. Refute it at one input. -/
def markupReadWrong : ChangeSpec := { name := "markupRead", fn := fun _ => fun
  | [d] => { results := [.lit (.bool false)], args := [d] }
  | _ => none }
def MarkupReadWrongFalsely : Prop := markupReadRow.holds Tryz.pinned (OpenSpec.ofChange markupReadWrong)

/-- 'casementlaw1.MarkupBack': WHATEVER THE INPUT: true; the input reads as it did. -/
def markupBackSpec : ChangeSpec := { name := "markupBack", fn := fun _ => fun
  | [d] => { results := [.lit (.bool true)], args := [d] }
  | _ => none }
def markupBackRow : OpenClaim := { program := "ytkaeenafejdkfaagreatdoor", sum := "c673539afbcf5170d1850b63689f09ed59bd667a500429a29086eea38fd5cfff", func := "casement/casementlaw1.MarkupBack", spec := "markupBack", inPlace := ["internal/bytealg.IndexByteString", "internal/bytealg.IndexString", "internal/abi.NoEscape", "slices.overlaps[int]"], unfollowed := true, recurses := true, named := ["casement/api.ErrBound", "internal/bytealg.MaxLen", "casement/api.ErrNode", "casement/api.ErrPlace", "casement/api.ErrName", "casement/api.ErrShape"], apart := false, laid := [("casement/api.ErrBound", laid_casement_api_ErrBound), ("casement/api.ErrName", laid_casement_api_ErrName), ("casement/api.ErrNode", laid_casement_api_ErrNode), ("casement/api.ErrPlace", laid_casement_api_ErrPlace), ("casement/api.ErrShape", laid_casement_api_ErrShape)] }
def MarkupBackSaid : Prop := markupBackRow.holds Tryz.pinned (OpenSpec.ofChange markupBackSpec)

/-- ITS FALSE NEIGHBOUR: 'it returns false'. Refute it at one input. -/
def markupBackWrong : ChangeSpec := { name := "markupBack", fn := fun _ => fun
  | [d] => { results := [.lit (.bool false)], args := [d] }
  | _ => none }
def MarkupBackWrongFalsely : Prop := markupBackRow.holds Tryz.pinned (OpenSpec.ofChange markupBackWrong)

/-- 'casementlaw1.MarkupWrites': WHATEVER THE INPUT: true; the input reads as it did. -/
def markupWritesSpec : ChangeSpec := { name := "markupWrites", fn := fun _ => fun
  | [d1, d2] => { results := [.lit (.bool true)], args := [d1, d2] }
  | _ => none }
def markupWritesRow : OpenClaim := { program := "ytkaeenafejdkfaagreatdoor", sum := "c673539afbcf5170d1850b63689f09ed59bd667a500429a29086eea38fd5cfff", func := "casement/casementlaw1.MarkupWrites", spec := "markupWrites", inPlace := ["slices.overlaps[int]", "internal/abi.NoEscape", "internal/bytealg.IndexByteString", "internal/bytealg.IndexString", "internal/reflectlite.TypeOf", "internal/reflectlite.ValueOf", "(internal/reflectlite.Value).Type", "(internal/reflectlite.Value).IsNil", "(internal/reflectlite.Value).Elem", "(internal/reflectlite.Value).Set"], unfollowed := true, recurses := true, named := ["casement/api.ErrName", "casement/api.ErrBound", "casement/api.ErrNode", "casement/api.ErrPlace", "casement/api.ErrShape", "internal/bytealg.MaxLen", "casement/api.ErrText", "casement/api.ErrValue", "errors.errorType"], apart := false, laid := [("errors.errorType", laid_errors_errorType), ("casement/api.ErrText", laid_casement_api_ErrText), ("casement/api.ErrBound", laid_casement_api_ErrBound), ("casement/api.ErrName", laid_casement_api_ErrName), ("casement/api.ErrNode", laid_casement_api_ErrNode), ("casement/api.ErrPlace", laid_casement_api_ErrPlace), ("casement/api.ErrShape", laid_casement_api_ErrShape), ("casement/api.ErrValue", laid_casement_api_ErrValue)] }
def MarkupWritesSaid : Prop := markupWritesRow.holds Tryz.pinned (OpenSpec.ofChange markupWritesSpec)

/-- ITS FALSE NEIGHBOUR: 'it returns false'. Refute it at one input. -/
def markupWritesWrong : ChangeSpec := { name := "markupWrites", fn := fun _ => fun
  | [d1, d2] => { results := [.lit (.bool false)], args := [d1, d2] }
  | _ => none }
def MarkupWritesWrongFalsely : Prop := markupWritesRow.holds Tryz.pinned (OpenSpec.ofChange markupWritesWrong)

/- THE SECOND FORM. 'bulk': how many values and letters a reading holds, each counted each time it is reached (what is shared counts as often as it is met; a slice's spare places count too). A statement '..UptoSaid' is the law's where the arguments, and the package variables that the reading takes, are together of bulk at most 1048576: NARROWER than '..Said'. Prove '..Said' where nothing that the law and all that it calls make is longer than what came in: it says more and counts as full. Else prove '..UptoSaid'. A law counts once. -/
mutual
def uptoBulk {H : Type} : DataW H → Nat
  | .lit (.string bytes) => bytes.length + 1
  | .lit _ => 1
  | .nil => 1
  | .ptr d => uptoBulk d + 1
  | .slice elems spare => uptoBulkAll elems + uptoBulkAll spare + 1
  | .agg parts => uptoBulkAll parts + 1
  | .iface _ d => uptoBulk d + 1
  | .map entries => uptoBulkEntries entries + 1
  | .held _ => 1
def uptoBulkAll {H : Type} : List (DataW H) → Nat
  | [] => 0
  | d :: r => uptoBulk d + uptoBulkAll r
def uptoBulkEntries {H : Type} : List (Lit × DataW H) → Nat
  | [] => 0
  | x :: r => uptoBulkEntry x + uptoBulkEntries r
def uptoBulkEntry {H : Type} : Lit × DataW H → Nat
  | (.string bytes, d) => bytes.length + uptoBulk d + 1
  | (_, d) => uptoBulk d + 1
 end
def uptoSmall : (H : Type) → List (DataW H) → Bool := fun _ ds => decide (uptoBulkAll ds ≤ 1048576)
def OpenSpec.upto (s : _root_.Go.ChangeSpec) : _root_.Go.OpenSpec := { _root_.Go.OpenSpec.ofChange s with cond := some uptoSmall }

/-- 'casementlaw1.MarkupRead', WHERE WHAT IT READS IS OF BULK AT MOST 1048576: true; the input reads as it did. -/
def markupReadUptoRow : OpenClaim := { program := "ytkaeenafejdkfaagreatdoor", sum := "c673539afbcf5170d1850b63689f09ed59bd667a500429a29086eea38fd5cfff", func := "casement/casementlaw1.MarkupRead", spec := "markupRead", inPlace := ["internal/bytealg.IndexByteString", "internal/bytealg.IndexString", "internal/abi.NoEscape", "slices.overlaps[int]", "internal/reflectlite.TypeOf", "internal/reflectlite.ValueOf", "(internal/reflectlite.Value).Type", "(internal/reflectlite.Value).IsNil", "(internal/reflectlite.Value).Elem", "(internal/reflectlite.Value).Set"], unfollowed := true, recurses := true, named := ["casement/api.ErrBound", "internal/bytealg.MaxLen", "casement/api.ErrNode", "casement/api.ErrPlace", "casement/api.ErrName", "casement/api.ErrText", "casement/api.ErrShape", "casement/api.ErrValue", "errors.errorType"], apart := false, laid := [("errors.errorType", laid_errors_errorType), ("casement/api.ErrText", laid_casement_api_ErrText), ("casement/api.ErrBound", laid_casement_api_ErrBound), ("casement/api.ErrName", laid_casement_api_ErrName), ("casement/api.ErrNode", laid_casement_api_ErrNode), ("casement/api.ErrPlace", laid_casement_api_ErrPlace), ("casement/api.ErrShape", laid_casement_api_ErrShape), ("casement/api.ErrValue", laid_casement_api_ErrValue)], narrowed := true }
def MarkupReadUptoSaid : Prop := markupReadUptoRow.holds Tryz.pinned (OpenSpec.upto markupReadSpec)

/-- 'casementlaw1.MarkupBack', WHERE WHAT IT READS IS OF BULK AT MOST 1048576: true; the input reads as it did. -/
def markupBackUptoRow : OpenClaim := { program := "ytkaeenafejdkfaagreatdoor", sum := "c673539afbcf5170d1850b63689f09ed59bd667a500429a29086eea38fd5cfff", func := "casement/casementlaw1.MarkupBack", spec := "markupBack", inPlace := ["internal/bytealg.IndexByteString", "internal/bytealg.IndexString", "internal/abi.NoEscape", "slices.overlaps[int]"], unfollowed := true, recurses := true, named := ["casement/api.ErrBound", "internal/bytealg.MaxLen", "casement/api.ErrNode", "casement/api.ErrPlace", "casement/api.ErrName", "casement/api.ErrShape"], apart := false, laid := [("casement/api.ErrBound", laid_casement_api_ErrBound), ("casement/api.ErrName", laid_casement_api_ErrName), ("casement/api.ErrNode", laid_casement_api_ErrNode), ("casement/api.ErrPlace", laid_casement_api_ErrPlace), ("casement/api.ErrShape", laid_casement_api_ErrShape)], narrowed := true }
def MarkupBackUptoSaid : Prop := markupBackUptoRow.holds Tryz.pinned (OpenSpec.upto markupBackSpec)

/-- 'casementlaw1.MarkupWrites', WHERE WHAT IT READS IS OF BULK AT MOST 1048576: true; the input reads as it did. -/
def markupWritesUptoRow : OpenClaim := { program := "ytkaeenafejdkfaagreatdoor", sum := "c673539afbcf5170d1850b63689f09ed59bd667a500429a29086eea38fd5cfff", func := "casement/casementlaw1.MarkupWrites", spec := "markupWrites", inPlace := ["slices.overlaps[int]", "internal/abi.NoEscape", "internal/bytealg.IndexByteString", "internal/bytealg.IndexString", "internal/reflectlite.TypeOf", "internal/reflectlite.ValueOf", "(internal/reflectlite.Value).Type", "(internal/reflectlite.Value).IsNil", "(internal/reflectlite.Value).Elem", "(internal/reflectlite.Value).Set"], unfollowed := true, recurses := true, named := ["casement/api.ErrName", "casement/api.ErrBound", "casement/api.ErrNode", "casement/api.ErrPlace", "casement/api.ErrShape", "internal/bytealg.MaxLen", "casement/api.ErrText", "casement/api.ErrValue", "errors.errorType"], apart := false, laid := [("errors.errorType", laid_errors_errorType), ("casement/api.ErrText", laid_casement_api_ErrText), ("casement/api.ErrBound", laid_casement_api_ErrBound), ("casement/api.ErrName", laid_casement_api_ErrName), ("casement/api.ErrNode", laid_casement_api_ErrNode), ("casement/api.ErrPlace", laid_casement_api_ErrPlace), ("casement/api.ErrShape", laid_casement_api_ErrShape), ("casement/api.ErrValue", laid_casement_api_ErrValue)], narrowed := true }
def MarkupWritesUptoSaid : Prop := markupWritesUptoRow.holds Tryz.pinned (OpenSpec.upto markupWritesSpec)

end Rows
end Go.Proofs.YtkaeenafejdkfaaGreatDoor
