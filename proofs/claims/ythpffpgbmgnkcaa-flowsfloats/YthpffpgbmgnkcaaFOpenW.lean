/- A struct of numbers and bools that came in, laid open. -/
import Derived.Test.YthpffpgbmgnkcaaRows
import Derived.ProofKit
import Derived.OpenShut
namespace Go.Proofs.Ythpffpgbmgnkcaa
open Go.RowKit Go.ChangeShapes

theorem one_cell {α : Type} {l : List α} {o : Nat} {v : α} (h : (l.drop o).take 1 = [v]) : l[o]? = some v := by
  have := congrArg (fun m => m[0]?) h
  simpa using this

section
variable {H : Type} {enc : TypeId × Value → H} {P : Program} {W : World} {base : Nat} {spare : Nat → Bool} {held : Bool}

/-- each number's cell and each bool's cell of a struct -/
theorem struct_cells {t : TypeId} {fs : Array Field} {fuel : Nat} {cs : List Value} {x : DataW H × List MemPlace} (ht : P.underlying t = some (.struct fs)) (h : DataW.trod enc P W base spare held fuel t cs = some x) :
    cs.length = P.cellsOf t ∧ (∀ (i : Nat) (f : Field), fs[i]? = some f → P.cellsOf f.type = 1 → P.underlying f.type = some (.int .i64) → ∃ n, cs[f.offset]? = some (.int .i64 n)) ∧
      (∀ (i : Nat) (f : Field), fs[i]? = some f → P.cellsOf f.type = 1 → P.underlying f.type = some .bool → ∃ b, cs[f.offset]? = some (.bool b)) := by
  obtain ⟨xs, n, _, _, hl, hlen, hf⟩ := DataW.trod_struct ht h
  refine ⟨hl, fun i f hi hc hu => ?_, fun i f hi hc hu => ?_⟩
  · have := hf i f hi
    have hlt : i < xs.length := by rw [hlen]; exact (Array.getElem?_eq_some_iff.1 hi).1
    rw [List.getElem?_eq_getElem hlt] at this
    obtain ⟨m, hm, _⟩ := DataW.trod_int hu this
    rw [hc] at hm
    exact ⟨m, one_cell hm⟩
  · have := hf i f hi
    have hlt : i < xs.length := by rw [hlen]; exact (Array.getElem?_eq_some_iff.1 hi).1
    rw [List.getElem?_eq_getElem hlt] at this
    obtain ⟨m, hm, _⟩ := DataW.trod_bool hu this
    rw [hc] at hm
    exact ⟨m, one_cell hm⟩
end

theorem list10 {α : Type} {l : List α} (h : l.length = 10) : ∃ a b c d e f g i j k, l = [a, b, c, d, e, f, g, i, j, k] := by
  match l, h with
  | [a, b, c, d, e, f, g, i, j, k], _ => exact ⟨a, b, c, d, e, f, g, i, j, k, rfl⟩

theorem Try.cellsI : Try.prog.cellsOf 3 = 1 := by kernel_rfl
theorem Try.cellsB : Try.prog.cellsOf 4 = 1 := by kernel_rfl
end Go.Proofs.Ythpffpgbmgnkcaa
