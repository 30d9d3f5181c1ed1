/- A struct of numbers and bools that came in, laid open. -/
import Derived.Test.YtpbnijmnplfgmaaRows
import Derived.ProofKit
import Derived.OpenShut
namespace Go.Proofs.Ytpbnijmnplfgmaa
open Go.RowKit Go.ChangeShapes

theorem one_cell {α : Type} {l : List α} {o : Nat} {v : α} (h : (l.drop o).take 1 = [v]) : l[o]? = some v := by
  have := congrArg (fun m => m[0]?) h
  simpa using this

section
variable {H : Type} {enc : TypeId × Value → H} {P : Program} {W : World} {base : Nat} {spare : Nat → Bool} {held : Bool}

/-- each number's cell and each bool's cell of a struct -/
theorem struct_cells {t : TypeId} {fs : Array Field} {fuel : Nat} {cs : List Value} {x : DataW H × List MemPlace} (ht : P.underlying t = some (.struct fs)) (h : DataW.trod enc P W base spare held fuel t cs = some x) :
    cs.length = P.cellsOf t ∧ (∀ (i : Nat) (f : Field), fs[i]? = some f → P.cellsOf f.type = 1 → P.underlying f.type = some (.int .i64) → ∃ n, cs[f.offset]? = some (.int .i64 n)) ∧
      (∀ (i : Nat) (f : Field), fs[i]? = some f → P.cellsOf f.type = 1 → P.underlying f.type = some .bool → ∃ b, cs[f.offset]? = some (.bool b)) := by
  obtain ⟨xs, n, _, _, hl, hlen, hf⟩ := DataW.trod_struct ht h
  refine ⟨hl, fun i f hi hc hu => ?_, fun i f hi hc hu => ?_⟩
  · have := hf i f hi
    have hlt : i < xs.length := by rw [hlen]; exact (Array.getElem?_eq_some_iff.1 hi).1
    rw [List.getElem?_eq_getElem hlt] at this
    obtain ⟨m, hm, _⟩ := DataW.trod_int hu this
    rw [hc] at hm
    exact ⟨m, one_cell hm⟩
  · have := hf i f hi
    have hlt : i < xs.length := by rw [hlen]; exact (Array.getElem?_eq_some_iff.1 hi).1
    rw [List.getElem?_eq_getElem hlt] at this
    obtain ⟨m, hm, _⟩ := DataW.trod_bool hu this
    rw [hc] at hm
    exact ⟨m, one_cell hm⟩
end

theorem list10 {α : Type} {l : List α} (h : l.length = 10) : ∃ a b c d e f g i j k, l = [a, b, c, d, e, f, g, i, j, k] := by
  match l, h with
  | [a, b, c, d, e, f, g, i, j, k], _ => exact ⟨a, b, c, d, e, f, g, i, j, k, rfl⟩

theorem Try.cellsI : Try.prog.cellsOf 3 = 1 := by kernel_rfl
theorem Try.cellsB : Try.prog.cellsOf 4 = 1 := by kernel_rfl
theorem Try.cellsQW : Try.prog.cellsOf 57 = 10 := by kernel_rfl

theorem open_width {H : Type} {enc : TypeId × Value → H} {W : World} {fuel : Nat} {cs : List Value} {x : DataW H × List MemPlace} (h : DataW.trod enc Try.prog W 0 (fun _ => true) true fuel 57 cs = some x) :
    ∃ (Rm L I T A Mn Mx : Int) (aL aI aR : Bool), cs = [.int .i64 Rm, .int .i64 L, .int .i64 I, .int .i64 T, .int .i64 A, .int .i64 Mn, .int .i64 Mx, .bool aL, .bool aI, .bool aR] := by
  obtain ⟨hl, hi, hb⟩ := struct_cells Try.underlying57 h
  rw [Try.cellsQW] at hl
  obtain ⟨a, b, c, d, e, f, g, i, j, k, rfl⟩ := list10 hl
  obtain ⟨n0, h0⟩ := hi 0 _ rfl Try.cellsI Try.underlying3
  obtain ⟨n1, h1⟩ := hi 1 _ rfl Try.cellsI Try.underlying3
  obtain ⟨n2, h2⟩ := hi 2 _ rfl Try.cellsI Try.underlying3
  obtain ⟨n3, h3⟩ := hi 3 _ rfl Try.cellsI Try.underlying3
  obtain ⟨n4, h4⟩ := hi 4 _ rfl Try.cellsI Try.underlying3
  obtain ⟨n5, h5⟩ := hi 5 _ rfl Try.cellsI Try.underlying3
  obtain ⟨n6, h6⟩ := hi 6 _ rfl Try.cellsI Try.underlying3
  obtain ⟨n7, h7⟩ := hb 7 _ rfl Try.cellsB Try.underlying4
  obtain ⟨n8, h8⟩ := hb 8 _ rfl Try.cellsB Try.underlying4
  obtain ⟨n9, h9⟩ := hb 9 _ rfl Try.cellsB Try.underlying4
  have e0 : a = _ := Option.some.inj h0
  have e1 : b = _ := Option.some.inj h1
  have e2 : c = _ := Option.some.inj h2
  have e3 : d = _ := Option.some.inj h3
  have e4 : e = _ := Option.some.inj h4
  have e5 : f = _ := Option.some.inj h5
  have e6 : g = _ := Option.some.inj h6
  have e7 : i = _ := Option.some.inj h7
  have e8 : j = _ := Option.some.inj h8
  have e9 : k = _ := Option.some.inj h9
  exact ⟨n0, n1, n2, n3, n4, n5, n6, n7, n8, n9, by rw [e0, e1, e2, e3, e4, e5, e6, e7, e8, e9]⟩
end Go.Proofs.Ytpbnijmnplfgmaa
