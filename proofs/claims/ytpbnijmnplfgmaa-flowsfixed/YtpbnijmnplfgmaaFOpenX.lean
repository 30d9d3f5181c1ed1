/- A Fixed that came in, laid open. -/
import Derived.Test.YtpbnijmnplfgmaaFOpenW
namespace Go.Proofs.Ytpbnijmnplfgmaa
open Go.RowKit Go.ChangeShapes

theorem list16 {α : Type} {l0 : List α} (h : l0.length = 16) : ∃ a b c d e f g i j k l m n o p q, l0 = [a, b, c, d, e, f, g, i, j, k, l, m, n, o, p, q] := by
  match l0, h with
  | [a, b, c, d, e, f, g, i, j, k, l, m, n, o, p, q], _ => exact ⟨a, b, c, d, e, f, g, i, j, k, l, m, n, o, p, q, rfl⟩

theorem Try.cellsQF : Try.prog.cellsOf 64 = 16 := by kernel_rfl

theorem open_fixed {H : Type} {enc : TypeId × Value → H} {W : World} {fuel : Nat} {cs : List Value} {x : DataW H × List MemPlace} (h : DataW.trod enc Try.prog W 0 (fun _ => true) true fuel 64 cs = some x) :
    ∃ (Rm Fr To L I T A Fi Mn Mx At : Int) (aF aT aL aI aR : Bool), cs = [.int .i64 Rm, .int .i64 Fr, .int .i64 To, .int .i64 L, .int .i64 I, .int .i64 T, .int .i64 A, .int .i64 Fi, .int .i64 Mn, .int .i64 Mx, .int .i64 At, .bool aF, .bool aT, .bool aL, .bool aI, .bool aR] := by
  obtain ⟨hl, hi, hb⟩ := struct_cells Try.underlying64 h
  rw [Try.cellsQF] at hl
  obtain ⟨a, b, c, d, e, f, g, i, j, k, l, m, n, o, p, q, rfl⟩ := list16 hl
  obtain ⟨n0, h0⟩ := hi 0 _ rfl Try.cellsI Try.underlying3
  obtain ⟨n1, h1⟩ := hi 1 _ rfl Try.cellsI Try.underlying3
  obtain ⟨n2, h2⟩ := hi 2 _ rfl Try.cellsI Try.underlying3
  obtain ⟨n3, h3⟩ := hi 3 _ rfl Try.cellsI Try.underlying3
  obtain ⟨n4, h4⟩ := hi 4 _ rfl Try.cellsI Try.underlying3
  obtain ⟨n5, h5⟩ := hi 5 _ rfl Try.cellsI Try.underlying3
  obtain ⟨n6, h6⟩ := hi 6 _ rfl Try.cellsI Try.underlying3
  obtain ⟨n7, h7⟩ := hi 7 _ rfl Try.cellsI Try.underlying3
  obtain ⟨n8, h8⟩ := hi 8 _ rfl Try.cellsI Try.underlying3
  obtain ⟨n9, h9⟩ := hi 9 _ rfl Try.cellsI Try.underlying3
  obtain ⟨n10, h10⟩ := hi 10 _ rfl Try.cellsI Try.underlying3
  obtain ⟨n11, h11⟩ := hb 11 _ rfl Try.cellsB Try.underlying4
  obtain ⟨n12, h12⟩ := hb 12 _ rfl Try.cellsB Try.underlying4
  obtain ⟨n13, h13⟩ := hb 13 _ rfl Try.cellsB Try.underlying4
  obtain ⟨n14, h14⟩ := hb 14 _ rfl Try.cellsB Try.underlying4
  obtain ⟨n15, h15⟩ := hb 15 _ rfl Try.cellsB Try.underlying4
  have e0 : a = _ := Option.some.inj h0
  have e1 : b = _ := Option.some.inj h1
  have e2 : c = _ := Option.some.inj h2
  have e3 : d = _ := Option.some.inj h3
  have e4 : e = _ := Option.some.inj h4
  have e5 : f = _ := Option.some.inj h5
  have e6 : g = _ := Option.some.inj h6
  have e7 : i = _ := Option.some.inj h7
  have e8 : j = _ := Option.some.inj h8
  have e9 : k = _ := Option.some.inj h9
  have e10 : l = _ := Option.some.inj h10
  have e11 : m = _ := Option.some.inj h11
  have e12 : n = _ := Option.some.inj h12
  have e13 : o = _ := Option.some.inj h13
  have e14 : p = _ := Option.some.inj h14
  have e15 : q = _ := Option.some.inj h15
  exact ⟨n0, n1, n2, n3, n4, n5, n6, n7, n8, n9, n10, n11, n12, n13, n14, n15, by rw [e0, e1, e2, e3, e4, e5, e6, e7, e8, e9, e10, e11, e12, e13, e14, e15]⟩
end Go.Proofs.Ytpbnijmnplfgmaa
