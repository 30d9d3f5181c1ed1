/- A list of cells that came in, laid open. -/
import Derived.Test.YtbphlbohiifcmaaXOpenF
import Derived.Test.YtbphlbohiifcmaaGTof
namespace Go.Proofs.Ytbphlbohiifcmaa
open Go.RowKit Go.Deep Go.ChangeShapes

theorem four_list {α : Type} {l : List α} (h : l.length = 4) : ∃ a b c d, l = [a, b, c, d] := by
  match l, h with
  | [a, b, c, d], _ => exact ⟨a, b, c, d, rfl⟩
theorem Try.cellsQc : Try.prog.cellsOf 48 = 4 := by kernel_rfl

set_option maxRecDepth 100000 in
theorem open_cellsG {H : Type} {enc : TypeId × Value → H} {W : World} {fuel : Nat} {v : Value} {x : DataW H × List MemPlace} (h : DataW.trod enc Try.prog W 0 (fun _ => true) true fuel 39 [v] = some x) :
    ∃ l : List Gi, GsL W v l := by
  rcases open_slice Try.underlying39 h with ⟨h0, _⟩ | ⟨a, len, cap, m, n, D, Pl, h0, _, hl, hm, hmm, hxe, hx⟩
  · refine ⟨[], none, 0, ?_, Nat.le_refl _, by omega, fun j x hj => by simp at hj⟩
    simpa using h0
  · have hlm : len ≤ m := by rw [hmm]; simp; exact hl
    unfold maxLen at hm
    have h00 : 0 < len → a = ⟨a.block, a.off, none⟩ := by
      intro hp
      obtain ⟨cs', h1, h2⟩ := hx 0 (by omega)
      rw [Try.cellsQc] at h1
      obtain ⟨_, hlen, hcell⟩ := World.cells?_some h1
      have e0 := hcell 0 (by omega)
      rw [add_add, List.getElem?_eq_getElem (by omega)] at e0
      simp only [Nat.zero_mul, Nat.add_zero] at e0
      exact xaddr_of e0
    have each : ∀ i, i < len → ∃ p : Gi, a.block < W.heap.size ∧ W.cell? ⟨a.block, a.off + i * 4, none⟩ = some (.int .i64 p.c) ∧ W.cell? ⟨a.block, a.off + i * 4 + 1, none⟩ = some (.int .i64 p.cs) ∧ W.cell? ⟨a.block, a.off + i * 4 + 2, none⟩ = some (.int .i64 p.r) ∧ W.cell? ⟨a.block, a.off + i * 4 + 3, none⟩ = some (.int .i64 p.rs) := by
      intro i hi
      have ea := h00 (by omega)
      obtain ⟨cs', h1, h2⟩ := hx i (by omega)
      rw [Try.cellsQc] at h1
      obtain ⟨_, hlen, hcell⟩ := World.cells?_some h1
      obtain ⟨hcl, hi', hb'⟩ := xstruct_cells Try.underlying48 h2
      obtain ⟨v0, v1, v2, v3, rfl⟩ := four_list hlen
      obtain ⟨n0, g0⟩ := hi' 0 _ rfl Try.xcellsInt Try.underlying3
      obtain ⟨n1, g1⟩ := hi' 1 _ rfl Try.xcellsInt Try.underlying3
      obtain ⟨n2, g2⟩ := hi' 2 _ rfl Try.xcellsInt Try.underlying3
      obtain ⟨n3, g3⟩ := hi' 3 _ rfl Try.xcellsInt Try.underlying3
      have e0 : v0 = _ := Option.some.inj g0
      have e1 : v1 = _ := Option.some.inj g1
      have e2 : v2 = _ := Option.some.inj g2
      have e3 : v3 = _ := Option.some.inj g3
      have q : ∀ f, f < 4 → W.cell? ⟨a.block, a.off + i * 4 + f, none⟩ = [v0, v1, v2, v3][f]? := by
        intro f hf
        have := hcell f hf
        rw [add_add, xaddr_add ea] at this
        rw [show a.off + i * 4 + f = a.off + (i * 4 + f) by omega]
        exact this
      rw [e0, e1, e2, e3] at q
      have q0 := q 0 (by omega)
      exact ⟨⟨n0, n1, n2, n3⟩, xblk_lt q0, q0, q 1 (by omega), q 2 (by omega), q 3 (by omega)⟩
    have : Inhabited Gi := ⟨⟨0, 0, 0, 0⟩⟩
    obtain ⟨q, hq⟩ := choose_lt each
    refine ⟨(List.range len).map q, some a, cap, by simpa using h0, by simpa using hl, by omega, fun j p hj => ?_⟩
    have hjl : j < len := by simpa using (List.getElem?_eq_some_iff.1 hj).1
    have hxq : p = q j := by simpa [List.getElem?_range hjl] using hj.symm
    subst hxq
    exact ⟨a.block, a.off, congrArg some (h00 (by omega)), hq j hjl⟩
end Go.Proofs.Ytbphlbohiifcmaa
