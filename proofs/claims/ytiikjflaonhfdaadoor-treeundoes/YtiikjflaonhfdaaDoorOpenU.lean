/- A list of changes that came in, laid open. -/
import Derived.Test.YtiikjflaonhfdaaDoorULaw
import Derived.Deep.SlicePairs
import Derived.ChangeSlices
namespace Go.Proofs.YtiikjflaonhfdaaDoor
open Go.RowKit Go.Deep Go.ChangeShapes

/-- an address at which something lies is that of a cell -/
theorem addr_of {w : World} {a : Addr} {v : Value} (h : w.cell? (a.add 0) = some v) : a = ⟨a.block, a.off, none⟩ := by
  obtain ⟨b, o, s⟩ := a
  cases s with
  | none => rfl
  | some x =>
    exfalso
    simp only [Addr.add, if_true, World.cell?] at h
    split at h
    · simp at h
    · cases h
theorem addr_add {a : Addr} (h : a = ⟨a.block, a.off, none⟩) (j : Nat) : a.add j = ⟨a.block, a.off + j, none⟩ := by
  generalize a.block = b at h
  generalize a.off = o at h
  subst h
  unfold Addr.add
  split
  · simp_all
  · rfl
theorem blk_lt {w : World} {b o : Nat} {v : Value} (h : w.cell? ⟨b, o, none⟩ = some v) : b < w.heap.size := World.block_lt_of_cell? w ⟨b, o, none⟩ h
theorem six_list {α : Type} {l : List α} (h : l.length = 6) : ∃ a b c d e f, l = [a, b, c, d, e, f] := by
  match l, h with
  | [a, b, c, d, e, f], _ => exact ⟨a, b, c, d, e, f, rfl⟩

theorem Tryd.cellsStr : Tryd.prog.cellsOf 9 = 1 := by kernel_rfl
theorem Tryd.cellsInt : Tryd.prog.cellsOf 3 = 1 := by kernel_rfl
theorem Tryd.cellsOp : Tryd.prog.cellsOf 35 = 6 := by kernel_rfl

set_option maxRecDepth 100000 in
theorem open_ops {H : Type} {enc : TypeId × Value → H} {W : World} {fuel : Nat} {v : Value} {x : DataW H × List MemPlace} (h : DataW.trod enc Tryd.prog W 0 (fun _ => true) true fuel 26 [v] = some x) :
    ∃ os : List OpD, OpsAt W v os := by
  rcases open_slice Tryd.underlying26 h with ⟨h0, _⟩ | ⟨a, len, cap, m, n, D, Pl, h0, _, hl, hm, hmm, _, hx⟩
  · refine ⟨[], none, 0, by simpa using h0, Nat.le_refl _, by unfold maxLen; omega, fun j x hj => by simp at hj⟩
  · have hlm : len ≤ m := by rw [hmm]; simp; exact hl
    have h00 : 0 < len → a = ⟨a.block, a.off, none⟩ := by
      intro hp
      obtain ⟨cs', h1, h2⟩ := hx 0 (by omega)
      rw [Tryd.cellsOp] at h1
      obtain ⟨_, hlen, hcell⟩ := World.cells?_some h1
      have e0 := hcell 0 (by omega)
      rw [add_add, List.getElem?_eq_getElem (by omega)] at e0
      simp only [Nat.zero_mul, Nat.add_zero] at e0
      exact addr_of e0
    have each : ∀ i, i < len → ∃ o : OpD, (o.s.size ≤ 9223372036854775807 ∧ o.t.size ≤ 9223372036854775807) ∧ a.block < W.heap.size ∧
        W.cell? ⟨a.block, a.off + i * 6, none⟩ = some (.int .i64 o.kind) ∧ W.cell? ⟨a.block, a.off + i * 6 + 1, none⟩ = some (.int .i64 o.a) ∧ W.cell? ⟨a.block, a.off + i * 6 + 2, none⟩ = some (.int .i64 o.b) ∧ W.cell? ⟨a.block, a.off + i * 6 + 3, none⟩ = some (.int .i64 o.c) ∧ W.cell? ⟨a.block, a.off + i * 6 + 4, none⟩ = some (.string o.s) ∧ W.cell? ⟨a.block, a.off + i * 6 + 5, none⟩ = some (.string o.t) := by
      intro i hi
      have ea := h00 (by omega)
      obtain ⟨cs', h1, h2⟩ := hx i (by omega)
      rw [Tryd.cellsOp] at h1
      obtain ⟨_, hlen, hcell⟩ := World.cells?_some h1
      obtain ⟨xs, k, hk, _, _, hxl, hf⟩ := DataW.trod_struct Tryd.underlying35 h2
      obtain ⟨v0, v1, v2, v3, v4, v5, rfl⟩ := six_list hlen
      obtain ⟨y0, y1, y2, y3, y4, y5, rfl⟩ := six_list hxl
      have g0 : DataW.trod enc Tryd.prog W 0 (fun _ => true) true k 3 [v0] = some y0 := by
        have := hf 0 _ rfl
        simpa [Tryd.cellsInt] using this
      have g1 : DataW.trod enc Tryd.prog W 0 (fun _ => true) true k 3 [v1] = some y1 := by
        have := hf 1 _ rfl
        simpa [Tryd.cellsInt] using this
      have g2 : DataW.trod enc Tryd.prog W 0 (fun _ => true) true k 3 [v2] = some y2 := by
        have := hf 2 _ rfl
        simpa [Tryd.cellsInt] using this
      have g3 : DataW.trod enc Tryd.prog W 0 (fun _ => true) true k 3 [v3] = some y3 := by
        have := hf 3 _ rfl
        simpa [Tryd.cellsInt] using this
      have g4 : DataW.trod enc Tryd.prog W 0 (fun _ => true) true k 9 [v4] = some y4 := by
        have := hf 4 _ rfl
        simpa [Tryd.cellsStr] using this
      have g5 : DataW.trod enc Tryd.prog W 0 (fun _ => true) true k 9 [v5] = some y5 := by
        have := hf 5 _ rfl
        simpa [Tryd.cellsStr] using this
      obtain ⟨k0, e0, _, _⟩ := DataW.trod_int Tryd.underlying3 g0
      obtain ⟨k1, e1, _, _⟩ := DataW.trod_int Tryd.underlying3 g1
      obtain ⟨k2, e2, _, _⟩ := DataW.trod_int Tryd.underlying3 g2
      obtain ⟨k3, e3, _, _⟩ := DataW.trod_int Tryd.underlying3 g3
      obtain ⟨s4, e4, _, z4⟩ := DataW.trod_string Tryd.underlying9 g4
      obtain ⟨s5, e5, _, z5⟩ := DataW.trod_string Tryd.underlying9 g5
      simp only [List.cons.injEq, and_true] at e0 e1 e2 e3 e4 e5
      subst e0 e1 e2 e3 e4 e5
      have q : ∀ f, f < 6 → W.cell? ⟨a.block, a.off + i * 6 + f, none⟩ = [Value.int .i64 k0, .int .i64 k1, .int .i64 k2, .int .i64 k3, .string s4, .string s5][f]? := by
        intro f hf6
        have := hcell f hf6
        rw [add_add, addr_add ea] at this
        rw [show a.off + i * 6 + f = a.off + (i * 6 + f) by omega]
        exact this
      unfold maxLen at z4 z5
      have q0 := q 0 (by omega)
      exact ⟨⟨k0, k1, k2, k3, s4, s5⟩, ⟨by simpa using z4, by simpa using z5⟩, blk_lt q0, q0, q 1 (by omega), q 2 (by omega), q 3 (by omega), q 4 (by omega), q 5 (by omega)⟩
    have : Inhabited OpD := ⟨⟨0, 0, 0, 0, ⟨#[]⟩, ⟨#[]⟩⟩⟩
    obtain ⟨q, hq⟩ := choose_lt each
    refine ⟨(List.range len).map q, some a, cap, by simpa using h0, by simpa using hl, hm, fun j x hj => ?_⟩
    have hjl : j < len := by simpa using (List.getElem?_eq_some_iff.1 hj).1
    have hxq : x = q j := by simpa [List.getElem?_range hjl] using hj.symm
    subst hxq
    obtain ⟨hs, hb, c0, c1, c2, c3, c4, c5⟩ := hq j hjl
    exact ⟨hs, a.block, a.off, congrArg some (h00 (by omega)), hb, c0, c1, c2, c3, c4, c5⟩
end Go.Proofs.YtiikjflaonhfdaaDoor
