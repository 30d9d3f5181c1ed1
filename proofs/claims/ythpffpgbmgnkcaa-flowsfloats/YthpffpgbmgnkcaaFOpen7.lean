/- A list of floats that came in, laid open. -/
import Derived.Test.YthpffpgbmgnkcaaFFBoth
import Derived.Test.YthpffpgbmgnkcaaFOpenW
import Derived.Deep.SlicePairs
import Derived.ChangeSlices
namespace Go.Proofs.Ythpffpgbmgnkcaa
open Go.RowKit Go.Deep Go.ChangeShapes

/-- an address at which something lies is that of a cell -/
theorem addr_of {w : World} {a : Addr} {v : Value} (h : w.cell? (a.add 0) = some v) : a = ⟨a.block, a.off, none⟩ := by
  obtain ⟨b, o, s⟩ := a
  cases s with
  | none => rfl
  | some x =>
    exfalso
    simp only [Addr.add, if_true, World.cell?] at h
    split at h
    · simp at h
    · cases h
theorem addr_add {a : Addr} (h : a = ⟨a.block, a.off, none⟩) (j : Nat) : a.add j = ⟨a.block, a.off + j, none⟩ := by
  generalize a.block = b at h
  generalize a.off = o at h
  subst h
  unfold Addr.add
  split
  · simp_all
  · rfl
theorem blk_lt {w : World} {b o : Nat} {v : Value} (h : w.cell? ⟨b, o, none⟩ = some v) : b < w.heap.size := World.block_lt_of_cell? w ⟨b, o, none⟩ h

theorem seven_list {α : Type} {l : List α} (h : l.length = 7) : ∃ a b c d e f g, l = [a, b, c, d, e, f, g] := by
  match l, h with
  | [a, b, c, d, e, f, g], _ => exact ⟨a, b, c, d, e, f, g, rfl⟩

theorem Try.cellsPut : Try.prog.cellsOf 33 = 7 := by kernel_rfl

set_option maxRecDepth 100000 in
theorem open_puts7 {H : Type} {enc : TypeId × Value → H} {W : World} {fuel : Nat} {v : Value} {x : DataW H × List MemPlace} (h : DataW.trod enc Try.prog W 0 (fun _ => true) true fuel 22 [v] = some x) :
    ∃ (a : Option Addr) (cap : Nat) (ps : List Pt), v = .slice a ps.length cap ∧ ps.length ≤ cap ∧ cap ≤ 9223372036854775807 ∧ Puts7 W a ps := by
  rcases open_slice Try.underlying22 h with ⟨h0, _⟩ | ⟨a, len, cap, m, n, D, Pl, h0, _, hl, hm, hmm, hxe, hx⟩
  · refine ⟨none, 0, [], ?_, Nat.le_refl _, by omega, fun j x hj => by simp at hj⟩
    simpa using h0
  · have hlm : len ≤ m := by rw [hmm]; simp; exact hl
    unfold maxLen at hm
    have h00 : 0 < len → a = ⟨a.block, a.off, none⟩ := by
      intro hp
      obtain ⟨cs', h1, h2⟩ := hx 0 (by omega)
      rw [Try.cellsPut] at h1
      obtain ⟨_, hlen, hcell⟩ := World.cells?_some h1
      have e0 := hcell 0 (by omega)
      rw [add_add, List.getElem?_eq_getElem (by omega)] at e0
      simp only [Nat.zero_mul, Nat.add_zero] at e0
      exact addr_of e0
    have each : ∀ i, i < len → ∃ p : Pt, a.block < W.heap.size ∧ W.cell? ⟨a.block, a.off + i * 7, none⟩ = some (.bool p.r) ∧ W.cell? ⟨a.block, a.off + i * 7 + 1, none⟩ = some (.bool p.i) ∧ W.cell? ⟨a.block, a.off + i * 7 + 2, none⟩ = some (.int .i64 p.w) ∧ W.cell? ⟨a.block, a.off + i * 7 + 3, none⟩ = some (.int .i64 p.h) ∧ W.cell? ⟨a.block, a.off + i * 7 + 4, none⟩ = some (.int .i64 p.f) ∧ W.cell? ⟨a.block, a.off + i * 7 + 5, none⟩ = some (.int .i64 p.lo) ∧ W.cell? ⟨a.block, a.off + i * 7 + 6, none⟩ = some (.int .i64 p.hi) := by
      intro i hi
      have ea := h00 (by omega)
      obtain ⟨cs', h1, h2⟩ := hx i (by omega)
      rw [Try.cellsPut] at h1
      obtain ⟨_, hlen, hcell⟩ := World.cells?_some h1
      obtain ⟨hcl, hi', hb'⟩ := struct_cells Try.underlying33 h2
      obtain ⟨v0, v1, v2, v3, v4, v5, v6, rfl⟩ := seven_list hlen
      obtain ⟨n0, g0⟩ := hb' 0 _ rfl Try.cellsB Try.underlying4
      obtain ⟨n1, g1⟩ := hb' 1 _ rfl Try.cellsB Try.underlying4
      obtain ⟨n2, g2⟩ := hi' 2 _ rfl Try.cellsI Try.underlying3
      obtain ⟨n3, g3⟩ := hi' 3 _ rfl Try.cellsI Try.underlying3
      obtain ⟨n4, g4⟩ := hi' 4 _ rfl Try.cellsI Try.underlying3
      obtain ⟨n5, g5⟩ := hi' 5 _ rfl Try.cellsI Try.underlying3
      obtain ⟨n6, g6⟩ := hi' 6 _ rfl Try.cellsI Try.underlying3
      have e0 : v0 = _ := Option.some.inj g0
      have e1 : v1 = _ := Option.some.inj g1
      have e2 : v2 = _ := Option.some.inj g2
      have e3 : v3 = _ := Option.some.inj g3
      have e4 : v4 = _ := Option.some.inj g4
      have e5 : v5 = _ := Option.some.inj g5
      have e6 : v6 = _ := Option.some.inj g6
      have q : ∀ f, f < 7 → W.cell? ⟨a.block, a.off + i * 7 + f, none⟩ = [v0, v1, v2, v3, v4, v5, v6][f]? := by
        intro f hf
        have := hcell f hf
        rw [add_add, addr_add ea] at this
        rw [show a.off + i * 7 + f = a.off + (i * 7 + f) by omega]
        exact this
      rw [e0, e1, e2, e3, e4, e5, e6] at q
      have q0 := q 0 (by omega)
      exact ⟨⟨n0, n1, n2, n3, n4, n5, n6⟩, blk_lt q0, q0, q 1 (by omega), q 2 (by omega), q 3 (by omega), q 4 (by omega), q 5 (by omega), q 6 (by omega)⟩
    have : Inhabited Pt := ⟨⟨false, false, 0, 0, 0, 0, 0⟩⟩
    obtain ⟨q, hq⟩ := choose_lt each
    refine ⟨some a, cap, (List.range len).map q, by simpa using h0, by simpa using hl, by omega, fun j p hj => ?_⟩
    have hjl : j < len := by simpa using (List.getElem?_eq_some_iff.1 hj).1
    have hxq : p = q j := by simpa [List.getElem?_range hjl] using hj.symm
    subst hxq
    obtain ⟨c0, c1, c2, c3, c4, c5, c6, c7⟩ := hq j hjl
    exact ⟨a.block, a.off, congrArg some (h00 (by omega)), c0, c1, c2, c3, c4, c5, c6, c7⟩
end Go.Proofs.Ythpffpgbmgnkcaa
