/- A list of marks that came in, laid open. -/
import Derived.Test.YtpkdigjejijiiaaPpBase
import Derived.Deep.SlicePairs
import Derived.ChangeSlices
namespace Go.Proofs.Ytpkdigjejijiiaa
open Go.RowKit Go.Deep Go.ChangeShapes

/-- an address at which something lies is that of a cell -/
theorem addr_of {w : World} {a : Addr} {v : Value} (h : w.cell? (a.add 0) = some v) : a = ⟨a.block, a.off, none⟩ := by
  obtain ⟨b, o, s⟩ := a
  cases s with
  | none => rfl
  | some x =>
    exfalso
    simp only [Addr.add, if_true, World.cell?] at h
    split at h
    · simp at h
    · cases h
theorem addr_add {a : Addr} (h : a = ⟨a.block, a.off, none⟩) (j : Nat) : a.add j = ⟨a.block, a.off + j, none⟩ := by
  generalize a.block = b at h
  generalize a.off = o at h
  subst h
  unfold Addr.add
  split
  · simp_all
  · rfl
theorem blk_lt {w : World} {b o : Nat} {v : Value} (h : w.cell? ⟨b, o, none⟩ = some v) : b < w.heap.size := World.block_lt_of_cell? w ⟨b, o, none⟩ h
theorem seven_list {α : Type} {l : List α} (h : l.length = 7) : ∃ a b c d e f g, l = [a, b, c, d, e, f, g] := by
  match l, h with
  | [a, b, c, d, e, f, g], _ => exact ⟨a, b, c, d, e, f, g, rfl⟩
theorem four_list {α : Type} {l : List α} (h : l.length = 4) : ∃ a b c d, l = [a, b, c, d] := by
  match l, h with
  | [a, b, c, d], _ => exact ⟨a, b, c, d, rfl⟩
theorem Try.cellsStr : Try.prog.cellsOf 9 = 1 := by kernel_rfl
theorem Try.cellsInt : Try.prog.cellsOf 3 = 1 := by kernel_rfl
theorem Try.cellsRect : Try.prog.cellsOf 25 = 4 := by kernel_rfl
theorem Try.cellsMk : Try.prog.cellsOf 27 = 7 := by kernel_rfl

set_option maxRecDepth 100000 in
theorem open_marks {H : Type} {enc : TypeId × Value → H} {W : World} {fuel : Nat} {v : Value} {x : DataW H × List MemPlace} (h : DataW.trod enc Try.prog W 0 (fun _ => true) true fuel 22 [v] = some x) :
    ∃ l : List Mk, MksL W v l := by
  rcases open_slice Try.underlying22 h with ⟨h0, _⟩ | ⟨a, len, cap, m, n, D, Pl, h0, _, hl, hm, hmm, _, hx⟩
  · refine ⟨[], none, 0, by simpa using h0, Nat.le_refl _, by omega, fun j x hj => by simp at hj⟩
  · have hlm : len ≤ m := by rw [hmm]; simp; exact hl
    unfold maxLen at hm
    have h00 : 0 < len → a = ⟨a.block, a.off, none⟩ := by
      intro hp
      obtain ⟨cs', h1, h2⟩ := hx 0 (by omega)
      rw [Try.cellsMk] at h1
      obtain ⟨_, hlen, hcell⟩ := World.cells?_some h1
      have e0 := hcell 0 (by omega)
      rw [add_add, List.getElem?_eq_getElem (by omega)] at e0
      simp only [Nat.zero_mul, Nat.add_zero] at e0
      exact addr_of e0
    have each : ∀ i, i < len → ∃ o : Mk, o.s.size ≤ 9223372036854775807 ∧ MkAt W a.block (a.off + i * 7) o := by
      intro i hi
      have ea := h00 (by omega)
      obtain ⟨cs', h1, h2⟩ := hx i (by omega)
      rw [Try.cellsMk] at h1
      obtain ⟨_, hlen, hcell⟩ := World.cells?_some h1
      obtain ⟨xs, k, hk, _, _, hxl, hf⟩ := DataW.trod_struct Try.underlying27 h2
      obtain ⟨v0, v1, v2, v3, v4, v5, v6, rfl⟩ := seven_list hlen
      obtain ⟨y0, y1, y2, y3, rfl⟩ := four_list hxl
      have g0 : DataW.trod enc Try.prog W 0 (fun _ => true) true k 3 [v0] = some y0 := by
        have := hf 0 _ rfl
        simpa [Try.cellsInt] using this
      have g1 : DataW.trod enc Try.prog W 0 (fun _ => true) true k 3 [v1] = some y1 := by
        have := hf 1 _ rfl
        simpa [Try.cellsInt] using this
      have g2 : DataW.trod enc Try.prog W 0 (fun _ => true) true k 25 [v2, v3, v4, v5] = some y2 := by
        have := hf 2 _ rfl
        simpa [Try.cellsRect] using this
      have g3 : DataW.trod enc Try.prog W 0 (fun _ => true) true k 9 [v6] = some y3 := by
        have := hf 3 _ rfl
        simpa [Try.cellsStr] using this
      obtain ⟨xs2, k2, hk2, _, _, hxl2, hf2⟩ := DataW.trod_struct Try.underlying25 g2
      obtain ⟨z0, z1, z2, z3, rfl⟩ := four_list hxl2
      have r0 : DataW.trod enc Try.prog W 0 (fun _ => true) true k2 3 [v2] = some z0 := by
        have := hf2 0 _ rfl
        simpa [Try.cellsInt] using this
      have r1 : DataW.trod enc Try.prog W 0 (fun _ => true) true k2 3 [v3] = some z1 := by
        have := hf2 1 _ rfl
        simpa [Try.cellsInt] using this
      have r2 : DataW.trod enc Try.prog W 0 (fun _ => true) true k2 3 [v4] = some z2 := by
        have := hf2 2 _ rfl
        simpa [Try.cellsInt] using this
      have r3 : DataW.trod enc Try.prog W 0 (fun _ => true) true k2 3 [v5] = some z3 := by
        have := hf2 3 _ rfl
        simpa [Try.cellsInt] using this
      obtain ⟨k0, e0, _, _⟩ := DataW.trod_int Try.underlying3 g0
      obtain ⟨k1, e1, _, _⟩ := DataW.trod_int Try.underlying3 g1
      obtain ⟨k2', e2, _, _⟩ := DataW.trod_int Try.underlying3 r0
      obtain ⟨k3, e3, _, _⟩ := DataW.trod_int Try.underlying3 r1
      obtain ⟨k4, e4, _, _⟩ := DataW.trod_int Try.underlying3 r2
      obtain ⟨k5, e5, _, _⟩ := DataW.trod_int Try.underlying3 r3
      obtain ⟨s6, e6, _, z6⟩ := DataW.trod_string Try.underlying9 g3
      simp only [List.cons.injEq, and_true] at e0 e1 e2 e3 e4 e5 e6
      subst e0 e1 e2 e3 e4 e5 e6
      have q : ∀ f, f < 7 → W.cell? ⟨a.block, a.off + i * 7 + f, none⟩ = [Value.int .i64 k0, .int .i64 k1, .int .i64 k2', .int .i64 k3, .int .i64 k4, .int .i64 k5, .string s6][f]? := by
        intro f hf7
        have := hcell f hf7
        rw [add_add, addr_add ea] at this
        rw [show a.off + i * 7 + f = a.off + (i * 7 + f) by omega]
        exact this
      unfold maxLen at z6
      have q0 := q 0 (by omega)
      exact ⟨⟨k0, k1, k2', k3, k4, k5, s6⟩, by simpa using z6, blk_lt q0, q0, q 1 (by omega), q 2 (by omega), q 3 (by omega), q 4 (by omega), q 5 (by omega), q 6 (by omega)⟩
    have : Inhabited Mk := ⟨⟨0, 0, 0, 0, 0, 0, ⟨#[]⟩⟩⟩
    obtain ⟨q, hq⟩ := choose_lt each
    refine ⟨(List.range len).map q, some a, cap, by simpa using h0, by simpa using hl, by omega, fun j x hj => ?_⟩
    have hjl : j < len := by simpa using (List.getElem?_eq_some_iff.1 hj).1
    have hxq : x = q j := by simpa [List.getElem?_range hjl] using hj.symm
    subst hxq
    obtain ⟨hs, hb⟩ := hq j hjl
    exact ⟨hs, a.block, a.off, congrArg some (h00 (by omega)), hb⟩
end Go.Proofs.Ytpkdigjejijiiaa
