/- A list of numbers, and a list of items, that came in, laid open. -/
import Derived.Test.YtjdndaeobiagcaaGM00
import Derived.Test.YtjdndaeobiagcaaRows
import Derived.ProofKit
import Derived.OpenShut
import Derived.Deep.SlicePairs
import Derived.ChangeSlices
import Derived.Test.YtjdndaeobiagcaaSItem
import Derived.Test.YtjdndaeobiagcaaTrOf
namespace Go.Proofs.Ytjdndaeobiagcaa
open Go.RowKit Go.Deep Go.ChangeShapes

/-- an address at which something lies is that of a cell -/
theorem xaddr_of {w : World} {a : Addr} {v : Value} (h : w.cell? (a.add 0) = some v) : a = ⟨a.block, a.off, none⟩ := by
  obtain ⟨b, o, s⟩ := a
  cases s with
  | none => rfl
  | some x =>
    exfalso
    simp only [Addr.add, if_true, World.cell?] at h
    split at h
    · simp at h
    · cases h
theorem xaddr_add {a : Addr} (h : a = ⟨a.block, a.off, none⟩) (j : Nat) : a.add j = ⟨a.block, a.off + j, none⟩ := by
  generalize a.block = b at h
  generalize a.off = o at h
  subst h
  unfold Addr.add
  split
  · simp_all
  · rfl
theorem xblk_lt {w : World} {b o : Nat} {v : Value} (h : w.cell? ⟨b, o, none⟩ = some v) : b < w.heap.size := World.block_lt_of_cell? w ⟨b, o, none⟩ h

theorem Try.xcellsInt : Try.prog.cellsOf 3 = 1 := by kernel_rfl

/-- a slice of numbers -/
theorem open_intl {H : Type} {enc : TypeId × Value → H} {W : World} {fuel : Nat} {v : Value} {x : DataW H × List MemPlace} (h : DataW.trod enc Try.prog W 0 (fun _ => true) true fuel 23 [v] = some x) :
    ∃ l, IntL W v l := by
  rcases open_ints Try.underlying23 Try.underlying3 Try.xcellsInt h with ⟨h0, _⟩ | ⟨a, len, cap, zs, h0, _, hl, hm, hz, _, hx, _⟩
  · refine ⟨[], none, 0, ?_, Nat.le_refl _, by omega, fun j x hj => by simp at hj⟩
    simpa using h0
  · have hzl : len ≤ zs.length := by rw [hz]; simp; exact hl
    unfold maxLen at hm
    have hlen : (zs.take len).length = len := by simp; omega
    refine ⟨zs.take len, some a, cap, by rw [hlen]; simpa using h0, by rw [hlen]; exact hl, by omega, fun j k hj => ?_⟩
    have hjl : j < len := by have := (List.getElem?_eq_some_iff.1 hj).1; omega
    have c0 := hx j (by omega)
    have hk : zs.getD j 0 = k := by
      rw [List.getElem?_take, if_pos hjl] at hj
      rw [List.getD_eq_getElem?_getD, hj]
      rfl
    rw [hk] at c0
    have ea := xaddr_of (hx 0 (by omega))
    rw [xaddr_add ea] at c0
    exact ⟨a.block, a.off, congrArg some ea, xblk_lt c0, c0⟩
end Go.Proofs.Ytjdndaeobiagcaa

/- A list of items that came in, laid open. -/
namespace Go.Proofs.Ytjdndaeobiagcaa
open Go.RowKit Go.Deep Go.ChangeShapes

theorem xone_cell {α : Type} {l : List α} {o : Nat} {v : α} (h : (l.drop o).take 1 = [v]) : l[o]? = some v := by
  have := congrArg (fun m => m[0]?) h
  simpa using this

section
variable {H : Type} {enc : TypeId × Value → H} {P : Program} {W : World} {base : Nat} {spare : Nat → Bool} {held : Bool}

/-- each number's cell and each bool's cell of a struct -/
theorem xstruct_cells {t : TypeId} {fs : Array Field} {fuel : Nat} {cs : List Value} {x : DataW H × List MemPlace} (ht : P.underlying t = some (.struct fs)) (h : DataW.trod enc P W base spare held fuel t cs = some x) :
    cs.length = P.cellsOf t ∧ (∀ (i : Nat) (f : Field), fs[i]? = some f → P.cellsOf f.type = 1 → P.underlying f.type = some (.int .i64) → ∃ n, cs[f.offset]? = some (.int .i64 n)) ∧
      (∀ (i : Nat) (f : Field), fs[i]? = some f → P.cellsOf f.type = 1 → P.underlying f.type = some .bool → ∃ b, cs[f.offset]? = some (.bool b)) := by
  obtain ⟨xs, n, _, _, hl, hlen, hf⟩ := DataW.trod_struct ht h
  refine ⟨hl, fun i f hi hc hu => ?_, fun i f hi hc hu => ?_⟩
  · have := hf i f hi
    have hlt : i < xs.length := by rw [hlen]; exact (Array.getElem?_eq_some_iff.1 hi).1
    rw [List.getElem?_eq_getElem hlt] at this
    obtain ⟨m, hm, _⟩ := DataW.trod_int hu this
    rw [hc] at hm
    exact ⟨m, xone_cell hm⟩
  · have := hf i f hi
    have hlt : i < xs.length := by rw [hlen]; exact (Array.getElem?_eq_some_iff.1 hi).1
    rw [List.getElem?_eq_getElem hlt] at this
    obtain ⟨m, hm, _⟩ := DataW.trod_bool hu this
    rw [hc] at hm
    exact ⟨m, xone_cell hm⟩
end


theorem six_list {α : Type} {l : List α} (h : l.length = 6) : ∃ a b c d e f, l = [a, b, c, d, e, f] := by
  match l, h with
  | [a, b, c, d, e, f], _ => exact ⟨a, b, c, d, e, f, rfl⟩

theorem Try.cellsFlex : Try.prog.cellsOf 34 = 6 := by kernel_rfl

set_option maxRecDepth 100000 in
theorem open_flexes {H : Type} {enc : TypeId × Value → H} {W : World} {fuel : Nat} {v : Value} {x : DataW H × List MemPlace} (h : DataW.trod enc Try.prog W 0 (fun _ => true) true fuel 22 [v] = some x) :
    ∃ l : List It, ItemsL W v l := by
  rcases open_slice Try.underlying22 h with ⟨h0, _⟩ | ⟨a, len, cap, m, n, D, Pl, h0, _, hl, hm, hmm, hxe, hx⟩
  · refine ⟨[], none, 0, ?_, Nat.le_refl _, by omega, fun j x hj => by simp at hj⟩
    simpa using h0
  · have hlm : len ≤ m := by rw [hmm]; simp; exact hl
    unfold maxLen at hm
    have h00 : 0 < len → a = ⟨a.block, a.off, none⟩ := by
      intro hp
      obtain ⟨cs', h1, h2⟩ := hx 0 (by omega)
      rw [Try.cellsFlex] at h1
      obtain ⟨_, hlen, hcell⟩ := World.cells?_some h1
      have e0 := hcell 0 (by omega)
      rw [add_add, List.getElem?_eq_getElem (by omega)] at e0
      simp only [Nat.zero_mul, Nat.add_zero] at e0
      exact xaddr_of e0
    have each : ∀ i, i < len → ∃ p : It, ItAt W a.block (a.off + i * 6) p := by
      intro i hi
      have ea := h00 (by omega)
      obtain ⟨cs', h1, h2⟩ := hx i (by omega)
      rw [Try.cellsFlex] at h1
      obtain ⟨_, hlen, hcell⟩ := World.cells?_some h1
      obtain ⟨hcl, hi', hb'⟩ := xstruct_cells Try.underlying34 h2
      obtain ⟨v0, v1, v2, v3, v4, v5, rfl⟩ := six_list hlen
      obtain ⟨n0, g0⟩ := hi' 0 _ rfl Try.xcellsInt Try.underlying3
      obtain ⟨n1, g1⟩ := hi' 1 _ rfl Try.xcellsInt Try.underlying3
      obtain ⟨n2, g2⟩ := hi' 2 _ rfl Try.xcellsInt Try.underlying3
      obtain ⟨n3, g3⟩ := hi' 3 _ rfl Try.xcellsInt Try.underlying3
      obtain ⟨n4, g4⟩ := hi' 4 _ rfl Try.xcellsInt Try.underlying3
      obtain ⟨n5, g5⟩ := hi' 5 _ rfl Try.xcellsInt Try.underlying3
      have e0 : v0 = _ := Option.some.inj g0
      have e1 : v1 = _ := Option.some.inj g1
      have e2 : v2 = _ := Option.some.inj g2
      have e3 : v3 = _ := Option.some.inj g3
      have e4 : v4 = _ := Option.some.inj g4
      have e5 : v5 = _ := Option.some.inj g5
      have q : ∀ f, f < 6 → W.cell? ⟨a.block, a.off + i * 6 + f, none⟩ = [v0, v1, v2, v3, v4, v5][f]? := by
        intro f hf
        have := hcell f hf
        rw [add_add, xaddr_add ea] at this
        rw [show a.off + i * 6 + f = a.off + (i * 6 + f) by omega]
        exact this
      rw [e0, e1, e2, e3, e4, e5] at q
      have q0 := q 0 (by omega)
      exact ⟨⟨n0, n1, n2, n3, n4, n5⟩, xblk_lt q0, q0, q 1 (by omega), q 2 (by omega), q 3 (by omega), q 4 (by omega), q 5 (by omega)⟩
    have : Inhabited It := ⟨⟨0, 0, 0, 0, 0, 0⟩⟩
    obtain ⟨q, hq⟩ := choose_lt each
    refine ⟨(List.range len).map q, some a, cap, by simpa using h0, by simpa using hl, by omega, fun j p hj => ?_⟩
    have hjl : j < len := by simpa using (List.getElem?_eq_some_iff.1 hj).1
    have hxq : p = q j := by simpa [List.getElem?_range hjl] using hj.symm
    subst hxq
    exact ⟨a.block, a.off, congrArg some (h00 (by omega)), hq j hjl⟩
end Go.Proofs.Ytjdndaeobiagcaa

/- Lists of tracks and of needs that came in, laid open. -/
namespace Go.Proofs.Ytjdndaeobiagcaa
open Go.RowKit Go.Deep Go.ChangeShapes

theorem three_list {α : Type} {l : List α} (h : l.length = 3) : ∃ a b c, l = [a, b, c] := by
  match l, h with
  | [a, b, c], _ => exact ⟨a, b, c, rfl⟩
theorem two_list {α : Type} {l : List α} (h : l.length = 2) : ∃ a b, l = [a, b] := by
  match l, h with
  | [a, b], _ => exact ⟨a, b, rfl⟩
theorem Try.cellsQn : Try.prog.cellsOf 59 = 3 := by kernel_rfl
theorem Try.cellsQt : Try.prog.cellsOf 56 = 2 := by kernel_rfl

set_option maxRecDepth 100000 in
theorem open_needsT {H : Type} {enc : TypeId × Value → H} {W : World} {fuel : Nat} {v : Value} {x : DataW H × List MemPlace} (h : DataW.trod enc Try.prog W 0 (fun _ => true) true fuel 51 [v] = some x) :
    ∃ l : List Nd3, NsL W v l := by
  rcases open_slice Try.underlying51 h with ⟨h0, _⟩ | ⟨a, len, cap, m, n, D, Pl, h0, _, hl, hm, hmm, hxe, hx⟩
  · refine ⟨[], none, 0, ?_, Nat.le_refl _, by omega, fun j x hj => by simp at hj⟩
    simpa using h0
  · have hlm : len ≤ m := by rw [hmm]; simp; exact hl
    unfold maxLen at hm
    have h00 : 0 < len → a = ⟨a.block, a.off, none⟩ := by
      intro hp
      obtain ⟨cs', h1, h2⟩ := hx 0 (by omega)
      rw [Try.cellsQn] at h1
      obtain ⟨_, hlen, hcell⟩ := World.cells?_some h1
      have e0 := hcell 0 (by omega)
      rw [add_add, List.getElem?_eq_getElem (by omega)] at e0
      simp only [Nat.zero_mul, Nat.add_zero] at e0
      exact xaddr_of e0
    have each : ∀ i, i < len → ∃ p : Nd3, a.block < W.heap.size ∧ W.cell? ⟨a.block, a.off + i * 3, none⟩ = some (.int .i64 p.f) ∧ W.cell? ⟨a.block, a.off + i * 3 + 1, none⟩ = some (.int .i64 p.s) ∧ W.cell? ⟨a.block, a.off + i * 3 + 2, none⟩ = some (.int .i64 p.z) := by
      intro i hi
      have ea := h00 (by omega)
      obtain ⟨cs', h1, h2⟩ := hx i (by omega)
      rw [Try.cellsQn] at h1
      obtain ⟨_, hlen, hcell⟩ := World.cells?_some h1
      obtain ⟨hcl, hi', hb'⟩ := xstruct_cells Try.underlying59 h2
      obtain ⟨v0, v1, v2, rfl⟩ := three_list hlen
      obtain ⟨n0, g0⟩ := hi' 0 _ rfl Try.xcellsInt Try.underlying3
      obtain ⟨n1, g1⟩ := hi' 1 _ rfl Try.xcellsInt Try.underlying3
      obtain ⟨n2, g2⟩ := hi' 2 _ rfl Try.xcellsInt Try.underlying3
      have e0 : v0 = _ := Option.some.inj g0
      have e1 : v1 = _ := Option.some.inj g1
      have e2 : v2 = _ := Option.some.inj g2
      have q : ∀ f, f < 3 → W.cell? ⟨a.block, a.off + i * 3 + f, none⟩ = [v0, v1, v2][f]? := by
        intro f hf
        have := hcell f hf
        rw [add_add, xaddr_add ea] at this
        rw [show a.off + i * 3 + f = a.off + (i * 3 + f) by omega]
        exact this
      rw [e0, e1, e2] at q
      have q0 := q 0 (by omega)
      exact ⟨⟨n0, n1, n2⟩, xblk_lt q0, q0, q 1 (by omega), q 2 (by omega)⟩
    have : Inhabited Nd3 := ⟨⟨0, 0, 0⟩⟩
    obtain ⟨q, hq⟩ := choose_lt each
    refine ⟨(List.range len).map q, some a, cap, by simpa using h0, by simpa using hl, by omega, fun j p hj => ?_⟩
    have hjl : j < len := by simpa using (List.getElem?_eq_some_iff.1 hj).1
    have hxq : p = q j := by simpa [List.getElem?_range hjl] using hj.symm
    subst hxq
    exact ⟨a.block, a.off, congrArg some (h00 (by omega)), hq j hjl⟩

set_option maxRecDepth 100000 in
theorem open_tracksT {H : Type} {enc : TypeId × Value → H} {W : World} {fuel : Nat} {v : Value} {x : DataW H × List MemPlace} (h : DataW.trod enc Try.prog W 0 (fun _ => true) true fuel 50 [v] = some x) :
    ∃ l : List Tr2, TkL W v l := by
  rcases open_slice Try.underlying50 h with ⟨h0, _⟩ | ⟨a, len, cap, m, n, D, Pl, h0, _, hl, hm, hmm, hxe, hx⟩
  · refine ⟨[], none, 0, ?_, Nat.le_refl _, by omega, fun j x hj => by simp at hj⟩
    simpa using h0
  · have hlm : len ≤ m := by rw [hmm]; simp; exact hl
    unfold maxLen at hm
    have h00 : 0 < len → a = ⟨a.block, a.off, none⟩ := by
      intro hp
      obtain ⟨cs', h1, h2⟩ := hx 0 (by omega)
      rw [Try.cellsQt] at h1
      obtain ⟨_, hlen, hcell⟩ := World.cells?_some h1
      have e0 := hcell 0 (by omega)
      rw [add_add, List.getElem?_eq_getElem (by omega)] at e0
      simp only [Nat.zero_mul, Nat.add_zero] at e0
      exact xaddr_of e0
    have each : ∀ i, i < len → ∃ p : Tr2, a.block < W.heap.size ∧ W.cell? ⟨a.block, a.off + i * 2, none⟩ = some (.int .i64 p.k) ∧ W.cell? ⟨a.block, a.off + i * 2 + 1, none⟩ = some (.int .i64 p.n) := by
      intro i hi
      have ea := h00 (by omega)
      obtain ⟨cs', h1, h2⟩ := hx i (by omega)
      rw [Try.cellsQt] at h1
      obtain ⟨_, hlen, hcell⟩ := World.cells?_some h1
      obtain ⟨hcl, hi', hb'⟩ := xstruct_cells Try.underlying56 h2
      obtain ⟨v0, v1, rfl⟩ := two_list hlen
      obtain ⟨n0, g0⟩ := hi' 0 _ rfl Try.xcellsInt Try.underlying3
      obtain ⟨n1, g1⟩ := hi' 1 _ rfl Try.xcellsInt Try.underlying3
      have e0 : v0 = _ := Option.some.inj g0
      have e1 : v1 = _ := Option.some.inj g1
      have q : ∀ f, f < 2 → W.cell? ⟨a.block, a.off + i * 2 + f, none⟩ = [v0, v1][f]? := by
        intro f hf
        have := hcell f hf
        rw [add_add, xaddr_add ea] at this
        rw [show a.off + i * 2 + f = a.off + (i * 2 + f) by omega]
        exact this
      rw [e0, e1] at q
      have q0 := q 0 (by omega)
      exact ⟨⟨n0, n1⟩, xblk_lt q0, q0, q 1 (by omega)⟩
    have : Inhabited Tr2 := ⟨⟨0, 0⟩⟩
    obtain ⟨q, hq⟩ := choose_lt each
    refine ⟨(List.range len).map q, some a, cap, by simpa using h0, by simpa using hl, by omega, fun j p hj => ?_⟩
    have hjl : j < len := by simpa using (List.getElem?_eq_some_iff.1 hj).1
    have hxq : p = q j := by simpa [List.getElem?_range hjl] using hj.symm
    subst hxq
    exact ⟨a.block, a.off, congrArg some (h00 (by omega)), hq j hjl⟩
end Go.Proofs.Ytjdndaeobiagcaa
