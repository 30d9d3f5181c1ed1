/- Spread: where things begin, one after the other. -/
import Derived.Test.YtdjagdifemhkpaaXSpread
namespace Go.Proofs.Ytdjagdifemhkpaa
open Go.RowKit
set_option linter.unusedVariables false      -- bounds that are for the walk

/-- where the k-th would begin from the start on -/
def begN (hs : List Int) (g : Int) (k : Nat) : Int := (hs.take k).sum + k * g
def leftN (hs : List Int) (room g : Int) : Int := room - max ((hs.length : Int) - 1) 0 * g - hs.sum
/-- lengths, as many as count -/
def cutN (l : List Int) : List Int := (l.take 200).map heldN
def spreadN (l : List Int) (room gap how : Int) : List Int :=
  (List.range (cutN l).length).map fun k => begN (cutN l) (heldN gap) k + laterN (leftN (cutN l) (heldN room) (heldN gap)) k (cutN l).length how

theorem spreadN_len (l : List Int) (room gap how : Int) : (spreadN l room gap how).length = (cutN l).length := by simp [spreadN]
theorem cutN_len (l : List Int) : (cutN l).length = min l.length 200 := by simp [cutN, Nat.min_comm]
theorem sum_take_succ {hs : List Int} {k : Nat} {x : Int} (h : hs[k]? = some x) : (hs.take (k + 1)).sum = (hs.take k).sum + x := by
  rw [List.take_add_one, h]; simp
theorem begN_succ {hs : List Int} {g : Int} {k : Nat} {x : Int} (h : hs[k]? = some x) : begN hs g (k + 1) = begN hs g k + (x + g) := by
  unfold begN; rw [sum_take_succ h]
  have : ((k + 1 : Nat) : Int) * g = k * g + g := by rw [Int.natCast_add, Int.add_mul]; simp
  rw [this]; omega
def Small (hs : List Int) : Prop := hs.length ≤ 200 ∧ ∀ x ∈ hs, -16777216 ≤ x ∧ x ≤ 16777216
theorem cutN_small (l : List Int) : Small (cutN l) := by
  refine ⟨by rw [cutN_len]; omega, fun x hx => ?_⟩
  obtain ⟨y, _, rfl⟩ := List.mem_map.1 hx
  exact heldN_bd y
theorem sum_bdl : ∀ (hs : List Int), (∀ x ∈ hs, -16777216 ≤ x ∧ x ≤ 16777216) → -16777216 * (hs.length : Int) ≤ hs.sum ∧ hs.sum ≤ 16777216 * (hs.length : Int)
  | [], _ => by simp
  | x :: r, h => by
    have h1 := h x (List.mem_cons_self ..)
    have h2 := sum_bdl r (fun y hy => h y (List.mem_cons_of_mem _ hy))
    rw [List.sum_cons, List.length_cons]
    omega
theorem Small.sum_take {hs : List Int} (h : Small hs) (k : Nat) : -3355443200 ≤ (hs.take k).sum ∧ (hs.take k).sum ≤ 3355443200 := by
  have := sum_bdl (hs.take k) (fun x hx => h.2 x (List.mem_of_mem_take hx))
  have hl : (hs.take k).length ≤ 200 := by rw [List.length_take]; have := h.1; omega
  omega
theorem nat_mul_bd (k : Nat) (g : Int) (hk : k ≤ 200) (g1 : -16777216 ≤ g) (g2 : g ≤ 16777216) : -3355443200 ≤ (k : Int) * g ∧ (k : Int) * g ≤ 3355443200 := by
  have a1 : (k : Int) * g ≤ 200 * 16777216 := Int.le_trans (Int.mul_le_mul_of_nonneg_left g2 (by omega)) (Int.mul_le_mul_of_nonneg_right (by omega) (by omega))
  have a2 : (k : Int) * (-g) ≤ 200 * 16777216 := Int.le_trans (Int.mul_le_mul_of_nonneg_left (show -g ≤ 16777216 by omega) (by omega)) (Int.mul_le_mul_of_nonneg_right (by omega) (by omega))
  rw [Int.mul_neg] at a2
  omega
theorem Small.beg {hs : List Int} (h : Small hs) {g : Int} (g1 : -16777216 ≤ g) (g2 : g ≤ 16777216) (k : Nat) (hk : k ≤ 200) : -6710886400 ≤ begN hs g k ∧ begN hs g k ≤ 6710886400 := by
  have := h.sum_take k
  have := nat_mul_bd k g hk g1 g2
  unfold begN; omega
theorem max_nat (n : Nat) : max ((n : Int) - 1) 0 = ((n - 1 : Nat) : Int) := by omega
theorem Small.gaps {hs : List Int} (h : Small hs) {g : Int} (g1 : -16777216 ≤ g) (g2 : g ≤ 16777216) : -3355443200 ≤ max ((hs.length : Int) - 1) 0 * g ∧ max ((hs.length : Int) - 1) 0 * g ≤ 3355443200 := by
  rw [max_nat]
  exact nat_mul_bd _ g (by have := h.1; omega) g1 g2

theorem own_set {w : World} {B g cap n k : Nat} {e : TypeId} {xs : List Value} (h : w.ownsRow B e 1 (.slice (some ⟨g, 0, none⟩) n cap) n xs) (hk : k < n) (u : Value) :
    (w.setCell ⟨g, k, none⟩ u).ownsRow B e 1 (.slice (some ⟨g, 0, none⟩) n cap) n (xs.set k u) := by
  obtain ⟨hl, ⟨h, _⟩ | ⟨g', cap', cur, hv, hg, hh, h1, h2, h3, h4⟩⟩ := h
  · cases h
  · cases hv
    refine ⟨by simpa using hl, .inr ⟨g, cap, _, rfl, hg, heap_setCell_same w g k cur e u hh, h1, h2, by simpa using h3, ?_⟩⟩
    rw [← h4, Nat.mul_one]
    simp [Array.toList_setIfInBounds, List.take_set]

theorem map_set_range {n k : Nat} {f g : Nat → Value} (hk : k < n) : ((List.range n).map fun j => if j < k then f j else g j).set k (f k) = (List.range n).map fun j => if j < k + 1 then f j else g j := by
  apply List.ext_getElem?
  intro j
  rw [List.getElem?_set]
  by_cases hj : j < n
  · by_cases e : k = j
    · subst e; simp [hj]
    · simp only [e, if_false, List.getElem?_map, List.getElem?_range hj, Option.map_some]
      congr 1
      by_cases h2 : j < k
      · rw [if_pos h2, if_pos (by omega)]
      · rw [if_neg h2, if_neg (by omega)]
  · have h1 : ((List.range n).map fun j => if j < k + 1 then f j else g j)[j]? = none := by simp; omega
    rw [h1]
    split
    · omega
    · simp; omega

/-- while places are told -/
structure SpAt1 (w wr : World) (gb : Nat) (g : Int) (pv : Value) (hs : List Int) (k : Nat) : Prop where
  below : Below w.heap.size w wr
  gap : wr.cell? ⟨gb, 0, none⟩ = some (.int .i64 g)
  lo : w.heap.size ≤ gb
  lt : gb < w.heap.size + 3
  size : w.heap.size + 3 ≤ wr.heap.size
  row : wr.ownsRow (w.heap.size + 3) 3 1 pv k ((List.range k).map fun j => .int .i64 (begN hs g j))

theorem SpAt1.held {w wr W : World} {gb : Nat} {g : Int} {pv : Value} {hs : List Int} {k : Nat} (h : SpAt1 w wr gb g pv hs k) (hb : Below wr.heap.size wr W) : SpAt1 w W gb g pv hs k := by
  have e : ∀ b, b < wr.heap.size → W.heap[b]? = wr.heap[b]? := hb.block
  refine ⟨h.below.trans (hb.mono h.below.size), (hb.cell (p := ⟨gb, 0, none⟩) (by have := h.size; have := h.lt; show gb < _; omega)).trans h.gap, h.lo, h.lt, Nat.le_trans h.size hb.size, ?_⟩
  exact h.row.kept (row := none) ⟨hb.os, hb.tape, hb.output, hb.size, fun k hk _ => hb.block k hk⟩ (by cases pv.ownBlock <;> simp)

theorem SpAt1.more {w wr W : World} {gb : Nat} {g : Int} {pv pv' : Value} {hs : List Int} {k : Nat} (h : SpAt1 w wr gb g pv hs k) (hg : wr.grownBy W pv.ownBlock) (ho : W.ownsRow (w.heap.size + 3) 3 1 pv' (k + 1) (((List.range k).map fun j => .int .i64 (begN hs g j)) ++ [.int .i64 (begN hs g k)])) : SpAt1 w W gb g pv' hs (k + 1) := by
  have hne : ∀ b, pv.ownBlock = some b → w.heap.size + 3 ≤ b := fun b e => (h.row.lt b e).1
  refine ⟨h.below.grown hg h.below.size (fun b e => by have := hne b e; omega), hg.cell h.gap (fun e => by have := hne gb e.symm; have := h.lt; omega), h.lo, h.lt, Nat.le_trans h.size hg.size, ?_⟩
  rw [List.range_succ, List.map_append]
  exact ho

/-- when they are made later -/
structure SpAt2 (w wr : World) (pa : Option Addr) (pc : Nat) (hs : List Int) (g : Int) (f : Nat → Int) (k : Nat) : Prop where
  below : Below w.heap.size w wr
  row : wr.ownsRow (w.heap.size + 3) 3 1 (.slice pa hs.length pc) hs.length ((List.range hs.length).map fun j => if j < k then .int .i64 (begN hs g j + f j) else .int .i64 (begN hs g j))

theorem SpAt2.at {w wr : World} {pa : Option Addr} {pc : Nat} {hs : List Int} {g : Int} {f : Nat → Int} {k : Nat} (h : SpAt2 w wr pa pc hs g f k) (hk : k < hs.length) :
    ∃ b, pa = some ⟨b, 0, none⟩ ∧ b < wr.heap.size ∧ w.heap.size ≤ b ∧ wr.cell? ⟨b, k, none⟩ = some (.int .i64 (begN hs g k)) ∧ wr.frozen? ⟨b, k, none⟩ = false ∧ hs.length ≤ pc ∧ pc ≤ 9223372036854775807 := by
  obtain ⟨hl, ⟨e, hn⟩ | ⟨b, cap', cur, hv, hg, hh, h1, h2, h3, h4⟩⟩ := h.row
  · omega
  · cases hv
    unfold maxLen at h2
    refine ⟨b, rfl, ltH hh, by omega, ?_, by simp [World.frozen?, hh], h1, by omega⟩
    have e : ((List.range hs.length).map fun j => if j < k then Value.int .i64 (begN hs g j + f j) else .int .i64 (begN hs g j))[k]? = some (.int .i64 (begN hs g k)) := by simp [List.getElem?_range hk]
    rw [← h4, List.getElem?_take] at e
    rw [cell_of_row wr b _ _ _ _ hh]
    split at e
    · simpa using e
    · cases e

theorem SpAt2.next {w wr : World} {b pc : Nat} {hs : List Int} {g : Int} {f : Nat → Int} {k : Nat} (h : SpAt2 w wr (some ⟨b, 0, none⟩) pc hs g f k) (hk : k < hs.length) (hb : w.heap.size ≤ b) : SpAt2 w (wr.setCell ⟨b, k, none⟩ (.int .i64 (begN hs g k + f k))) (some ⟨b, 0, none⟩) pc hs g f (k + 1) := by
  refine ⟨h.below.setCell hb _, ?_⟩
  have := own_set h.row hk (.int .i64 (begN hs g k + f k))
  rwa [map_set_range (f := fun j => .int .i64 (begN hs g j + f j)) (g := fun j => .int .i64 (begN hs g j)) hk] at this
theorem SpAt2.drewN {w wr : World} {pa : Option Addr} {pc : Nat} {hs : List Int} {g : Int} {f : Nat → Int} {k : Nat} (h : SpAt2 w wr pa pc hs g f k) (n : Nat) : SpAt2 w (wr.drewN n) pa pc hs g f k :=
  ⟨belD h.below n, h.row⟩
end Go.Proofs.Ytdjagdifemhkpaa
