/- A row in memory; factor, weight, free, open. -/
import Derived.Test.YtdjagdifemhkpaaSRound
import Derived.Test.YtdjagdifemhkpaaSItem
namespace Go.Proofs.Ytdjagdifemhkpaa
open Go.RowKit
set_option linter.unusedVariables false      -- bounds that are for the walk

def prC (p : Pr) : List Value := itC p.i ++ [.int .i64 p.size, .int .i64 p.moved, .bool p.settled]
def prsC (l : List Pr) : List Value := l.flatMap prC
theorem prC_len (p : Pr) : (prC p).length = 9 := rfl
theorem prsC_len (l : List Pr) : (prsC l).length = l.length * 9 := by
  induction l with
  | nil => rfl
  | cons x r ih => rw [show prsC (x :: r) = prC x ++ prsC r by simp [prsC], List.length_append, ih, prC_len, List.length_cons]; omega
theorem prsC_snoc (l : List Pr) (x : Pr) : prsC (l ++ [x]) = prsC l ++ prC x := by simp [prsC]
theorem prsC_get : ∀ (l : List Pr) (j f : Nat) (x : Pr), l[j]? = some x → f < 9 → (prsC l)[j * 9 + f]? = (prC x)[f]?
  | [], j, f, x, h, _ => by simp at h
  | y :: r, 0, f, x, h, hf => by
    simp only [List.getElem?_cons_zero, Option.some.injEq] at h
    subst h
    rw [show prsC (y :: r) = prC y ++ prsC r by simp [prsC], Nat.zero_mul, Nat.zero_add, List.getElem?_append_left (by rw [prC_len]; exact hf)]
  | y :: r, j + 1, f, x, h, hf => by
    rw [show prsC (y :: r) = prC y ++ prsC r by simp [prsC], List.getElem?_append_right (by rw [prC_len]; omega)]
    rw [show (j + 1) * 9 + f - (prC y).length = j * 9 + f by rw [prC_len]; omega]
    exact prsC_get r j f x (by simpa using h) hf
/-- one cell is set -/
theorem prsC_set : ∀ (l : List Pr) (j f : Nat) (x y : Pr) (u : Value), l[j]? = some x → f < 9 → prC y = (prC x).set f u → (prsC l).set (j * 9 + f) u = prsC (l.set j y)
  | [], j, f, x, y, u, h, _, _ => by simp at h
  | z :: r, 0, f, x, y, u, h, hf, hy => by
    simp only [List.getElem?_cons_zero, Option.some.injEq] at h
    subst h
    rw [show prsC (z :: r) = prC z ++ prsC r by simp [prsC], Nat.zero_mul, Nat.zero_add, List.set_append_left _ _ (by rw [prC_len]; exact hf), ← hy]
    simp [prsC]
  | z :: r, j + 1, f, x, y, u, h, hf, hy => by
    rw [show prsC (z :: r) = prC z ++ prsC r by simp [prsC], List.set_append_right _ _ (by rw [prC_len]; omega)]
    rw [show (j + 1) * 9 + f - (prC z).length = j * 9 + f by rw [prC_len]; omega, prsC_set r j f x y u (by simpa using h) hf hy]
    simp [prsC]

/-- a part in memory -/
structure PrAt (w : World) (b o : Nat) (p : Pr) : Prop where
  it : ItAt w b o p.i
  c6 : w.cell? ⟨b, o + 6, none⟩ = some (.int .i64 p.size)
  c7 : w.cell? ⟨b, o + 7, none⟩ = some (.int .i64 p.moved)
  c8 : w.cell? ⟨b, o + 8, none⟩ = some (.bool p.settled)
  f6 : w.frozen? ⟨b, o + 6, none⟩ = false
  f7 : w.frozen? ⟨b, o + 7, none⟩ = false
  f8 : w.frozen? ⟨b, o + 8, none⟩ = false

/-- a row in memory: its own block, and that of its parts -/
structure RwAt (w : World) (B rb : Nat) (pv : Value) (ps : List Pr) (grow : Bool) (room start : Int) : Prop where
  head : w.heap[rb]? = some (.cells #[pv, .bool grow, .int .i64 room, .int .i64 start] 73 (0, 0))
  lo : B ≤ rb
  row : w.ownsRow B 75 9 pv ps.length (prsC ps)
  ne : pv.ownBlock ≠ some rb

theorem RwAt.below {w w' : World} {B rb : Nat} {pv : Value} {ps : List Pr} {grow : Bool} {room start : Int} (h : RwAt w B rb pv ps grow room start) (hb : Below w.heap.size w w') : RwAt w' B rb pv ps grow room start :=
  ⟨(hb.block rb (ltH h.head)).trans h.head, h.lo, h.row.kept (row := none) ⟨hb.os, hb.tape, hb.output, hb.size, fun k hk _ => hb.block k hk⟩ (by cases pv.ownBlock <;> simp), h.ne⟩
theorem RwAt.cells {w : World} {B rb : Nat} {pv : Value} {ps : List Pr} {grow : Bool} {room start : Int} (h : RwAt w B rb pv ps grow room start) :
    rb < w.heap.size ∧ w.cell? ⟨rb, 0, none⟩ = some pv ∧ w.cell? ⟨rb, 1, none⟩ = some (.bool grow) ∧ w.cell? ⟨rb, 2, none⟩ = some (.int .i64 room) ∧ w.cell? ⟨rb, 3, none⟩ = some (.int .i64 start) := by
  refine ⟨ltH h.head, ?_, ?_, ?_, ?_⟩ <;> rw [cell_of_row w rb _ _ _ _ h.head] <;> rfl
theorem own_shape9 {w : World} {B : Nat} {pv : Value} {n : Nat} {e : TypeId} {sz : Nat} {xs : List Value} (h : w.ownsRow B e sz pv n xs) : ∃ a c, pv = .slice a n c ∧ n ≤ c ∧ c ≤ 9223372036854775807 := by
  obtain ⟨_, ⟨rfl, hn0⟩ | ⟨gg, cp, cur, hv, _, _, q1, q2, _⟩⟩ := h
  · exact ⟨none, 0, by rw [hn0], by omega, by omega⟩
  · unfold maxLen at q2
    exact ⟨_, cp, hv, q1, by omega⟩
theorem RwAt.at {w : World} {B rb : Nat} {pv : Value} {ps : List Pr} {grow : Bool} {room start : Int} (h : RwAt w B rb pv ps grow room start) {k : Nat} {p : Pr} (hk : ps[k]? = some p) :
    ∃ b c, pv = .slice (some ⟨b, 0, none⟩) ps.length c ∧ ps.length ≤ c ∧ c ≤ 9223372036854775807 ∧ B ≤ b ∧ b < w.heap.size ∧ b ≠ rb ∧ PrAt w b (k * 9) p := by
  have hne := h.ne
  obtain ⟨hl, ⟨_, hn⟩ | ⟨g, cap, cur, rfl, hg, hh, h1, h2, h3, h4⟩⟩ := h.row
  · have := (List.getElem?_eq_some_iff.1 hk).1; omega
  · unfold maxLen at h2
    have hc : ∀ (i : Nat) u, i < 9 → (prC p)[i]? = some u → w.cell? ⟨g, k * 9 + i, none⟩ = some u := fun i u hi hu => by
      have e := prsC_get ps k i p hk hi
      rw [hu, ← h4, List.getElem?_take] at e
      rw [cell_of_row w g _ _ _ _ hh]
      split at e
      · simpa using e
      · cases e
    have hf : ∀ i, w.frozen? ⟨g, i, none⟩ = false := fun i => by simp [World.frozen?, hh]
    exact ⟨g, cap, rfl, h1, by omega, hg, ltH hh, fun e => hne (by simp [Value.ownBlock, e]), ⟨⟨ltH hh, hc 0 _ (by omega) rfl, hc 1 _ (by omega) rfl, hc 2 _ (by omega) rfl, hc 3 _ (by omega) rfl, hc 4 _ (by omega) rfl, hc 5 _ (by omega) rfl⟩, hc 6 _ (by omega) rfl, hc 7 _ (by omega) rfl, hc 8 _ (by omega) rfl, hf _, hf _, hf _⟩⟩
/-- a cell of a part is set -/
theorem RwAt.put {w : World} {B rb b c : Nat} {ps : List Pr} {grow : Bool} {room start : Int} (h : RwAt w B rb (.slice (some ⟨b, 0, none⟩) ps.length c) ps grow room start) {k f : Nat} {p q : Pr} {u : Value} (hk : ps[k]? = some p) (hf : f < 9) (hq : prC q = (prC p).set f u) :
    RwAt (w.setCell ⟨b, k * 9 + f, none⟩ u) B rb (.slice (some ⟨b, 0, none⟩) (ps.set k q).length c) (ps.set k q) grow room start := by
  have hne := h.ne
  have hb : rb ≠ b := fun e => hne (by simp [Value.ownBlock, e])
  rw [List.length_set]
  refine ⟨(Below.heap_setCell w _ _ rb hb).trans h.head, h.lo, ?_, hne⟩
  obtain ⟨hl, ⟨e, _⟩ | ⟨g', cap', cur, hv, hg, hh, h1, h2, h3, h4⟩⟩ := h.row
  · cases e
  · cases hv
    rw [List.length_set]
    refine ⟨by rw [prsC_len, List.length_set], .inr ⟨b, c, _, rfl, hg, heap_setCell_same w b _ cur _ u hh, h1, h2, by simpa using h3, ?_⟩⟩
    rw [← prsC_set ps k f p q u hk hf hq, ← h4]
    simp [Array.toList_setIfInBounds, List.take_set]

set_option maxHeartbeats 400000 in
set_option maxRecDepth 100000 in
theorem factorR_any {w : World} {B rb : Nat} {pv : Value} {ps : List Pr} {grow : Bool} {room start : Int} (h : RwAt w B rb pv ps grow room start) (i : It) :
    Calls Try.prog 59 #[.pointer (some ⟨rb, 0, none⟩), itV i] w fun e w' => e = .returned (.int .i64 (facG grow i)) ∧ Below w.heap.size w w' := by
  obtain ⟨hl, _, hg, _, _⟩ := h.cells
  obtain ⟨b, mn, mx, ar, gr, sh⟩ := i
  unfold itV facG
  clear h
  cases grow
  all_goals
    simp only
    go_enter Try.func59, Try.ntmps59
    go_wp2_with fail
    go_returns
    exact ⟨rfl, by go_grown⟩

set_option maxHeartbeats 400000 in
set_option maxRecDepth 100000 in
theorem weightR_any {w : World} {B rb : Nat} {pv : Value} {ps : List Pr} {grow : Bool} {room start : Int} (h : RwAt w B rb pv ps grow room start) {i : It} (hi : i.Ok) :
    Calls Try.prog 63 #[.pointer (some ⟨rb, 0, none⟩), itV i] w fun e w' => e = .returned (.int .i64 (wtG grow i)) ∧ Below w.heap.size w w' := by
  obtain ⟨hl, _, hg, _, _⟩ := h.cells
  obtain ⟨z1, z2⟩ := wtG_bd false hi
  obtain ⟨b, mn, mx, ar, gr, sh⟩ := i
  unfold itV wtG at *
  simp only [Bool.false_eq_true, if_false] at z1 z2
  have W9 : IntKind.i64.wrap (sh * b) = sh * b := wrapJ (by omega) (by omega)
  clear h
  cases grow
  all_goals
    simp only
    go_enter Try.func63, Try.ntmps63
    go_wp2_with fail
    go_returns
    exact ⟨by first | rfl | simp [W9], by go_grown⟩
end Go.Proofs.Ytdjagdifemhkpaa
