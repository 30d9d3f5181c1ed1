/- A row in memory; factor, weight, free, open. -/
import Derived.Test.YtjdndaeobiagcaaGM22
import Derived.Test.YtjdndaeobiagcaaSItem
import Derived.Test.YtjdndaeobiagcaaProg
namespace Go.Proofs.Ytjdndaeobiagcaa
open Go.RowKit
set_option linter.unusedVariables false      -- bounds that are for the walk

def prC (p : Pr) : List Value := itC p.i ++ [.int .i64 p.size, .int .i64 p.moved, .bool p.settled]
def prsC (l : List Pr) : List Value := l.flatMap prC
theorem prC_len (p : Pr) : (prC p).length = 9 := rfl
theorem prsC_len (l : List Pr) : (prsC l).length = l.length * 9 := by
  induction l with
  | nil => rfl
  | cons x r ih => rw [show prsC (x :: r) = prC x ++ prsC r by simp [prsC], List.length_append, ih, prC_len, List.length_cons]; omega
theorem prsC_snoc (l : List Pr) (x : Pr) : prsC (l ++ [x]) = prsC l ++ prC x := by simp [prsC]
theorem prsC_get : ∀ (l : List Pr) (j f : Nat) (x : Pr), l[j]? = some x → f < 9 → (prsC l)[j * 9 + f]? = (prC x)[f]?
  | [], j, f, x, h, _ => by simp at h
  | y :: r, 0, f, x, h, hf => by
    simp only [List.getElem?_cons_zero, Option.some.injEq] at h
    subst h
    rw [show prsC (y :: r) = prC y ++ prsC r by simp [prsC], Nat.zero_mul, Nat.zero_add, List.getElem?_append_left (by rw [prC_len]; exact hf)]
  | y :: r, j + 1, f, x, h, hf => by
    rw [show prsC (y :: r) = prC y ++ prsC r by simp [prsC], List.getElem?_append_right (by rw [prC_len]; omega)]
    rw [show (j + 1) * 9 + f - (prC y).length = j * 9 + f by rw [prC_len]; omega]
    exact prsC_get r j f x (by simpa using h) hf
/-- one cell is set -/
theorem prsC_set : ∀ (l : List Pr) (j f : Nat) (x y : Pr) (u : Value), l[j]? = some x → f < 9 → prC y = (prC x).set f u → (prsC l).set (j * 9 + f) u = prsC (l.set j y)
  | [], j, f, x, y, u, h, _, _ => by simp at h
  | z :: r, 0, f, x, y, u, h, hf, hy => by
    simp only [List.getElem?_cons_zero, Option.some.injEq] at h
    subst h
    rw [show prsC (z :: r) = prC z ++ prsC r by simp [prsC], Nat.zero_mul, Nat.zero_add, List.set_append_left _ _ (by rw [prC_len]; exact hf), ← hy]
    simp [prsC]
  | z :: r, j + 1, f, x, y, u, h, hf, hy => by
    rw [show prsC (z :: r) = prC z ++ prsC r by simp [prsC], List.set_append_right _ _ (by rw [prC_len]; omega)]
    rw [show (j + 1) * 9 + f - (prC z).length = j * 9 + f by rw [prC_len]; omega, prsC_set r j f x y u (by simpa using h) hf hy]
    simp [prsC]

/-- a part in memory -/
structure PrAt (w : World) (b o : Nat) (p : Pr) : Prop where
  it : ItAt w b o p.i
  c6 : w.cell? ⟨b, o + 6, none⟩ = some (.int .i64 p.size)
  c7 : w.cell? ⟨b, o + 7, none⟩ = some (.int .i64 p.moved)
  c8 : w.cell? ⟨b, o + 8, none⟩ = some (.bool p.settled)
  f6 : w.frozen? ⟨b, o + 6, none⟩ = false
  f7 : w.frozen? ⟨b, o + 7, none⟩ = false
  f8 : w.frozen? ⟨b, o + 8, none⟩ = false

/-- a row in memory: its own block, and that of its parts -/
structure RwAt (w : World) (B rb : Nat) (pv : Value) (ps : List Pr) (grow : Bool) (room start : Int) : Prop where
  head : w.heap[rb]? = some (.cells #[pv, .bool grow, .int .i64 room, .int .i64 start] 73 (0, 0))
  lo : B ≤ rb
  row : w.ownsRow B 75 9 pv ps.length (prsC ps)
  ne : pv.ownBlock ≠ some rb

theorem RwAt.below {w w' : World} {B rb : Nat} {pv : Value} {ps : List Pr} {grow : Bool} {room start : Int} (h : RwAt w B rb pv ps grow room start) (hb : Below w.heap.size w w') : RwAt w' B rb pv ps grow room start :=
  ⟨(hb.block rb (ltH h.head)).trans h.head, h.lo, h.row.kept (row := none) ⟨hb.os, hb.tape, hb.output, hb.size, fun k hk _ => hb.block k hk⟩ (by cases pv.ownBlock <;> simp), h.ne⟩
theorem RwAt.cells {w : World} {B rb : Nat} {pv : Value} {ps : List Pr} {grow : Bool} {room start : Int} (h : RwAt w B rb pv ps grow room start) :
    rb < w.heap.size ∧ w.cell? ⟨rb, 0, none⟩ = some pv ∧ w.cell? ⟨rb, 1, none⟩ = some (.bool grow) ∧ w.cell? ⟨rb, 2, none⟩ = some (.int .i64 room) ∧ w.cell? ⟨rb, 3, none⟩ = some (.int .i64 start) := by
  refine ⟨ltH h.head, ?_, ?_, ?_, ?_⟩ <;> rw [cell_of_row w rb _ _ _ _ h.head] <;> rfl
theorem own_shape9 {w : World} {B : Nat} {pv : Value} {n : Nat} {e : TypeId} {sz : Nat} {xs : List Value} (h : w.ownsRow B e sz pv n xs) : ∃ a c, pv = .slice a n c ∧ n ≤ c ∧ c ≤ 9223372036854775807 := by
  obtain ⟨_, ⟨rfl, hn0⟩ | ⟨gg, cp, cur, hv, _, _, q1, q2, _⟩⟩ := h
  · exact ⟨none, 0, by rw [hn0], by omega, by omega⟩
  · unfold maxLen at q2
    exact ⟨_, cp, hv, q1, by omega⟩
theorem RwAt.at {w : World} {B rb : Nat} {pv : Value} {ps : List Pr} {grow : Bool} {room start : Int} (h : RwAt w B rb pv ps grow room start) {k : Nat} {p : Pr} (hk : ps[k]? = some p) :
    ∃ b c, pv = .slice (some ⟨b, 0, none⟩) ps.length c ∧ ps.length ≤ c ∧ c ≤ 9223372036854775807 ∧ B ≤ b ∧ b < w.heap.size ∧ b ≠ rb ∧ PrAt w b (k * 9) p := by
  have hne := h.ne
  obtain ⟨hl, ⟨_, hn⟩ | ⟨g, cap, cur, rfl, hg, hh, h1, h2, h3, h4⟩⟩ := h.row
  · have := (List.getElem?_eq_some_iff.1 hk).1; omega
  · unfold maxLen at h2
    have hc : ∀ (i : Nat) u, i < 9 → (prC p)[i]? = some u → w.cell? ⟨g, k * 9 + i, none⟩ = some u := fun i u hi hu => by
      have e := prsC_get ps k i p hk hi
      rw [hu, ← h4, List.getElem?_take] at e
      rw [cell_of_row w g _ _ _ _ hh]
      split at e
      · simpa using e
      · cases e
    have hf : ∀ i, w.frozen? ⟨g, i, none⟩ = false := fun i => by simp [World.frozen?, hh]
    exact ⟨g, cap, rfl, h1, by omega, hg, ltH hh, fun e => hne (by simp [Value.ownBlock, e]), ⟨⟨ltH hh, hc 0 _ (by omega) rfl, hc 1 _ (by omega) rfl, hc 2 _ (by omega) rfl, hc 3 _ (by omega) rfl, hc 4 _ (by omega) rfl, hc 5 _ (by omega) rfl⟩, hc 6 _ (by omega) rfl, hc 7 _ (by omega) rfl, hc 8 _ (by omega) rfl, hf _, hf _, hf _⟩⟩
/-- a cell of a part is set -/
theorem RwAt.put {w : World} {B rb b c : Nat} {ps : List Pr} {grow : Bool} {room start : Int} (h : RwAt w B rb (.slice (some ⟨b, 0, none⟩) ps.length c) ps grow room start) {k f : Nat} {p q : Pr} {u : Value} (hk : ps[k]? = some p) (hf : f < 9) (hq : prC q = (prC p).set f u) :
    RwAt (w.setCell ⟨b, k * 9 + f, none⟩ u) B rb (.slice (some ⟨b, 0, none⟩) (ps.set k q).length c) (ps.set k q) grow room start := by
  have hne := h.ne
  have hb : rb ≠ b := fun e => hne (by simp [Value.ownBlock, e])
  rw [List.length_set]
  refine ⟨(Below.heap_setCell w _ _ rb hb).trans h.head, h.lo, ?_, hne⟩
  obtain ⟨hl, ⟨e, _⟩ | ⟨g', cap', cur, hv, hg, hh, h1, h2, h3, h4⟩⟩ := h.row
  · cases e
  · cases hv
    rw [List.length_set]
    refine ⟨by rw [prsC_len, List.length_set], .inr ⟨b, c, _, rfl, hg, heap_setCell_same w b _ cur _ u hh, h1, h2, by simpa using h3, ?_⟩⟩
    rw [← prsC_set ps k f p q u hk hf hq, ← h4]
    simp [Array.toList_setIfInBounds, List.take_set]

set_option maxHeartbeats 400000 in
set_option maxRecDepth 100000 in
theorem factorR_any {w : World} {B rb : Nat} {pv : Value} {ps : List Pr} {grow : Bool} {room start : Int} (h : RwAt w B rb pv ps grow room start) (i : It) :
    Calls Try.prog 59 #[.pointer (some ⟨rb, 0, none⟩), itV i] w fun e w' => e = .returned (.int .i64 (facG grow i)) ∧ Below w.heap.size w w' := by
  obtain ⟨hl, _, hg, _, _⟩ := h.cells
  obtain ⟨b, mn, mx, ar, gr, sh⟩ := i
  unfold itV facG
  clear h
  cases grow
  all_goals
    simp only
    go_enter Try.func59, Try.ntmps59
    go_wp2_with fail
    go_returns
    exact ⟨rfl, by go_grown⟩

set_option maxHeartbeats 400000 in
set_option maxRecDepth 100000 in
theorem weightR_any {w : World} {B rb : Nat} {pv : Value} {ps : List Pr} {grow : Bool} {room start : Int} (h : RwAt w B rb pv ps grow room start) {i : It} (hi : i.Ok) :
    Calls Try.prog 63 #[.pointer (some ⟨rb, 0, none⟩), itV i] w fun e w' => e = .returned (.int .i64 (wtG grow i)) ∧ Below w.heap.size w w' := by
  obtain ⟨hl, _, hg, _, _⟩ := h.cells
  obtain ⟨z1, z2⟩ := wtG_bd false hi
  obtain ⟨b, mn, mx, ar, gr, sh⟩ := i
  unfold itV wtG at *
  simp only [Bool.false_eq_true, if_false] at z1 z2
  have W9 : IntKind.i64.wrap (sh * b) = sh * b := wrapJ (by omega) (by omega)
  clear h
  cases grow
  all_goals
    simp only
    go_enter Try.func63, Try.ntmps63
    go_wp2_with fail
    go_returns
    exact ⟨by first | rfl | simp [W9], by go_grown⟩
end Go.Proofs.Ytjdndaeobiagcaa

/- Division of 128 bits by 64: the school method with two digits of 32 bits. -/
namespace Go.Proofs.Ytjdndaeobiagcaa

/-- one digit: the loop's own numbers: what is tried (q) and what is left then (r) -/
structure Dig (u n1 y1 y0 q r : Nat) : Prop where
  eq : u = q * y1 + r
  ge : (u * 4294967296 + n1) / (y1 * 4294967296 + y0) ≤ q
  le : q ≤ 4294967297
  y1l : 2147483648 ≤ y1
  y1h : y1 < 4294967296
  y0h : y0 < 4294967296
  n1h : n1 < 4294967296
  lt : u < y1 * 4294967296 + y0

theorem dig_begin {u n1 y1 y0 : Nat} (y1l : 2147483648 ≤ y1) (y1h : y1 < 4294967296) (y0h : y0 < 4294967296) (n1h : n1 < 4294967296) (lt : u < y1 * 4294967296 + y0) :
    Dig u n1 y1 y0 (u / y1) (u - u / y1 * y1) ∧ u - u / y1 * y1 < y1 := by
  have hm : u / y1 * y1 ≤ u := Nat.div_mul_le_self u y1
  have hmod : u - u / y1 * y1 < y1 := by
    have := Nat.mod_lt u (show 0 < y1 by omega)
    have e := Nat.div_add_mod' u y1
    omega
  refine ⟨⟨by omega, ?_, ?_, y1l, y1h, y0h, n1h, lt⟩, hmod⟩
  · apply Nat.le_of_lt_succ
    rw [Nat.div_lt_iff_lt_mul (by omega)]
    have h1 : u < (u / y1 + 1) * y1 := by rw [Nat.add_mul]; omega
    generalize u / y1 = q at *
    have h2 : u + 1 ≤ (q + 1) * y1 := h1
    have h3 : (u + 1) * 4294967296 ≤ (q + 1) * y1 * 4294967296 := Nat.mul_le_mul_right _ h2
    have h4 : (q.succ) * (y1 * 4294967296 + y0) = (q + 1) * y1 * 4294967296 + (q + 1) * y0 := by rw [Nat.mul_add, ← Nat.mul_assoc]
    rw [h4]
    generalize (q + 1) * y1 = a at *
    generalize (q + 1) * y0 = b at *
    omega
  · apply Nat.le_of_lt_succ
    rw [Nat.div_lt_iff_lt_mul (by omega)]
    omega

theorem lin_a (u n y : Nat) (h : n < 4294967296) (l : u < y) : u * 4294967296 + n < 4294967296 * y := by omega
theorem dig_top {u n1 y1 y0 : Nat} (n1h : n1 < 4294967296) (lt : u < y1 * 4294967296 + y0) : (u * 4294967296 + n1) / (y1 * 4294967296 + y0) < 4294967296 := by
  rw [Nat.div_lt_iff_lt_mul (by omega)]
  exact lin_a _ _ _ n1h lt

/-- the test says that it is too great -/
theorem Dig.less {u n1 y1 y0 q r : Nat} (h : Dig u n1 y1 y0 q r) (t : 4294967296 ≤ q ∨ 4294967296 * r + n1 < q * y0) : 0 < q ∧ Dig u n1 y1 y0 (q - 1) (r + y1) := by
  have hlt : (u * 4294967296 + n1) / (y1 * 4294967296 + y0) < q := by
    rcases t with t | t
    · exact Nat.lt_of_lt_of_le (dig_top h.n1h h.lt) t
    · rw [Nat.div_lt_iff_lt_mul (by have := h.y1l; omega)]
      have e := h.eq
      have h4 : q * (y1 * 4294967296 + y0) = q * y1 * 4294967296 + q * y0 := by rw [Nat.mul_add, ← Nat.mul_assoc]
      rw [h4, e]
      generalize q * y1 = a at *
      generalize q * y0 = b at *
      omega
  have hq : 0 < q := Nat.lt_of_le_of_lt (Nat.zero_le _) hlt
  refine ⟨hq, ⟨?_, by omega, by have := h.le; omega, h.y1l, h.y1h, h.y0h, h.n1h, h.lt⟩⟩
  have e := h.eq
  obtain ⟨p, rfl⟩ : ∃ p, q = p + 1 := ⟨q - 1, by omega⟩
  rw [Nat.add_mul] at e
  simp only [Nat.add_sub_cancel]
  omega

/-- what is tried does -/
theorem Dig.done {u n1 y1 y0 q r : Nat} (h : Dig u n1 y1 y0 q r) (t : q * y0 ≤ 4294967296 * r + n1) : q = (u * 4294967296 + n1) / (y1 * 4294967296 + y0) := by
  apply Nat.le_antisymm _ h.ge
  rw [Nat.le_div_iff_mul_le (by have := h.y1l; omega)]
  have e := h.eq
  have h4 : q * (y1 * 4294967296 + y0) = q * y1 * 4294967296 + q * y0 := by rw [Nat.mul_add, ← Nat.mul_assoc]
  rw [h4, e]
  generalize q * y1 = a at *
  generalize q * y0 = b at *
  omega

/-- what is left is beyond a digit -/
theorem Dig.far {u n1 y1 y0 q r : Nat} (h : Dig u n1 y1 y0 q r) (hq : q ≤ 4294967296) (hr : 4294967296 ≤ r) : q = (u * 4294967296 + n1) / (y1 * 4294967296 + y0) := by
  apply h.done
  have h1 : q * y0 ≤ 4294967296 * 4294967295 := Nat.mul_le_mul hq (by have := h.y0h; omega)
  omega

/-- what is left behind a digit -/
theorem dig_rest (N y : Nat) (_ : 0 < y) : N - N / y * y = N % y ∧ N / y * y ≤ N := by
  have e := Nat.div_add_mod' N y
  have := Nat.div_mul_le_self N y
  omega

/-- both digits together -/
theorem two_digits (u n1 n0 y : Nat) (hy : 0 < y) :
    (u * 4294967296 + n1) / y * 4294967296 + ((u * 4294967296 + n1) % y * 4294967296 + n0) / y = (u * 18446744073709551616 + n1 * 4294967296 + n0) / y ∧
    ((u * 4294967296 + n1) % y * 4294967296 + n0) % y = (u * 18446744073709551616 + n1 * 4294967296 + n0) % y := by
  have e : u * 18446744073709551616 + n1 * 4294967296 + n0 = (u * 4294967296 + n1) % y * 4294967296 + n0 + y * ((u * 4294967296 + n1) / y * 4294967296) := by
    have h := Nat.div_add_mod (u * 4294967296 + n1) y
    have h2 : y * ((u * 4294967296 + n1) / y * 4294967296) = y * ((u * 4294967296 + n1) / y) * 4294967296 := by rw [Nat.mul_assoc]
    rw [h2]
    generalize y * ((u * 4294967296 + n1) / y) = a at *
    generalize (u * 4294967296 + n1) % y = b at *
    omega
  constructor
  · rw [e, Nat.add_mul_div_left _ _ hy, Nat.add_comm]
  · rw [e, Nat.add_mul_mod_self_left]
end Go.Proofs.Ytjdndaeobiagcaa
