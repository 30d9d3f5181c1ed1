/- How floats lie in memory. -/
import Derived.Test.YthpffpgbmgnkcaaProg
import Derived.Test.YthpffpgbmgnkcaaRow
import Derived.Test.YthpffpgbmgnkcaaFLPure
import Derived.Test.YthpffpgbmgnkcaaFHold
namespace Go.Proofs.Ythpffpgbmgnkcaa
open Go.RowKit

def flv (o : Fl) : List Value := [.bool o.r, .int .i64 o.x, .int .i64 o.y, .int .i64 o.w, .int .i64 o.h]
def fcells (fs : List Fl) : List Value := fs.flatMap flv

theorem fcells_length (fs : List Fl) : (fcells fs).length = fs.length * 5 := by
  unfold fcells
  induction fs with
  | nil => rfl
  | cons a r ih => rw [List.flatMap_cons, List.length_append, ih, List.length_cons]; simp [flv]; omega

theorem fcells_snoc (fs : List Fl) (o : Fl) : fcells (fs ++ [o]) = fcells fs ++ flv o := by simp [fcells]

theorem fcells_get (fs : List Fl) (k j : Nat) (o : Fl) (hk : fs[k]? = some o) (hj : j < 5) : (fcells fs)[k * 5 + j]? = (flv o)[j]? := by
  induction fs generalizing k with
  | nil => simp at hk
  | cons a r ih =>
    unfold fcells
    rw [List.flatMap_cons]
    cases k with
    | zero =>
      simp at hk
      subst hk
      rw [List.getElem?_append_left (by simp [flv]; omega)]
      simp
    | succ k =>
      rw [List.getElem?_append_right (by simp [flv]; omega)]
      have := ih k (by simpa using hk)
      rw [show (k + 1) * 5 + j - (flv a).length = k * 5 + j by simp [flv]; omega]
      exact this

/-- floats that lie in memory: the list's own cell, and the row -/
structure FlAt (w : World) (M : Nat → Lab) (lb : Nat) (sv : Value) (fs : List Fl) : Prop where
  head : w.heap[lb]? = some (.cells #[sv] 38 (0, 0))
  lab : M lb = .tree
  row : Row w M .nodes 43 5 sv fs.length (fcells fs)
  fresh : ∀ b, w.heap.size ≤ b → M b = .other

theorem FlAt.below {w w' : World} {M : Nat → Lab} {lb : Nat} {sv : Value} {fs : List Fl} (h : FlAt w M lb sv fs) (hb : Below w.heap.size w w') : FlAt w' M lb sv fs :=
  ⟨(hb.block lb (lt_of_heap h.head)).trans h.head, h.lab, h.row.keep (fun b hl _ => hb.block b hl) (fun _ _ => rfl), fun b hl => h.fresh b (Nat.le_trans hb.size hl)⟩

theorem one_c {w : World} {b : Nat} {v : Value} {t : TypeId} (h : w.heap[b]? = some (.cells #[v] t (0, 0))) : w.cell? ⟨b, 0, none⟩ = some v ∧ w.frozen? ⟨b, 0, none⟩ = false := by
  refine ⟨?_, ?_⟩
  · rw [cell_of_row w b 0 _ _ _ h]; rfl
  · simp [World.frozen?, h]
theorem three_c {w : World} {b : Nat} {u v x : Value} {t : TypeId} (h : w.heap[b]? = some (.cells #[u, v, x] t (0, 0))) :
    w.cell? ⟨b, 0, none⟩ = some u ∧ w.cell? ⟨b, 1, none⟩ = some v ∧ w.cell? ⟨b, 2, none⟩ = some x ∧ w.frozen? ⟨b, 0, none⟩ = false ∧ w.frozen? ⟨b, 1, none⟩ = false ∧ w.frozen? ⟨b, 2, none⟩ = false := by
  refine ⟨?_, ?_, ?_, ?_, ?_, ?_⟩
  · rw [cell_of_row w b 0 _ _ _ h]; rfl
  · rw [cell_of_row w b 1 _ _ _ h]; rfl
  · rw [cell_of_row w b 2 _ _ _ h]; rfl
  · simp [World.frozen?, h]
  · simp [World.frozen?, h]
  · simp [World.frozen?, h]

/-- the cells of the float at a place -/
theorem FlAt.at {w : World} {M : Nat → Lab} {lb : Nat} {g cap n : Nat} {fs : List Fl} (h : FlAt w M lb (.slice (some ⟨g, 0, none⟩) n cap) fs) {k : Nat} {o : Fl} (hk : fs[k]? = some o) :
    w.cell? ⟨g, k * 5, none⟩ = some (.bool o.r) ∧ w.cell? ⟨g, k * 5 + 1, none⟩ = some (.int .i64 o.x) ∧ w.cell? ⟨g, k * 5 + 2, none⟩ = some (.int .i64 o.y) ∧ w.cell? ⟨g, k * 5 + 3, none⟩ = some (.int .i64 o.w) ∧ w.cell? ⟨g, k * 5 + 4, none⟩ = some (.int .i64 o.h) :=
  ⟨(h.row.cell rfl (fcells_get fs k 0 o hk (by omega))).1, (h.row.cell rfl (fcells_get fs k 1 o hk (by omega))).1, (h.row.cell rfl (fcells_get fs k 2 o hk (by omega))).1,
    (h.row.cell rfl (fcells_get fs k 3 o hk (by omega))).1, (h.row.cell rfl (fcells_get fs k 4 o hk (by omega))).1⟩

/-- what a room is -/
structure RmAt (w : World) (M : Nat → Lab) (fb lb : Nat) (lo hi : Int) : Prop where
  head : w.heap[fb]? = some (.cells #[.pointer (some ⟨lb, 0, none⟩), .int .i64 lo, .int .i64 hi] 51 (0, 0))
  lab : M fb = .other

theorem RmAt.below {w w' : World} {M : Nat → Lab} {fb lb : Nat} {lo hi : Int} (h : RmAt w M fb lb lo hi) (hb : Below w.heap.size w w') : RmAt w' M fb lb lo hi :=
  ⟨(hb.block fb (lt_of_heap h.head)).trans h.head, h.lab⟩

/-- numbers that keep within bounds -/
def Bd (fs : List Fl) : Prop := ∀ o ∈ fs, -(((fs.length : Int) + 1) * 33554432) ≤ o.x ∧ o.x ≤ ((fs.length : Int) + 1) * 33554432 ∧ -(((fs.length : Int) + 1) * 33554432) ≤ o.y ∧ o.y ≤ ((fs.length : Int) + 1) * 33554432 ∧ 0 ≤ o.w ∧ o.w ≤ 16777216 ∧ 0 ≤ o.h ∧ o.h ≤ 16777216

theorem Bd.at {fs : List Fl} (h : Bd fs) (hl : fs.length ≤ 200) {o : Fl} (ho : o ∈ fs) : -10000000000 ≤ o.x ∧ o.x ≤ 10000000000 ∧ -10000000000 ≤ o.y ∧ o.y ≤ 10000000000 ∧ 0 ≤ o.w ∧ o.w ≤ 16777216 ∧ 0 ≤ o.h ∧ o.h ≤ 16777216 := by
  obtain ⟨h1, h2, h3, h4, h5, h6, h7, h8⟩ := h o ho
  omega

theorem hidF {p : Prop} (h : p) : Hid p := h
theorem heap_set (w : World) (g j : Nat) (c : Value) (cur : Array Value) (e : TypeId) (fr : Nat × Nat) (h : w.heap[g]? = some (.cells cur e fr)) : (w.setCell ⟨g, j, none⟩ c).heap[g]? = some (.cells (cur.setIfInBounds j c) e fr) := by
  simp [World.setCell, Array.getElem?_modify, h]

set_option maxHeartbeats 400000 in
theorem foot_any (o : Fl) (h1 : -10000000000 ≤ o.y) (h2 : o.y ≤ 10000000000) (h3 : 0 ≤ o.h) (h4 : o.h ≤ 16777216) (w : World) :
    Calls Try.prog 24 #[.agg #[.bool o.r, .int .i64 o.x, .int .i64 o.y, .int .i64 o.w, .int .i64 o.h]] w fun e w' => e = .returned (.int .i64 (foot o)) ∧ w' = w.alloc (.cells #[.bool o.r, .int .i64 o.x, .int .i64 o.y, .int .i64 o.w, .int .i64 o.h] 43) := by
  obtain ⟨r, x, y, wd, h⟩ := o
  simp only at h1 h2 h3 h4
  by_cases c : 1 ≤ h
  · go_enter Try.func24, Try.ntmps24
    go_wp2
    all_goals
      go_returns
      refine ⟨?_, rfl⟩
      rw [show foot ⟨r, x, y, wd, h⟩ = y + h from by unfold foot; simp only; omega]
      first | rfl | (exfalso; omega)
  · go_enter Try.func24, Try.ntmps24
    go_wp2
    all_goals
      go_returns
      refine ⟨?_, rfl⟩
      rw [show foot ⟨r, x, y, wd, h⟩ = y + 1 from by unfold foot; simp only; omega]
      first | rfl | (exfalso; omega)
end Go.Proofs.Ythpffpgbmgnkcaa
