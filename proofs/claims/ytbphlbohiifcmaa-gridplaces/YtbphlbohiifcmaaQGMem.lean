/- The document's PlaceCells: what lies in memory. -/
import Derived.Test.YtbphlbohiifcmaaQGFound
import Derived.Test.YtbphlbohiifcmaaGRws
namespace Go.Proofs.Ytbphlbohiifcmaa
open Go.RowKit
set_option linter.unusedVariables false      -- bounds that are for the walk

/-- booleans in a block of their own -/
def SbAt (w : World) (g n : Nat) (st : Nat → Bool) : Prop := w.heap[g]? = some (.cells ((List.range n).map (fun j => Value.bool (st j))).toArray 4 (0, 0))
section
variable {w w' : World} {g n : Nat} {st st' : Nat → Bool}
theorem SbAt.lt (h : SbAt w g n st) : g < w.heap.size := ltH h
theorem SbAt.cell (h : SbAt w g n st) {k : Nat} (hk : k < n) : w.cell? ⟨g, k, none⟩ = some (.bool (st k)) := by
  rw [cell_of_row _ _ _ _ _ _ h]
  simp [hk]
theorem SbAt.frz (h : SbAt w g n st) (k : Nat) : w.frozen? ⟨g, k, none⟩ = false := by
  have h' : w.heap[g]? = _ := h
  simp [World.frozen?, h']
theorem SbAt.congr (h : SbAt w g n st) (e : ∀ j, j < n → st j = st' j) : SbAt w g n st' := by
  unfold SbAt at h ⊢
  rw [h]
  congr 3
  apply List.map_congr_left
  intro j hj
  rw [e j (List.mem_range.1 hj)]
theorem SbAt.set (h : SbAt w g n st) (k : Nat) (b : Bool) : SbAt (w.setCell ⟨g, k, none⟩ (.bool b)) g n (fun j => if j = k then b else st j) := by
  unfold SbAt
  rw [heap_setCell_same w g k _ 4 _ h]
  congr 2
  apply Array.ext'
  rw [Array.toList_setIfInBounds]
  apply List.ext_getElem?
  intro j
  rw [List.getElem?_set]
  by_cases hj : j < n
  · by_cases e : k = j
    · subst e; simp [hj]
    · simp [e, hj, Ne.symm e]
  · by_cases e : k = j
    · subst e
      rw [if_pos rfl, if_neg (by simp; omega), List.getElem?_eq_none (by simp; omega)]
    · rw [if_neg e, List.getElem?_eq_none (by simp; omega), List.getElem?_eq_none (by simp; omega)]
theorem SbAt.other (h : SbAt w g n st) {g2 : Nat} (hg : g ≠ g2) (k : Nat) (v : Value) : SbAt (w.setCell ⟨g2, k, none⟩ v) g n st := by
  unfold SbAt
  rw [heap_setCell_other w ⟨g2, k, none⟩ g v hg]
  exact h
theorem SbAt.held (h : SbAt w g n st) (hb : Below w.heap.size w w') : SbAt w' g n st := (hb.block g h.lt).trans h
theorem SbAt.stL (h : SbAt w g n st) (hn : n ≤ 9223372036854775807) : StL w (.slice (some ⟨g, 0, none⟩) n n) n st :=
  ⟨_, n, rfl, Nat.le_refl _, hn, fun j hj => ⟨g, 0, rfl, h.lt, by rw [Nat.zero_add]; exact h.cell hj⟩⟩
end
theorem Try.infoBoolG : (Try.prog.info? 4).map (fun i => (i.zero, i.size, i.bytes)) = some (some (.bool false), 1, 1) := by kernel_rfl
theorem own_sb {w : World} {B g n : Nat} (h : w.ownsRow B 4 1 (.slice (some ⟨g, 0, none⟩) n n) n (List.replicate n (.bool false))) : SbAt w g n (fun _ => false) := by
  obtain ⟨hl, ⟨h, _⟩ | ⟨g', cap', cur, hv, hg, hh, h1, h2, h3, h4⟩⟩ := h
  · cases h
  · cases hv
    unfold SbAt
    rw [hh]
    congr 2
    apply Array.ext'
    rw [List.take_of_length_le (by rw [Array.length_toList]; omega)] at h4
    rw [h4]
    apply List.ext_getElem?
    intro j
    by_cases hj : j < n
    · simp [hj]
    · rw [List.getElem?_eq_none (by simp; omega), List.getElem?_eq_none (by simp; omega)]
theorem make_boolsG (w : World) (n : Nat) (hn : n ≤ 1000) : ∃ w1, (Instr.makeSlice 80 (.int .i64 (n : Int)) (.int .i64 (n : Int))).run Try.prog w = .ok (.slice (some ⟨w.heap.size, 0, none⟩) n n) w1 ∧ SbAt w1 w.heap.size n (fun _ => false) ∧ Below w.heap.size w w1 := by
  obtain ⟨i0, hi, hz0, hz1, hz2⟩ := info_parts Try.infoBoolG
  obtain ⟨w1, h1, h2, h3⟩ := run_make_full (P := Try.prog) w w.heap.size 80 4 i0 (.bool false) 1 Try.underlying80 hi hz0 hz1 .i64 .i64 n (by rw [hz2]; omega) (by unfold maxLen; omega) (Nat.le_refl _)
  refine ⟨w1, h1, own_sb (B := w.heap.size) ?_, ⟨h3.os, h3.tape, h3.output, h3.size, fun k hk => h3.block k hk (by simp)⟩⟩
  rw [show (Value.bool false).cells = #[.bool false] from rfl, toList_madeCells_one, Nat.mul_one] at h2
  exact h2

/-- the items, and which of them stand -/
structure PcAt (w wr : World) (lv : Value) (sb n : Nat) (its : List Gi) (st : Nat → Bool) : Prop where
  below : Below w.heap.size w wr
  len : its.length = n
  row : wr.ownsRow w.heap.size 48 4 lv n (gsC its)
  std : SbAt wr sb n st
  lo : w.heap.size ≤ sb
  ne : lv.ownBlock ≠ some sb
section
variable {w wr W : World} {lv : Value} {sb n : Nat} {its : List Gi} {st : Nat → Bool}
theorem PcAt.held (h : PcAt w wr lv sb n its st) (hb : Below wr.heap.size wr W) : PcAt w W lv sb n its st :=
  ⟨h.below.trans (hb.mono h.below.size), h.len, h.row.kept (row := none) ⟨hb.os, hb.tape, hb.output, hb.size, fun k hk _ => hb.block k hk⟩ (by cases lv.ownBlock <;> simp), h.std.held hb, h.lo, h.ne⟩
theorem PcAt.at (h : PcAt w wr lv sb n its st) {k : Nat} {i : Gi} (hk : its[k]? = some i) : ∃ g c, lv = .slice (some ⟨g, 0, none⟩) n c ∧ n ≤ c ∧ c ≤ 9223372036854775807 ∧ g < wr.heap.size ∧ wr.cell? ⟨g, k * 4, none⟩ = some (.int .i64 i.c) ∧ wr.cell? ⟨g, k * 4 + 1, none⟩ = some (.int .i64 i.cs) ∧ wr.cell? ⟨g, k * 4 + 2, none⟩ = some (.int .i64 i.r) ∧ wr.cell? ⟨g, k * 4 + 3, none⟩ = some (.int .i64 i.rs) ∧ (∀ f, wr.frozen? ⟨g, f, none⟩ = false) ∧ g ≠ sb := by
  have hkl := (List.getElem?_eq_some_iff.1 hk).1
  have hlen := h.len
  have hne := h.ne
  obtain ⟨hl, ⟨_, hn⟩ | ⟨g, cap, cur, rfl, hg, hh, h1, h2, h3, h4⟩⟩ := h.row
  · omega
  · unfold maxLen at h2
    refine ⟨g, cap, rfl, h1, by omega, ltH hh, ?_⟩
    have hc : ∀ (f : Nat) u, f < 4 → (gC i)[f]? = some u → wr.cell? ⟨g, k * 4 + f, none⟩ = some u := fun f u hf hu => by
      have e := gsC_get its k f i hk hf
      rw [hu, ← h4, List.getElem?_take] at e
      rw [cell_of_row wr g _ _ _ _ hh]
      split at e
      · simpa using e
      · cases e
    exact ⟨hc 0 _ (by omega) rfl, hc 1 _ (by omega) rfl, hc 2 _ (by omega) rfl, hc 3 _ (by omega) rfl, (fun f => by simp [World.frozen?, hh]), fun e => hne (by rw [e]; rfl)⟩
theorem PcAt.shape (h : PcAt w wr lv sb n its st) : ∃ a c, lv = .slice a n c ∧ n ≤ c ∧ c ≤ 9223372036854775807 := by
  obtain ⟨hl, ⟨rfl, hn⟩ | ⟨g, cap, cur, rfl, hg, hh, h1, h2, h3, h4⟩⟩ := h.row
  · exact ⟨none, 0, by rw [hn], by omega, by omega⟩
  · unfold maxLen at h2
    exact ⟨_, cap, rfl, h1, by omega⟩
theorem own_gsQ {e : TypeId} {w : World} {B : Nat} {v : Value} {xs : List Gi} {n : Nat} (hn : xs.length = n) (h : w.ownsRow B e 4 v n (gsC xs)) : GsL w v xs := by
  subst hn
  obtain ⟨hl, h | ⟨g, cap, cur, rfl, hg, hh, h1, h2, h3, h4⟩⟩ := h
  · obtain ⟨rfl, hn⟩ := h
    refine ⟨none, 0, by rw [hn], by omega, by omega, fun j x hj => ?_⟩
    have := (List.getElem?_eq_some_iff.1 hj).1
    omega
  · unfold maxLen at h2
    refine ⟨_, cap, rfl, h1, by omega, fun j x hj => ⟨g, 0, rfl, ?_⟩⟩
    have hc : ∀ (i : Nat) u, i < 4 → (gC x)[i]? = some u → w.cell? ⟨g, 0 + j * 4 + i, none⟩ = some u := fun i u hi hu => by
      have e := gsC_get xs j i x hj hi
      rw [hu, ← h4, List.getElem?_take] at e
      rw [cell_of_row w g _ _ _ _ hh, Nat.zero_add]
      split at e
      · simpa using e
      · cases e
    exact ⟨ltH hh, hc 0 _ (by omega) rfl, hc 1 _ (by omega) rfl, hc 2 _ (by omega) rfl, hc 3 _ (by omega) rfl⟩
theorem PcAt.gsL (h : PcAt w wr lv sb n its st) : GsL wr lv its := own_gsQ h.len h.row
/-- a number of an item has changed -/
theorem PcAt.put {g c : Nat} (h : PcAt w wr (.slice (some ⟨g, 0, none⟩) n c) sb n its st) {k f : Nat} {i i' : Gi} {v : Value} (hk : its[k]? = some i) (hf : f < 4) (e : gC i' = (gC i).set f v) : PcAt w (wr.setCell ⟨g, k * 4 + f, none⟩ v) (.slice (some ⟨g, 0, none⟩) n c) sb n (its.set k i') st := by
  have hkl := (List.getElem?_eq_some_iff.1 hk).1
  have hlo : w.heap.size ≤ g := (h.row.lt g rfl).1
  have hlen := h.len
  refine ⟨h.below.setCell hlo _, by rw [List.length_set]; exact hlen, ?_, h.std.other (fun e2 => h.ne (by rw [e2]; rfl)) _ _, h.lo, h.ne⟩
  rw [← gsC_set its k f i i' v hk hf e]
  exact own_setG h.row (by omega) v
theorem PcAt.put4 {g c0 : Nat} (h : PcAt w wr (.slice (some ⟨g, 0, none⟩) n c0) sb n its st) {k : Nat} {i : Gi} (hk : its[k]? = some i) (a b c d : Int) :
    PcAt w ((((wr.setCell ⟨g, k * 4, none⟩ (.int .i64 a)).setCell ⟨g, k * 4 + 1, none⟩ (.int .i64 b)).setCell ⟨g, k * 4 + 2, none⟩ (.int .i64 c)).setCell ⟨g, k * 4 + 3, none⟩ (.int .i64 d)) (.slice (some ⟨g, 0, none⟩) n c0) sb n (its.set k ⟨a, b, c, d⟩) st := by
  have hkl := (List.getElem?_eq_some_iff.1 hk).1
  have at_ : ∀ q, (its.set k q)[k]? = some q := fun q => by rw [List.getElem?_set, if_pos rfl, if_pos hkl]
  have h1 := h.put (f := 0) (i' := ⟨a, i.cs, i.r, i.rs⟩) (v := .int .i64 a) hk (by omega) rfl
  have h2 := h1.put (f := 1) (i' := ⟨a, b, i.r, i.rs⟩) (v := .int .i64 b) (at_ _) (by omega) rfl
  rw [List.set_set] at h2
  have h3 := h2.put (f := 2) (i' := ⟨a, b, c, i.rs⟩) (v := .int .i64 c) (at_ _) (by omega) rfl
  rw [List.set_set] at h3
  have h4 := h3.put (f := 3) (i' := ⟨a, b, c, d⟩) (v := .int .i64 d) (at_ _) (by omega) rfl
  rw [List.set_set] at h4
  exact h4
theorem PcAt.setSt (h : PcAt w wr lv sb n its st) (k : Nat) (b : Bool) : PcAt w (wr.setCell ⟨sb, k, none⟩ (.bool b)) lv sb n its (fun j => if j = k then b else st j) := by
  refine ⟨h.below.setCell h.lo _, h.len, ?_, h.std.set k b, h.lo, h.ne⟩
  obtain ⟨hl, h0 | ⟨g, cap, cur, hv, hg, hh, h1, h2, h3, h4⟩⟩ := h.row
  · exact ⟨hl, .inl h0⟩
  · exact ⟨hl, .inr ⟨g, cap, cur, hv, hg, (heap_setCell_other wr ⟨sb, k, none⟩ g _ (fun e => h.ne (by rw [hv, show g = sb from e]; rfl))).trans hh, h1, h2, h3, h4⟩⟩
theorem PcAt.congr {st' : Nat → Bool} (h : PcAt w wr lv sb n its st) (e : ∀ j, j < n → st j = st' j) : PcAt w wr lv sb n its st' :=
  ⟨h.below, h.len, h.row, h.std.congr e, h.lo, h.ne⟩
end
def restG : Nat → Code → Code
  | 0, c => c
  | n + 1, .seq _ c => restG n c
  | _, c => c
def bodyG (f : Func) : Code := match f.body with | some c => c | none => .skip
end Go.Proofs.Ytbphlbohiifcmaa
