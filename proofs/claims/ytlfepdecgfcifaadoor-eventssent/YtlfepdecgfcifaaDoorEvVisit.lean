/- Package events: a node is visited. -/
import Derived.Test.YtlfepdecgfcifaaDoorEvAt
namespace Go.Proofs.YtlfepdecgfcifaaDoor
open Go.RowKit Go.BigFrame
set_option linter.unusedVariables false
attribute [local go_sem] Oper.semAt_some

def atW (w : World) (eb : Nat) (node : Int) (name : ByteArray) (down : Bool) : World := (((w.alloc (.cells #[.pointer (some ⟨eb, 0, none⟩)] 24)).alloc (.cells #[.int .i64 node] 3)).alloc (.cells #[.string name] 9)).alloc (.cells #[.bool down] 4)
theorem atW_below (w : World) (eb : Nat) (node : Int) (name : ByteArray) (down : Bool) : Below w.heap.size w (atW w eb node name down) := by
  unfold atW
  exact ((((Below.refl _ w).alloc (Nat.le_refl _) _).alloc (by simp) _).alloc (by simp; omega) _).alloc (by simp; omega) _
theorem atW_size (w : World) (eb : Nat) (node : Int) (name : ByteArray) (down : Bool) : (atW w eb node name down).heap.size = w.heap.size + 1 + 1 + 1 + 1 := by simp [atW]
theorem four_newE (w : World) (a b c d : Value) (r s t u : TypeId) : ((((w.alloc (.cells #[a] r)).alloc (.cells #[b] s)).alloc (.cells #[c] t)).alloc (.cells #[d] u)).cell? ⟨w.heap.size, 0, none⟩ = some a ∧ ((((w.alloc (.cells #[a] r)).alloc (.cells #[b] s)).alloc (.cells #[c] t)).alloc (.cells #[d] u)).cell? ⟨w.heap.size + 1, 0, none⟩ = some b ∧ ((((w.alloc (.cells #[a] r)).alloc (.cells #[b] s)).alloc (.cells #[c] t)).alloc (.cells #[d] u)).cell? ⟨w.heap.size + 1 + 1, 0, none⟩ = some c ∧ ((((w.alloc (.cells #[a] r)).alloc (.cells #[b] s)).alloc (.cells #[c] t)).alloc (.cells #[d] u)).cell? ⟨w.heap.size + 1 + 1 + 1, 0, none⟩ = some d := by
  have e1 : (w.alloc (.cells #[a] r)).heap.size = w.heap.size + 1 := by simp
  have e2 : ((w.alloc (.cells #[a] r)).alloc (.cells #[b] s)).heap.size = w.heap.size + 1 + 1 := by simp
  have e3 : (((w.alloc (.cells #[a] r)).alloc (.cells #[b] s)).alloc (.cells #[c] t)).heap.size = w.heap.size + 1 + 1 + 1 := by simp
  refine ⟨?_, ?_, ?_, ?_⟩
  · rw [cell_of_row _ w.heap.size 0 #[a] r (0, 0) (by rw [Below.heap_alloc _ _ _ (by omega), Below.heap_alloc _ _ _ (by omega), Below.heap_alloc _ _ _ (by omega)]; exact heap_alloc_new w _)]; rfl
  · rw [cell_of_row _ (w.heap.size + 1) 0 #[b] s (0, 0) (by rw [Below.heap_alloc _ _ _ (by omega), Below.heap_alloc _ _ _ (by omega), ← e1]; exact heap_alloc_new _ _)]; rfl
  · rw [cell_of_row _ (w.heap.size + 1 + 1) 0 #[c] t (0, 0) (by rw [Below.heap_alloc _ _ _ (by omega), ← e2]; exact heap_alloc_new _ _)]; rfl
  · rw [cell_of_row _ (w.heap.size + 1 + 1 + 1) 0 #[d] u (0, 0) (by rw [← e3]; exact heap_alloc_new _ _)]; rfl

theorem three_newE (w : World) (a b c : Value) (r s t : TypeId) : (((w.alloc (.cells #[a] r)).alloc (.cells #[b] s)).alloc (.cells #[c] t)).cell? ⟨w.heap.size, 0, none⟩ = some a ∧ (((w.alloc (.cells #[a] r)).alloc (.cells #[b] s)).alloc (.cells #[c] t)).cell? ⟨w.heap.size + 1, 0, none⟩ = some b ∧ (((w.alloc (.cells #[a] r)).alloc (.cells #[b] s)).alloc (.cells #[c] t)).cell? ⟨w.heap.size + 1 + 1, 0, none⟩ = some c := by
  have e1 : (w.alloc (.cells #[a] r)).heap.size = w.heap.size + 1 := by simp
  have e2 : ((w.alloc (.cells #[a] r)).alloc (.cells #[b] s)).heap.size = w.heap.size + 1 + 1 := by simp
  refine ⟨?_, ?_, ?_⟩
  · rw [cell_of_row _ w.heap.size 0 #[a] r (0, 0) (by rw [Below.heap_alloc _ _ _ (by omega), Below.heap_alloc _ _ _ (by omega)]; exact heap_alloc_new w _)]; rfl
  · rw [cell_of_row _ (w.heap.size + 1) 0 #[b] s (0, 0) (by rw [Below.heap_alloc _ _ _ (by omega), ← e1]; exact heap_alloc_new _ _)]; rfl
  · rw [cell_of_row _ (w.heap.size + 1 + 1) 0 #[c] t (0, 0) (by rw [← e2]; exact heap_alloc_new _ _)]; rfl
set_option maxHeartbeats 1000000 in
set_option maxRecDepth 100000 in
theorem evAt_any (w : World) (eb : Nat) (node : Int) (name : ByteArray) (down : Bool) :
    Calls Tryd.prog 69 #[.pointer (some ⟨eb, 0, none⟩), .int .i64 node, .string name, .bool down] w fun e w' => e = .returned (.func (.func 75) #[] #[.pointer (some ⟨w.heap.size, 0, none⟩), .pointer (some ⟨w.heap.size + 1, 0, none⟩), .pointer (some ⟨w.heap.size + 1 + 1, 0, none⟩), .pointer (some ⟨w.heap.size + 1 + 1 + 1, 0, none⟩)]) ∧ w' = atW w eb node name down := by
  go_enter Tryd.func69, Tryd.ntmps69
  go_wp2
  go_ret
  exact ⟨rfl, rfl⟩

/-- between two rounds of a visit -/
def VisI (n : Nat) (cv : Value) (W4 : World) (sb eb : Nat) (v : Value) (xb : List Nat) (name : ByteArray) (st : EvT) (node ph : Int) (pre : List EvA) (W : World) : Prop :=
  (∃ cv', SdAt n W sb eb v xb name (evS st node ph pre) cv' ∧ Tn sb v W4 cv W cv') ∧ (∀ y ∈ pre, y.2.now = false)
def VisX (n : Nat) (cv : Value) (W4 : World) (sb eb : Nat) (v : Value) (xb : List Nat) (name : ByteArray) (st : EvT) (node ph : Int) (d : Bool) (c : Code) (pre : List EvA) (W : World) : Prop :=
  (∃ cv', SdAt n W sb eb v xb name (evS st node ph pre) cv' ∧ Tn sb v W4 cv W cv') ∧ visF node ph name d st.E.length 0 st = (evS st node ph pre, true)
theorem Tn.cell {sb : Nat} {v cv cv' : Value} {w w' : World} (h : Tn sb v w cv w' cv') {b o : Nat} (hb : b < w.heap.size) (h1 : b ≠ sb) (h2 : v.ownBlock ≠ some b) (h3 : cv.ownBlock ≠ some b) : w'.cell? ⟨b, o, none⟩ = w.cell? ⟨b, o, none⟩ := World.cell?_of_block (a := ⟨b, o, none⟩) (h.block b hb h1 h2 h3)
theorem VisI.cell {n : Nat} {W4 W : World} {cv v : Value} {sb eb : Nat} {xb : List Nat} {name : ByteArray} {st : EvT} {node ph : Int} {pre : List EvA} (h : VisI n cv W4 sb eb v xb name st node ph pre W) {b o : Nat} {u : Value} (hs : n ≤ b) (h3 : cv.ownBlock ≠ some b) (hc : W4.cell? ⟨b, o, none⟩ = some u) : W.cell? ⟨b, o, none⟩ = some u := by
  obtain ⟨⟨cv', h1, h2⟩, _⟩ := h
  have hl : b < W4.heap.size := World.block_lt_of_cell? W4 ⟨b, o, none⟩ hc
  exact (h2.cell hl (by have := h1.lts; omega) (fun e => by have := h1.ltv b e; omega) h3).trans hc
theorem visP1 {node ph : Int} {name : ByteArray} {d : Bool} {st s : EvT} {b : Bool} (he : st.ended = false) (h : visF node ph name d st.E.length 0 st = (s, b)) : visP node ph name [d] st = s := by
  unfold visP
  rw [if_neg (by rw [he]; simp), visD, h]
  cases b <;> rfl
theorem visP2n {node ph : Int} {name : ByteArray} {d e : Bool} {st s : EvT} (he : st.ended = false) (h : visF node ph name d st.E.length 0 st = (s, true)) : visP node ph name [d, e] st = s := by
  unfold visP
  rw [if_neg (by rw [he]; simp), visD, h]
  rfl
theorem visP2 {node ph : Int} {name : ByteArray} {d e : Bool} {st s s2 : EvT} {b : Bool} (he : st.ended = false) (h : visF node ph name d st.E.length 0 st = (s, false)) (h2 : visF node ph name e s.E.length 0 s = (s2, b)) : visP node ph name [d, e] st = s2 := by
  unfold visP
  rw [if_neg (by rw [he]; simp), visD, h]
  simp only [Bool.false_eq_true, if_false]
  rw [visD, h2]
  cases b <;> rfl
theorem SdAt.grown {n : Nat} {w w' : World} {sb eb : Nat} {v cv : Value} {xb : List Nat} {name : ByteArray} {st : EvT} (h : SdAt n w sb eb v xb name st cv) {row : Option Nat} (hg : w.grownBy w' row) (hr : ∀ r, row = some r → ∃ o : Obj, w.heap[r]? = some o ∧ o.isCells = false) : SdAt n w' sb eb v xb name st cv := by
  have same : ∀ (b : Nat) (cs : Array Value) (t : TypeId) (f : Nat × Nat), w.heap[b]? = some (.cells cs t f) → w'.heap[b]? = w.heap[b]? := fun b cs t f hb => hg.block b (ltH hb) (fun e => by
    obtain ⟨o, h1, h2⟩ := hr b e.symm
    rw [hb] at h1
    cases h1
    cases h2)
  have rows : ∀ {B m size : Nat} {e : TypeId} {u : Value} {xs : List Value}, w.ownsRow B e size u m xs → ∀ b, u.ownBlock = some b → w'.heap[b]? = w.heap[b]? := fun ho b hb => by
    obtain ⟨_, ⟨rfl, _⟩ | ⟨g, cap, cur, rfl, _, h2, _⟩⟩ := ho
    · cases hb
    · cases hb; exact same _ _ _ _ h2
  refine ⟨h.pe.far (same _ _ _ _ h.pe.head) (rows h.pe.row) (fun b hb => ?_), (same _ _ _ _ h.head).trans h.head, own_same h.own (rows h.own), Nat.le_trans h.nle hg.size, h.lts, h.lte, h.ltv, h.ltx, h.s1, h.s2, h.s3⟩
  obtain ⟨k, hk⟩ := List.getElem?_of_mem hb
  have hkE : k < st.E.length := by rw [← h.pe.len]; exact (List.getElem?_eq_some_iff.1 hk).1
  exact same _ _ _ _ (h.pe.ear k _ b (List.getElem?_eq_getElem hkE) hk).1
theorem Tn.grown {sb : Nat} {v cv cv' : Value} {w w1 w2 : World} (h : Tn sb v w cv w1 cv') {row : Option Nat} (hg : w1.grownBy w2 row) (hr : ∀ r, row = some r → w.heap.size ≤ r) : Tn sb v w cv w2 cv' :=
  ⟨hg.os.trans h.os, hg.tape.trans h.tape, hg.output.trans h.output, ⟨Nat.le_trans h.kept.size hg.size, fun k o hk ho => (hg.block k (Nat.lt_of_lt_of_le (ltH hk) h.kept.size) (fun e => by have := hr k e.symm; have := ltH hk; omega)).trans (h.kept.same k o hk ho)⟩,
    fun b h1 h2 h3 h4 => (hg.block b (Nat.lt_of_lt_of_le h1 h.kept.size) (fun e => by have := hr b e.symm; omega)).trans (h.block b h1 h2 h3 h4), h.own⟩
theorem visI_own {n B : Nat} {W4 : World} {cv v : Value} {sb eb : Nat} {xb : List Nat} {name : ByteArray} {st : EvT} {node ph : Int} (hB : W4.heap.size ≤ B) : OwnFrom B (VisI n cv W4 sb eb v xb name st node ph) := fun pre X Y row hs hg hr => by
  obtain ⟨⟨cv', h1, h2⟩, h3⟩ := hs
  exact ⟨⟨cv', h1.grown hg (fun r e => (hr r e).2), h2.grown hg (fun r e => Nat.le_trans hB (hr r e).1)⟩, h3⟩
theorem visX_own {n B : Nat} {W4 : World} {cv v : Value} {sb eb : Nat} {xb : List Nat} {name : ByteArray} {st : EvT} {node ph : Int} {d : Bool} {c : Code} (hB : W4.heap.size ≤ B) : OwnFrom B (VisX n cv W4 sb eb v xb name st node ph d c) := fun pre X Y row hs hg hr => by
  obtain ⟨⟨cv', h1, h2⟩, h3⟩ := hs
  exact ⟨⟨cv', h1.grown hg (fun r e => (hr r e).2), h2.grown hg (fun r e => Nat.le_trans hB (hr r e).1)⟩, h3⟩
end Go.Proofs.YtlfepdecgfcifaaDoor
