/- How a tree lies in memory, and what a store or an append makes of it. -/
import Derived.Test.YtlfepdecgfcifaaGreatDoorM00
import Derived.Test.YtlfepdecgfcifaaGreatDoorChecked
import Derived.WalkKit
import Derived.WalkSmall
import Derived.Deep.Light
import Derived.Deep.QuietTactic
import Derived.BigQuiet
import Derived.Deep.RegionLaw
namespace Go.Proofs.YtlfepdecgfcifaaGreatDoor
open Go.RowKit

/-- nothing that is another's has turned -/
structure Moved (w : World) (M : Nat → Lab) (w' : World) (M' : Nat → Lab) : Prop where
  os : w'.os = w.os
  tape : w'.tape = w.tape
  output : w'.output = w.output
  size : w.heap.size ≤ w'.heap.size
  lab : ∀ b, b < w.heap.size → M' b = M b
  far : ∀ b, b < w.heap.size → M b = .other → w'.heap[b]? = w.heap[b]?

theorem Moved.refl (w : World) (M : Nat → Lab) : Moved w M w M := ⟨rfl, rfl, rfl, Nat.le_refl _, fun _ _ => rfl, fun _ _ _ => rfl⟩
theorem Moved.trans {a b c : World} {M N L : Nat → Lab} (h : Moved a M b N) (k : Moved b N c L) : Moved a M c L :=
  ⟨k.os.trans h.os, k.tape.trans h.tape, k.output.trans h.output, Nat.le_trans h.size k.size, fun x hx => (k.lab x (Nat.lt_of_lt_of_le hx h.size)).trans (h.lab x hx),
    fun x hx ho => (k.far x (Nat.lt_of_lt_of_le hx h.size) ((h.lab x hx).trans ho)).trans (h.far x hx ho)⟩
theorem Step.moved {w w' : World} {M M' : Nat → Lab} {l : Lab} (h : Step w M w' M' l) (hl : l ≠ .other) : Moved w M w' M' :=
  ⟨h.os, h.tape, h.output, h.size, h.lab, fun b hb ho => h.far b hb (by rw [ho]; exact Ne.symm hl)⟩
theorem Moved.alloc {w w' : World} {M M' : Nat → Lab} (h : Moved w M w' M') (o : Obj) : Moved w M (w'.alloc o) M' :=
  ⟨h.os, h.tape, h.output, by simp; have := h.size; omega, h.lab, fun b hb ho => (Below.heap_alloc w' o b (Nat.lt_of_lt_of_le hb h.size)).trans (h.far b hb ho)⟩
theorem Moved.drew {w w' : World} {M M' : Nat → Lab} (h : Moved w M w' M') : Moved w M w'.drew M' := ⟨h.os, h.tape, h.output, h.size, h.lab, h.far⟩
theorem Moved.below {w w' w'' : World} {M M' : Nat → Lab} (h : Moved w M w' M') (hb : Below w'.heap.size w' w'') : Moved w M w'' M' :=
  ⟨hb.os.trans h.os, hb.tape.trans h.tape, hb.output.trans h.output, Nat.le_trans h.size hb.size, h.lab, fun b hb' ho => (hb.block b (Nat.lt_of_lt_of_le hb' h.size)).trans (h.far b hb' ho)⟩

/-- a tree lies at block tb: its nodes, what undoes its changes -/
structure Lies (w : World) (M : Nat → Lab) (tb : Nat) (nv uv : Value) (ps : List Pn) (us : List Value) : Prop where
  fresh : ∀ b, w.heap.size ≤ b → M b = .other
  tree : M tb = .tree
  head : w.heap[tb]? = some (.cells #[nv, uv] 82 (0, 0))
  nodes : Row w M .nodes 78 6 nv ps.length (flat ps)
  undos : Row w M .undos 1 1 uv us.length us
  node : ∀ i p, ps[i]? = some p → Row w M (.attrs i) 51 2 p.av p.n.attrs.length (attrCells p.n.attrs) ∧ Row w M (.kids i) 3 1 p.kv p.n.kids.length (p.n.kids.map intV)

/-- memory that is another's has turned -/
theorem Lies.far {w w' : World} {M : Nat → Lab} {tb : Nat} {nv uv : Value} {ps : List Pn} {us : List Value} (h : Lies w M tb nv uv ps us) (hs : w.heap.size ≤ w'.heap.size) (hb : ∀ b, b < w.heap.size → M b ≠ .other → w'.heap[b]? = w.heap[b]?) : Lies w' M tb nv uv ps us where
  fresh b hb' := h.fresh b (by omega)
  tree := h.tree
  head := (hb tb (lt_of_heap h.head) (by rw [h.tree]; intro e; cases e)).trans h.head
  nodes := h.nodes.keep (fun b hb' e => hb b hb' (by rw [e]; intro e; cases e)) (fun _ _ => rfl)
  undos := h.undos.keep (fun b hb' e => hb b hb' (by rw [e]; intro e; cases e)) (fun _ _ => rfl)
  node i p hp := ⟨(h.node i p hp).1.keep (fun b hb' e => hb b hb' (by rw [e]; intro e; cases e)) (fun _ _ => rfl), (h.node i p hp).2.keep (fun b hb' e => hb b hb' (by rw [e]; intro e; cases e)) (fun _ _ => rfl)⟩
theorem Lies.alloc {w : World} {M : Nat → Lab} {tb : Nat} {nv uv : Value} {ps : List Pn} {us : List Value} (h : Lies w M tb nv uv ps us) (o : Obj) : Lies (w.alloc o) M tb nv uv ps us :=
  h.far (by simp) (fun b hb _ => Below.heap_alloc w o b hb)
theorem Lies.drew {w : World} {M : Nat → Lab} {tb : Nat} {nv uv : Value} {ps : List Pn} {us : List Value} (h : Lies w M tb nv uv ps us) : Lies w.drew M tb nv uv ps us :=
  h.far (Nat.le_refl _) (fun _ _ _ => rfl)
theorem Lies.below {w w' : World} {M : Nat → Lab} {tb : Nat} {nv uv : Value} {ps : List Pn} {us : List Value} (h : Lies w M tb nv uv ps us) (hb : Below w.heap.size w w') : Lies w' M tb nv uv ps us :=
  h.far hb.size (fun b hb' _ => hb.block b hb')

theorem Lies.cell0 {w : World} {M : Nat → Lab} {tb : Nat} {nv uv : Value} {ps : List Pn} {us : List Value} (h : Lies w M tb nv uv ps us) : w.cell? ⟨tb, 0, none⟩ = some nv := by
  rw [cell_of_row w tb 0 _ _ _ h.head]; rfl
theorem Lies.cell1 {w : World} {M : Nat → Lab} {tb : Nat} {nv uv : Value} {ps : List Pn} {us : List Value} (h : Lies w M tb nv uv ps us) : w.cell? ⟨tb, 1, none⟩ = some uv := by
  rw [cell_of_row w tb 1 _ _ _ h.head]; rfl
theorem Lies.frozen {w : World} {M : Nat → Lab} {tb : Nat} {nv uv : Value} {ps : List Pn} {us : List Value} (h : Lies w M tb nv uv ps us) (o : Nat) : w.frozen? ⟨tb, o, none⟩ = false := by
  simp [World.frozen?, h.head]

theorem setCell_heap (w : World) (g j : Nat) (c : Value) (cur : Array Value) (e : TypeId) (fr : Nat × Nat) (h : w.heap[g]? = some (.cells cur e fr)) : (w.setCell ⟨g, j, none⟩ c).heap[g]? = some (.cells (cur.setIfInBounds j c) e fr) := by
  simp [World.setCell, Array.getElem?_modify, h]

theorem step_setCell {w : World} {M : Nat → Lab} {l : Lab} {g j : Nat} (c : Value) (hM : M g = l) (hf : ∀ b, w.heap.size ≤ b → M b = .other) : Step w M (w.setCell ⟨g, j, none⟩ c) M l :=
  ⟨rfl, rfl, rfl, by simp [World.setCell], fun _ _ => rfl, fun b hb => hf b (by simpa [World.setCell] using hb), fun b _ hne => Below.heap_setCell w _ c b (fun e => hne (by rw [e]; exact hM))⟩

/-- a store into a row -/
theorem Row.set {w : World} {M : Nat → Lab} {l : Lab} {e : TypeId} {size n : Nat} {v : Value} {xs : List Value} (h : Row w M l e size v n xs) {g o c0 m : Nat} (hv : v = .slice (some ⟨g, o, none⟩) m c0) (j : Nat) (c : Value) (hj : j < xs.length) :
    Row (w.setCell ⟨g, j, none⟩ c) M l e size v n (xs.set j c) := by
  obtain ⟨hl, a, cap, rfl, h1, h2, h3⟩ := h
  rcases h3 with ⟨rfl, _⟩ | ⟨g', cur, rfl, hM, hg, h4, h5⟩
  · obtain rfl : n = 0 := by omega
    rw [hl] at hj
    omega
  · cases hv
    refine ⟨by rw [List.length_set]; exact hl, _, _, rfl, h1, h2, .inr ⟨_, _, rfl, hM, setCell_heap w _ j c cur e (0, 0) hg, by rw [Array.size_setIfInBounds]; exact h4, ?_⟩⟩
    rw [Array.toList_setIfInBounds, List.take_set, h5]

/-- a store into a node's cell -/
theorem Lies.setNode {w : World} {M : Nat → Lab} {tb : Nat} {nv uv : Value} {ps : List Pn} {us : List Value} (h : Lies w M tb nv uv ps us) {nb m c0 : Nat} (hv : nv = .slice (some ⟨nb, 0, none⟩) m c0)
    {i f : Nat} {p p' : Pn} {c : Value} (hp : ps[i]? = some p) (hf : f < 6) (he : p'.cells = p.cells.set f c)
    (ha : Row w M (.attrs i) 51 2 p'.av p'.n.attrs.length (attrCells p'.n.attrs)) (hk : Row w M (.kids i) 3 1 p'.kv p'.n.kids.length (p'.n.kids.map intV)) :
    Lies (w.setCell ⟨nb, i * 6 + f, none⟩ c) M tb nv uv (ps.set i p') us ∧ Step w M (w.setCell ⟨nb, i * 6 + f, none⟩ c) M .nodes := by
  have hi : i < ps.length := (List.getElem?_eq_some_iff.1 hp).1
  obtain ⟨g, cap, hg, _, _, hM, _⟩ := h.nodes.form (by omega)
  have e1 : g = nb := by rw [hv] at hg; cases hg; rfl
  subst e1
  have st : Step w M (w.setCell ⟨g, i * 6 + f, none⟩ c) M .nodes := step_setCell c hM h.fresh
  refine ⟨⟨st.fresh, h.tree, (st.far tb (lt_of_heap h.head) (by rw [h.tree]; intro e; cases e)).trans h.head, ?_, h.undos.step st (by intro e; cases e), ?_⟩, st⟩
  · rw [List.length_set, flat_set ps i f p p' c hp hf he]
    exact h.nodes.set hv _ c (by rw [flat_length]; omega)
  · intro j q hq
    by_cases hij : i = j
    · subst hij
      rw [List.getElem?_set_self hi] at hq
      cases hq
      exact ⟨ha.step st (by intro e; cases e), hk.step st (by intro e; cases e)⟩
    · rw [List.getElem?_set_ne hij] at hq
      exact ⟨(h.node j q hq).1.step st (by intro e; cases e), (h.node j q hq).2.step st (by intro e; cases e)⟩

/-- a step on another row of the tree's, and the tree but for it -/
theorem Lies.headNodes {w w1 : World} {M M1 : Nat → Lab} {tb : Nat} {nv uv : Value} {ps : List Pn} {us : List Value} (h : Lies w M tb nv uv ps us) (st : Step w M w1 M1 .nodes) {nv' : Value} {qs : List Pn}
    (hn : Row w1 M1 .nodes 78 6 nv' qs.length (flat qs)) (hq : ∀ i p, qs[i]? = some p → Row w M (.attrs i) 51 2 p.av p.n.attrs.length (attrCells p.n.attrs) ∧ Row w M (.kids i) 3 1 p.kv p.n.kids.length (p.n.kids.map intV)) :
    Lies (w1.setCell ⟨tb, 0, none⟩ nv') M1 tb nv' uv qs us ∧ Moved w M (w1.setCell ⟨tb, 0, none⟩ nv') M1 := by
  have hlt := lt_of_heap h.head
  have hM : M1 tb = .tree := (st.lab tb hlt).trans h.tree
  have st2 : Step w1 M1 (w1.setCell ⟨tb, 0, none⟩ nv') M1 .tree := step_setCell nv' hM st.fresh
  have hh : w1.heap[tb]? = some (.cells #[nv, uv] 82 (0, 0)) := (st.far tb hlt (by rw [h.tree]; intro e; cases e)).trans h.head
  refine ⟨⟨st2.fresh, hM, ?_, hn.step st2 (by intro e; cases e), (h.undos.step st (by intro e; cases e)).step st2 (by intro e; cases e), ?_⟩, (st.moved (by intro e; cases e)).trans (st2.moved (by intro e; cases e))⟩
  · rw [setCell_heap w1 tb 0 nv' _ _ _ hh]; rfl
  · intro i p hp
    exact ⟨((hq i p hp).1.step st (by intro e; cases e)).step st2 (by intro e; cases e), ((hq i p hp).2.step st (by intro e; cases e)).step st2 (by intro e; cases e)⟩
theorem Lies.headUndos {w w1 : World} {M M1 : Nat → Lab} {tb : Nat} {nv uv : Value} {ps : List Pn} {us : List Value} (h : Lies w M tb nv uv ps us) (st : Step w M w1 M1 .undos) {uv' : Value} {us' : List Value}
    (hn : Row w1 M1 .undos 1 1 uv' us'.length us') :
    Lies (w1.setCell ⟨tb, 1, none⟩ uv') M1 tb nv uv' ps us' ∧ Moved w M (w1.setCell ⟨tb, 1, none⟩ uv') M1 := by
  have hlt := lt_of_heap h.head
  have hM : M1 tb = .tree := (st.lab tb hlt).trans h.tree
  have st2 : Step w1 M1 (w1.setCell ⟨tb, 1, none⟩ uv') M1 .tree := step_setCell uv' hM st.fresh
  have hh : w1.heap[tb]? = some (.cells #[nv, uv] 82 (0, 0)) := (st.far tb hlt (by rw [h.tree]; intro e; cases e)).trans h.head
  refine ⟨⟨st2.fresh, hM, ?_, (h.nodes.step st (by intro e; cases e)).step st2 (by intro e; cases e), hn.step st2 (by intro e; cases e), ?_⟩, (st.moved (by intro e; cases e)).trans (st2.moved (by intro e; cases e))⟩
  · rw [setCell_heap w1 tb 1 uv' _ _ _ hh]; rfl
  · intro i p hp
    exact ⟨((h.node i p hp).1.step st (by intro e; cases e)).step st2 (by intro e; cases e), ((h.node i p hp).2.step st (by intro e; cases e)).step st2 (by intro e; cases e)⟩

/-- a node's cells, as a walk reads them -/
theorem Lies.cellN {w : World} {M : Nat → Lab} {tb : Nat} {nv uv : Value} {ps : List Pn} {us : List Value} (h : Lies w M tb nv uv ps us) {nb m c0 : Nat} (hv : nv = .slice (some ⟨nb, 0, none⟩) m c0) {i f : Nat} {p : Pn} {c : Value} (hp : ps[i]? = some p) (hf : f < 6) (hc : p.cells[f]? = some c) :
    w.cell? ⟨nb, i * 6 + f, none⟩ = some c ∧ w.frozen? ⟨nb, i * 6 + f, none⟩ = false :=
  h.nodes.cell hv (by rw [flat_get ps i f p hp hf]; exact hc)
end Go.Proofs.YtlfepdecgfcifaaGreatDoor

/- What the small functions of package tree answer of a tree that lies in memory. -/
namespace Go.Proofs.YtlfepdecgfcifaaGreatDoor
open Go.RowKit

/-- there is such a node -/
def hasB (n : Nat) (id : Int) : Bool := decide (0 ≤ id ∧ id < (n : Int))

theorem ret_bool {a b : Bool} (h : a = b) : Ending.returned (.bool a) = .returned (.bool b) := by rw [h]
theorem ret_int {k : IntKind} {a b : Int} (h : a = b) : Ending.returned (.int k a) = .returned (.int k b) := by rw [h]

theorem has_any {w : World} {M : Nat → Lab} {tb : Nat} {nv uv : Value} {ps : List Pn} {us : List Value} (h : Lies w M tb nv uv ps us) (id : Int) :
    Calls Tryz.prog 54 #[.pointer (some ⟨tb, 0, none⟩), .int .i64 id] w fun e w' => e = .returned (.bool (hasB ps.length id)) ∧ w' = w := by
  obtain ⟨a, cap, rfl, hc, hm⟩ := h.nodes.shape
  have c0 := h.cell0
  unfold maxLen at hm
  go_enter Tryz.func54, Tryz.ntmps54
  go_wp2
  all_goals go_ret
  all_goals refine ⟨ret_bool ?_, rfl⟩
  all_goals (unfold hasB; simp; try omega)

theorem room_any {w : World} {M : Nat → Lab} {tb : Nat} {nv uv : Value} {ps : List Pn} {us : List Value} (h : Lies w M tb nv uv ps us) (h4 : ps.length ≤ 400) :
    Calls Tryz.prog 75 #[.pointer (some ⟨tb, 0, none⟩), .int .i64 1] w fun e w' => e = .returned (.bool (decide (ps.length < 400))) ∧ w' = w := by
  obtain ⟨a, cap, rfl, hc, hm⟩ := h.nodes.shape
  have c0 := h.cell0
  unfold maxLen at hm
  go_enter Tryz.func75, Tryz.ntmps75
  go_wp2
  all_goals go_ret
  all_goals refine ⟨ret_bool ?_, rfl⟩
  all_goals (simp; try omega)

theorem Lies.form {w : World} {M : Nat → Lab} {tb : Nat} {nv uv : Value} {ps : List Pn} {us : List Value} (h : Lies w M tb nv uv ps us) {i : Nat} {p : Pn} (hp : ps[i]? = some p) :
    ∃ nb cap, nv = .slice (some ⟨nb, 0, none⟩) ps.length cap ∧ ps.length ≤ cap ∧ cap ≤ maxLen ∧ M nb = .nodes ∧ nb < w.heap.size ∧ i < ps.length := by
  have hi : i < ps.length := (List.getElem?_eq_some_iff.1 hp).1
  obtain ⟨g, cap, h1, h2, h3, h4, h5⟩ := h.nodes.form (by omega)
  exact ⟨g, cap, h1, h2, h3, h4, h5, hi⟩

theorem hasB_of {ps : List Pn} {i : Nat} {p : Pn} (hp : ps[i]? = some p) : hasB ps.length i = true := by
  have hi : i < ps.length := (List.getElem?_eq_some_iff.1 hp).1
  unfold hasB; simp; omega

set_option maxHeartbeats 1000000 in
theorem parent_any {w : World} {M : Nat → Lab} {tb : Nat} {nv uv : Value} {ps : List Pn} {us : List Value} (h : Lies w M tb nv uv ps us) {i : Nat} {p : Pn} (hp : ps[i]? = some p) :
    Calls Tryz.prog 22 #[.pointer (some ⟨tb, 0, none⟩), .int .i64 i] w fun e w' => e = .returned (.int .i64 p.n.parent) ∧ w' = w := by
  have hb := hasB_of hp
  obtain ⟨nb, cap, rfl, hc, hm, _, _, hi⟩ := h.form hp
  have c0 := h.cell0
  have c4 := (h.cellN rfl (f := 4) hp (by omega) rfl).1
  unfold maxLen at hm
  go_enter Tryz.func22, Tryz.ntmps22
  go_wp2_with (go_at_call 54; refine (has_any h _).mono ?_; rintro e w' ⟨rfl, rfl⟩; rw [hb])

  all_goals go_ret
  all_goals exact ⟨rfl, rfl⟩
end Go.Proofs.YtlfepdecgfcifaaGreatDoor

/- What makes nodes, and what is kept to undo it. -/
namespace Go.Proofs.YtlfepdecgfcifaaGreatDoor
open Go.RowKit

theorem Tryz.infoFunc : (Tryz.prog.info? 1).map (fun i => (i.zero, i.size, i.bytes)) = some (some .nilFunc, 1, 8) := by kernel_rfl
theorem Tryz.infoNode : (Tryz.prog.info? 78).map (fun i => (i.zero, i.size, i.bytes)) = some (some (.agg #[.int .i64 0, .string ⟨#[]⟩, .string ⟨#[]⟩, .slice none 0 0, .int .i64 0, .slice none 0 0]), 6, 96) := by kernel_rfl

theorem head_cell {w : World} {tb : Nat} {nv uv : Value} {t : TypeId} (h : w.heap[tb]? = some (.cells #[nv, uv] t (0, 0))) : w.cell? ⟨tb, 0, none⟩ = some nv ∧ w.cell? ⟨tb, 1, none⟩ = some uv ∧ w.frozen? ⟨tb, 0, none⟩ = false ∧ w.frozen? ⟨tb, 1, none⟩ = false := by
  refine ⟨?_, ?_, ?_, ?_⟩
  · rw [cell_of_row w tb 0 _ _ _ h]; rfl
  · rw [cell_of_row w tb 1 _ _ _ h]; rfl
  · simp [World.frozen?, h]
  · simp [World.frozen?, h]

set_option maxHeartbeats 1000000 in
set_option maxRecDepth 100000 in
theorem keep_any {w : World} {M : Nat → Lab} {tb : Nat} {nv uv : Value} {ps : List Pn} {us : List Value} (h : Lies w M tb nv uv ps us) (fn : Fn) (fi ca : Array Value) (hu : us.length ≤ 1099511627776) :
    Calls Tryz.prog 50 #[.pointer (some ⟨tb, 0, none⟩), .func fn fi ca] w fun e w' => e = .returned (.tuple #[]) ∧ ∃ M' uv', Lies w' M' tb nv uv' ps (us ++ [.func fn fi ca]) ∧ Moved w M w' M' := by
  obtain ⟨i0, hi, hz0, hz1, hz2⟩ := info_parts Tryz.infoFunc
  obtain ⟨a, cap, ha, hc, hm⟩ := h.undos.shape
  subst ha
  have c1 := h.cell1
  have H : Hid (Lies w M tb nv (.slice a us.length cap) ps us) := h
  clear h
  go_enter Tryz.func50, Tryz.ntmps50
  go_wp2_with (at_builtin; refine wpList_app_row _ (by rfl) (.tmp 8) (.tmp 10) 80 (by rfl) M .undos 1 i0 .nilFunc 1 8 Tryz.underlying80 hi hz0 hz1 hz2 rfl (by decide) (.slice a us.length cap) us.length us (by rfl) (H.out.alloc _).undos ⟨w.heap.size, 0, none⟩ 1 1 [.func fn fi ca] (by rfl) rfl (cell_one_new _ _ _) (by simp [Value.oneCell']) (by decide) (by unfold maxLen; omega) (by omega) (H.out.alloc _).fresh ?_; intro g cap1 w1 M1 hr st; obtain ⟨hc0, hc1, hf0, hf1⟩ := head_cell ((st.far tb (lt_of_heap (H.out.alloc _).head) (by rw [H.out.tree]; intro e; cases e)).trans (H.out.alloc _).head); have HR : Hid _ := (H.out.alloc _).headUndos (uv' := .slice (some ⟨g, 0, none⟩) (us.length + 1) cap1) (us' := us ++ [.func fn fi ca]) st (by rw [List.length_append]; exact hr); clear hr st)
  go_end0
  exact ⟨rfl, M1, _, HR.out.1, ((Moved.refl _ _).alloc _).trans HR.out.2⟩

/-- a function that unmakes the nodes from a number on -/
def Frg (w : World) (M : Nat → Lab) (f : Value) (tb n : Nat) : Prop :=
  ∃ b1 b2, f = .func (.func 90) #[] #[.pointer (some ⟨b1, 0, none⟩), .pointer (some ⟨b2, 0, none⟩)] ∧ M b1 = .other ∧ M b2 = .other ∧ w.cell? ⟨b1, 0, none⟩ = some (.pointer (some ⟨tb, 0, none⟩)) ∧ w.cell? ⟨b2, 0, none⟩ = some (.int .i64 n)

theorem Frg.moved {w w' : World} {M M' : Nat → Lab} {f : Value} {tb n : Nat} (h : Frg w M f tb n) (m : Moved w M w' M') : Frg w' M' f tb n := by
  obtain ⟨b1, b2, rfl, h1, h2, h3, h4⟩ := h
  have l1 : b1 < w.heap.size := World.block_lt_of_cell? w _ h3
  have l2 : b2 < w.heap.size := World.block_lt_of_cell? w _ h4
  exact ⟨b1, b2, rfl, (m.lab b1 l1).trans h1, (m.lab b2 l2).trans h2, (World.cell?_of_block (a := ⟨b1, 0, none⟩) (m.far b1 l1 h1)).trans h3, (World.cell?_of_block (a := ⟨b2, 0, none⟩) (m.far b2 l2 h2)).trans h4⟩

set_option maxHeartbeats 1000000 in
theorem forget_any {w : World} {M : Nat → Lab} {tb : Nat} {nv uv : Value} {ps : List Pn} {us : List Value} (h : Lies w M tb nv uv ps us) :
    Calls Tryz.prog 76 #[.pointer (some ⟨tb, 0, none⟩)] w fun e w' => ∃ ca, e = .returned (.func (.func 90) #[] ca) ∧ Frg w' M (.func (.func 90) #[] ca) tb ps.length ∧ Below w.heap.size w w' := by
  obtain ⟨a, cap, rfl, hc, hm⟩ := h.nodes.shape
  have c0 := h.cell0
  have hfr := h.fresh
  unfold maxLen at hm
  have H : Hid (∀ b, w.heap.size ≤ b → M b = .other) := hfr
  have hlt : tb < w.heap.size := lt_of_heap h.head
  clear h hfr
  go_enter Tryz.func76, Tryz.ntmps76
  go_wp2
  go_ret
  refine ⟨_, rfl, ⟨_, _, rfl, H.out _ (by simp), H.out _ (by simp), by simp, by simp⟩, ?_⟩
  exact (((Below.refl _ _).alloc (Nat.le_refl _) _).alloc (by simp) _)

theorem node_cells (kind parent : Int) (tag words : ByteArray) (av kv : Value) (at_ : List (ByteArray × ByteArray)) (ks : List Int) : (⟨⟨kind, tag, words, at_, parent, ks⟩, av, kv⟩ : Pn).cells = [.int .i64 kind, .string tag, .string words, av, .int .i64 parent, kv] := rfl

/-- the append of 'add', as one step -/
theorem step_add {w : World} {M : Nat → Lab} {tb : Nat} {uv : Value} {ps : List Pn} {us : List Value} {a : Option Addr} {cap : Nat} (h : Lies w M tb (.slice a ps.length cap) uv ps us) (hn : ps.length ≤ 400) (kind : Int) (tag words : ByteArray) (aa : Option Addr) (al acp : Nat) (at_ : List (ByteArray × ByteArray))
    (ha : Row w M (.attrs ps.length) 51 2 (.slice aa al acp) at_.length (attrCells at_)) (o1 : Obj)
    {ops : Array Oper} {o : Oper} {ac : Act} {K : Act → World → Prop} {Q : Exit → Act → World → Prop} {E : Prop} (hgd : o.guard = none)
    (ho : o.op = .call { callee := .builtin .append, args := #[.tmp 10, .tmp 12], argTypes := #[79, 79] })
    (hs : ac.eval (.tmp 10) = .slice a ps.length cap) (hx : ac.eval (.tmp 12) = .slice (some ⟨w.heap.size + 1, 0, none⟩) 1 1)
    (hK : ∀ g cap1 w1 M1, Hid (Lies (w1.setCell ⟨tb, 0, none⟩ (.slice (some ⟨g, 0, none⟩) (ps.length + 1) cap1)) M1 tb (.slice (some ⟨g, 0, none⟩) (ps.length + 1) cap1) uv (ps ++ [⟨⟨kind, tag, words, at_, -1, []⟩, .slice aa al acp, .slice none 0 0⟩]) us ∧ Moved w M (w1.setCell ⟨tb, 0, none⟩ (.slice (some ⟨g, 0, none⟩) (ps.length + 1) cap1)) M1) →
      w1.cell? ⟨tb, 0, none⟩ = some (.slice a ps.length cap) → w1.frozen? ⟨tb, 0, none⟩ = false → K (ac.put o.dst (.slice (some ⟨g, 0, none⟩) (ps.length + 1) cap1)) w1) :
    if Region.wanted o (yielded ops ac.tmps) = true then Oper.wp Tryz.prog o ac (((w.alloc o1).alloc (.cells #[.int .i64 kind, .string tag, .string words, .slice aa al acp, .int .i64 (-1), .slice none 0 0] 78)).drew) K Q else E := by
  obtain ⟨i0, hi, hz0, hz1, hz2⟩ := info_parts Tryz.infoNode
  have H := ((h.alloc o1).alloc (.cells #[.int .i64 kind, .string tag, .string words, .slice aa al acp, .int .i64 (-1), .slice none 0 0] 78)).drew
  have mv : Moved w M ((w.alloc o1).alloc (.cells #[.int .i64 kind, .string tag, .string words, .slice aa al acp, .int .i64 (-1), .slice none 0 0] 78)).drew M := (((Moved.refl w M).alloc o1).alloc _).drew
  refine step_app_row _ hgd (.tmp 10) (.tmp 12) 79 ho M .nodes 78 i0 _ 6 96 Tryz.underlying79 hi hz0 hz1 hz2 rfl (by decide) (.slice a ps.length cap) ps.length (flat ps) hs H.nodes ⟨w.heap.size + 1, 0, none⟩ 1 1 [.int .i64 kind, .string tag, .string words, .slice aa al acp, .int .i64 (-1), .slice none 0 0] hx rfl (news_two w o1 #[.int .i64 kind, .string tag, .string words, .slice aa al acp, .int .i64 (-1), .slice none 0 0] 78) (by simp [Value.oneCell']) (by decide) (by unfold maxLen; omega) (by omega) H.fresh ?_
  intro g cap1 w1 M1 hr st
  obtain ⟨hc0, hc1, hf0, hf1⟩ := head_cell ((st.far tb (lt_of_heap H.head) (by rw [H.tree]; intro e; cases e)).trans H.head)
  have HR := H.headNodes (nv' := .slice (some ⟨g, 0, none⟩) (ps.length + 1) cap1) (qs := ps ++ [⟨⟨kind, tag, words, at_, -1, []⟩, .slice aa al acp, .slice none 0 0⟩]) st (by rw [List.length_append, flat_append]; exact hr) (by
    intro i p hp
    by_cases hi : i < ps.length
    · rw [List.getElem?_append_left hi] at hp
      exact H.node i p hp
    · rw [List.getElem?_append_right (by omega)] at hp
      have : i - ps.length = 0 := by
        rcases Nat.eq_zero_or_pos (i - ps.length) with e | e
        · exact e
        · rw [List.getElem?_eq_none (by simp; omega)] at hp; cases hp
      rw [this] at hp
      cases hp
      obtain rfl : i = ps.length := by omega
      refine ⟨ha.keep (fun b hb e => ?_) (fun _ _ => rfl), Row.nil _ _ _ _ _⟩
      exact (Below.heap_alloc (w.alloc o1) _ b (by simp; omega)).trans (Below.heap_alloc w o1 b hb))
  exact hK g cap1 w1 M1 ⟨HR.1, mv.trans HR.2⟩ hc0 hf0

set_option maxHeartbeats 2000000 in
set_option maxRecDepth 100000 in
theorem add_any {w : World} {M : Nat → Lab} {tb : Nat} {nv uv : Value} {ps : List Pn} {us : List Value} (h : Lies w M tb nv uv ps us) (hn : ps.length ≤ 400) (kind par : Int) (tag words : ByteArray) (aa : Option Addr) (al ac : Nat) (at_ : List (ByteArray × ByteArray))
    (ha : Row w M (.attrs ps.length) 51 2 (.slice aa al ac) at_.length (attrCells at_)) :
    Calls Tryz.prog 77 #[.pointer (some ⟨tb, 0, none⟩), .agg #[.int .i64 kind, .string tag, .string words, .slice aa al ac, .int .i64 par, .slice none 0 0]] w fun e w' =>
      e = .returned (.int .i64 ps.length) ∧ ∃ M' nv', Lies w' M' tb nv' uv (ps ++ [⟨⟨kind, tag, words, at_, -1, []⟩, .slice aa al ac, .slice none 0 0⟩]) us ∧ Moved w M w' M' := by
  obtain ⟨a, cap, rfl, hc, hm⟩ := h.nodes.shape
  have c0 := h.cell0
  have f0 := h.frozen 0
  have hlt : tb < w.heap.size := lt_of_heap h.head
  have H : Hid (Lies w M tb (.slice a ps.length cap) uv ps us) := h
  have HA : Hid (Row w M (.attrs ps.length) 51 2 (.slice aa al ac) at_.length (attrCells at_)) := ha
  clear h ha
  go_enter Tryz.func77, Tryz.ntmps77
  go_wp2
  go_region_law ((refine step_add H.out hn kind tag words aa al ac at_ HA.out _ (by rfl) (by rfl) (by simp [Act.eval]) (by simp [Act.eval]) ?_; intro g cap1 w1 M1 HR hc0 hf0))
  all_goals go_wp2
  all_goals go_ret
  all_goals exact ⟨ret_int (by omega), M1, _, HR.out.1, HR.out.2⟩
end Go.Proofs.YtlfepdecgfcifaaGreatDoor
