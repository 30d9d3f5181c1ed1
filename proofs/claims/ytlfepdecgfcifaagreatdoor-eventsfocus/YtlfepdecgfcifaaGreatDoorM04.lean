/- How a tree of the document's answer lies in memory: as the program's does, of other types. -/
import Derived.Test.YtlfepdecgfcifaaGreatDoorM03
namespace Go.Proofs.YtlfepdecgfcifaaGreatDoor
open Go.RowKit

structure RLies (w : World) (M : Nat → Lab) (tb : Nat) (nv uv : Value) (ps : List Pn) (us : List Value) : Prop where
  fresh : ∀ b, w.heap.size ≤ b → M b = .other
  tree : M tb = .tree
  head : w.heap[tb]? = some (.cells #[nv, uv] 29 (0, 0))
  nodes : Row w M .nodes 62 6 nv ps.length (flat ps)
  undos : Row w M .undos 26 1 uv us.length us
  node : ∀ i p, ps[i]? = some p → Row w M (.attrs i) 51 2 p.av p.n.attrs.length (attrCells p.n.attrs) ∧ Row w M (.kids i) 3 1 p.kv p.n.kids.length (p.n.kids.map intV)
theorem RLies.far {w w' : World} {M : Nat → Lab} {tb : Nat} {nv uv : Value} {ps : List Pn} {us : List Value} (h : RLies w M tb nv uv ps us) (hs : w.heap.size ≤ w'.heap.size) (hb : ∀ b, b < w.heap.size → M b ≠ .other → w'.heap[b]? = w.heap[b]?) : RLies w' M tb nv uv ps us where
  fresh b hb' := h.fresh b (by omega)
  tree := h.tree
  head := (hb tb (lt_of_heap h.head) (by rw [h.tree]; intro e; cases e)).trans h.head
  nodes := h.nodes.keep (fun b hb' e => hb b hb' (by rw [e]; intro e; cases e)) (fun _ _ => rfl)
  undos := h.undos.keep (fun b hb' e => hb b hb' (by rw [e]; intro e; cases e)) (fun _ _ => rfl)
  node i p hp := ⟨(h.node i p hp).1.keep (fun b hb' e => hb b hb' (by rw [e]; intro e; cases e)) (fun _ _ => rfl), (h.node i p hp).2.keep (fun b hb' e => hb b hb' (by rw [e]; intro e; cases e)) (fun _ _ => rfl)⟩
theorem RLies.alloc {w : World} {M : Nat → Lab} {tb : Nat} {nv uv : Value} {ps : List Pn} {us : List Value} (h : RLies w M tb nv uv ps us) (o : Obj) : RLies (w.alloc o) M tb nv uv ps us :=
  h.far (by simp) (fun b hb _ => Below.heap_alloc w o b hb)
theorem RLies.drew {w : World} {M : Nat → Lab} {tb : Nat} {nv uv : Value} {ps : List Pn} {us : List Value} (h : RLies w M tb nv uv ps us) : RLies w.drew M tb nv uv ps us :=
  h.far (Nat.le_refl _) (fun _ _ _ => rfl)
theorem RLies.below {w w' : World} {M : Nat → Lab} {tb : Nat} {nv uv : Value} {ps : List Pn} {us : List Value} (h : RLies w M tb nv uv ps us) (hb : Below w.heap.size w w') : RLies w' M tb nv uv ps us :=
  h.far hb.size (fun b hb' _ => hb.block b hb')
theorem RLies.cell0 {w : World} {M : Nat → Lab} {tb : Nat} {nv uv : Value} {ps : List Pn} {us : List Value} (h : RLies w M tb nv uv ps us) : w.cell? ⟨tb, 0, none⟩ = some nv := by
  rw [cell_of_row w tb 0 _ _ _ h.head]; rfl
theorem RLies.cell1 {w : World} {M : Nat → Lab} {tb : Nat} {nv uv : Value} {ps : List Pn} {us : List Value} (h : RLies w M tb nv uv ps us) : w.cell? ⟨tb, 1, none⟩ = some uv := by
  rw [cell_of_row w tb 1 _ _ _ h.head]; rfl
theorem RLies.frozen {w : World} {M : Nat → Lab} {tb : Nat} {nv uv : Value} {ps : List Pn} {us : List Value} (h : RLies w M tb nv uv ps us) (o : Nat) : w.frozen? ⟨tb, o, none⟩ = false := by
  simp [World.frozen?, h.head]
theorem RLies.setNode {w : World} {M : Nat → Lab} {tb : Nat} {nv uv : Value} {ps : List Pn} {us : List Value} (h : RLies w M tb nv uv ps us) {nb m c0 : Nat} (hv : nv = .slice (some ⟨nb, 0, none⟩) m c0)
    {i f : Nat} {p p' : Pn} {c : Value} (hp : ps[i]? = some p) (hf : f < 6) (he : p'.cells = p.cells.set f c)
    (ha : Row w M (.attrs i) 51 2 p'.av p'.n.attrs.length (attrCells p'.n.attrs)) (hk : Row w M (.kids i) 3 1 p'.kv p'.n.kids.length (p'.n.kids.map intV)) :
    RLies (w.setCell ⟨nb, i * 6 + f, none⟩ c) M tb nv uv (ps.set i p') us ∧ Step w M (w.setCell ⟨nb, i * 6 + f, none⟩ c) M .nodes := by
  have hi : i < ps.length := (List.getElem?_eq_some_iff.1 hp).1
  obtain ⟨g, cap, hg, _, _, hM, _⟩ := h.nodes.form (by omega)
  have e1 : g = nb := by rw [hv] at hg; cases hg; rfl
  subst e1
  have st : Step w M (w.setCell ⟨g, i * 6 + f, none⟩ c) M .nodes := step_setCell c hM h.fresh
  refine ⟨⟨st.fresh, h.tree, (st.far tb (lt_of_heap h.head) (by rw [h.tree]; intro e; cases e)).trans h.head, ?_, h.undos.step st (by intro e; cases e), ?_⟩, st⟩
  · rw [List.length_set, flat_set ps i f p p' c hp hf he]
    exact h.nodes.set hv _ c (by rw [flat_length]; omega)
  · intro j q hq
    by_cases hij : i = j
    · subst hij
      rw [List.getElem?_set_self hi] at hq
      cases hq
      exact ⟨ha.step st (by intro e; cases e), hk.step st (by intro e; cases e)⟩
    · rw [List.getElem?_set_ne hij] at hq
      exact ⟨(h.node j q hq).1.step st (by intro e; cases e), (h.node j q hq).2.step st (by intro e; cases e)⟩
theorem RLies.headNodes {w w1 : World} {M M1 : Nat → Lab} {tb : Nat} {nv uv : Value} {ps : List Pn} {us : List Value} (h : RLies w M tb nv uv ps us) (st : Step w M w1 M1 .nodes) {nv' : Value} {qs : List Pn}
    (hn : Row w1 M1 .nodes 62 6 nv' qs.length (flat qs)) (hq : ∀ i p, qs[i]? = some p → Row w M (.attrs i) 51 2 p.av p.n.attrs.length (attrCells p.n.attrs) ∧ Row w M (.kids i) 3 1 p.kv p.n.kids.length (p.n.kids.map intV)) :
    RLies (w1.setCell ⟨tb, 0, none⟩ nv') M1 tb nv' uv qs us ∧ Moved w M (w1.setCell ⟨tb, 0, none⟩ nv') M1 := by
  have hlt := lt_of_heap h.head
  have hM : M1 tb = .tree := (st.lab tb hlt).trans h.tree
  have st2 : Step w1 M1 (w1.setCell ⟨tb, 0, none⟩ nv') M1 .tree := step_setCell nv' hM st.fresh
  have hh : w1.heap[tb]? = some (.cells #[nv, uv] 29 (0, 0)) := (st.far tb hlt (by rw [h.tree]; intro e; cases e)).trans h.head
  refine ⟨⟨st2.fresh, hM, ?_, hn.step st2 (by intro e; cases e), (h.undos.step st (by intro e; cases e)).step st2 (by intro e; cases e), ?_⟩, (st.moved (by intro e; cases e)).trans (st2.moved (by intro e; cases e))⟩
  · rw [setCell_heap w1 tb 0 nv' _ _ _ hh]; rfl
  · intro i p hp
    exact ⟨((hq i p hp).1.step st (by intro e; cases e)).step st2 (by intro e; cases e), ((hq i p hp).2.step st (by intro e; cases e)).step st2 (by intro e; cases e)⟩
theorem RLies.headUndos {w w1 : World} {M M1 : Nat → Lab} {tb : Nat} {nv uv : Value} {ps : List Pn} {us : List Value} (h : RLies w M tb nv uv ps us) (st : Step w M w1 M1 .undos) {uv' : Value} {us' : List Value}
    (hn : Row w1 M1 .undos 26 1 uv' us'.length us') :
    RLies (w1.setCell ⟨tb, 1, none⟩ uv') M1 tb nv uv' ps us' ∧ Moved w M (w1.setCell ⟨tb, 1, none⟩ uv') M1 := by
  have hlt := lt_of_heap h.head
  have hM : M1 tb = .tree := (st.lab tb hlt).trans h.tree
  have st2 : Step w1 M1 (w1.setCell ⟨tb, 1, none⟩ uv') M1 .tree := step_setCell uv' hM st.fresh
  have hh : w1.heap[tb]? = some (.cells #[nv, uv] 29 (0, 0)) := (st.far tb hlt (by rw [h.tree]; intro e; cases e)).trans h.head
  refine ⟨⟨st2.fresh, hM, ?_, (h.nodes.step st (by intro e; cases e)).step st2 (by intro e; cases e), hn.step st2 (by intro e; cases e), ?_⟩, (st.moved (by intro e; cases e)).trans (st2.moved (by intro e; cases e))⟩
  · rw [setCell_heap w1 tb 1 uv' _ _ _ hh]; rfl
  · intro i p hp
    exact ⟨((h.node i p hp).1.step st (by intro e; cases e)).step st2 (by intro e; cases e), ((h.node i p hp).2.step st (by intro e; cases e)).step st2 (by intro e; cases e)⟩
theorem RLies.cellN {w : World} {M : Nat → Lab} {tb : Nat} {nv uv : Value} {ps : List Pn} {us : List Value} (h : RLies w M tb nv uv ps us) {nb m c0 : Nat} (hv : nv = .slice (some ⟨nb, 0, none⟩) m c0) {i f : Nat} {p : Pn} {c : Value} (hp : ps[i]? = some p) (hf : f < 6) (hc : p.cells[f]? = some c) :
    w.cell? ⟨nb, i * 6 + f, none⟩ = some c ∧ w.frozen? ⟨nb, i * 6 + f, none⟩ = false :=
  h.nodes.cell hv (by rw [flat_get ps i f p hp hf]; exact hc)
theorem RLies.form {w : World} {M : Nat → Lab} {tb : Nat} {nv uv : Value} {ps : List Pn} {us : List Value} (h : RLies w M tb nv uv ps us) {i : Nat} {p : Pn} (hp : ps[i]? = some p) :
    ∃ nb cap, nv = .slice (some ⟨nb, 0, none⟩) ps.length cap ∧ ps.length ≤ cap ∧ cap ≤ maxLen ∧ M nb = .nodes ∧ nb < w.heap.size ∧ i < ps.length := by
  have hi : i < ps.length := (List.getElem?_eq_some_iff.1 hp).1
  obtain ⟨g, cap, h1, h2, h3, h4, h5⟩ := h.nodes.form (by omega)
  exact ⟨g, cap, h1, h2, h3, h4, h5, hi⟩
theorem RLies.drewN {w : World} {M : Nat → Lab} {tb : Nat} {nv uv : Value} {ps : List Pn} {us : List Value} (h : RLies w M tb nv uv ps us) (n : Nat) : RLies (w.drewN n) M tb nv uv ps us :=
  h.far (Nat.le_refl _) (fun _ _ _ => rfl)
theorem RLies.setAttrs {w w1 : World} {M M1 : Nat → Lab} {tb : Nat} {nv uv : Value} {ps : List Pn} {us : List Value} (h : RLies w M tb nv uv ps us) {nb m c0 : Nat} (hv : nv = .slice (some ⟨nb, 0, none⟩) m c0) {i : Nat} {p : Pn} (hp : ps[i]? = some p) (st : Step w M w1 M1 (.attrs i))
    {av' : Value} {at' : List (ByteArray × ByteArray)} (hr : Row w1 M1 (.attrs i) 51 2 av' at'.length (attrCells at')) :
    RLies (w1.setCell ⟨nb, i * 6 + 3, none⟩ av') M1 tb nv uv (ps.set i ⟨{ p.n with attrs := at' }, av', p.kv⟩) us ∧ Moved w M (w1.setCell ⟨nb, i * 6 + 3, none⟩ av') M1 ∧ (∃ u, w1.cell? ⟨nb, i * 6 + 3, none⟩ = some u) ∧ w1.frozen? ⟨nb, i * 6 + 3, none⟩ = false := by
  have hi : i < ps.length := (List.getElem?_eq_some_iff.1 hp).1
  obtain ⟨g, cap, hg, _, _, hM, hgl⟩ := h.nodes.form (by omega)
  have e1 : g = nb := by rw [hv] at hg; cases hg; rfl
  subst e1
  have hn1 : Row w1 M1 .nodes 62 6 nv ps.length (flat ps) := h.nodes.step st (by intro e; cases e)
  have hM1 : M1 g = .nodes := (st.lab g hgl).trans hM
  have st2 : Step w1 M1 (w1.setCell ⟨g, i * 6 + 3, none⟩ av') M1 .nodes := step_setCell av' hM1 st.fresh
  have hc := hn1.cell hv (flat_get ps i 3 p hp (by omega))
  refine ⟨⟨st2.fresh, (st.lab tb (lt_of_heap h.head)).trans h.tree, ?_, ?_, (h.undos.step st (by intro e; cases e)).step st2 (by intro e; cases e), ?_⟩, (st.moved (by intro e; cases e)).trans (st2.moved (by intro e; cases e)), ⟨_, hc.1⟩, hc.2⟩
  · have ht : M1 tb = .tree := (st.lab tb (lt_of_heap h.head)).trans h.tree
    have hl : tb < w1.heap.size := Nat.lt_of_lt_of_le (lt_of_heap h.head) st.size
    exact ((st2.far tb hl (by rw [ht]; intro e; cases e)).trans (st.far tb (lt_of_heap h.head) (by rw [h.tree]; intro e; cases e))).trans h.head
  · rw [List.length_set, flat_set ps i 3 p ⟨{ p.n with attrs := at' }, av', p.kv⟩ av' hp (by omega) rfl]
    exact hn1.set hv _ _ (by rw [flat_length]; omega)
  · intro j q hq
    by_cases hij : i = j
    · subst hij
      rw [List.getElem?_set_self hi] at hq
      cases hq
      exact ⟨hr.step st2 (by intro e; cases e), ((h.node i p hp).2.step st (by intro e; cases e)).step st2 (by intro e; cases e)⟩
    · rw [List.getElem?_set_ne hij] at hq
      exact ⟨((h.node j q hq).1.step st (by intro e; cases e; exact hij rfl)).step st2 (by intro e; cases e), ((h.node j q hq).2.step st (by intro e; cases e)).step st2 (by intro e; cases e)⟩
theorem RLies.turnAttrs {w w1 : World} {M M1 : Nat → Lab} {tb : Nat} {nv uv : Value} {ps : List Pn} {us : List Value} (h : RLies w M tb nv uv ps us) {i : Nat} {p : Pn} (hp : ps[i]? = some p) (st : Step w M w1 M1 (.attrs i))
    {at' : List (ByteArray × ByteArray)} (hr : Row w1 M1 (.attrs i) 51 2 p.av at'.length (attrCells at')) :
    RLies w1 M1 tb nv uv (ps.set i ⟨{ p.n with attrs := at' }, p.av, p.kv⟩) us ∧ Moved w M w1 M1 := by
  have hi : i < ps.length := (List.getElem?_eq_some_iff.1 hp).1
  refine ⟨⟨st.fresh, (st.lab tb (lt_of_heap h.head)).trans h.tree, (st.far tb (lt_of_heap h.head) (by rw [h.tree]; intro e; cases e)).trans h.head, ?_, h.undos.step st (by intro e; cases e), ?_⟩, st.moved (by intro e; cases e)⟩
  · rw [List.length_set, flat_same ps i p ⟨{ p.n with attrs := at' }, p.av, p.kv⟩ hp rfl]
    exact h.nodes.step st (by intro e; cases e)
  · intro j q hq
    by_cases hij : i = j
    · subst hij
      rw [List.getElem?_set_self hi] at hq
      cases hq
      exact ⟨hr, (h.node i p hp).2.step st (by intro e; cases e)⟩
    · rw [List.getElem?_set_ne hij] at hq
      exact ⟨(h.node j q hq).1.step st (by intro e; cases e; exact hij rfl), (h.node j q hq).2.step st (by intro e; cases e)⟩
theorem RLies.setKids {w w1 : World} {M M1 : Nat → Lab} {tb : Nat} {nv uv : Value} {ps : List Pn} {us : List Value} (h : RLies w M tb nv uv ps us) {nb m c0 : Nat} (hv : nv = .slice (some ⟨nb, 0, none⟩) m c0) {i : Nat} {p : Pn} (hp : ps[i]? = some p) (st : Step w M w1 M1 (.kids i))
    {kv' : Value} {ks' : List Int} (hr : Row w1 M1 (.kids i) 3 1 kv' ks'.length (ks'.map intV)) :
    RLies (w1.setCell ⟨nb, i * 6 + 5, none⟩ kv') M1 tb nv uv (ps.set i ⟨{ p.n with kids := ks' }, p.av, kv'⟩) us ∧ Moved w M (w1.setCell ⟨nb, i * 6 + 5, none⟩ kv') M1 ∧ w1.cell? ⟨nb, i * 6 + 5, none⟩ = some p.kv ∧ w1.frozen? ⟨nb, i * 6 + 5, none⟩ = false ∧ w1.cell? ⟨tb, 0, none⟩ = some nv := by
  have hi : i < ps.length := (List.getElem?_eq_some_iff.1 hp).1
  obtain ⟨g, cap, hg, _, _, hM, hgl⟩ := h.nodes.form (by omega)
  have e1 : g = nb := by rw [hv] at hg; cases hg; rfl
  subst e1
  have hn1 : Row w1 M1 .nodes 62 6 nv ps.length (flat ps) := h.nodes.step st (by intro e; cases e)
  have hM1 : M1 g = .nodes := (st.lab g hgl).trans hM
  have st2 : Step w1 M1 (w1.setCell ⟨g, i * 6 + 5, none⟩ kv') M1 .nodes := step_setCell kv' hM1 st.fresh
  have hc := hn1.cell hv ((flat_get ps i 5 p hp (by omega)).trans rfl)
  have hh := (st.far tb (lt_of_heap h.head) (by rw [h.tree]; intro e; cases e)).trans h.head
  refine ⟨⟨st2.fresh, (st.lab tb (lt_of_heap h.head)).trans h.tree, ?_, ?_, (h.undos.step st (by intro e; cases e)).step st2 (by intro e; cases e), ?_⟩, (st.moved (by intro e; cases e)).trans (st2.moved (by intro e; cases e)), hc.1, hc.2, (head_cell hh).1⟩
  · have ht : M1 tb = .tree := (st.lab tb (lt_of_heap h.head)).trans h.tree
    have hl : tb < w1.heap.size := Nat.lt_of_lt_of_le (lt_of_heap h.head) st.size
    exact (st2.far tb hl (by rw [ht]; intro e; cases e)).trans hh
  · rw [List.length_set, flat_set ps i 5 p ⟨{ p.n with kids := ks' }, p.av, kv'⟩ kv' hp (by omega) rfl]
    exact hn1.set hv _ _ (by rw [flat_length]; omega)
  · intro j q hq
    by_cases hij : i = j
    · subst hij
      rw [List.getElem?_set_self hi] at hq
      cases hq
      exact ⟨((h.node i p hp).1.step st (by intro e; cases e)).step st2 (by intro e; cases e), hr.step st2 (by intro e; cases e)⟩
    · rw [List.getElem?_set_ne hij] at hq
      exact ⟨((h.node j q hq).1.step st (by intro e; cases e)).step st2 (by intro e; cases e), ((h.node j q hq).2.step st (by intro e; cases e; exact hij rfl)).step st2 (by intro e; cases e)⟩
theorem RLies.grown {w w' : World} {M : Nat → Lab} {tb : Nat} {nv uv : Value} {ps : List Pn} {us : List Value} {row : Option Nat} (h : RLies w M tb nv uv ps us) (hg : w.grownBy w' row) (hr : ∀ k, row = some k → M k = .other) : RLies w' M tb nv uv ps us :=
  h.far hg.size (fun b hb hne => hg.block b hb (fun e => hne (hr b e.symm)))
end Go.Proofs.YtlfepdecgfcifaaGreatDoor

/- The document's answer: new trees and new nodes, and the copy that is kept of what was. -/
namespace Go.Proofs.YtlfepdecgfcifaaGreatDoor
open Go.RowKit

theorem Tryz.infoRnode : (Tryz.prog.info? 62).map (fun i => (i.zero, i.size, i.bytes)) = some (some (.agg #[.int .i64 0, .string ⟨#[]⟩, .string ⟨#[]⟩, .slice none 0 0, .int .i64 0, .slice none 0 0]), 6, 96) := by kernel_rfl
theorem Tryz.infoRnodes : (Tryz.prog.info? 26).map (fun i => (i.zero, i.size, i.bytes)) = some (some (.slice none 0 0), 1, 24) := by kernel_rfl

/-- how much a tree holds: no list is too long to be copied -/
def Small (ps : List Pn) : Prop := ∀ (j : Nat) (p : Pn), ps[j]? = some p → p.n.attrs.length ≤ 1099511627776 ∧ p.n.kids.length ≤ 1099511627776




/-- a node's copy, as it lies in memory -/
def nodeBox (p : Pn) : Obj := .cells #[.int .i64 p.n.kind, .string p.n.tag, .string p.n.words, p.av, .int .i64 p.n.parent, p.kv] 62

theorem box_set {w : World} {B : Nat} {x0 x1 x2 x3 x4 x5 : Value} {t : TypeId} {fr : Nat × Nat} (h : w.heap[B]? = some (.cells #[x0, x1, x2, x3, x4, x5] t fr)) (v : Value) :
    (w.setCell ⟨B, 3, none⟩ v).heap[B]? = some (.cells #[x0, x1, x2, v, x4, x5] t fr) ∧ (w.setCell ⟨B, 5, none⟩ v).heap[B]? = some (.cells #[x0, x1, x2, x3, x4, v] t fr) :=
  ⟨setCell_heap w B 3 v _ _ _ h, setCell_heap w B 5 v _ _ _ h⟩
theorem box_frozen {w : World} {B : Nat} {cs : Array Value} {t : TypeId} (h : w.heap[B]? = some (.cells cs t (0, 0))) (o : Nat) : w.frozen? ⟨B, o, none⟩ = false := by
  simp [World.frozen?, h]


def CopiedPost (w : World) (e : Ending) (w' : World) : Prop := ∃ a n c, e = .returned (.slice a n c) ∧ Below w.heap.size w w'

set_option maxHeartbeats 8000000 in
set_option maxRecDepth 100000 in
theorem copied_any {w : World} {M : Nat → Lab} {tb : Nat} {nv uv : Value} {ps : List Pn} {us : List Value} (h : RLies w M tb nv uv ps us) (hs : Small ps) (hn : ps.length ≤ 1000000) :
    Calls Tryz.prog 83 #[nv] w (CopiedPost w) := by
  obtain ⟨i0, hi, hz0, hz1, hz2⟩ := info_parts Tryz.infoRnode
  obtain ⟨i1, hi1, hz10, hz11, hz12⟩ := info_parts Tryz.infoAttr
  obtain ⟨i2, hi2, hz20, hz21, hz22⟩ := info_parts Tryz.infoInt
  obtain ⟨a, cap, rfl, hc, hm⟩ := h.nodes.shape
  unfold maxLen at hm
  have H : Hid (∀ (k : Nat) p, ps[k]? = some p → ∃ nb, a = some ⟨nb, 0, none⟩ ∧ nb < w.heap.size ∧ (∀ f c, f < 6 → p.cells[f]? = some c → w.cell? ⟨nb, k * 6 + f, none⟩ = some c) ∧ SrcOf w 2 p.av p.n.attrs.length (attrCells p.n.attrs) ∧ SrcOf w 1 p.kv p.n.kids.length (p.n.kids.map intV) ∧ p.n.attrs.length ≤ 1099511627776 ∧ p.n.kids.length ≤ 1099511627776) := by
    intro k p hp
    obtain ⟨nb, c, hv, _, _, _, hl, _⟩ := h.form hp
    cases hv
    exact ⟨nb, rfl, hl, fun f c hf hc => (h.cellN rfl hp hf hc).1, (h.node k p hp).1.src (one_attr _), (h.node k p hp).2.src (one_int _), hs k p hp⟩
  clear h hs
  go_enter Tryz.func83, Tryz.ntmps83
  go_wp2
  go_loopw [3, 4] (fun out i wr => ∃ k : Nat, k ≤ ps.length ∧ i = .int .i64 k ∧ Hid (∃ xs, wr.ownsRow w.heap.size 62 6 out k xs) ∧ Hid (Below w.heap.size w wr)) (fun _ i _ => ps.length - (intOf i).toNat)
  case atStart => exact ⟨0, by omega, rfl, ⟨[], World.ownsRow_nil _ _ _ _⟩, Below.refl _ _⟩
  case round =>
    obtain ⟨k, hk, rfl, hown, hbel⟩ := hrel
    by_cases hlt : k < ps.length
    · obtain ⟨p, hp⟩ : ∃ p, ps[k]? = some p := ⟨_, List.getElem?_eq_getElem hlt⟩
      obtain ⟨nb, rfl, hnb, hcell, hsa, hsk, hla, hlk⟩ := H.out k p hp
      obtain ⟨xs, hxs⟩ := hown.out
      have HS : Hid (SrcOf w 2 p.av p.n.attrs.length (attrCells p.n.attrs) ∧ SrcOf w 1 p.kv p.n.kids.length (p.n.kids.map intV)) := ⟨hsa, hsk⟩
      obtain ⟨_, _, aa, ac, hav, _⟩ := hsa
      obtain ⟨_, _, ka, kc, hkv, _⟩ := hsk
      have cc : ∀ f c, f < 6 → p.cells[f]? = some c → wr.cell? ⟨nb, k * 6 + f, none⟩ = some c := fun f c hf hc => (hbel.out.cell (p := ⟨nb, k * 6 + f, none⟩) hnb).trans (hcell f c hf hc)
      have c0 := cc 0 _ (by omega) rfl
      rw [Nat.add_zero] at c0
      have c1 := cc 1 _ (by omega) rfl
      have c2 := cc 2 _ (by omega) rfl
      have c3 := cc 3 _ (by omega) rfl
      have c4 := cc 4 _ (by omega) rfl
      have c5 := cc 5 _ (by omega) rfl
      rw [hav] at c3
      rw [hkv] at c5
      have HO : Hid (wr.ownsRow w.heap.size 62 6 u3 k xs) := hxs
      have hsz := hbel.out.size
      have hnl := Nat.lt_of_lt_of_le hnb hsz
      obtain ⟨pn, pav, pkv⟩ := p
      dsimp only at hav hkv
      subst hav
      subst hkv
      dsimp only at c0 c1 c2 c3 c4 c5 hla hlk HS
      clear cc hcell hp hown hxs
      go_wp2_with (first
        | (at_builtin; refine wpList_app_own _ (by rfl) _ _ 43 (by rfl) wr.heap.size 51 i1 _ 2 32 Tryz.underlying43 hi1 hz10 hz11 hz12 rfl (by decide) (.slice none 0 0) 0 [] (by rfl) (World.ownsRow_nil _ _ _ _) (.slice aa pn.attrs.length ac) pn.attrs.length (attrCells pn.attrs) (by rfl) (HS.out.1.below (hbel.out.alloc hsz _)) (by unfold maxLen; omega) (by omega) (by simp) ?_
           intro v1 w1 hv1 hg1 _
           have hb1 := (below_grown hg1).block wr.heap.size (by simp)
           rw [heap_alloc_new wr] at hb1
           obtain ⟨d0, d1, d2, d3, d4, d5⟩ := six_cells hb1
           have df3 := box_frozen hb1 3
           rw [Nat.zero_add] at hv1
           obtain ⟨a1, e1, rfl⟩ := own_shape hv1
           obtain ⟨s0, s1, s2, s3, s4, s5⟩ := six_cells (box_set hb1 (.slice a1 pn.attrs.length e1)).1
           have HB1 : Hid (Below wr.heap.size wr w1) := ((Below.refl wr.heap.size wr).alloc (Nat.le_refl _) _).trans ((below_grown hg1).mono (by simp))
           have HX1 : Hid _ := (box_set hb1 (.slice a1 pn.attrs.length e1)).1
           clear hv1 hg1 hb1)
        | (at_builtin; refine wpList_app_own _ (by rfl) _ _ 32 (by rfl) wr.heap.size 3 i2 _ 1 8 Tryz.underlying32 hi2 hz20 hz21 hz22 rfl (by decide) (.slice none 0 0) 0 [] (by rfl) (World.ownsRow_nil _ _ _ _) (.slice ka pn.kids.length kc) pn.kids.length (pn.kids.map intV) (by rfl) (HS.out.2.below (hbel.out.trans ((HB1.out.setCell (Nat.le_refl _) _).mono hsz))) (by unfold maxLen; omega) (by omega) (by simpa using HB1.out.size) ?_
           intro v2 w2 hv2 hg2 _
           have hlx : wr.heap.size < w1.heap.size := World.block_lt_of_cell? w1 _ d0
           have hb2 := (below_grown hg2).block wr.heap.size (by simpa using hlx)
           rw [HX1.out] at hb2
           obtain ⟨t0, t1, t2, t3, t4, t5⟩ := six_cells hb2
           have df5 := box_frozen hb2 5
           rw [Nat.zero_add] at hv2
           obtain ⟨a2, e2, rfl⟩ := own_shape hv2
           obtain ⟨r0, r1, r2, r3, r4, r5⟩ := six_cells (box_set hb2 (.slice a2 pn.kids.length e2)).2
           have HB2 : Hid (Below wr.heap.size wr (w2.setCell ⟨wr.heap.size, 5, none⟩ (.slice a2 pn.kids.length e2))) := ((HB1.out.setCell (Nat.le_refl _) _).trans ((below_grown hg2).mono (by simpa using HB1.out.size))).setCell (Nat.le_refl _) _
           clear hv2 hg2 hb2)
        | (at_builtin; refine wpList_app_own _ (by rfl) _ _ 26 (by rfl) w.heap.size 62 i0 _ 6 96 Tryz.underlying26 hi hz0 hz1 hz2 rfl (by decide) u3 k xs (by rfl) ((own_below HO.out HB2.out (Nat.le_refl _)).alloc _) _ 1 [.int .i64 pn.kind, .string pn.tag, .string pn.words, .slice a1 pn.attrs.length e1, .int .i64 pn.parent, .slice a2 pn.kids.length e2] (by rfl) ⟨rfl, by simp [Value.oneCell'], _, _, rfl, .inr ⟨_, rfl, news_new _ #[.int .i64 pn.kind, .string pn.tag, .string pn.words, .slice a1 pn.attrs.length e1, .int .i64 pn.parent, .slice a2 pn.kids.length e2] 62 _ (by simp)⟩⟩ (by unfold maxLen; omega) (by omega) (by have := HB2.out.size; simp at this ⊢; omega) ?_
           intro v3 w3 hv3 hg3 hat3
           have HV : Hid (w3.ownsRow w.heap.size 62 6 v3 (k + 1) (xs ++ [.int .i64 pn.kind, .string pn.tag, .string pn.words, .slice a1 pn.attrs.length e1, .int .i64 pn.parent, .slice a2 pn.kids.length e2])) := hv3
           have HB3 : Hid (Below w.heap.size w w3) := ((hbel.out.trans (HB2.out.mono hsz)).alloc (Nat.le_trans hsz HB2.out.size) _).grown hg3 (by have := HB2.out.size; simp at this ⊢; omega) (fun b hb => (HO.out.lt b hb).1)
           clear hv3 hg3 hat3))
      go_roundw
      case rel => go_light; exact ⟨k + 1, by omega, by go_num, ⟨_, HV.out⟩, HB3⟩
      case measure => go_light; simp [intOf]; omega
    · obtain ⟨xs, hxs⟩ := hown.out
      obtain ⟨a3, c3, rfl⟩ : ∃ a3 c3, u3 = .slice a3 k c3 := by
        rcases hxs.2 with ⟨rfl, rfl⟩ | ⟨g, cap, cur, rfl, _⟩
        · exact ⟨none, 0, rfl⟩
        · exact ⟨_, _, rfl⟩
      go_wp2
      go_ret
      exact ⟨_, _, _, rfl, hbel.out⟩
end Go.Proofs.YtlfepdecgfcifaaGreatDoor
