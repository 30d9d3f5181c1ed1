/- Trees as lists of nodes, and the way from a root down to a node: plain mathematics. -/
import Derived.Test.YtlfepdecgfcifaaDoorRow
namespace Go.Proofs.YtlfepdecgfcifaaDoor

/-- a node -/
structure Nd where
  kind : Int
  tag : ByteArray
  words : ByteArray
  attrs : List (ByteArray × ByteArray)
  parent : Int
  kids : List Int

/-- a node as it lies in memory: its two slices beside it -/
structure Pn where
  n : Nd
  av : Value
  kv : Value

/-- a twig: what it says, and where its two slices lie -/
structure Tw where
  kind : Int
  tag : ByteArray
  text : ByteArray
  attrs : List (ByteArray × ByteArray)
  kids : List Int
  aa : Option Addr
  ac : Nat
  ka : Option Addr
  kc : Nat

def Pn.cells (p : Pn) : List Value := [.int .i64 p.n.kind, .string p.n.tag, .string p.n.words, p.av, .int .i64 p.n.parent, p.kv]
def flat (ps : List Pn) : List Value := ps.flatMap Pn.cells
def attrCells (l : List (ByteArray × ByteArray)) : List Value := l.flatMap fun x => [.string x.1, .string x.2]
def intV (k : Int) : Value := .int .i64 k

theorem Pn.cells_length (p : Pn) : p.cells.length = 6 := rfl
theorem flat_nil : flat [] = [] := rfl
theorem flat_cons (p : Pn) (ps : List Pn) : flat (p :: ps) = p.cells ++ flat ps := rfl
theorem flat_append (ps qs : List Pn) : flat (ps ++ qs) = flat ps ++ flat qs := by simp [flat]
theorem flat_length (ps : List Pn) : (flat ps).length = ps.length * 6 := by
  induction ps with
  | nil => rfl
  | cons p ps ih => rw [flat_cons, List.length_append, ih, Pn.cells_length, List.length_cons]; omega
theorem flat_get (ps : List Pn) : ∀ (i f : Nat) (p : Pn), ps[i]? = some p → f < 6 → (flat ps)[i * 6 + f]? = p.cells[f]? := by
  induction ps with
  | nil => intro i f p h; simp at h
  | cons q ps ih =>
    intro i f p h hf
    cases i with
    | zero =>
      simp at h
      subst h
      rw [flat_cons, List.getElem?_append_left (by rw [Pn.cells_length]; omega)]
      simp
    | succ i =>
      rw [flat_cons, List.getElem?_append_right (by rw [Pn.cells_length]; omega), Pn.cells_length, show (i + 1) * 6 + f - 6 = i * 6 + f by omega]
      exact ih i f p (by simpa using h) hf
theorem flat_set (ps : List Pn) : ∀ (i f : Nat) (p p' : Pn) (c : Value), ps[i]? = some p → f < 6 → p'.cells = p.cells.set f c → flat (ps.set i p') = (flat ps).set (i * 6 + f) c := by
  induction ps with
  | nil => intro i f p p' c h; simp at h
  | cons q ps ih =>
    intro i f p p' c h hf he
    cases i with
    | zero =>
      simp at h
      subst h
      rw [List.set_cons_zero, flat_cons, flat_cons, he, List.set_append_left _ _ (by rw [Pn.cells_length]; omega)]
      simp
    | succ i =>
      rw [List.set_cons_succ, flat_cons, flat_cons, ih i f p p' c (by simpa using h) hf he, List.set_append_right _ _ (by rw [Pn.cells_length]; omega), Pn.cells_length, show (i + 1) * 6 + f - 6 = i * 6 + f by omega]
theorem attrCells_length (l : List (ByteArray × ByteArray)) : (attrCells l).length = l.length * 2 := by
  induction l with
  | nil => rfl
  | cons x l ih => simp only [attrCells, List.flatMap_cons, List.length_append, List.length_cons, List.length_nil] at ih ⊢; omega
theorem attrCells_get (l : List (ByteArray × ByteArray)) : ∀ (i : Nat) (x : ByteArray × ByteArray), l[i]? = some x → (attrCells l)[i * 2]? = some (.string x.1) ∧ (attrCells l)[i * 2 + 1]? = some (.string x.2) := by
  induction l with
  | nil => intro i x h; simp at h
  | cons y l ih =>
    intro i x h
    cases i with
    | zero => simp at h; subst h; exact ⟨rfl, rfl⟩
    | succ i =>
      have := ih i x (by simpa using h)
      have e : attrCells (y :: l) = .string y.1 :: .string y.2 :: attrCells l := rfl
      rw [e, show (i + 1) * 2 = i * 2 + 2 by omega, show i * 2 + 2 + 1 = (i * 2 + 1) + 2 by omega]
      exact this
theorem attrCells_append (l m : List (ByteArray × ByteArray)) : attrCells (l ++ m) = attrCells l ++ attrCells m := by simp [attrCells]
theorem attrCells_set (l : List (ByteArray × ByteArray)) : ∀ (i : Nat) (x : ByteArray × ByteArray) (v : ByteArray), l[i]? = some x → attrCells (l.set i (x.1, v)) = (attrCells l).set (i * 2 + 1) (.string v) := by
  induction l with
  | nil => intro i x v h; simp at h
  | cons y l ih =>
    intro i x v h
    cases i with
    | zero => simp at h; subst h; rfl
    | succ i =>
      have e : ∀ l', attrCells (y :: l') = .string y.1 :: .string y.2 :: attrCells l' := fun _ => rfl
      rw [List.set_cons_succ, e, e, ih i x v (by simpa using h), show (i + 1) * 2 + 1 = (i * 2 + 1) + 1 + 1 by omega, List.set_cons_succ, List.set_cons_succ]

/-- where a number stands first -/
def idx (l : List Int) (x : Int) : Nat := l.findIdx (· == x)
theorem idx_get {l : List Int} {x : Int} (h : x ∈ l) : l[idx l x]? = some x := by
  have hlt : l.findIdx (· == x) < l.length := List.findIdx_lt_length.2 ⟨x, h, by simp⟩
  have := List.findIdx_getElem (w := hlt)
  unfold idx
  rw [List.getElem?_eq_getElem hlt]
  simpa using this

/-- the steps from a root down to a node -/
inductive Way (ns : List Nd) : Nat → List Int → Nat → Prop where
  | root {i : Nat} {n : Nd} (h : ns[i]? = some n) (hp : n.parent = -1) : Way ns i [] i
  | down {i p r : Nat} {s : List Int} {n m : Nd} (h : ns[i]? = some n) (hp : n.parent = p) (hm : ns[p]? = some m) (hk : (i : Int) ∈ m.kids) (hw : Way ns p s r) : Way ns i (s ++ [(idx m.kids i : Int)]) r

/-- the node at the end of a way -/
def nodeAt (ns : List Nd) (r : Int) (s : List Int) : Int := s.foldl (fun c k => (ns[c.toNat]?.bind fun m => m.kids[k.toNat]?).getD 0) r

theorem Way.node {ns : List Nd} {i r : Nat} {s : List Int} (h : Way ns i s r) : nodeAt ns r s = i := by
  induction h with
  | root h hp => rfl
  | down h hp hm hk hw ih =>
    unfold nodeAt at ih ⊢
    rw [List.foldl_append, ih]
    simp [hm, idx_get hk]
theorem Way.inj {ns : List Nd} {i j r : Nat} {s : List Int} (h : Way ns i s r) (k : Way ns j s r) : i = j := by
  have := h.node.symm.trans k.node
  omega
theorem Way.lt {ns : List Nd} {i r : Nat} {s : List Int} (h : Way ns i s r) : i < ns.length ∧ r < ns.length := by
  induction h with
  | root h hp => exact ⟨(List.getElem?_eq_some_iff.1 h).1, (List.getElem?_eq_some_iff.1 h).1⟩
  | down h hp hm hk hw ih => exact ⟨(List.getElem?_eq_some_iff.1 h).1, ih.2⟩

/-- a way ahead of, or behind, another -/
def cmpL : List Int → List Int → Int
  | [], [] => 0
  | [], _ :: _ => -1
  | _ :: _, [] => 1
  | a :: s, b :: t => if a < b then -1 else if b < a then 1 else cmpL s t

theorem cmpL_anti : ∀ s t, cmpL s t = - cmpL t s
  | [], [] => rfl
  | [], _ :: _ => rfl
  | _ :: _, [] => rfl
  | a :: s, b :: t => by
    unfold cmpL
    have := cmpL_anti s t
    repeat' split
    all_goals omega
theorem cmpL_zero : ∀ s t, cmpL s t = 0 ↔ s = t
  | [], [] => by simp [cmpL]
  | [], _ :: _ => by simp [cmpL]
  | _ :: _, [] => by simp [cmpL]
  | a :: s, b :: t => by
    unfold cmpL
    have := cmpL_zero s t
    rw [List.cons.injEq]
    split
    · constructor
      · intro h; omega
      · intro h; omega
    · split
      · constructor
        · intro h; omega
        · intro h; omega
      · rw [this]
        constructor
        · intro h; exact ⟨by omega, h⟩
        · exact fun h => h.2
theorem cmpL_bd : ∀ s t, -1 ≤ cmpL s t ∧ cmpL s t ≤ 1
  | [], [] => by simp [cmpL]
  | [], _ :: _ => by simp [cmpL]
  | _ :: _, [] => by simp [cmpL]
  | a :: s, b :: t => by
    unfold cmpL
    have := cmpL_bd s t
    repeat' split
    all_goals omega
theorem cmpL_trans : ∀ s t u, cmpL s t < 0 → cmpL t u < 0 → cmpL s u < 0
  | [], [], _ => by simp [cmpL]
  | [], _ :: _, [] => by simp [cmpL]
  | [], _ :: _, _ :: _ => by simp [cmpL]
  | _ :: _, [], _ => by simp [cmpL]
  | _ :: _, _ :: _, [] => by simp [cmpL]
  | a :: s, b :: t, c :: u => by
    unfold cmpL
    have := cmpL_trans s t u
    intro h1 h2
    split at h1
    · split at h2
      · rw [if_pos (by omega)]; omega
      · split at h2
        · omega
        · rw [if_pos (by omega)]; omega
    · split at h1
      · omega
      · split at h2
        · rw [if_pos (by omega)]; omega
        · split at h2
          · omega
          · rw [if_neg (by omega), if_neg (by omega)]
            exact this h1 h2
end Go.Proofs.YtlfepdecgfcifaaDoor

/- How a tree lies in memory, and what a store or an append makes of it. -/
namespace Go.Proofs.YtlfepdecgfcifaaDoor
open Go.RowKit

/-- nothing that is another's has turned -/
structure Moved (w : World) (M : Nat → Lab) (w' : World) (M' : Nat → Lab) : Prop where
  os : w'.os = w.os
  tape : w'.tape = w.tape
  output : w'.output = w.output
  size : w.heap.size ≤ w'.heap.size
  lab : ∀ b, b < w.heap.size → M' b = M b
  far : ∀ b, b < w.heap.size → M b = .other → w'.heap[b]? = w.heap[b]?

theorem Moved.refl (w : World) (M : Nat → Lab) : Moved w M w M := ⟨rfl, rfl, rfl, Nat.le_refl _, fun _ _ => rfl, fun _ _ _ => rfl⟩
theorem Moved.trans {a b c : World} {M N L : Nat → Lab} (h : Moved a M b N) (k : Moved b N c L) : Moved a M c L :=
  ⟨k.os.trans h.os, k.tape.trans h.tape, k.output.trans h.output, Nat.le_trans h.size k.size, fun x hx => (k.lab x (Nat.lt_of_lt_of_le hx h.size)).trans (h.lab x hx),
    fun x hx ho => (k.far x (Nat.lt_of_lt_of_le hx h.size) ((h.lab x hx).trans ho)).trans (h.far x hx ho)⟩
theorem Step.moved {w w' : World} {M M' : Nat → Lab} {l : Lab} (h : Step w M w' M' l) (hl : l ≠ .other) : Moved w M w' M' :=
  ⟨h.os, h.tape, h.output, h.size, h.lab, fun b hb ho => h.far b hb (by rw [ho]; exact Ne.symm hl)⟩
theorem Moved.alloc {w w' : World} {M M' : Nat → Lab} (h : Moved w M w' M') (o : Obj) : Moved w M (w'.alloc o) M' :=
  ⟨h.os, h.tape, h.output, by simp; have := h.size; omega, h.lab, fun b hb ho => (Below.heap_alloc w' o b (Nat.lt_of_lt_of_le hb h.size)).trans (h.far b hb ho)⟩
theorem Moved.drew {w w' : World} {M M' : Nat → Lab} (h : Moved w M w' M') : Moved w M w'.drew M' := ⟨h.os, h.tape, h.output, h.size, h.lab, h.far⟩
theorem Moved.below {w w' w'' : World} {M M' : Nat → Lab} (h : Moved w M w' M') (hb : Below w'.heap.size w' w'') : Moved w M w'' M' :=
  ⟨hb.os.trans h.os, hb.tape.trans h.tape, hb.output.trans h.output, Nat.le_trans h.size hb.size, h.lab, fun b hb' ho => (hb.block b (Nat.lt_of_lt_of_le hb' h.size)).trans (h.far b hb' ho)⟩

/-- a tree lies at block tb: its nodes, what undoes its changes -/
structure Lies (w : World) (M : Nat → Lab) (tb : Nat) (nv uv : Value) (ps : List Pn) (us : List Value) : Prop where
  fresh : ∀ b, w.heap.size ≤ b → M b = .other
  tree : M tb = .tree
  head : w.heap[tb]? = some (.cells #[nv, uv] 105 (0, 0))
  nodes : Row w M .nodes 101 6 nv ps.length (flat ps)
  undos : Row w M .undos 1 1 uv us.length us
  node : ∀ i p, ps[i]? = some p → Row w M (.attrs i) 72 2 p.av p.n.attrs.length (attrCells p.n.attrs) ∧ Row w M (.kids i) 3 1 p.kv p.n.kids.length (p.n.kids.map intV)

/-- memory that is another's has turned -/
theorem Lies.far {w w' : World} {M : Nat → Lab} {tb : Nat} {nv uv : Value} {ps : List Pn} {us : List Value} (h : Lies w M tb nv uv ps us) (hs : w.heap.size ≤ w'.heap.size) (hb : ∀ b, b < w.heap.size → M b ≠ .other → w'.heap[b]? = w.heap[b]?) : Lies w' M tb nv uv ps us where
  fresh b hb' := h.fresh b (by omega)
  tree := h.tree
  head := (hb tb (lt_of_heap h.head) (by rw [h.tree]; intro e; cases e)).trans h.head
  nodes := h.nodes.keep (fun b hb' e => hb b hb' (by rw [e]; intro e; cases e)) (fun _ _ => rfl)
  undos := h.undos.keep (fun b hb' e => hb b hb' (by rw [e]; intro e; cases e)) (fun _ _ => rfl)
  node i p hp := ⟨(h.node i p hp).1.keep (fun b hb' e => hb b hb' (by rw [e]; intro e; cases e)) (fun _ _ => rfl), (h.node i p hp).2.keep (fun b hb' e => hb b hb' (by rw [e]; intro e; cases e)) (fun _ _ => rfl)⟩
theorem Lies.alloc {w : World} {M : Nat → Lab} {tb : Nat} {nv uv : Value} {ps : List Pn} {us : List Value} (h : Lies w M tb nv uv ps us) (o : Obj) : Lies (w.alloc o) M tb nv uv ps us :=
  h.far (by simp) (fun b hb _ => Below.heap_alloc w o b hb)
theorem Lies.drew {w : World} {M : Nat → Lab} {tb : Nat} {nv uv : Value} {ps : List Pn} {us : List Value} (h : Lies w M tb nv uv ps us) : Lies w.drew M tb nv uv ps us :=
  h.far (Nat.le_refl _) (fun _ _ _ => rfl)
theorem Lies.below {w w' : World} {M : Nat → Lab} {tb : Nat} {nv uv : Value} {ps : List Pn} {us : List Value} (h : Lies w M tb nv uv ps us) (hb : Below w.heap.size w w') : Lies w' M tb nv uv ps us :=
  h.far hb.size (fun b hb' _ => hb.block b hb')

theorem Lies.cell0 {w : World} {M : Nat → Lab} {tb : Nat} {nv uv : Value} {ps : List Pn} {us : List Value} (h : Lies w M tb nv uv ps us) : w.cell? ⟨tb, 0, none⟩ = some nv := by
  rw [cell_of_row w tb 0 _ _ _ h.head]; rfl
theorem Lies.cell1 {w : World} {M : Nat → Lab} {tb : Nat} {nv uv : Value} {ps : List Pn} {us : List Value} (h : Lies w M tb nv uv ps us) : w.cell? ⟨tb, 1, none⟩ = some uv := by
  rw [cell_of_row w tb 1 _ _ _ h.head]; rfl
theorem Lies.frozen {w : World} {M : Nat → Lab} {tb : Nat} {nv uv : Value} {ps : List Pn} {us : List Value} (h : Lies w M tb nv uv ps us) (o : Nat) : w.frozen? ⟨tb, o, none⟩ = false := by
  simp [World.frozen?, h.head]

theorem setCell_heap (w : World) (g j : Nat) (c : Value) (cur : Array Value) (e : TypeId) (fr : Nat × Nat) (h : w.heap[g]? = some (.cells cur e fr)) : (w.setCell ⟨g, j, none⟩ c).heap[g]? = some (.cells (cur.setIfInBounds j c) e fr) := by
  simp [World.setCell, Array.getElem?_modify, h]

theorem step_setCell {w : World} {M : Nat → Lab} {l : Lab} {g j : Nat} (c : Value) (hM : M g = l) (hf : ∀ b, w.heap.size ≤ b → M b = .other) : Step w M (w.setCell ⟨g, j, none⟩ c) M l :=
  ⟨rfl, rfl, rfl, by simp [World.setCell], fun _ _ => rfl, fun b hb => hf b (by simpa [World.setCell] using hb), fun b _ hne => Below.heap_setCell w _ c b (fun e => hne (by rw [e]; exact hM))⟩

/-- a store into a row -/
theorem Row.set {w : World} {M : Nat → Lab} {l : Lab} {e : TypeId} {size n : Nat} {v : Value} {xs : List Value} (h : Row w M l e size v n xs) {g o c0 m : Nat} (hv : v = .slice (some ⟨g, o, none⟩) m c0) (j : Nat) (c : Value) (hj : j < xs.length) :
    Row (w.setCell ⟨g, j, none⟩ c) M l e size v n (xs.set j c) := by
  obtain ⟨hl, a, cap, rfl, h1, h2, h3⟩ := h
  rcases h3 with ⟨rfl, _⟩ | ⟨g', cur, rfl, hM, hg, h4, h5⟩
  · obtain rfl : n = 0 := by omega
    rw [hl] at hj
    omega
  · cases hv
    refine ⟨by rw [List.length_set]; exact hl, _, _, rfl, h1, h2, .inr ⟨_, _, rfl, hM, setCell_heap w _ j c cur e (0, 0) hg, by rw [Array.size_setIfInBounds]; exact h4, ?_⟩⟩
    rw [Array.toList_setIfInBounds, List.take_set, h5]

/-- a store into a node's cell -/
theorem Lies.setNode {w : World} {M : Nat → Lab} {tb : Nat} {nv uv : Value} {ps : List Pn} {us : List Value} (h : Lies w M tb nv uv ps us) {nb m c0 : Nat} (hv : nv = .slice (some ⟨nb, 0, none⟩) m c0)
    {i f : Nat} {p p' : Pn} {c : Value} (hp : ps[i]? = some p) (hf : f < 6) (he : p'.cells = p.cells.set f c)
    (ha : Row w M (.attrs i) 72 2 p'.av p'.n.attrs.length (attrCells p'.n.attrs)) (hk : Row w M (.kids i) 3 1 p'.kv p'.n.kids.length (p'.n.kids.map intV)) :
    Lies (w.setCell ⟨nb, i * 6 + f, none⟩ c) M tb nv uv (ps.set i p') us ∧ Step w M (w.setCell ⟨nb, i * 6 + f, none⟩ c) M .nodes := by
  have hi : i < ps.length := (List.getElem?_eq_some_iff.1 hp).1
  obtain ⟨g, cap, hg, _, _, hM, _⟩ := h.nodes.form (by omega)
  have e1 : g = nb := by rw [hv] at hg; cases hg; rfl
  subst e1
  have st : Step w M (w.setCell ⟨g, i * 6 + f, none⟩ c) M .nodes := step_setCell c hM h.fresh
  refine ⟨⟨st.fresh, h.tree, (st.far tb (lt_of_heap h.head) (by rw [h.tree]; intro e; cases e)).trans h.head, ?_, h.undos.step st (by intro e; cases e), ?_⟩, st⟩
  · rw [List.length_set, flat_set ps i f p p' c hp hf he]
    exact h.nodes.set hv _ c (by rw [flat_length]; omega)
  · intro j q hq
    by_cases hij : i = j
    · subst hij
      rw [List.getElem?_set_self hi] at hq
      cases hq
      exact ⟨ha.step st (by intro e; cases e), hk.step st (by intro e; cases e)⟩
    · rw [List.getElem?_set_ne hij] at hq
      exact ⟨(h.node j q hq).1.step st (by intro e; cases e), (h.node j q hq).2.step st (by intro e; cases e)⟩

/-- a step on another row of the tree's, and the tree but for it -/
theorem Lies.headNodes {w w1 : World} {M M1 : Nat → Lab} {tb : Nat} {nv uv : Value} {ps : List Pn} {us : List Value} (h : Lies w M tb nv uv ps us) (st : Step w M w1 M1 .nodes) {nv' : Value} {qs : List Pn}
    (hn : Row w1 M1 .nodes 101 6 nv' qs.length (flat qs)) (hq : ∀ i p, qs[i]? = some p → Row w M (.attrs i) 72 2 p.av p.n.attrs.length (attrCells p.n.attrs) ∧ Row w M (.kids i) 3 1 p.kv p.n.kids.length (p.n.kids.map intV)) :
    Lies (w1.setCell ⟨tb, 0, none⟩ nv') M1 tb nv' uv qs us ∧ Moved w M (w1.setCell ⟨tb, 0, none⟩ nv') M1 := by
  have hlt := lt_of_heap h.head
  have hM : M1 tb = .tree := (st.lab tb hlt).trans h.tree
  have st2 : Step w1 M1 (w1.setCell ⟨tb, 0, none⟩ nv') M1 .tree := step_setCell nv' hM st.fresh
  have hh : w1.heap[tb]? = some (.cells #[nv, uv] 105 (0, 0)) := (st.far tb hlt (by rw [h.tree]; intro e; cases e)).trans h.head
  refine ⟨⟨st2.fresh, hM, ?_, hn.step st2 (by intro e; cases e), (h.undos.step st (by intro e; cases e)).step st2 (by intro e; cases e), ?_⟩, (st.moved (by intro e; cases e)).trans (st2.moved (by intro e; cases e))⟩
  · rw [setCell_heap w1 tb 0 nv' _ _ _ hh]; rfl
  · intro i p hp
    exact ⟨((hq i p hp).1.step st (by intro e; cases e)).step st2 (by intro e; cases e), ((hq i p hp).2.step st (by intro e; cases e)).step st2 (by intro e; cases e)⟩
theorem Lies.headUndos {w w1 : World} {M M1 : Nat → Lab} {tb : Nat} {nv uv : Value} {ps : List Pn} {us : List Value} (h : Lies w M tb nv uv ps us) (st : Step w M w1 M1 .undos) {uv' : Value} {us' : List Value}
    (hn : Row w1 M1 .undos 1 1 uv' us'.length us') :
    Lies (w1.setCell ⟨tb, 1, none⟩ uv') M1 tb nv uv' ps us' ∧ Moved w M (w1.setCell ⟨tb, 1, none⟩ uv') M1 := by
  have hlt := lt_of_heap h.head
  have hM : M1 tb = .tree := (st.lab tb hlt).trans h.tree
  have st2 : Step w1 M1 (w1.setCell ⟨tb, 1, none⟩ uv') M1 .tree := step_setCell uv' hM st.fresh
  have hh : w1.heap[tb]? = some (.cells #[nv, uv] 105 (0, 0)) := (st.far tb hlt (by rw [h.tree]; intro e; cases e)).trans h.head
  refine ⟨⟨st2.fresh, hM, ?_, (h.nodes.step st (by intro e; cases e)).step st2 (by intro e; cases e), hn.step st2 (by intro e; cases e), ?_⟩, (st.moved (by intro e; cases e)).trans (st2.moved (by intro e; cases e))⟩
  · rw [setCell_heap w1 tb 1 uv' _ _ _ hh]; rfl
  · intro i p hp
    exact ⟨((h.node i p hp).1.step st (by intro e; cases e)).step st2 (by intro e; cases e), ((h.node i p hp).2.step st (by intro e; cases e)).step st2 (by intro e; cases e)⟩

/-- a node's cells, as a walk reads them -/
theorem Lies.cellN {w : World} {M : Nat → Lab} {tb : Nat} {nv uv : Value} {ps : List Pn} {us : List Value} (h : Lies w M tb nv uv ps us) {nb m c0 : Nat} (hv : nv = .slice (some ⟨nb, 0, none⟩) m c0) {i f : Nat} {p : Pn} {c : Value} (hp : ps[i]? = some p) (hf : f < 6) (hc : p.cells[f]? = some c) :
    w.cell? ⟨nb, i * 6 + f, none⟩ = some c ∧ w.frozen? ⟨nb, i * 6 + f, none⟩ = false :=
  h.nodes.cell hv (by rw [flat_get ps i f p hp hf]; exact hc)
end Go.Proofs.YtlfepdecgfcifaaDoor
