/- Trees as lists of nodes, and the way from a root down to a node: plain mathematics. -/
import Derived.Test.YtiikjflaonhfdaaDoorRow
namespace Go.Proofs.YtiikjflaonhfdaaDoor

/-- a node -/
structure Nd where
  kind : Int
  tag : ByteArray
  words : ByteArray
  attrs : List (ByteArray × ByteArray)
  parent : Int
  kids : List Int

/-- a node as it lies in memory: its two slices beside it -/
structure Pn where
  n : Nd
  av : Value
  kv : Value

/-- a twig: what it says, and where its two slices lie -/
structure Tw where
  kind : Int
  tag : ByteArray
  text : ByteArray
  attrs : List (ByteArray × ByteArray)
  kids : List Int
  aa : Option Addr
  ac : Nat
  ka : Option Addr
  kc : Nat

def Pn.cells (p : Pn) : List Value := [.int .i64 p.n.kind, .string p.n.tag, .string p.n.words, p.av, .int .i64 p.n.parent, p.kv]
def flat (ps : List Pn) : List Value := ps.flatMap Pn.cells
def attrCells (l : List (ByteArray × ByteArray)) : List Value := l.flatMap fun x => [.string x.1, .string x.2]
def intV (k : Int) : Value := .int .i64 k

theorem Pn.cells_length (p : Pn) : p.cells.length = 6 := rfl
theorem flat_nil : flat [] = [] := rfl
theorem flat_cons (p : Pn) (ps : List Pn) : flat (p :: ps) = p.cells ++ flat ps := rfl
theorem flat_append (ps qs : List Pn) : flat (ps ++ qs) = flat ps ++ flat qs := by simp [flat]
theorem flat_length (ps : List Pn) : (flat ps).length = ps.length * 6 := by
  induction ps with
  | nil => rfl
  | cons p ps ih => rw [flat_cons, List.length_append, ih, Pn.cells_length, List.length_cons]; omega
theorem flat_get (ps : List Pn) : ∀ (i f : Nat) (p : Pn), ps[i]? = some p → f < 6 → (flat ps)[i * 6 + f]? = p.cells[f]? := by
  induction ps with
  | nil => intro i f p h; simp at h
  | cons q ps ih =>
    intro i f p h hf
    cases i with
    | zero =>
      simp at h
      subst h
      rw [flat_cons, List.getElem?_append_left (by rw [Pn.cells_length]; omega)]
      simp
    | succ i =>
      rw [flat_cons, List.getElem?_append_right (by rw [Pn.cells_length]; omega), Pn.cells_length, show (i + 1) * 6 + f - 6 = i * 6 + f by omega]
      exact ih i f p (by simpa using h) hf
theorem flat_set (ps : List Pn) : ∀ (i f : Nat) (p p' : Pn) (c : Value), ps[i]? = some p → f < 6 → p'.cells = p.cells.set f c → flat (ps.set i p') = (flat ps).set (i * 6 + f) c := by
  induction ps with
  | nil => intro i f p p' c h; simp at h
  | cons q ps ih =>
    intro i f p p' c h hf he
    cases i with
    | zero =>
      simp at h
      subst h
      rw [List.set_cons_zero, flat_cons, flat_cons, he, List.set_append_left _ _ (by rw [Pn.cells_length]; omega)]
      simp
    | succ i =>
      rw [List.set_cons_succ, flat_cons, flat_cons, ih i f p p' c (by simpa using h) hf he, List.set_append_right _ _ (by rw [Pn.cells_length]; omega), Pn.cells_length, show (i + 1) * 6 + f - 6 = i * 6 + f by omega]
theorem attrCells_length (l : List (ByteArray × ByteArray)) : (attrCells l).length = l.length * 2 := by
  induction l with
  | nil => rfl
  | cons x l ih => simp only [attrCells, List.flatMap_cons, List.length_append, List.length_cons, List.length_nil] at ih ⊢; omega
theorem attrCells_get (l : List (ByteArray × ByteArray)) : ∀ (i : Nat) (x : ByteArray × ByteArray), l[i]? = some x → (attrCells l)[i * 2]? = some (.string x.1) ∧ (attrCells l)[i * 2 + 1]? = some (.string x.2) := by
  induction l with
  | nil => intro i x h; simp at h
  | cons y l ih =>
    intro i x h
    cases i with
    | zero => simp at h; subst h; exact ⟨rfl, rfl⟩
    | succ i =>
      have := ih i x (by simpa using h)
      have e : attrCells (y :: l) = .string y.1 :: .string y.2 :: attrCells l := rfl
      rw [e, show (i + 1) * 2 = i * 2 + 2 by omega, show i * 2 + 2 + 1 = (i * 2 + 1) + 2 by omega]
      exact this
theorem attrCells_append (l m : List (ByteArray × ByteArray)) : attrCells (l ++ m) = attrCells l ++ attrCells m := by simp [attrCells]
theorem attrCells_set (l : List (ByteArray × ByteArray)) : ∀ (i : Nat) (x : ByteArray × ByteArray) (v : ByteArray), l[i]? = some x → attrCells (l.set i (x.1, v)) = (attrCells l).set (i * 2 + 1) (.string v) := by
  induction l with
  | nil => intro i x v h; simp at h
  | cons y l ih =>
    intro i x v h
    cases i with
    | zero => simp at h; subst h; rfl
    | succ i =>
      have e : ∀ l', attrCells (y :: l') = .string y.1 :: .string y.2 :: attrCells l' := fun _ => rfl
      rw [List.set_cons_succ, e, e, ih i x v (by simpa using h), show (i + 1) * 2 + 1 = (i * 2 + 1) + 1 + 1 by omega, List.set_cons_succ, List.set_cons_succ]

/-- where a number stands first -/
def idx (l : List Int) (x : Int) : Nat := l.findIdx (· == x)
theorem idx_get {l : List Int} {x : Int} (h : x ∈ l) : l[idx l x]? = some x := by
  have hlt : l.findIdx (· == x) < l.length := List.findIdx_lt_length.2 ⟨x, h, by simp⟩
  have := List.findIdx_getElem (w := hlt)
  unfold idx
  rw [List.getElem?_eq_getElem hlt]
  simpa using this

/-- the steps from a root down to a node -/
inductive Way (ns : List Nd) : Nat → List Int → Nat → Prop where
  | root {i : Nat} {n : Nd} (h : ns[i]? = some n) (hp : n.parent = -1) : Way ns i [] i
  | down {i p r : Nat} {s : List Int} {n m : Nd} (h : ns[i]? = some n) (hp : n.parent = p) (hm : ns[p]? = some m) (hk : (i : Int) ∈ m.kids) (hw : Way ns p s r) : Way ns i (s ++ [(idx m.kids i : Int)]) r

/-- the node at the end of a way -/
def nodeAt (ns : List Nd) (r : Int) (s : List Int) : Int := s.foldl (fun c k => (ns[c.toNat]?.bind fun m => m.kids[k.toNat]?).getD 0) r

theorem Way.node {ns : List Nd} {i r : Nat} {s : List Int} (h : Way ns i s r) : nodeAt ns r s = i := by
  induction h with
  | root h hp => rfl
  | down h hp hm hk hw ih =>
    unfold nodeAt at ih ⊢
    rw [List.foldl_append, ih]
    simp [hm, idx_get hk]
theorem Way.inj {ns : List Nd} {i j r : Nat} {s : List Int} (h : Way ns i s r) (k : Way ns j s r) : i = j := by
  have := h.node.symm.trans k.node
  omega
theorem Way.lt {ns : List Nd} {i r : Nat} {s : List Int} (h : Way ns i s r) : i < ns.length ∧ r < ns.length := by
  induction h with
  | root h hp => exact ⟨(List.getElem?_eq_some_iff.1 h).1, (List.getElem?_eq_some_iff.1 h).1⟩
  | down h hp hm hk hw ih => exact ⟨(List.getElem?_eq_some_iff.1 h).1, ih.2⟩

/-- a way ahead of, or behind, another -/
def cmpL : List Int → List Int → Int
  | [], [] => 0
  | [], _ :: _ => -1
  | _ :: _, [] => 1
  | a :: s, b :: t => if a < b then -1 else if b < a then 1 else cmpL s t

theorem cmpL_anti : ∀ s t, cmpL s t = - cmpL t s
  | [], [] => rfl
  | [], _ :: _ => rfl
  | _ :: _, [] => rfl
  | a :: s, b :: t => by
    unfold cmpL
    have := cmpL_anti s t
    repeat' split
    all_goals omega
theorem cmpL_zero : ∀ s t, cmpL s t = 0 ↔ s = t
  | [], [] => by simp [cmpL]
  | [], _ :: _ => by simp [cmpL]
  | _ :: _, [] => by simp [cmpL]
  | a :: s, b :: t => by
    unfold cmpL
    have := cmpL_zero s t
    rw [List.cons.injEq]
    split
    · constructor
      · intro h; omega
      · intro h; omega
    · split
      · constructor
        · intro h; omega
        · intro h; omega
      · rw [this]
        constructor
        · intro h; exact ⟨by omega, h⟩
        · exact fun h => h.2
theorem cmpL_bd : ∀ s t, -1 ≤ cmpL s t ∧ cmpL s t ≤ 1
  | [], [] => by simp [cmpL]
  | [], _ :: _ => by simp [cmpL]
  | _ :: _, [] => by simp [cmpL]
  | a :: s, b :: t => by
    unfold cmpL
    have := cmpL_bd s t
    repeat' split
    all_goals omega
theorem cmpL_trans : ∀ s t u, cmpL s t < 0 → cmpL t u < 0 → cmpL s u < 0
  | [], [], _ => by simp [cmpL]
  | [], _ :: _, [] => by simp [cmpL]
  | [], _ :: _, _ :: _ => by simp [cmpL]
  | _ :: _, [], _ => by simp [cmpL]
  | _ :: _, _ :: _, [] => by simp [cmpL]
  | a :: s, b :: t, c :: u => by
    unfold cmpL
    have := cmpL_trans s t u
    intro h1 h2
    split at h1
    · split at h2
      · rw [if_pos (by omega)]; omega
      · split at h2
        · omega
        · rw [if_pos (by omega)]; omega
    · split at h1
      · omega
      · split at h2
        · rw [if_pos (by omega)]; omega
        · split at h2
          · omega
          · rw [if_neg (by omega), if_neg (by omega)]
            exact this h1 h2
end Go.Proofs.YtiikjflaonhfdaaDoor
