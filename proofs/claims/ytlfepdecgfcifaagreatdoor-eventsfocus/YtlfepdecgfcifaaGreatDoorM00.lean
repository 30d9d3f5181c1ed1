/- Slices that lie in rows of memory that bear a label: what an append makes of one, and that it leaves every row of another label as it was. -/
import Derived.Deep.AppendSrc
import Derived.Maps.AppendAt
import Derived.Below
import Derived.RegionTactic
namespace Go.Proofs.YtlfepdecgfcifaaGreatDoor
open Go.RowKit

/-- whose a block of memory is -/
inductive Lab where
  | other
  | tree
  | nodes
  | undos
  | attrs (i : Nat)
  | kids (i : Nat)
  deriving DecidableEq

/-- a slice whose elements lie in a row of that label -/
def Row (w : World) (M : Nat → Lab) (l : Lab) (e : TypeId) (size : Nat) (v : Value) (n : Nat) (xs : List Value) : Prop :=
  xs.length = n * size ∧ ∃ a cap, v = .slice a n cap ∧ n ≤ cap ∧ cap ≤ maxLen ∧
    ((cap = 0 ∧ (a = none ∨ ∃ g, a = some ⟨g, 0, none⟩)) ∨
      ∃ g cur, a = some ⟨g, 0, none⟩ ∧ M g = l ∧ w.heap[g]? = some (.cells cur e (0, 0)) ∧ cap * size ≤ cur.size ∧ cur.toList.take (n * size) = xs)

/-- a step that writes rows of one label alone -/
structure Step (w : World) (M : Nat → Lab) (w' : World) (M' : Nat → Lab) (l : Lab) : Prop where
  os : w'.os = w.os
  tape : w'.tape = w.tape
  output : w'.output = w.output
  size : w.heap.size ≤ w'.heap.size
  lab : ∀ b, b < w.heap.size → M' b = M b
  fresh : ∀ b, w'.heap.size ≤ b → M' b = .other
  far : ∀ b, b < w.heap.size → M b ≠ l → w'.heap[b]? = w.heap[b]?

theorem lt_of_heap {w : World} {b : Nat} {o : Obj} (h : w.heap[b]? = some o) : b < w.heap.size := (Array.getElem?_eq_some_iff.1 h).1

theorem Row.nil (w : World) (M : Nat → Lab) (l : Lab) (e : TypeId) (size : Nat) : Row w M l e size (.slice none 0 0) 0 [] :=
  ⟨by simp, none, 0, rfl, Nat.le_refl _, by unfold maxLen; omega, .inl ⟨rfl, .inl rfl⟩⟩

theorem Row.keep {w w' : World} {M M' : Nat → Lab} {l : Lab} {e : TypeId} {size n : Nat} {v : Value} {xs : List Value} (h : Row w M l e size v n xs)
    (hb : ∀ b, b < w.heap.size → M b = l → w'.heap[b]? = w.heap[b]?) (hm : ∀ b, b < w.heap.size → M' b = M b) : Row w' M' l e size v n xs := by
  obtain ⟨hl, a, cap, rfl, h1, h2, h3⟩ := h
  refine ⟨hl, a, cap, rfl, h1, h2, ?_⟩
  rcases h3 with h3 | ⟨g, cur, rfl, hM, hg, h4, h5⟩
  · exact .inl h3
  · have hlt := lt_of_heap hg
    exact .inr ⟨g, cur, rfl, (hm g hlt).trans hM, (hb g hlt hM).trans hg, h4, h5⟩

theorem Row.step {w w' : World} {M M' : Nat → Lab} {l k : Lab} {e : TypeId} {size n : Nat} {v : Value} {xs : List Value} (h : Row w M l e size v n xs) (s : Step w M w' M' k) (hne : l ≠ k) : Row w' M' l e size v n xs :=
  h.keep (fun b hb e => s.far b hb (by rw [e]; exact hne)) s.lab

theorem Row.cell {w : World} {M : Nat → Lab} {l : Lab} {e : TypeId} {size n : Nat} {v : Value} {xs : List Value} (h : Row w M l e size v n xs) {g o c m : Nat} (hv : v = .slice (some ⟨g, o, none⟩) m c) {j : Nat} {u : Value} (hu : xs[j]? = some u) :
    w.cell? ⟨g, j, none⟩ = some u ∧ w.frozen? ⟨g, j, none⟩ = false := by
  obtain ⟨hl, a, cap, rfl, h1, h2, h3⟩ := h
  rcases h3 with ⟨rfl, _⟩ | ⟨g', cur, rfl, hM, hg, h4, h5⟩
  · obtain rfl : n = 0 := by omega
    have : xs = [] := List.eq_nil_of_length_eq_zero (by simpa using hl)
    subst this
    simp at hu
  · cases hv
    have hj : j < xs.length := (List.getElem?_eq_some_iff.1 hu).1
    rw [← h5, List.getElem?_take] at hu
    rw [hl] at hj
    rw [if_pos hj] at hu
    refine ⟨?_, ?_⟩
    · rw [cell_of_row w _ j cur e (0, 0) hg]; simpa using hu
    · simp [World.frozen?, hg]

/-- what a row that holds something looks like -/
theorem Row.form {w : World} {M : Nat → Lab} {l : Lab} {e : TypeId} {size n : Nat} {v : Value} {xs : List Value} (h : Row w M l e size v n xs) (hn : 0 < n) :
    ∃ g cap, v = .slice (some ⟨g, 0, none⟩) n cap ∧ n ≤ cap ∧ cap ≤ maxLen ∧ M g = l ∧ g < w.heap.size := by
  obtain ⟨hl, a, cap, rfl, h1, h2, h3⟩ := h
  rcases h3 with ⟨rfl, _⟩ | ⟨g, cur, rfl, hM, hg, h4, h5⟩
  · omega
  · exact ⟨g, cap, rfl, h1, h2, hM, lt_of_heap hg⟩

theorem Row.shape {w : World} {M : Nat → Lab} {l : Lab} {e : TypeId} {size n : Nat} {v : Value} {xs : List Value} (h : Row w M l e size v n xs) :
    ∃ a cap, v = .slice a n cap ∧ n ≤ cap ∧ cap ≤ maxLen := by
  obtain ⟨hl, a, cap, rfl, h1, h2, h3⟩ := h
  exact ⟨a, cap, rfl, h1, h2⟩

theorem news_block {w : World} {B : Nat} {cs : Array Value} {t : TypeId} {fr : Nat × Nat} (hb : w.heap[B]? = some (.cells cs t fr)) : ∀ j u, cs.toList[j]? = some u → w.cell? ((⟨B, 0, none⟩ : Addr).add j) = some u := fun j u hu => by
  have hadd : (⟨B, 0, none⟩ : Addr).add j = ⟨B, j, none⟩ := by unfold Addr.add; split <;> simp_all
  rw [hadd, cell_of_row w B j cs t fr hb]
  simpa using hu
/-- what was just laid in a new block -/
theorem news_new (w : World) (cs : Array Value) (t : TypeId) (B : Nat) (hB : w.heap.size = B) : ∀ j u, cs.toList[j]? = some u → (w.alloc (.cells cs t)).cell? ((⟨B, 0, none⟩ : Addr).add j) = some u := by
  subst hB
  exact news_block (heap_alloc_new w _)

theorem news_two (w : World) (o : Obj) (cs : Array Value) (t : TypeId) : ∀ j u, cs.toList[j]? = some u → ((w.alloc o).alloc (.cells cs t)).drew.cell? ((⟨w.heap.size + 1, 0, none⟩ : Addr).add j) = some u := by
  intro j u h
  have := news_new (w.alloc o) cs t (w.heap.size + 1) (by simp) j u h
  exact this

section
variable {P : Program}

theorem firstCells0 (size : Nat) (base : Option Addr) (c : Nat) (w : World) : (Builtin.firstCells size 0 (.slice base 0 c)).run P w = .ok #[] w := by
  cases base <;> simp [Builtin.firstCells, loadCells, loadCellsFrom]

/-- what an append makes of a row -/
theorem app_row (w : World) (M : Nat → Lab) (l : Lab) (t ty e : TypeId) (i : TypeInfo) (z : Value) (size bytes : Nat) (ht : P.underlying t = some (.slice e)) (hi : P.info? e = some i) (hz : i.zero = some z)
    (hsize : i.size = size) (hby : i.bytes = bytes) (hzs : z.cells.size = size) (hsz : 0 < size)
    (v : Value) (n : Nat) (xs : List Value) (hrow : Row w M l e size v n xs)
    (ad : Addr) (m c : Nat) (news : List Value) (hl : news.length = m * size) (hnews : ∀ j u, news[j]? = some u → w.cell? (ad.add j) = some u) (h1 : ∀ u ∈ news, u.oneCell' = true)
    (hm : 0 < m) (h63 : n + m ≤ maxLen) (hbytes : (n + m) * bytes ≤ 140737488355328) (hfr : ∀ b, w.heap.size ≤ b → M b = .other) :
    ∃ g cap w' M', (Builtin.append_ #[t, t] ty #[v, .slice (some ad) m c]).run P w = .ok (.slice (some ⟨g, 0, none⟩) (n + m) cap) w' ∧
      Row w' M' l e size (.slice (some ⟨g, 0, none⟩) (n + m) cap) (n + m) (xs ++ news) ∧ Step w M w' M' l := by
  subst hsize
  subst hby
  have hlen : (xs ++ news).length = (n + m) * i.size := by rw [List.length_append, hrow.1, hl, Nat.add_mul]
  have h63' : ((n + m : Nat) : Int) ≤ 9223372036854775807 := by unfold maxLen at h63; omega
  have hx : Src P i.size t (.slice (some ad) m c) m news w := Src.ofSlice w ht ad m c news hl hnews h1
  -- a new row
  have grow : ∀ (base : Option Addr) (cap : Nat), cap < n + m → (Builtin.firstCells i.size n (.slice base n cap)).run P w.drew = .ok xs.toArray w.drew →
      ∃ g cap' w' M', (Builtin.append_ #[t, t] ty #[.slice base n cap, .slice (some ad) m c]).run P w = .ok (.slice (some ⟨g, 0, none⟩) (n + m) cap') w' ∧
        Row w' M' l e i.size (.slice (some ⟨g, 0, none⟩) (n + m) cap') (n + m) (xs ++ news) ∧ Step w M w' M' l := by
    intro base cap hc hold
    have hr := run_append_grow_src (P := P) w t t ty e i z ht hi hz base n cap xs hold _ m news hx hc h63' (growslice_fits hc hbytes)
    have hge := grownCap_ge w (n + m) cap e
    have hcm : grownCap w (n + m) cap e ≤ maxLen := grownCap_le_maxLen w (n + m) cap e h63
    refine ⟨_, _, _, fun b => if b = w.heap.size then l else M b, hr, ⟨hlen, some ⟨w.heap.size, 0, none⟩, _, rfl, hge, hcm, .inr ⟨w.heap.size, _, rfl, by simp, heap_alloc_new w.drew _, ?_, ?_⟩⟩, ⟨rfl, rfl, rfl, by simp, ?_, ?_, fun b hb _ => Below.heap_alloc w.drew _ b hb⟩⟩
    · have : ((xs ++ news).toArray ++ Builtin.zeroCells z.cells (grownCap w (n + m) cap e - (n + m))).size = grownCap w (n + m) cap e * i.size := by
        simp only [Array.size_append, List.size_toArray, size_zeroCells, hzs, hlen, ← Nat.add_mul]
        congr 1
        omega
      omega
    · rw [Array.toList_append, ← hlen]
      exact List.take_left
    · intro b hb
      have : b ≠ w.heap.size := by omega
      simp [this]
    · intro b hb
      have hb' : w.heap.size + 1 ≤ b := by simpa using hb
      have : b ≠ w.heap.size := by omega
      simp [this]
      exact hfr b (by omega)
  obtain ⟨_, a, cap, rfl, hnc, hcm, h3⟩ := hrow
  rcases h3 with ⟨rfl, ha⟩ | ⟨g, cur, rfl, hM, hg, hcs, htake⟩
  · obtain rfl : n = 0 := by omega
    have hxs : xs = [] := List.eq_nil_of_length_eq_zero (by simpa using ‹xs.length = 0 * i.size›)
    subst hxs
    exact grow a 0 (by omega) (firstCells0 _ _ _ _)
  · by_cases hroom : n + m ≤ cap
    · have hfit : n * i.size + news.length ≤ cur.size := by
        rw [hl, ← Nat.add_mul]; exact Nat.le_trans (Nat.mul_le_mul_right _ hroom) hcs
      have hr := run_append_room (P := P) w t ty e i ht hi g n cap cur hg ad m c news hl hnews h1 hroom hfit
      refine ⟨_, _, _, M, hr, ⟨hlen, some ⟨g, 0, none⟩, cap, rfl, hroom, hcm, .inr ⟨g, _, rfl, hM, setRow_heap w g cur _ e _ hg, ?_, ?_⟩⟩, ⟨rfl, rfl, rfl, by simp [World.setRow], fun _ _ => rfl, ?_, ?_⟩⟩
      · simp only [List.size_toArray, List.length_append, List.length_take, List.length_drop, Array.length_toList]
        omega
      · rw [htake, ← hlen]
        exact List.take_left
      · intro b hb
        exact hfr b (by simpa [World.setRow] using hb)
      · intro b hb hne
        exact setRow_other w g b _ (fun e => hne (by rw [e]; exact hM))
    · have holds : ∀ j u, xs[j]? = some u → w.cell? ((⟨g, 0, none⟩ : Addr).add j) = some u := by
        intro j u hu
        have hadd : (⟨g, 0, none⟩ : Addr).add j = ⟨g, j, none⟩ := by unfold Addr.add; split <;> simp_all
        rw [hadd]
        exact (Row.cell (w := w) (M := M) (l := l) (e := e) (size := i.size) (n := n) (xs := xs) ⟨by assumption, _, cap, rfl, hnc, hcm, .inr ⟨g, cur, rfl, hM, hg, hcs, htake⟩⟩ rfl hu).1
      exact grow (some ⟨g, 0, none⟩) cap (by omega) (run_firstCells_some w.drew i.size n ⟨g, 0, none⟩ n cap xs (by assumption) (by simpa using holds))

/-- at the operation -/
theorem wp_app_row (w : World) {o : Oper} {a : Act} {K : Act → World → Prop} {Q : Exit → Act → World → Prop} (s x : Operand) (t : TypeId)
    (ho : o.op = .call { callee := .builtin .append, args := #[s, x], argTypes := #[t, t] })
    (M : Nat → Lab) (l : Lab) (e : TypeId) (i : TypeInfo) (z : Value) (size bytes : Nat) (ht : P.underlying t = some (.slice e)) (hi : P.info? e = some i) (hz : i.zero = some z)
    (hsize : i.size = size) (hby : i.bytes = bytes) (hzs : z.cells.size = size) (hsz : 0 < size)
    (v : Value) (n : Nat) (xs : List Value) (hs : a.eval s = v) (hrow : Row w M l e size v n xs)
    (ad : Addr) (m c : Nat) (news : List Value) (hx : a.eval x = .slice (some ad) m c) (hl : news.length = m * size) (hnews : ∀ j u, news[j]? = some u → w.cell? (ad.add j) = some u) (h1 : ∀ u ∈ news, u.oneCell' = true)
    (hm : 0 < m) (h63 : n + m ≤ maxLen) (hbytes : (n + m) * bytes ≤ 140737488355328) (hfr : ∀ b, w.heap.size ≤ b → M b = .other)
    (h : ∀ g cap w' M', Row w' M' l e size (.slice (some ⟨g, 0, none⟩) (n + m) cap) (n + m) (xs ++ news) → Step w M w' M' l → K (a.put o.dst (.slice (some ⟨g, 0, none⟩) (n + m) cap)) w') : o.wp P a w K Q := by
  obtain ⟨g, cap, w', M', hr, h2, h3⟩ := app_row (P := P) w M l t o.type e i z size bytes ht hi hz hsize hby hzs hsz v n xs hrow ad m c news hl hnews h1 hm h63 hbytes hfr
  unfold Oper.wp execOp
  simp only [ho, resolve, invoke, builtin, Sem.run_bind, Sem.run_pure, Result.andThen_ok, List.map_toArray, List.map_cons, List.map_nil, hs, hx, hr]
  exact h g cap w' M' h2 h3

/-- for the walk -/
theorem wpList_app_row (w : World) {ops : Array Oper} {rest : List Oper} {o : Oper} {a : Act} {Q : Exit → Act → World → Prop} (hgd : o.guard = none) (s x : Operand) (t : TypeId)
    (ho : o.op = .call { callee := .builtin .append, args := #[s, x], argTypes := #[t, t] })
    (M : Nat → Lab) (l : Lab) (e : TypeId) (i : TypeInfo) (z : Value) (size bytes : Nat) (ht : P.underlying t = some (.slice e)) (hi : P.info? e = some i) (hz : i.zero = some z)
    (hsize : i.size = size) (hby : i.bytes = bytes) (hzs : z.cells.size = size) (hsz : 0 < size)
    (v : Value) (n : Nat) (xs : List Value) (hs : a.eval s = v) (hrow : Row w M l e size v n xs)
    (ad : Addr) (m c : Nat) (news : List Value) (hx : a.eval x = .slice (some ad) m c) (hl : news.length = m * size) (hnews : ∀ j u, news[j]? = some u → w.cell? (ad.add j) = some u) (h1 : ∀ u ∈ news, u.oneCell' = true)
    (hm : 0 < m) (h63 : n + m ≤ maxLen) (hbytes : (n + m) * bytes ≤ 140737488355328) (hfr : ∀ b, w.heap.size ≤ b → M b = .other)
    (h : ∀ g cap w' M', Row w' M' l e size (.slice (some ⟨g, 0, none⟩) (n + m) cap) (n + m) (xs ++ news) → Step w M w' M' l → wpList P ops Q rest (a.put o.dst (.slice (some ⟨g, 0, none⟩) (n + m) cap)) w') :
    wpList P ops Q (o :: rest) a w :=
  wpList_plain hgd fun _ hK => wp_app_row w s x t ho M l e i z size bytes ht hi hz hsize hby hzs hsz v n xs hs hrow ad m c news hx hl hnews h1 hm h63 hbytes hfr fun g cap w' M' h2 h3 => hK _ _ (h g cap w' M' h2 h3)

/-- at a step of a region that draws its order -/
theorem step_app_row (w : World) {ops : Array Oper} {o : Oper} {a : Act} {K : Act → World → Prop} {Q : Exit → Act → World → Prop} {E : Prop} (hgd : o.guard = none) (s x : Operand) (t : TypeId)
    (ho : o.op = .call { callee := .builtin .append, args := #[s, x], argTypes := #[t, t] })
    (M : Nat → Lab) (l : Lab) (e : TypeId) (i : TypeInfo) (z : Value) (size bytes : Nat) (ht : P.underlying t = some (.slice e)) (hi : P.info? e = some i) (hz : i.zero = some z)
    (hsize : i.size = size) (hby : i.bytes = bytes) (hzs : z.cells.size = size) (hsz : 0 < size)
    (v : Value) (n : Nat) (xs : List Value) (hs : a.eval s = v) (hrow : Row w M l e size v n xs)
    (ad : Addr) (m c : Nat) (news : List Value) (hx : a.eval x = .slice (some ad) m c) (hl : news.length = m * size) (hnews : ∀ j u, news[j]? = some u → w.cell? (ad.add j) = some u) (h1 : ∀ u ∈ news, u.oneCell' = true)
    (hm : 0 < m) (h63 : n + m ≤ maxLen) (hbytes : (n + m) * bytes ≤ 140737488355328) (hfr : ∀ b, w.heap.size ≤ b → M b = .other)
    (h : ∀ g cap w' M', Row w' M' l e size (.slice (some ⟨g, 0, none⟩) (n + m) cap) (n + m) (xs ++ news) → Step w M w' M' l → K (a.put o.dst (.slice (some ⟨g, 0, none⟩) (n + m) cap)) w') :
    if Region.wanted o (yielded ops a.tmps) = true then Oper.wp P o a w K Q else E := by
  have hw : Region.wanted o (yielded ops a.tmps) = true := by simp [Region.wanted, hgd]
  rw [if_pos hw]
  exact wp_app_row w s x t ho M l e i z size bytes ht hi hz hsize hby hzs hsz v n xs hs hrow ad m c news hx hl hnews h1 hm h63 hbytes hfr h
end
end Go.Proofs.YtlfepdecgfcifaaGreatDoor

/- Trees as lists of nodes, and the way from a root down to a node: plain mathematics. -/
namespace Go.Proofs.YtlfepdecgfcifaaGreatDoor

/-- a node -/
structure Nd where
  kind : Int
  tag : ByteArray
  words : ByteArray
  attrs : List (ByteArray × ByteArray)
  parent : Int
  kids : List Int

/-- a node as it lies in memory: its two slices beside it -/
structure Pn where
  n : Nd
  av : Value
  kv : Value

/-- a twig: what it says, and where its two slices lie -/
structure Tw where
  kind : Int
  tag : ByteArray
  text : ByteArray
  attrs : List (ByteArray × ByteArray)
  kids : List Int
  aa : Option Addr
  ac : Nat
  ka : Option Addr
  kc : Nat

def Pn.cells (p : Pn) : List Value := [.int .i64 p.n.kind, .string p.n.tag, .string p.n.words, p.av, .int .i64 p.n.parent, p.kv]
def flat (ps : List Pn) : List Value := ps.flatMap Pn.cells
def attrCells (l : List (ByteArray × ByteArray)) : List Value := l.flatMap fun x => [.string x.1, .string x.2]
def intV (k : Int) : Value := .int .i64 k

theorem Pn.cells_length (p : Pn) : p.cells.length = 6 := rfl
theorem flat_nil : flat [] = [] := rfl
theorem flat_cons (p : Pn) (ps : List Pn) : flat (p :: ps) = p.cells ++ flat ps := rfl
theorem flat_append (ps qs : List Pn) : flat (ps ++ qs) = flat ps ++ flat qs := by simp [flat]
theorem flat_length (ps : List Pn) : (flat ps).length = ps.length * 6 := by
  induction ps with
  | nil => rfl
  | cons p ps ih => rw [flat_cons, List.length_append, ih, Pn.cells_length, List.length_cons]; omega
theorem flat_get (ps : List Pn) : ∀ (i f : Nat) (p : Pn), ps[i]? = some p → f < 6 → (flat ps)[i * 6 + f]? = p.cells[f]? := by
  induction ps with
  | nil => intro i f p h; simp at h
  | cons q ps ih =>
    intro i f p h hf
    cases i with
    | zero =>
      simp at h
      subst h
      rw [flat_cons, List.getElem?_append_left (by rw [Pn.cells_length]; omega)]
      simp
    | succ i =>
      rw [flat_cons, List.getElem?_append_right (by rw [Pn.cells_length]; omega), Pn.cells_length, show (i + 1) * 6 + f - 6 = i * 6 + f by omega]
      exact ih i f p (by simpa using h) hf
theorem flat_set (ps : List Pn) : ∀ (i f : Nat) (p p' : Pn) (c : Value), ps[i]? = some p → f < 6 → p'.cells = p.cells.set f c → flat (ps.set i p') = (flat ps).set (i * 6 + f) c := by
  induction ps with
  | nil => intro i f p p' c h; simp at h
  | cons q ps ih =>
    intro i f p p' c h hf he
    cases i with
    | zero =>
      simp at h
      subst h
      rw [List.set_cons_zero, flat_cons, flat_cons, he, List.set_append_left _ _ (by rw [Pn.cells_length]; omega)]
      simp
    | succ i =>
      rw [List.set_cons_succ, flat_cons, flat_cons, ih i f p p' c (by simpa using h) hf he, List.set_append_right _ _ (by rw [Pn.cells_length]; omega), Pn.cells_length, show (i + 1) * 6 + f - 6 = i * 6 + f by omega]
theorem attrCells_length (l : List (ByteArray × ByteArray)) : (attrCells l).length = l.length * 2 := by
  induction l with
  | nil => rfl
  | cons x l ih => simp only [attrCells, List.flatMap_cons, List.length_append, List.length_cons, List.length_nil] at ih ⊢; omega
theorem attrCells_get (l : List (ByteArray × ByteArray)) : ∀ (i : Nat) (x : ByteArray × ByteArray), l[i]? = some x → (attrCells l)[i * 2]? = some (.string x.1) ∧ (attrCells l)[i * 2 + 1]? = some (.string x.2) := by
  induction l with
  | nil => intro i x h; simp at h
  | cons y l ih =>
    intro i x h
    cases i with
    | zero => simp at h; subst h; exact ⟨rfl, rfl⟩
    | succ i =>
      have := ih i x (by simpa using h)
      have e : attrCells (y :: l) = .string y.1 :: .string y.2 :: attrCells l := rfl
      rw [e, show (i + 1) * 2 = i * 2 + 2 by omega, show i * 2 + 2 + 1 = (i * 2 + 1) + 2 by omega]
      exact this
theorem attrCells_append (l m : List (ByteArray × ByteArray)) : attrCells (l ++ m) = attrCells l ++ attrCells m := by simp [attrCells]
theorem attrCells_set (l : List (ByteArray × ByteArray)) : ∀ (i : Nat) (x : ByteArray × ByteArray) (v : ByteArray), l[i]? = some x → attrCells (l.set i (x.1, v)) = (attrCells l).set (i * 2 + 1) (.string v) := by
  induction l with
  | nil => intro i x v h; simp at h
  | cons y l ih =>
    intro i x v h
    cases i with
    | zero => simp at h; subst h; rfl
    | succ i =>
      have e : ∀ l', attrCells (y :: l') = .string y.1 :: .string y.2 :: attrCells l' := fun _ => rfl
      rw [List.set_cons_succ, e, e, ih i x v (by simpa using h), show (i + 1) * 2 + 1 = (i * 2 + 1) + 1 + 1 by omega, List.set_cons_succ, List.set_cons_succ]

/-- where a number stands first -/
def idx (l : List Int) (x : Int) : Nat := l.findIdx (· == x)
theorem idx_get {l : List Int} {x : Int} (h : x ∈ l) : l[idx l x]? = some x := by
  have hlt : l.findIdx (· == x) < l.length := List.findIdx_lt_length.2 ⟨x, h, by simp⟩
  have := List.findIdx_getElem (w := hlt)
  unfold idx
  rw [List.getElem?_eq_getElem hlt]
  simpa using this

/-- the steps from a root down to a node -/
inductive Way (ns : List Nd) : Nat → List Int → Nat → Prop where
  | root {i : Nat} {n : Nd} (h : ns[i]? = some n) (hp : n.parent = -1) : Way ns i [] i
  | down {i p r : Nat} {s : List Int} {n m : Nd} (h : ns[i]? = some n) (hp : n.parent = p) (hm : ns[p]? = some m) (hk : (i : Int) ∈ m.kids) (hw : Way ns p s r) : Way ns i (s ++ [(idx m.kids i : Int)]) r

/-- the node at the end of a way -/
def nodeAt (ns : List Nd) (r : Int) (s : List Int) : Int := s.foldl (fun c k => (ns[c.toNat]?.bind fun m => m.kids[k.toNat]?).getD 0) r

theorem Way.node {ns : List Nd} {i r : Nat} {s : List Int} (h : Way ns i s r) : nodeAt ns r s = i := by
  induction h with
  | root h hp => rfl
  | down h hp hm hk hw ih =>
    unfold nodeAt at ih ⊢
    rw [List.foldl_append, ih]
    simp [hm, idx_get hk]
theorem Way.inj {ns : List Nd} {i j r : Nat} {s : List Int} (h : Way ns i s r) (k : Way ns j s r) : i = j := by
  have := h.node.symm.trans k.node
  omega
theorem Way.lt {ns : List Nd} {i r : Nat} {s : List Int} (h : Way ns i s r) : i < ns.length ∧ r < ns.length := by
  induction h with
  | root h hp => exact ⟨(List.getElem?_eq_some_iff.1 h).1, (List.getElem?_eq_some_iff.1 h).1⟩
  | down h hp hm hk hw ih => exact ⟨(List.getElem?_eq_some_iff.1 h).1, ih.2⟩

/-- a way ahead of, or behind, another -/
def cmpL : List Int → List Int → Int
  | [], [] => 0
  | [], _ :: _ => -1
  | _ :: _, [] => 1
  | a :: s, b :: t => if a < b then -1 else if b < a then 1 else cmpL s t

theorem cmpL_anti : ∀ s t, cmpL s t = - cmpL t s
  | [], [] => rfl
  | [], _ :: _ => rfl
  | _ :: _, [] => rfl
  | a :: s, b :: t => by
    unfold cmpL
    have := cmpL_anti s t
    repeat' split
    all_goals omega
theorem cmpL_zero : ∀ s t, cmpL s t = 0 ↔ s = t
  | [], [] => by simp [cmpL]
  | [], _ :: _ => by simp [cmpL]
  | _ :: _, [] => by simp [cmpL]
  | a :: s, b :: t => by
    unfold cmpL
    have := cmpL_zero s t
    rw [List.cons.injEq]
    split
    · constructor
      · intro h; omega
      · intro h; omega
    · split
      · constructor
        · intro h; omega
        · intro h; omega
      · rw [this]
        constructor
        · intro h; exact ⟨by omega, h⟩
        · exact fun h => h.2
theorem cmpL_bd : ∀ s t, -1 ≤ cmpL s t ∧ cmpL s t ≤ 1
  | [], [] => by simp [cmpL]
  | [], _ :: _ => by simp [cmpL]
  | _ :: _, [] => by simp [cmpL]
  | a :: s, b :: t => by
    unfold cmpL
    have := cmpL_bd s t
    repeat' split
    all_goals omega
theorem cmpL_trans : ∀ s t u, cmpL s t < 0 → cmpL t u < 0 → cmpL s u < 0
  | [], [], _ => by simp [cmpL]
  | [], _ :: _, [] => by simp [cmpL]
  | [], _ :: _, _ :: _ => by simp [cmpL]
  | _ :: _, [], _ => by simp [cmpL]
  | _ :: _, _ :: _, [] => by simp [cmpL]
  | a :: s, b :: t, c :: u => by
    unfold cmpL
    have := cmpL_trans s t u
    intro h1 h2
    split at h1
    · split at h2
      · rw [if_pos (by omega)]; omega
      · split at h2
        · omega
        · rw [if_pos (by omega)]; omega
    · split at h1
      · omega
      · split at h2
        · rw [if_pos (by omega)]; omega
        · split at h2
          · omega
          · rw [if_neg (by omega), if_neg (by omega)]
            exact this h1 h2
end Go.Proofs.YtlfepdecgfcifaaGreatDoor
