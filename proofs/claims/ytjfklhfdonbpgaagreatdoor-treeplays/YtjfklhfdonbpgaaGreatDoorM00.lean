/- Slices that lie in rows of memory that bear a label: what an append makes of one, and that it leaves every row of another label as it was. -/
import Derived.Deep.AppendSrc
import Derived.Maps.AppendAt
import Derived.Below
import Derived.RegionTactic
import Derived.Test.YtjfklhfdonbpgaaGreatDoorChecked
import Derived.WalkKit
import Derived.WalkSmall
import Derived.Deep.Light
import Derived.Deep.QuietTactic
import Derived.BigQuiet
import Derived.Deep.RegionLaw
import Derived.Deep.LoopGhost
import Derived.Lib.SliceRun
import Derived.BigRegion
import Derived.Laws.EntriesVeiled
namespace Go.Proofs.YtjfklhfdonbpgaaGreatDoor
open Go.RowKit

/-- whose a block of memory is -/
inductive Lab where
  | other
  | tree
  | nodes
  | undos
  | attrs (i : Nat)
  | kids (i : Nat)
  deriving DecidableEq

/-- a slice whose elements lie in a row of that label -/
def Row (w : World) (M : Nat → Lab) (l : Lab) (e : TypeId) (size : Nat) (v : Value) (n : Nat) (xs : List Value) : Prop :=
  xs.length = n * size ∧ ∃ a cap, v = .slice a n cap ∧ n ≤ cap ∧ cap ≤ maxLen ∧
    ((cap = 0 ∧ (a = none ∨ ∃ g, a = some ⟨g, 0, none⟩)) ∨
      ∃ g cur, a = some ⟨g, 0, none⟩ ∧ M g = l ∧ w.heap[g]? = some (.cells cur e (0, 0)) ∧ cap * size ≤ cur.size ∧ cur.toList.take (n * size) = xs)

/-- a step that writes rows of one label alone -/
structure Step (w : World) (M : Nat → Lab) (w' : World) (M' : Nat → Lab) (l : Lab) : Prop where
  os : w'.os = w.os
  tape : w'.tape = w.tape
  output : w'.output = w.output
  size : w.heap.size ≤ w'.heap.size
  lab : ∀ b, b < w.heap.size → M' b = M b
  fresh : ∀ b, w'.heap.size ≤ b → M' b = .other
  far : ∀ b, b < w.heap.size → M b ≠ l → w'.heap[b]? = w.heap[b]?

theorem lt_of_heap {w : World} {b : Nat} {o : Obj} (h : w.heap[b]? = some o) : b < w.heap.size := (Array.getElem?_eq_some_iff.1 h).1

theorem Row.nil (w : World) (M : Nat → Lab) (l : Lab) (e : TypeId) (size : Nat) : Row w M l e size (.slice none 0 0) 0 [] :=
  ⟨by simp, none, 0, rfl, Nat.le_refl _, by unfold maxLen; omega, .inl ⟨rfl, .inl rfl⟩⟩

theorem Row.keep {w w' : World} {M M' : Nat → Lab} {l : Lab} {e : TypeId} {size n : Nat} {v : Value} {xs : List Value} (h : Row w M l e size v n xs)
    (hb : ∀ b, b < w.heap.size → M b = l → w'.heap[b]? = w.heap[b]?) (hm : ∀ b, b < w.heap.size → M' b = M b) : Row w' M' l e size v n xs := by
  obtain ⟨hl, a, cap, rfl, h1, h2, h3⟩ := h
  refine ⟨hl, a, cap, rfl, h1, h2, ?_⟩
  rcases h3 with h3 | ⟨g, cur, rfl, hM, hg, h4, h5⟩
  · exact .inl h3
  · have hlt := lt_of_heap hg
    exact .inr ⟨g, cur, rfl, (hm g hlt).trans hM, (hb g hlt hM).trans hg, h4, h5⟩

theorem Row.step {w w' : World} {M M' : Nat → Lab} {l k : Lab} {e : TypeId} {size n : Nat} {v : Value} {xs : List Value} (h : Row w M l e size v n xs) (s : Step w M w' M' k) (hne : l ≠ k) : Row w' M' l e size v n xs :=
  h.keep (fun b hb e => s.far b hb (by rw [e]; exact hne)) s.lab

theorem Row.cell {w : World} {M : Nat → Lab} {l : Lab} {e : TypeId} {size n : Nat} {v : Value} {xs : List Value} (h : Row w M l e size v n xs) {g o c m : Nat} (hv : v = .slice (some ⟨g, o, none⟩) m c) {j : Nat} {u : Value} (hu : xs[j]? = some u) :
    w.cell? ⟨g, j, none⟩ = some u ∧ w.frozen? ⟨g, j, none⟩ = false := by
  obtain ⟨hl, a, cap, rfl, h1, h2, h3⟩ := h
  rcases h3 with ⟨rfl, _⟩ | ⟨g', cur, rfl, hM, hg, h4, h5⟩
  · obtain rfl : n = 0 := by omega
    have : xs = [] := List.eq_nil_of_length_eq_zero (by simpa using hl)
    subst this
    simp at hu
  · cases hv
    have hj : j < xs.length := (List.getElem?_eq_some_iff.1 hu).1
    rw [← h5, List.getElem?_take] at hu
    rw [hl] at hj
    rw [if_pos hj] at hu
    refine ⟨?_, ?_⟩
    · rw [cell_of_row w _ j cur e (0, 0) hg]; simpa using hu
    · simp [World.frozen?, hg]

/-- what a row that holds something looks like -/
theorem Row.form {w : World} {M : Nat → Lab} {l : Lab} {e : TypeId} {size n : Nat} {v : Value} {xs : List Value} (h : Row w M l e size v n xs) (hn : 0 < n) :
    ∃ g cap, v = .slice (some ⟨g, 0, none⟩) n cap ∧ n ≤ cap ∧ cap ≤ maxLen ∧ M g = l ∧ g < w.heap.size := by
  obtain ⟨hl, a, cap, rfl, h1, h2, h3⟩ := h
  rcases h3 with ⟨rfl, _⟩ | ⟨g, cur, rfl, hM, hg, h4, h5⟩
  · omega
  · exact ⟨g, cap, rfl, h1, h2, hM, lt_of_heap hg⟩

theorem Row.shape {w : World} {M : Nat → Lab} {l : Lab} {e : TypeId} {size n : Nat} {v : Value} {xs : List Value} (h : Row w M l e size v n xs) :
    ∃ a cap, v = .slice a n cap ∧ n ≤ cap ∧ cap ≤ maxLen := by
  obtain ⟨hl, a, cap, rfl, h1, h2, h3⟩ := h
  exact ⟨a, cap, rfl, h1, h2⟩

theorem news_block {w : World} {B : Nat} {cs : Array Value} {t : TypeId} {fr : Nat × Nat} (hb : w.heap[B]? = some (.cells cs t fr)) : ∀ j u, cs.toList[j]? = some u → w.cell? ((⟨B, 0, none⟩ : Addr).add j) = some u := fun j u hu => by
  have hadd : (⟨B, 0, none⟩ : Addr).add j = ⟨B, j, none⟩ := by unfold Addr.add; split <;> simp_all
  rw [hadd, cell_of_row w B j cs t fr hb]
  simpa using hu
/-- what was just laid in a new block -/
theorem news_new (w : World) (cs : Array Value) (t : TypeId) (B : Nat) (hB : w.heap.size = B) : ∀ j u, cs.toList[j]? = some u → (w.alloc (.cells cs t)).cell? ((⟨B, 0, none⟩ : Addr).add j) = some u := by
  subst hB
  exact news_block (heap_alloc_new w _)

theorem news_two (w : World) (o : Obj) (cs : Array Value) (t : TypeId) : ∀ j u, cs.toList[j]? = some u → ((w.alloc o).alloc (.cells cs t)).drew.cell? ((⟨w.heap.size + 1, 0, none⟩ : Addr).add j) = some u := by
  intro j u h
  have := news_new (w.alloc o) cs t (w.heap.size + 1) (by simp) j u h
  exact this

section
variable {P : Program}

theorem firstCells0 (size : Nat) (base : Option Addr) (c : Nat) (w : World) : (Builtin.firstCells size 0 (.slice base 0 c)).run P w = .ok #[] w := by
  cases base <;> simp [Builtin.firstCells, loadCells, loadCellsFrom]

/-- what an append makes of a row -/
theorem app_row (w : World) (M : Nat → Lab) (l : Lab) (t ty e : TypeId) (i : TypeInfo) (z : Value) (size bytes : Nat) (ht : P.underlying t = some (.slice e)) (hi : P.info? e = some i) (hz : i.zero = some z)
    (hsize : i.size = size) (hby : i.bytes = bytes) (hzs : z.cells.size = size) (hsz : 0 < size)
    (v : Value) (n : Nat) (xs : List Value) (hrow : Row w M l e size v n xs)
    (ad : Addr) (m c : Nat) (news : List Value) (hl : news.length = m * size) (hnews : ∀ j u, news[j]? = some u → w.cell? (ad.add j) = some u) (h1 : ∀ u ∈ news, u.oneCell' = true)
    (hm : 0 < m) (h63 : n + m ≤ maxLen) (hbytes : (n + m) * bytes ≤ 140737488355328) (hfr : ∀ b, w.heap.size ≤ b → M b = .other) :
    ∃ g cap w' M', (Builtin.append_ #[t, t] ty #[v, .slice (some ad) m c]).run P w = .ok (.slice (some ⟨g, 0, none⟩) (n + m) cap) w' ∧
      Row w' M' l e size (.slice (some ⟨g, 0, none⟩) (n + m) cap) (n + m) (xs ++ news) ∧ Step w M w' M' l := by
  subst hsize
  subst hby
  have hlen : (xs ++ news).length = (n + m) * i.size := by rw [List.length_append, hrow.1, hl, Nat.add_mul]
  have h63' : ((n + m : Nat) : Int) ≤ 9223372036854775807 := by unfold maxLen at h63; omega
  have hx : Src P i.size t (.slice (some ad) m c) m news w := Src.ofSlice w ht ad m c news hl hnews h1
  -- a new row
  have grow : ∀ (base : Option Addr) (cap : Nat), cap < n + m → (Builtin.firstCells i.size n (.slice base n cap)).run P w.drew = .ok xs.toArray w.drew →
      ∃ g cap' w' M', (Builtin.append_ #[t, t] ty #[.slice base n cap, .slice (some ad) m c]).run P w = .ok (.slice (some ⟨g, 0, none⟩) (n + m) cap') w' ∧
        Row w' M' l e i.size (.slice (some ⟨g, 0, none⟩) (n + m) cap') (n + m) (xs ++ news) ∧ Step w M w' M' l := by
    intro base cap hc hold
    have hr := run_append_grow_src (P := P) w t t ty e i z ht hi hz base n cap xs hold _ m news hx hc h63' (growslice_fits hc hbytes)
    have hge := grownCap_ge w (n + m) cap e
    have hcm : grownCap w (n + m) cap e ≤ maxLen := grownCap_le_maxLen w (n + m) cap e h63
    refine ⟨_, _, _, fun b => if b = w.heap.size then l else M b, hr, ⟨hlen, some ⟨w.heap.size, 0, none⟩, _, rfl, hge, hcm, .inr ⟨w.heap.size, _, rfl, by simp, heap_alloc_new w.drew _, ?_, ?_⟩⟩, ⟨rfl, rfl, rfl, by simp, ?_, ?_, fun b hb _ => heap_alloc_old w.drew _ b hb⟩⟩
    · have : ((xs ++ news).toArray ++ Builtin.zeroCells z.cells (grownCap w (n + m) cap e - (n + m))).size = grownCap w (n + m) cap e * i.size := by
        simp only [Array.size_append, List.size_toArray, size_zeroCells, hzs, hlen, ← Nat.add_mul]
        congr 1
        omega
      omega
    · rw [Array.toList_append, ← hlen]
      exact List.take_left
    · intro b hb
      have : b ≠ w.heap.size := by omega
      simp [this]
    · intro b hb
      have hb' : w.heap.size + 1 ≤ b := by simpa using hb
      have : b ≠ w.heap.size := by omega
      simp [this]
      exact hfr b (by omega)
  obtain ⟨_, a, cap, rfl, hnc, hcm, h3⟩ := hrow
  rcases h3 with ⟨rfl, ha⟩ | ⟨g, cur, rfl, hM, hg, hcs, htake⟩
  · obtain rfl : n = 0 := by omega
    have hxs : xs = [] := List.eq_nil_of_length_eq_zero (by simpa using ‹xs.length = 0 * i.size›)
    subst hxs
    exact grow a 0 (by omega) (firstCells0 _ _ _ _)
  · by_cases hroom : n + m ≤ cap
    · have hfit : n * i.size + news.length ≤ cur.size := by
        rw [hl, ← Nat.add_mul]; exact Nat.le_trans (Nat.mul_le_mul_right _ hroom) hcs
      have hr := run_append_room (P := P) w t ty e i ht hi g n cap cur hg ad m c news hl hnews h1 hroom hfit
      refine ⟨_, _, _, M, hr, ⟨hlen, some ⟨g, 0, none⟩, cap, rfl, hroom, hcm, .inr ⟨g, _, rfl, hM, setRow_heap w g cur _ e _ hg, ?_, ?_⟩⟩, ⟨rfl, rfl, rfl, by simp [World.setRow], fun _ _ => rfl, ?_, ?_⟩⟩
      · simp only [List.size_toArray, List.length_append, List.length_take, List.length_drop, Array.length_toList]
        omega
      · rw [htake, ← hlen]
        exact List.take_left
      · intro b hb
        exact hfr b (by simpa [World.setRow] using hb)
      · intro b hb hne
        exact setRow_other w g b _ (fun e => hne (by rw [e]; exact hM))
    · have holds : ∀ j u, xs[j]? = some u → w.cell? ((⟨g, 0, none⟩ : Addr).add j) = some u := by
        intro j u hu
        have hadd : (⟨g, 0, none⟩ : Addr).add j = ⟨g, j, none⟩ := by unfold Addr.add; split <;> simp_all
        rw [hadd]
        exact (Row.cell (w := w) (M := M) (l := l) (e := e) (size := i.size) (n := n) (xs := xs) ⟨by assumption, _, cap, rfl, hnc, hcm, .inr ⟨g, cur, rfl, hM, hg, hcs, htake⟩⟩ rfl hu).1
      exact grow (some ⟨g, 0, none⟩) cap (by omega) (run_firstCells_some w.drew i.size n ⟨g, 0, none⟩ n cap xs (by assumption) (by simpa using holds))

/-- at the operation -/
theorem wp_app_row (w : World) {o : Oper} {a : Act} {K : Act → World → Prop} {Q : Exit → Act → World → Prop} (s x : Operand) (t : TypeId)
    (ho : o.op = .call { callee := .builtin .append, args := #[s, x], argTypes := #[t, t] })
    (M : Nat → Lab) (l : Lab) (e : TypeId) (i : TypeInfo) (z : Value) (size bytes : Nat) (ht : P.underlying t = some (.slice e)) (hi : P.info? e = some i) (hz : i.zero = some z)
    (hsize : i.size = size) (hby : i.bytes = bytes) (hzs : z.cells.size = size) (hsz : 0 < size)
    (v : Value) (n : Nat) (xs : List Value) (hs : a.eval s = v) (hrow : Row w M l e size v n xs)
    (ad : Addr) (m c : Nat) (news : List Value) (hx : a.eval x = .slice (some ad) m c) (hl : news.length = m * size) (hnews : ∀ j u, news[j]? = some u → w.cell? (ad.add j) = some u) (h1 : ∀ u ∈ news, u.oneCell' = true)
    (hm : 0 < m) (h63 : n + m ≤ maxLen) (hbytes : (n + m) * bytes ≤ 140737488355328) (hfr : ∀ b, w.heap.size ≤ b → M b = .other)
    (h : ∀ g cap w' M', Row w' M' l e size (.slice (some ⟨g, 0, none⟩) (n + m) cap) (n + m) (xs ++ news) → Step w M w' M' l → K (a.put o.dst (.slice (some ⟨g, 0, none⟩) (n + m) cap)) w') : o.wp P a w K Q := by
  obtain ⟨g, cap, w', M', hr, h2, h3⟩ := app_row (P := P) w M l t o.type e i z size bytes ht hi hz hsize hby hzs hsz v n xs hrow ad m c news hl hnews h1 hm h63 hbytes hfr
  unfold Oper.wp execOp
  simp only [ho, resolve, invoke, builtin, Sem.run_bind, Sem.run_pure, Result.andThen_ok, List.map_toArray, List.map_cons, List.map_nil, hs, hx, hr]
  exact h g cap w' M' h2 h3

/-- for the walk -/
theorem wpList_app_row (w : World) {ops : Array Oper} {rest : List Oper} {o : Oper} {a : Act} {Q : Exit → Act → World → Prop} (hgd : o.guard = none) (s x : Operand) (t : TypeId)
    (ho : o.op = .call { callee := .builtin .append, args := #[s, x], argTypes := #[t, t] })
    (M : Nat → Lab) (l : Lab) (e : TypeId) (i : TypeInfo) (z : Value) (size bytes : Nat) (ht : P.underlying t = some (.slice e)) (hi : P.info? e = some i) (hz : i.zero = some z)
    (hsize : i.size = size) (hby : i.bytes = bytes) (hzs : z.cells.size = size) (hsz : 0 < size)
    (v : Value) (n : Nat) (xs : List Value) (hs : a.eval s = v) (hrow : Row w M l e size v n xs)
    (ad : Addr) (m c : Nat) (news : List Value) (hx : a.eval x = .slice (some ad) m c) (hl : news.length = m * size) (hnews : ∀ j u, news[j]? = some u → w.cell? (ad.add j) = some u) (h1 : ∀ u ∈ news, u.oneCell' = true)
    (hm : 0 < m) (h63 : n + m ≤ maxLen) (hbytes : (n + m) * bytes ≤ 140737488355328) (hfr : ∀ b, w.heap.size ≤ b → M b = .other)
    (h : ∀ g cap w' M', Row w' M' l e size (.slice (some ⟨g, 0, none⟩) (n + m) cap) (n + m) (xs ++ news) → Step w M w' M' l → wpList P ops Q rest (a.put o.dst (.slice (some ⟨g, 0, none⟩) (n + m) cap)) w') :
    wpList P ops Q (o :: rest) a w :=
  wpList_plain hgd fun _ hK => wp_app_row w s x t ho M l e i z size bytes ht hi hz hsize hby hzs hsz v n xs hs hrow ad m c news hx hl hnews h1 hm h63 hbytes hfr fun g cap w' M' h2 h3 => hK _ _ (h g cap w' M' h2 h3)

/-- at a step of a region that draws its order -/
theorem step_app_row (w : World) {ops : Array Oper} {o : Oper} {a : Act} {K : Act → World → Prop} {Q : Exit → Act → World → Prop} {E : Prop} (hgd : o.guard = none) (s x : Operand) (t : TypeId)
    (ho : o.op = .call { callee := .builtin .append, args := #[s, x], argTypes := #[t, t] })
    (M : Nat → Lab) (l : Lab) (e : TypeId) (i : TypeInfo) (z : Value) (size bytes : Nat) (ht : P.underlying t = some (.slice e)) (hi : P.info? e = some i) (hz : i.zero = some z)
    (hsize : i.size = size) (hby : i.bytes = bytes) (hzs : z.cells.size = size) (hsz : 0 < size)
    (v : Value) (n : Nat) (xs : List Value) (hs : a.eval s = v) (hrow : Row w M l e size v n xs)
    (ad : Addr) (m c : Nat) (news : List Value) (hx : a.eval x = .slice (some ad) m c) (hl : news.length = m * size) (hnews : ∀ j u, news[j]? = some u → w.cell? (ad.add j) = some u) (h1 : ∀ u ∈ news, u.oneCell' = true)
    (hm : 0 < m) (h63 : n + m ≤ maxLen) (hbytes : (n + m) * bytes ≤ 140737488355328) (hfr : ∀ b, w.heap.size ≤ b → M b = .other)
    (h : ∀ g cap w' M', Row w' M' l e size (.slice (some ⟨g, 0, none⟩) (n + m) cap) (n + m) (xs ++ news) → Step w M w' M' l → K (a.put o.dst (.slice (some ⟨g, 0, none⟩) (n + m) cap)) w') :
    if Region.wanted o (yielded ops a.tmps) = true then Oper.wp P o a w K Q else E := by
  have hw : Region.wanted o (yielded ops a.tmps) = true := by simp [Region.wanted, hgd]
  rw [if_pos hw]
  exact wp_app_row w s x t ho M l e i z size bytes ht hi hz hsize hby hzs hsz v n xs hs hrow ad m c news hx hl hnews h1 hm h63 hbytes hfr h
end
end Go.Proofs.YtjfklhfdonbpgaaGreatDoor

/- Trees as lists of nodes, and the way from a root down to a node: plain mathematics. -/
namespace Go.Proofs.YtjfklhfdonbpgaaGreatDoor

/-- a node -/
structure Nd where
  kind : Int
  tag : ByteArray
  words : ByteArray
  attrs : List (ByteArray × ByteArray)
  parent : Int
  kids : List Int

/-- a node as it lies in memory: its two slices beside it -/
structure Pn where
  n : Nd
  av : Value
  kv : Value

/-- a twig: what it says, and where its two slices lie -/
structure Tw where
  kind : Int
  tag : ByteArray
  text : ByteArray
  attrs : List (ByteArray × ByteArray)
  kids : List Int
  aa : Option Addr
  ac : Nat
  ka : Option Addr
  kc : Nat

def Pn.cells (p : Pn) : List Value := [.int .i64 p.n.kind, .string p.n.tag, .string p.n.words, p.av, .int .i64 p.n.parent, p.kv]
def flat (ps : List Pn) : List Value := ps.flatMap Pn.cells
def attrCells (l : List (ByteArray × ByteArray)) : List Value := l.flatMap fun x => [.string x.1, .string x.2]
def intV (k : Int) : Value := .int .i64 k

theorem Pn.cells_length (p : Pn) : p.cells.length = 6 := rfl
theorem flat_nil : flat [] = [] := rfl
theorem flat_cons (p : Pn) (ps : List Pn) : flat (p :: ps) = p.cells ++ flat ps := rfl
theorem flat_append (ps qs : List Pn) : flat (ps ++ qs) = flat ps ++ flat qs := by simp [flat]
theorem flat_length (ps : List Pn) : (flat ps).length = ps.length * 6 := by
  induction ps with
  | nil => rfl
  | cons p ps ih => rw [flat_cons, List.length_append, ih, Pn.cells_length, List.length_cons]; omega
theorem flat_get (ps : List Pn) : ∀ (i f : Nat) (p : Pn), ps[i]? = some p → f < 6 → (flat ps)[i * 6 + f]? = p.cells[f]? := by
  induction ps with
  | nil => intro i f p h; simp at h
  | cons q ps ih =>
    intro i f p h hf
    cases i with
    | zero =>
      simp at h
      subst h
      rw [flat_cons, List.getElem?_append_left (by rw [Pn.cells_length]; omega)]
      simp
    | succ i =>
      rw [flat_cons, List.getElem?_append_right (by rw [Pn.cells_length]; omega), Pn.cells_length, show (i + 1) * 6 + f - 6 = i * 6 + f by omega]
      exact ih i f p (by simpa using h) hf
theorem flat_set (ps : List Pn) : ∀ (i f : Nat) (p p' : Pn) (c : Value), ps[i]? = some p → f < 6 → p'.cells = p.cells.set f c → flat (ps.set i p') = (flat ps).set (i * 6 + f) c := by
  induction ps with
  | nil => intro i f p p' c h; simp at h
  | cons q ps ih =>
    intro i f p p' c h hf he
    cases i with
    | zero =>
      simp at h
      subst h
      rw [List.set_cons_zero, flat_cons, flat_cons, he, List.set_append_left _ _ (by rw [Pn.cells_length]; omega)]
      simp
    | succ i =>
      rw [List.set_cons_succ, flat_cons, flat_cons, ih i f p p' c (by simpa using h) hf he, List.set_append_right _ _ (by rw [Pn.cells_length]; omega), Pn.cells_length, show (i + 1) * 6 + f - 6 = i * 6 + f by omega]
theorem attrCells_length (l : List (ByteArray × ByteArray)) : (attrCells l).length = l.length * 2 := by
  induction l with
  | nil => rfl
  | cons x l ih => simp only [attrCells, List.flatMap_cons, List.length_append, List.length_cons, List.length_nil] at ih ⊢; omega
theorem attrCells_get (l : List (ByteArray × ByteArray)) : ∀ (i : Nat) (x : ByteArray × ByteArray), l[i]? = some x → (attrCells l)[i * 2]? = some (.string x.1) ∧ (attrCells l)[i * 2 + 1]? = some (.string x.2) := by
  induction l with
  | nil => intro i x h; simp at h
  | cons y l ih =>
    intro i x h
    cases i with
    | zero => simp at h; subst h; exact ⟨rfl, rfl⟩
    | succ i =>
      have := ih i x (by simpa using h)
      have e : attrCells (y :: l) = .string y.1 :: .string y.2 :: attrCells l := rfl
      rw [e, show (i + 1) * 2 = i * 2 + 2 by omega, show i * 2 + 2 + 1 = (i * 2 + 1) + 2 by omega]
      exact this
theorem attrCells_append (l m : List (ByteArray × ByteArray)) : attrCells (l ++ m) = attrCells l ++ attrCells m := by simp [attrCells]
theorem attrCells_set (l : List (ByteArray × ByteArray)) : ∀ (i : Nat) (x : ByteArray × ByteArray) (v : ByteArray), l[i]? = some x → attrCells (l.set i (x.1, v)) = (attrCells l).set (i * 2 + 1) (.string v) := by
  induction l with
  | nil => intro i x v h; simp at h
  | cons y l ih =>
    intro i x v h
    cases i with
    | zero => simp at h; subst h; rfl
    | succ i =>
      have e : ∀ l', attrCells (y :: l') = .string y.1 :: .string y.2 :: attrCells l' := fun _ => rfl
      rw [List.set_cons_succ, e, e, ih i x v (by simpa using h), show (i + 1) * 2 + 1 = (i * 2 + 1) + 1 + 1 by omega, List.set_cons_succ, List.set_cons_succ]

/-- where a number stands first -/
def idx (l : List Int) (x : Int) : Nat := l.findIdx (· == x)
theorem idx_get {l : List Int} {x : Int} (h : x ∈ l) : l[idx l x]? = some x := by
  have hlt : l.findIdx (· == x) < l.length := List.findIdx_lt_length.2 ⟨x, h, by simp⟩
  have := List.findIdx_getElem (w := hlt)
  unfold idx
  rw [List.getElem?_eq_getElem hlt]
  simpa using this

/-- the steps from a root down to a node -/
inductive Way (ns : List Nd) : Nat → List Int → Nat → Prop where
  | root {i : Nat} {n : Nd} (h : ns[i]? = some n) (hp : n.parent = -1) : Way ns i [] i
  | down {i p r : Nat} {s : List Int} {n m : Nd} (h : ns[i]? = some n) (hp : n.parent = p) (hm : ns[p]? = some m) (hk : (i : Int) ∈ m.kids) (hw : Way ns p s r) : Way ns i (s ++ [(idx m.kids i : Int)]) r

/-- the node at the end of a way -/
def nodeAt (ns : List Nd) (r : Int) (s : List Int) : Int := s.foldl (fun c k => (ns[c.toNat]?.bind fun m => m.kids[k.toNat]?).getD 0) r

theorem Way.node {ns : List Nd} {i r : Nat} {s : List Int} (h : Way ns i s r) : nodeAt ns r s = i := by
  induction h with
  | root h hp => rfl
  | down h hp hm hk hw ih =>
    unfold nodeAt at ih ⊢
    rw [List.foldl_append, ih]
    simp [hm, idx_get hk]
theorem Way.inj {ns : List Nd} {i j r : Nat} {s : List Int} (h : Way ns i s r) (k : Way ns j s r) : i = j := by
  have := h.node.symm.trans k.node
  omega
theorem Way.lt {ns : List Nd} {i r : Nat} {s : List Int} (h : Way ns i s r) : i < ns.length ∧ r < ns.length := by
  induction h with
  | root h hp => exact ⟨(List.getElem?_eq_some_iff.1 h).1, (List.getElem?_eq_some_iff.1 h).1⟩
  | down h hp hm hk hw ih => exact ⟨(List.getElem?_eq_some_iff.1 h).1, ih.2⟩

/-- a way ahead of, or behind, another -/
def cmpL : List Int → List Int → Int
  | [], [] => 0
  | [], _ :: _ => -1
  | _ :: _, [] => 1
  | a :: s, b :: t => if a < b then -1 else if b < a then 1 else cmpL s t

theorem cmpL_anti : ∀ s t, cmpL s t = - cmpL t s
  | [], [] => rfl
  | [], _ :: _ => rfl
  | _ :: _, [] => rfl
  | a :: s, b :: t => by
    unfold cmpL
    have := cmpL_anti s t
    repeat' split
    all_goals omega
theorem cmpL_zero : ∀ s t, cmpL s t = 0 ↔ s = t
  | [], [] => by simp [cmpL]
  | [], _ :: _ => by simp [cmpL]
  | _ :: _, [] => by simp [cmpL]
  | a :: s, b :: t => by
    unfold cmpL
    have := cmpL_zero s t
    rw [List.cons.injEq]
    split
    · constructor
      · intro h; omega
      · intro h; omega
    · split
      · constructor
        · intro h; omega
        · intro h; omega
      · rw [this]
        constructor
        · intro h; exact ⟨by omega, h⟩
        · exact fun h => h.2
theorem cmpL_bd : ∀ s t, -1 ≤ cmpL s t ∧ cmpL s t ≤ 1
  | [], [] => by simp [cmpL]
  | [], _ :: _ => by simp [cmpL]
  | _ :: _, [] => by simp [cmpL]
  | a :: s, b :: t => by
    unfold cmpL
    have := cmpL_bd s t
    repeat' split
    all_goals omega
theorem cmpL_trans : ∀ s t u, cmpL s t < 0 → cmpL t u < 0 → cmpL s u < 0
  | [], [], _ => by simp [cmpL]
  | [], _ :: _, [] => by simp [cmpL]
  | [], _ :: _, _ :: _ => by simp [cmpL]
  | _ :: _, [], _ => by simp [cmpL]
  | _ :: _, _ :: _, [] => by simp [cmpL]
  | a :: s, b :: t, c :: u => by
    unfold cmpL
    have := cmpL_trans s t u
    intro h1 h2
    split at h1
    · split at h2
      · rw [if_pos (by omega)]; omega
      · split at h2
        · omega
        · rw [if_pos (by omega)]; omega
    · split at h1
      · omega
      · split at h2
        · rw [if_pos (by omega)]; omega
        · split at h2
          · omega
          · rw [if_neg (by omega), if_neg (by omega)]
            exact this h1 h2
end Go.Proofs.YtjfklhfdonbpgaaGreatDoor

/- How a tree lies in memory, and what a store or an append makes of it. -/
namespace Go.Proofs.YtjfklhfdonbpgaaGreatDoor
open Go.RowKit

/-- nothing that is another's has turned -/
structure Moved (w : World) (M : Nat → Lab) (w' : World) (M' : Nat → Lab) : Prop where
  os : w'.os = w.os
  tape : w'.tape = w.tape
  output : w'.output = w.output
  size : w.heap.size ≤ w'.heap.size
  lab : ∀ b, b < w.heap.size → M' b = M b
  far : ∀ b, b < w.heap.size → M b = .other → w'.heap[b]? = w.heap[b]?

theorem Moved.refl (w : World) (M : Nat → Lab) : Moved w M w M := ⟨rfl, rfl, rfl, Nat.le_refl _, fun _ _ => rfl, fun _ _ _ => rfl⟩
theorem Moved.trans {a b c : World} {M N L : Nat → Lab} (h : Moved a M b N) (k : Moved b N c L) : Moved a M c L :=
  ⟨k.os.trans h.os, k.tape.trans h.tape, k.output.trans h.output, Nat.le_trans h.size k.size, fun x hx => (k.lab x (Nat.lt_of_lt_of_le hx h.size)).trans (h.lab x hx),
    fun x hx ho => (k.far x (Nat.lt_of_lt_of_le hx h.size) ((h.lab x hx).trans ho)).trans (h.far x hx ho)⟩
theorem Step.moved {w w' : World} {M M' : Nat → Lab} {l : Lab} (h : Step w M w' M' l) (hl : l ≠ .other) : Moved w M w' M' :=
  ⟨h.os, h.tape, h.output, h.size, h.lab, fun b hb ho => h.far b hb (by rw [ho]; exact Ne.symm hl)⟩
theorem Moved.alloc {w w' : World} {M M' : Nat → Lab} (h : Moved w M w' M') (o : Obj) : Moved w M (w'.alloc o) M' :=
  ⟨h.os, h.tape, h.output, by simp; have := h.size; omega, h.lab, fun b hb ho => (Below.heap_alloc w' o b (Nat.lt_of_lt_of_le hb h.size)).trans (h.far b hb ho)⟩
theorem Moved.drew {w w' : World} {M M' : Nat → Lab} (h : Moved w M w' M') : Moved w M w'.drew M' := ⟨h.os, h.tape, h.output, h.size, h.lab, h.far⟩
theorem Moved.below {w w' w'' : World} {M M' : Nat → Lab} (h : Moved w M w' M') (hb : Below w'.heap.size w' w'') : Moved w M w'' M' :=
  ⟨hb.os.trans h.os, hb.tape.trans h.tape, hb.output.trans h.output, Nat.le_trans h.size hb.size, h.lab, fun b hb' ho => (hb.block b (Nat.lt_of_lt_of_le hb' h.size)).trans (h.far b hb' ho)⟩

/-- a tree lies at block tb: its nodes, what undoes its changes -/
structure Lies (w : World) (M : Nat → Lab) (tb : Nat) (nv uv : Value) (ps : List Pn) (us : List Value) : Prop where
  fresh : ∀ b, w.heap.size ≤ b → M b = .other
  tree : M tb = .tree
  head : w.heap[tb]? = some (.cells #[nv, uv] 44 (0, 0))
  nodes : Row w M .nodes 40 6 nv ps.length (flat ps)
  undos : Row w M .undos 1 1 uv us.length us
  node : ∀ i p, ps[i]? = some p → Row w M (.attrs i) 79 2 p.av p.n.attrs.length (attrCells p.n.attrs) ∧ Row w M (.kids i) 3 1 p.kv p.n.kids.length (p.n.kids.map intV)

/-- memory that is another's has turned -/
theorem Lies.far {w w' : World} {M : Nat → Lab} {tb : Nat} {nv uv : Value} {ps : List Pn} {us : List Value} (h : Lies w M tb nv uv ps us) (hs : w.heap.size ≤ w'.heap.size) (hb : ∀ b, b < w.heap.size → M b ≠ .other → w'.heap[b]? = w.heap[b]?) : Lies w' M tb nv uv ps us where
  fresh b hb' := h.fresh b (by omega)
  tree := h.tree
  head := (hb tb (lt_of_heap h.head) (by rw [h.tree]; intro e; cases e)).trans h.head
  nodes := h.nodes.keep (fun b hb' e => hb b hb' (by rw [e]; intro e; cases e)) (fun _ _ => rfl)
  undos := h.undos.keep (fun b hb' e => hb b hb' (by rw [e]; intro e; cases e)) (fun _ _ => rfl)
  node i p hp := ⟨(h.node i p hp).1.keep (fun b hb' e => hb b hb' (by rw [e]; intro e; cases e)) (fun _ _ => rfl), (h.node i p hp).2.keep (fun b hb' e => hb b hb' (by rw [e]; intro e; cases e)) (fun _ _ => rfl)⟩
theorem Lies.alloc {w : World} {M : Nat → Lab} {tb : Nat} {nv uv : Value} {ps : List Pn} {us : List Value} (h : Lies w M tb nv uv ps us) (o : Obj) : Lies (w.alloc o) M tb nv uv ps us :=
  h.far (by simp) (fun b hb _ => Below.heap_alloc w o b hb)
theorem Lies.drew {w : World} {M : Nat → Lab} {tb : Nat} {nv uv : Value} {ps : List Pn} {us : List Value} (h : Lies w M tb nv uv ps us) : Lies w.drew M tb nv uv ps us :=
  h.far (Nat.le_refl _) (fun _ _ _ => rfl)
theorem Lies.below {w w' : World} {M : Nat → Lab} {tb : Nat} {nv uv : Value} {ps : List Pn} {us : List Value} (h : Lies w M tb nv uv ps us) (hb : Below w.heap.size w w') : Lies w' M tb nv uv ps us :=
  h.far hb.size (fun b hb' _ => hb.block b hb')

theorem Lies.cell0 {w : World} {M : Nat → Lab} {tb : Nat} {nv uv : Value} {ps : List Pn} {us : List Value} (h : Lies w M tb nv uv ps us) : w.cell? ⟨tb, 0, none⟩ = some nv := by
  rw [cell_of_row w tb 0 _ _ _ h.head]; rfl
theorem Lies.cell1 {w : World} {M : Nat → Lab} {tb : Nat} {nv uv : Value} {ps : List Pn} {us : List Value} (h : Lies w M tb nv uv ps us) : w.cell? ⟨tb, 1, none⟩ = some uv := by
  rw [cell_of_row w tb 1 _ _ _ h.head]; rfl
theorem Lies.frozen {w : World} {M : Nat → Lab} {tb : Nat} {nv uv : Value} {ps : List Pn} {us : List Value} (h : Lies w M tb nv uv ps us) (o : Nat) : w.frozen? ⟨tb, o, none⟩ = false := by
  simp [World.frozen?, h.head]

theorem setCell_heap (w : World) (g j : Nat) (c : Value) (cur : Array Value) (e : TypeId) (fr : Nat × Nat) (h : w.heap[g]? = some (.cells cur e fr)) : (w.setCell ⟨g, j, none⟩ c).heap[g]? = some (.cells (cur.setIfInBounds j c) e fr) := by
  simp [World.setCell, Array.getElem?_modify, h]

theorem step_setCell {w : World} {M : Nat → Lab} {l : Lab} {g j : Nat} (c : Value) (hM : M g = l) (hf : ∀ b, w.heap.size ≤ b → M b = .other) : Step w M (w.setCell ⟨g, j, none⟩ c) M l :=
  ⟨rfl, rfl, rfl, by simp [World.setCell], fun _ _ => rfl, fun b hb => hf b (by simpa [World.setCell] using hb), fun b _ hne => Below.heap_setCell w _ c b (fun e => hne (by rw [e]; exact hM))⟩

/-- a store into a row -/
theorem Row.set {w : World} {M : Nat → Lab} {l : Lab} {e : TypeId} {size n : Nat} {v : Value} {xs : List Value} (h : Row w M l e size v n xs) {g o c0 m : Nat} (hv : v = .slice (some ⟨g, o, none⟩) m c0) (j : Nat) (c : Value) (hj : j < xs.length) :
    Row (w.setCell ⟨g, j, none⟩ c) M l e size v n (xs.set j c) := by
  obtain ⟨hl, a, cap, rfl, h1, h2, h3⟩ := h
  rcases h3 with ⟨rfl, _⟩ | ⟨g', cur, rfl, hM, hg, h4, h5⟩
  · obtain rfl : n = 0 := by omega
    rw [hl] at hj
    omega
  · cases hv
    refine ⟨by rw [List.length_set]; exact hl, _, _, rfl, h1, h2, .inr ⟨_, _, rfl, hM, setCell_heap w _ j c cur e (0, 0) hg, by rw [Array.size_setIfInBounds]; exact h4, ?_⟩⟩
    rw [Array.toList_setIfInBounds, List.take_set, h5]

/-- a store into a node's cell -/
theorem Lies.setNode {w : World} {M : Nat → Lab} {tb : Nat} {nv uv : Value} {ps : List Pn} {us : List Value} (h : Lies w M tb nv uv ps us) {nb m c0 : Nat} (hv : nv = .slice (some ⟨nb, 0, none⟩) m c0)
    {i f : Nat} {p p' : Pn} {c : Value} (hp : ps[i]? = some p) (hf : f < 6) (he : p'.cells = p.cells.set f c)
    (ha : Row w M (.attrs i) 79 2 p'.av p'.n.attrs.length (attrCells p'.n.attrs)) (hk : Row w M (.kids i) 3 1 p'.kv p'.n.kids.length (p'.n.kids.map intV)) :
    Lies (w.setCell ⟨nb, i * 6 + f, none⟩ c) M tb nv uv (ps.set i p') us ∧ Step w M (w.setCell ⟨nb, i * 6 + f, none⟩ c) M .nodes := by
  have hi : i < ps.length := (List.getElem?_eq_some_iff.1 hp).1
  obtain ⟨g, cap, hg, _, _, hM, _⟩ := h.nodes.form (by omega)
  have e1 : g = nb := by rw [hv] at hg; cases hg; rfl
  subst e1
  have st : Step w M (w.setCell ⟨g, i * 6 + f, none⟩ c) M .nodes := step_setCell c hM h.fresh
  refine ⟨⟨st.fresh, h.tree, (st.far tb (lt_of_heap h.head) (by rw [h.tree]; intro e; cases e)).trans h.head, ?_, h.undos.step st (by intro e; cases e), ?_⟩, st⟩
  · rw [List.length_set, flat_set ps i f p p' c hp hf he]
    exact h.nodes.set hv _ c (by rw [flat_length]; omega)
  · intro j q hq
    by_cases hij : i = j
    · subst hij
      rw [List.getElem?_set_self hi] at hq
      cases hq
      exact ⟨ha.step st (by intro e; cases e), hk.step st (by intro e; cases e)⟩
    · rw [List.getElem?_set_ne hij] at hq
      exact ⟨(h.node j q hq).1.step st (by intro e; cases e), (h.node j q hq).2.step st (by intro e; cases e)⟩

/-- a step on another row of the tree's, and the tree but for it -/
theorem Lies.headNodes {w w1 : World} {M M1 : Nat → Lab} {tb : Nat} {nv uv : Value} {ps : List Pn} {us : List Value} (h : Lies w M tb nv uv ps us) (st : Step w M w1 M1 .nodes) {nv' : Value} {qs : List Pn}
    (hn : Row w1 M1 .nodes 40 6 nv' qs.length (flat qs)) (hq : ∀ i p, qs[i]? = some p → Row w M (.attrs i) 79 2 p.av p.n.attrs.length (attrCells p.n.attrs) ∧ Row w M (.kids i) 3 1 p.kv p.n.kids.length (p.n.kids.map intV)) :
    Lies (w1.setCell ⟨tb, 0, none⟩ nv') M1 tb nv' uv qs us ∧ Moved w M (w1.setCell ⟨tb, 0, none⟩ nv') M1 := by
  have hlt := lt_of_heap h.head
  have hM : M1 tb = .tree := (st.lab tb hlt).trans h.tree
  have st2 : Step w1 M1 (w1.setCell ⟨tb, 0, none⟩ nv') M1 .tree := step_setCell nv' hM st.fresh
  have hh : w1.heap[tb]? = some (.cells #[nv, uv] 44 (0, 0)) := (st.far tb hlt (by rw [h.tree]; intro e; cases e)).trans h.head
  refine ⟨⟨st2.fresh, hM, ?_, hn.step st2 (by intro e; cases e), (h.undos.step st (by intro e; cases e)).step st2 (by intro e; cases e), ?_⟩, (st.moved (by intro e; cases e)).trans (st2.moved (by intro e; cases e))⟩
  · rw [setCell_heap w1 tb 0 nv' _ _ _ hh]; rfl
  · intro i p hp
    exact ⟨((hq i p hp).1.step st (by intro e; cases e)).step st2 (by intro e; cases e), ((hq i p hp).2.step st (by intro e; cases e)).step st2 (by intro e; cases e)⟩
theorem Lies.headUndos {w w1 : World} {M M1 : Nat → Lab} {tb : Nat} {nv uv : Value} {ps : List Pn} {us : List Value} (h : Lies w M tb nv uv ps us) (st : Step w M w1 M1 .undos) {uv' : Value} {us' : List Value}
    (hn : Row w1 M1 .undos 1 1 uv' us'.length us') :
    Lies (w1.setCell ⟨tb, 1, none⟩ uv') M1 tb nv uv' ps us' ∧ Moved w M (w1.setCell ⟨tb, 1, none⟩ uv') M1 := by
  have hlt := lt_of_heap h.head
  have hM : M1 tb = .tree := (st.lab tb hlt).trans h.tree
  have st2 : Step w1 M1 (w1.setCell ⟨tb, 1, none⟩ uv') M1 .tree := step_setCell uv' hM st.fresh
  have hh : w1.heap[tb]? = some (.cells #[nv, uv] 44 (0, 0)) := (st.far tb hlt (by rw [h.tree]; intro e; cases e)).trans h.head
  refine ⟨⟨st2.fresh, hM, ?_, (h.nodes.step st (by intro e; cases e)).step st2 (by intro e; cases e), hn.step st2 (by intro e; cases e), ?_⟩, (st.moved (by intro e; cases e)).trans (st2.moved (by intro e; cases e))⟩
  · rw [setCell_heap w1 tb 1 uv' _ _ _ hh]; rfl
  · intro i p hp
    exact ⟨((h.node i p hp).1.step st (by intro e; cases e)).step st2 (by intro e; cases e), ((h.node i p hp).2.step st (by intro e; cases e)).step st2 (by intro e; cases e)⟩

/-- a node's cells, as a walk reads them -/
theorem Lies.cellN {w : World} {M : Nat → Lab} {tb : Nat} {nv uv : Value} {ps : List Pn} {us : List Value} (h : Lies w M tb nv uv ps us) {nb m c0 : Nat} (hv : nv = .slice (some ⟨nb, 0, none⟩) m c0) {i f : Nat} {p : Pn} {c : Value} (hp : ps[i]? = some p) (hf : f < 6) (hc : p.cells[f]? = some c) :
    w.cell? ⟨nb, i * 6 + f, none⟩ = some c ∧ w.frozen? ⟨nb, i * 6 + f, none⟩ = false :=
  h.nodes.cell hv (by rw [flat_get ps i f p hp hf]; exact hc)
end Go.Proofs.YtjfklhfdonbpgaaGreatDoor

/- What the small functions of package tree answer of a tree that lies in memory. -/
namespace Go.Proofs.YtjfklhfdonbpgaaGreatDoor
open Go.RowKit

/-- there is such a node -/
def hasB (n : Nat) (id : Int) : Bool := decide (0 ≤ id ∧ id < (n : Int))

theorem ret_bool {a b : Bool} (h : a = b) : Ending.returned (.bool a) = .returned (.bool b) := by rw [h]
theorem ret_int {k : IntKind} {a b : Int} (h : a = b) : Ending.returned (.int k a) = .returned (.int k b) := by rw [h]

theorem has_any {w : World} {M : Nat → Lab} {tb : Nat} {nv uv : Value} {ps : List Pn} {us : List Value} (h : Lies w M tb nv uv ps us) (id : Int) :
    Calls Tryz.prog 45 #[.pointer (some ⟨tb, 0, none⟩), .int .i64 id] w fun e w' => e = .returned (.bool (hasB ps.length id)) ∧ w' = w := by
  obtain ⟨a, cap, rfl, hc, hm⟩ := h.nodes.shape
  have c0 := h.cell0
  unfold maxLen at hm
  go_enter Tryz.func45, Tryz.ntmps45
  go_wp2
  all_goals go_ret
  all_goals refine ⟨ret_bool ?_, rfl⟩
  all_goals (unfold hasB; simp; try omega)

theorem room_any {w : World} {M : Nat → Lab} {tb : Nat} {nv uv : Value} {ps : List Pn} {us : List Value} (h : Lies w M tb nv uv ps us) (h4 : ps.length ≤ 400) :
    Calls Tryz.prog 68 #[.pointer (some ⟨tb, 0, none⟩), .int .i64 1] w fun e w' => e = .returned (.bool (decide (ps.length < 400))) ∧ w' = w := by
  obtain ⟨a, cap, rfl, hc, hm⟩ := h.nodes.shape
  have c0 := h.cell0
  unfold maxLen at hm
  go_enter Tryz.func68, Tryz.ntmps68
  go_wp2
  all_goals go_ret
  all_goals refine ⟨ret_bool ?_, rfl⟩
  all_goals (simp; try omega)

theorem Lies.form {w : World} {M : Nat → Lab} {tb : Nat} {nv uv : Value} {ps : List Pn} {us : List Value} (h : Lies w M tb nv uv ps us) {i : Nat} {p : Pn} (hp : ps[i]? = some p) :
    ∃ nb cap, nv = .slice (some ⟨nb, 0, none⟩) ps.length cap ∧ ps.length ≤ cap ∧ cap ≤ maxLen ∧ M nb = .nodes ∧ nb < w.heap.size ∧ i < ps.length := by
  have hi : i < ps.length := (List.getElem?_eq_some_iff.1 hp).1
  obtain ⟨g, cap, h1, h2, h3, h4, h5⟩ := h.nodes.form (by omega)
  exact ⟨g, cap, h1, h2, h3, h4, h5, hi⟩

theorem hasB_of {ps : List Pn} {i : Nat} {p : Pn} (hp : ps[i]? = some p) : hasB ps.length i = true := by
  have hi : i < ps.length := (List.getElem?_eq_some_iff.1 hp).1
  unfold hasB; simp; omega

set_option maxHeartbeats 1000000 in
theorem parent_any {w : World} {M : Nat → Lab} {tb : Nat} {nv uv : Value} {ps : List Pn} {us : List Value} (h : Lies w M tb nv uv ps us) {i : Nat} {p : Pn} (hp : ps[i]? = some p) :
    Calls Tryz.prog 13 #[.pointer (some ⟨tb, 0, none⟩), .int .i64 i] w fun e w' => e = .returned (.int .i64 p.n.parent) ∧ w' = w := by
  have hb := hasB_of hp
  obtain ⟨nb, cap, rfl, hc, hm, _, _, hi⟩ := h.form hp
  have c0 := h.cell0
  have c4 := (h.cellN rfl (f := 4) hp (by omega) rfl).1
  unfold maxLen at hm
  go_enter Tryz.func13, Tryz.ntmps13
  go_wp2_with (go_at_call 45; refine (has_any h _).mono ?_; rintro e w' ⟨rfl, rfl⟩; rw [hb])

  all_goals go_ret
  all_goals exact ⟨rfl, rfl⟩
end Go.Proofs.YtjfklhfdonbpgaaGreatDoor

/- What makes nodes, and what is kept to undo it. -/
namespace Go.Proofs.YtjfklhfdonbpgaaGreatDoor
open Go.RowKit

theorem Tryz.infoFunc : (Tryz.prog.info? 1).map (fun i => (i.zero, i.size, i.bytes)) = some (some .nilFunc, 1, 8) := by kernel_rfl
theorem Tryz.infoNode : (Tryz.prog.info? 40).map (fun i => (i.zero, i.size, i.bytes)) = some (some (.agg #[.int .i64 0, .string ⟨#[]⟩, .string ⟨#[]⟩, .slice none 0 0, .int .i64 0, .slice none 0 0]), 6, 96) := by kernel_rfl

theorem head_cell {w : World} {tb : Nat} {nv uv : Value} {t : TypeId} (h : w.heap[tb]? = some (.cells #[nv, uv] t (0, 0))) : w.cell? ⟨tb, 0, none⟩ = some nv ∧ w.cell? ⟨tb, 1, none⟩ = some uv ∧ w.frozen? ⟨tb, 0, none⟩ = false ∧ w.frozen? ⟨tb, 1, none⟩ = false := by
  refine ⟨?_, ?_, ?_, ?_⟩
  · rw [cell_of_row w tb 0 _ _ _ h]; rfl
  · rw [cell_of_row w tb 1 _ _ _ h]; rfl
  · simp [World.frozen?, h]
  · simp [World.frozen?, h]

set_option maxHeartbeats 1000000 in
set_option maxRecDepth 100000 in
theorem keep_any {w : World} {M : Nat → Lab} {tb : Nat} {nv uv : Value} {ps : List Pn} {us : List Value} (h : Lies w M tb nv uv ps us) (fn : Fn) (fi ca : Array Value) (hu : us.length ≤ 1099511627776) :
    Calls Tryz.prog 55 #[.pointer (some ⟨tb, 0, none⟩), .func fn fi ca] w fun e w' => e = .returned (.tuple #[]) ∧ ∃ M' uv', Lies w' M' tb nv uv' ps (us ++ [.func fn fi ca]) ∧ Moved w M w' M' := by
  obtain ⟨i0, hi, hz0, hz1, hz2⟩ := info_parts Tryz.infoFunc
  obtain ⟨a, cap, ha, hc, hm⟩ := h.undos.shape
  subst ha
  have c1 := h.cell1
  have H : Hid (Lies w M tb nv (.slice a us.length cap) ps us) := h
  clear h
  go_enter Tryz.func55, Tryz.ntmps55
  go_wp2_with (at_builtin; refine wpList_app_row _ (by rfl) (.tmp 8) (.tmp 10) 42 (by rfl) M .undos 1 i0 .nilFunc 1 8 Tryz.underlying42 hi hz0 hz1 hz2 rfl (by decide) (.slice a us.length cap) us.length us (by rfl) (H.out.alloc _).undos ⟨w.heap.size, 0, none⟩ 1 1 [.func fn fi ca] (by rfl) rfl (cell_one_new _ _ _) (by simp [Value.oneCell']) (by decide) (by unfold maxLen; omega) (by omega) (H.out.alloc _).fresh ?_; intro g cap1 w1 M1 hr st; obtain ⟨hc0, hc1, hf0, hf1⟩ := head_cell ((st.far tb (lt_of_heap (H.out.alloc _).head) (by rw [H.out.tree]; intro e; cases e)).trans (H.out.alloc _).head); have HR : Hid _ := (H.out.alloc _).headUndos (uv' := .slice (some ⟨g, 0, none⟩) (us.length + 1) cap1) (us' := us ++ [.func fn fi ca]) st (by rw [List.length_append]; exact hr); clear hr st)
  go_end0
  exact ⟨rfl, M1, _, HR.out.1, ((Moved.refl _ _).alloc _).trans HR.out.2⟩

/-- a function that unmakes the nodes from a number on -/
def Frg (w : World) (M : Nat → Lab) (f : Value) (tb n : Nat) : Prop :=
  ∃ b1 b2, f = .func (.func 87) #[] #[.pointer (some ⟨b1, 0, none⟩), .pointer (some ⟨b2, 0, none⟩)] ∧ M b1 = .other ∧ M b2 = .other ∧ w.cell? ⟨b1, 0, none⟩ = some (.pointer (some ⟨tb, 0, none⟩)) ∧ w.cell? ⟨b2, 0, none⟩ = some (.int .i64 n)

theorem Frg.moved {w w' : World} {M M' : Nat → Lab} {f : Value} {tb n : Nat} (h : Frg w M f tb n) (m : Moved w M w' M') : Frg w' M' f tb n := by
  obtain ⟨b1, b2, rfl, h1, h2, h3, h4⟩ := h
  have l1 : b1 < w.heap.size := World.block_lt_of_cell? w _ h3
  have l2 : b2 < w.heap.size := World.block_lt_of_cell? w _ h4
  exact ⟨b1, b2, rfl, (m.lab b1 l1).trans h1, (m.lab b2 l2).trans h2, (World.cell?_of_block (a := ⟨b1, 0, none⟩) (m.far b1 l1 h1)).trans h3, (World.cell?_of_block (a := ⟨b2, 0, none⟩) (m.far b2 l2 h2)).trans h4⟩

set_option maxHeartbeats 1000000 in
theorem forget_any {w : World} {M : Nat → Lab} {tb : Nat} {nv uv : Value} {ps : List Pn} {us : List Value} (h : Lies w M tb nv uv ps us) :
    Calls Tryz.prog 69 #[.pointer (some ⟨tb, 0, none⟩)] w fun e w' => ∃ ca, e = .returned (.func (.func 87) #[] ca) ∧ Frg w' M (.func (.func 87) #[] ca) tb ps.length ∧ Below w.heap.size w w' := by
  obtain ⟨a, cap, rfl, hc, hm⟩ := h.nodes.shape
  have c0 := h.cell0
  have hfr := h.fresh
  unfold maxLen at hm
  have H : Hid (∀ b, w.heap.size ≤ b → M b = .other) := hfr
  have hlt : tb < w.heap.size := lt_of_heap h.head
  clear h hfr
  go_enter Tryz.func69, Tryz.ntmps69
  go_wp2
  go_ret
  refine ⟨_, rfl, ⟨_, _, rfl, H.out _ (by simp), H.out _ (by simp), by simp, by simp⟩, ?_⟩
  exact (((Below.refl _ _).alloc (Nat.le_refl _) _).alloc (by simp) _)

theorem node_cells (kind parent : Int) (tag words : ByteArray) (av kv : Value) (at_ : List (ByteArray × ByteArray)) (ks : List Int) : (⟨⟨kind, tag, words, at_, parent, ks⟩, av, kv⟩ : Pn).cells = [.int .i64 kind, .string tag, .string words, av, .int .i64 parent, kv] := rfl

/-- the append of 'add', as one step -/
theorem step_add {w : World} {M : Nat → Lab} {tb : Nat} {uv : Value} {ps : List Pn} {us : List Value} {a : Option Addr} {cap : Nat} (h : Lies w M tb (.slice a ps.length cap) uv ps us) (hn : ps.length ≤ 400) (kind : Int) (tag words : ByteArray) (aa : Option Addr) (al acp : Nat) (at_ : List (ByteArray × ByteArray))
    (ha : Row w M (.attrs ps.length) 79 2 (.slice aa al acp) at_.length (attrCells at_)) (o1 : Obj)
    {ops : Array Oper} {o : Oper} {ac : Act} {K : Act → World → Prop} {Q : Exit → Act → World → Prop} {E : Prop} (hgd : o.guard = none)
    (ho : o.op = .call { callee := .builtin .append, args := #[.tmp 10, .tmp 12], argTypes := #[41, 41] })
    (hs : ac.eval (.tmp 10) = .slice a ps.length cap) (hx : ac.eval (.tmp 12) = .slice (some ⟨w.heap.size + 1, 0, none⟩) 1 1)
    (hK : ∀ g cap1 w1 M1, Hid (Lies (w1.setCell ⟨tb, 0, none⟩ (.slice (some ⟨g, 0, none⟩) (ps.length + 1) cap1)) M1 tb (.slice (some ⟨g, 0, none⟩) (ps.length + 1) cap1) uv (ps ++ [⟨⟨kind, tag, words, at_, -1, []⟩, .slice aa al acp, .slice none 0 0⟩]) us ∧ Moved w M (w1.setCell ⟨tb, 0, none⟩ (.slice (some ⟨g, 0, none⟩) (ps.length + 1) cap1)) M1) →
      w1.cell? ⟨tb, 0, none⟩ = some (.slice a ps.length cap) → w1.frozen? ⟨tb, 0, none⟩ = false → K (ac.put o.dst (.slice (some ⟨g, 0, none⟩) (ps.length + 1) cap1)) w1) :
    if Region.wanted o (yielded ops ac.tmps) = true then Oper.wp Tryz.prog o ac (((w.alloc o1).alloc (.cells #[.int .i64 kind, .string tag, .string words, .slice aa al acp, .int .i64 (-1), .slice none 0 0] 40)).drew) K Q else E := by
  obtain ⟨i0, hi, hz0, hz1, hz2⟩ := info_parts Tryz.infoNode
  have H := ((h.alloc o1).alloc (.cells #[.int .i64 kind, .string tag, .string words, .slice aa al acp, .int .i64 (-1), .slice none 0 0] 40)).drew
  have mv : Moved w M ((w.alloc o1).alloc (.cells #[.int .i64 kind, .string tag, .string words, .slice aa al acp, .int .i64 (-1), .slice none 0 0] 40)).drew M := (((Moved.refl w M).alloc o1).alloc _).drew
  refine step_app_row _ hgd (.tmp 10) (.tmp 12) 41 ho M .nodes 40 i0 _ 6 96 Tryz.underlying41 hi hz0 hz1 hz2 rfl (by decide) (.slice a ps.length cap) ps.length (flat ps) hs H.nodes ⟨w.heap.size + 1, 0, none⟩ 1 1 [.int .i64 kind, .string tag, .string words, .slice aa al acp, .int .i64 (-1), .slice none 0 0] hx rfl (news_two w o1 #[.int .i64 kind, .string tag, .string words, .slice aa al acp, .int .i64 (-1), .slice none 0 0] 40) (by simp [Value.oneCell']) (by decide) (by unfold maxLen; omega) (by omega) H.fresh ?_
  intro g cap1 w1 M1 hr st
  obtain ⟨hc0, hc1, hf0, hf1⟩ := head_cell ((st.far tb (lt_of_heap H.head) (by rw [H.tree]; intro e; cases e)).trans H.head)
  have HR := H.headNodes (nv' := .slice (some ⟨g, 0, none⟩) (ps.length + 1) cap1) (qs := ps ++ [⟨⟨kind, tag, words, at_, -1, []⟩, .slice aa al acp, .slice none 0 0⟩]) st (by rw [List.length_append, flat_append]; exact hr) (by
    intro i p hp
    by_cases hi : i < ps.length
    · rw [List.getElem?_append_left hi] at hp
      exact H.node i p hp
    · rw [List.getElem?_append_right (by omega)] at hp
      have : i - ps.length = 0 := by
        rcases Nat.eq_zero_or_pos (i - ps.length) with e | e
        · exact e
        · rw [List.getElem?_eq_none (by simp; omega)] at hp; cases hp
      rw [this] at hp
      cases hp
      obtain rfl : i = ps.length := by omega
      refine ⟨ha.keep (fun b hb e => ?_) (fun _ _ => rfl), Row.nil _ _ _ _ _⟩
      exact (Below.heap_alloc (w.alloc o1) _ b (by simp; omega)).trans (Below.heap_alloc w o1 b hb))
  exact hK g cap1 w1 M1 ⟨HR.1, mv.trans HR.2⟩ hc0 hf0

set_option maxHeartbeats 2000000 in
set_option maxRecDepth 100000 in
theorem add_any {w : World} {M : Nat → Lab} {tb : Nat} {nv uv : Value} {ps : List Pn} {us : List Value} (h : Lies w M tb nv uv ps us) (hn : ps.length ≤ 400) (kind par : Int) (tag words : ByteArray) (aa : Option Addr) (al ac : Nat) (at_ : List (ByteArray × ByteArray))
    (ha : Row w M (.attrs ps.length) 79 2 (.slice aa al ac) at_.length (attrCells at_)) :
    Calls Tryz.prog 76 #[.pointer (some ⟨tb, 0, none⟩), .agg #[.int .i64 kind, .string tag, .string words, .slice aa al ac, .int .i64 par, .slice none 0 0]] w fun e w' =>
      e = .returned (.int .i64 ps.length) ∧ ∃ M' nv', Lies w' M' tb nv' uv (ps ++ [⟨⟨kind, tag, words, at_, -1, []⟩, .slice aa al ac, .slice none 0 0⟩]) us ∧ Moved w M w' M' := by
  obtain ⟨a, cap, rfl, hc, hm⟩ := h.nodes.shape
  have c0 := h.cell0
  have f0 := h.frozen 0
  have hlt : tb < w.heap.size := lt_of_heap h.head
  have H : Hid (Lies w M tb (.slice a ps.length cap) uv ps us) := h
  have HA : Hid (Row w M (.attrs ps.length) 79 2 (.slice aa al ac) at_.length (attrCells at_)) := ha
  clear h ha
  go_enter Tryz.func76, Tryz.ntmps76
  go_wp2
  go_region_law ((refine step_add H.out hn kind tag words aa al ac at_ HA.out _ (by rfl) (by rfl) (by simp [Act.eval]) (by simp [Act.eval]) ?_; intro g cap1 w1 M1 HR hc0 hf0))
  all_goals go_wp2
  all_goals go_ret
  all_goals exact ⟨ret_int (by omega), M1, _, HR.out.1, HR.out.2⟩
end Go.Proofs.YtjfklhfdonbpgaaGreatDoor

/- Which texts are names. -/
namespace Go.Proofs.YtjfklhfdonbpgaaGreatDoor
open Go.RowKit

def lowB (b : Int) : Bool := decide (97 ≤ b ∧ b ≤ 122)
def digB (b : Int) : Bool := decide (48 ≤ b ∧ b ≤ 57)
def signB (b : Int) : Bool := lowB b || digB b || b == 45 || b == 95 || b == 58
/-- the document's names -/
def nameB (s : ByteArray) : Bool := decide (0 < s.size) && decide (s.size ≤ 40) && lowB (s.data.toList.headD 0).toNat && s.data.toList.all fun c => signB c.toNat

theorem small_any (b : Int) (w : World) : Calls Tryz.prog 74 #[.int .u8 b] w fun e w' => e = .returned (.bool (lowB b)) ∧ w' = w := by
  go_enter Tryz.func74, Tryz.ntmps74
  go_wp2
  all_goals go_ret
  all_goals refine ⟨ret_bool ?_, rfl⟩
  all_goals (unfold lowB; simp; try omega)
theorem digit_any (b : Int) (w : World) : Calls Tryz.prog 75 #[.int .u8 b] w fun e w' => e = .returned (.bool (digB b)) ∧ w' = w := by
  go_enter Tryz.func75, Tryz.ntmps75
  go_wp2
  all_goals go_ret
  all_goals refine ⟨ret_bool ?_, rfl⟩
  all_goals (unfold digB; simp; try omega)

theorem take_all (s : ByteArray) (k : Nat) (h : k < s.size) (f : UInt8 → Bool) : ((s.data.toList.take (k + 1)).all f) = ((s.data.toList.take k).all f && f s[k]) := by
  rw [List.take_succ_eq_append_getElem (by simpa using h), List.all_append]
  simp
  rfl
theorem nameB_false (s : ByteArray) (k : Nat) (h : k < s.size) (hf : signB s[k].toNat = false) : nameB s = false := by
  have : (s.data.toList.all fun c => signB c.toNat) = false := by
    rw [List.all_eq_false]
    exact ⟨s[k], by exact List.getElem_mem (l := s.data.toList) (by simpa using h), by simpa using hf⟩
  unfold nameB
  rw [this, Bool.and_false]
theorem head_eq (s : ByteArray) (h0 : 0 < s.size) : s.data.toList.headD 0 = s[0] := by
  have hl : 0 < s.data.toList.length := by simpa using h0
  rw [List.headD_eq_head?_getD, List.head?_eq_getElem?, List.getElem?_eq_getElem hl]
  rfl
theorem nameB_low (s : ByteArray) (h0 : 0 < s.size) (h : lowB s[0].toNat = false) : nameB s = false := by
  unfold nameB
  rw [head_eq s h0, h]
  simp
theorem nameB_true (s : ByteArray) (h0 : 0 < s.size) (h1 : s.size ≤ 40) (h2 : lowB s[0].toNat = true) (h3 : (s.data.toList.take s.size).all (fun c => signB c.toNat) = true) : nameB s = true := by
  have e : s.data.toList.take s.size = s.data.toList := List.take_of_length_le (by simp)
  rw [e] at h3
  have e2 : s.data.toList.headD 0 = s[0] := by
    have hl : 0 < s.data.toList.length := by simpa using h0
    rw [List.headD_eq_head?_getD, List.head?_eq_getElem?, List.getElem?_eq_getElem hl]
    rfl
  unfold nameB
  rw [h3, e2, h2]
  simp [h0, h1]

theorem empty_of (s : ByteArray) (h : s.size = 0) : s.toList.isEmpty = true := by
  rw [← decide_eq_emptyBytes, decide_eq_true_eq]
  apply ByteArray.ext
  exact Array.eq_empty_of_size_eq_zero h
theorem not_empty (s : ByteArray) (h : 0 < s.size) : s.toList.isEmpty = false := by
  rw [← decide_eq_emptyBytes, decide_eq_false_iff_not]
  intro e
  subst e
  simp at h

theorem round_up (s : ByteArray) (k : Nat) (h : k < s.size) (ha : Hid ((s.data.toList.take k).all (fun c => signB c.toNat) = true)) (H : Hid (signB s[k].toNat = true)) : Hid ((s.data.toList.take (k + 1)).all (fun c => signB c.toNat) = true) := by
  show (s.data.toList.take (k + 1)).all (fun c => signB c.toNat) = true
  rw [take_all s k h, ha.out, H.out]
  rfl

set_option maxHeartbeats 4000000 in
set_option maxRecDepth 100000 in
theorem name_any (s : ByteArray) (w : World) : Calls Tryz.prog 49 #[.string s] w fun e w' => e = .returned (.bool (nameB s)) ∧ w' = w := by
  by_cases h0 : s.size = 0
  · have hN : nameB s = false := by unfold nameB; simp [h0]
    have H : Hid (nameB s = false) := hN
    clear hN
    have he := empty_of s h0
    go_enter Tryz.func49, Tryz.ntmps49
    go_wp2
    go_ret
    exact ⟨ret_bool H.out.symm, rfl⟩
  · have he := not_empty s (by omega)
    have hp : 0 < s.size := by omega
    by_cases h4 : 40 < s.size
    · have hN : nameB s = false := by unfold nameB; simp [show ¬ s.size ≤ 40 by omega]
      have H : Hid (nameB s = false) := hN
      clear hN
      go_enter Tryz.func49, Tryz.ntmps49
      go_wp2
      all_goals go_ret
      all_goals exact ⟨ret_bool H.out.symm, rfl⟩
    · cases hl : lowB s[0].toNat
      · have H : Hid (nameB s = false) := nameB_low s hp hl
        go_enter Tryz.func49, Tryz.ntmps49
        go_wp2_with (go_at_call 74; refine (small_any _ _).mono ?_; rintro e w' ⟨rfl, rfl⟩; rw [hl])
        all_goals go_ret
        all_goals exact ⟨ret_bool H.out.symm, rfl⟩
      · go_enter Tryz.func49, Tryz.ntmps49
        go_wp2_with (go_at_call 74; refine (small_any _ _).mono ?_; rintro e w' ⟨rfl, rfl⟩; rw [hl])
        go_loop [19] (fun i => ∃ k : Nat, k ≤ s.size ∧ i = .int .i64 k ∧ Hid ((s.data.toList.take k).all (fun c => signB c.toNat) = true)) (fun i => s.size - (intOf i).toNat)
        case atStart => exact ⟨0, by omega, rfl, (show ((s.data.toList.take 0).all (fun c => signB c.toNat) = true) by simp)⟩
        case round =>
          obtain ⟨k, hk, rfl, ha⟩ := hrel
          by_cases hlt : k < s.size
          · cases hs : signB s[k].toNat
            · have H : Hid (nameB s = false) := nameB_false s k hlt hs
              unfold signB at hs
              simp only [Bool.or_eq_false_iff, beq_eq_false_iff_ne, ne_eq] at hs
              obtain ⟨⟨⟨⟨q1, q2⟩, q3⟩, q4⟩, q5⟩ := hs
              go_wp2_with (first | (go_at_call 74; refine (small_any _ _).mono ?_; rintro e w' ⟨rfl, rfl⟩; rw [q1]) | (go_at_call 75; refine (digit_any _ _).mono ?_; rintro e w' ⟨rfl, rfl⟩; rw [q2]))
              all_goals go_light
              all_goals first | (go_ret; exact ⟨ret_bool H.out.symm, rfl⟩) | (rename_i hh; exfalso; rcases hh with (hh | hh) | hh <;> simp at hh <;> omega)
            · have H : Hid (signB s[k].toNat = true) := hs
              clear hs
              go_wp2_with (first | (go_at_call 74; refine (small_any _ _).mono ?_; rintro e w' ⟨rfl, rfl⟩; cases q1 : lowB s[k].toNat) | (go_at_call 75; refine (digit_any _ _).mono ?_; rintro e w' ⟨rfl, rfl⟩; cases q2 : digB s[k].toNat))
              all_goals go_light
              all_goals first | (refine ⟨⟨k + 1, by omega, by go_num, round_up s k hlt ha H⟩, ?_⟩; simp [intOf]; omega) | (rename_i h1 h2 hh; exfalso; have hs := H.out; unfold signB at hs; simp [*] at hs; simp at hh; omega)
          · have hke : k = s.size := by omega
            have H : Hid (nameB s = true) := nameB_true s hp (by omega) hl (by rw [← hke]; exact ha.out)
            go_wp2
            go_ret
            exact ⟨ret_bool H.out.symm, rfl⟩
end Go.Proofs.YtjfklhfdonbpgaaGreatDoor

/- New trees and new nodes. -/
namespace Go.Proofs.YtjfklhfdonbpgaaGreatDoor
open Go.RowKit

/-- the variables of package api's errors -/
def errG (g : Nat) : Bool := g == 0 || g == 3 || g == 1 || g == 2
/-- package api's errors lie in memory -/
structure Errs (w : World) (M : Nat → Lab) : Prop where
  lab : ∀ g, errG g = true → M g = .other
  cell : ∀ g, errG g = true → ∃ t a, w.cell? ⟨g, 0, none⟩ = some (.iface t (.pointer (some a)))

theorem Errs.moved {w w' : World} {M M' : Nat → Lab} (h : Errs w M) (m : Moved w M w' M') : Errs w' M' where
  lab g hg := by
    obtain ⟨t, a, hc⟩ := h.cell g hg
    exact (m.lab g (World.block_lt_of_cell? w _ hc)).trans (h.lab g hg)
  cell g hg := by
    obtain ⟨t, a, hc⟩ := h.cell g hg
    have hlt : g < w.heap.size := World.block_lt_of_cell? w _ hc
    exact ⟨t, a, (World.cell?_of_block (a := ⟨g, 0, none⟩) (m.far g hlt (h.lab g hg))).trans hc⟩
theorem Errs.below {w w' : World} {M : Nat → Lab} (h : Errs w M) (m : Below w.heap.size w w') : Errs w' M := h.moved ((Moved.refl w M).below m)

def docP : Pn := ⟨⟨1, ⟨#[]⟩, ⟨#[]⟩, [], -1, []⟩, .slice none 0 0, .slice none 0 0⟩

theorem below_drewN {B : Nat} {a w : World} (h : Below B a w) (n : Nat) : Below B a (w.drewN n) := ⟨h.os, h.tape, h.output, h.size, h.block⟩

set_option maxHeartbeats 1000000 in
theorem new_any (w : World) : Calls Tryz.prog 4 #[] w fun e w' => ∃ tb nv uv M', e = .returned (.pointer (some ⟨tb, 0, none⟩)) ∧ Lies w' M' tb nv uv [docP] [] ∧ Moved w (fun _ => .other) w' M' := by
  go_enter Tryz.func4, Tryz.ntmps4
  go_wp2
  go_ret
  have e1 : ∀ b, b < w.heap.size → b ≠ w.heap.size ∧ b ≠ w.heap.size + 1 := fun b hb => ⟨by omega, by omega⟩
  refine ⟨w.heap.size + 1, .slice (some ⟨w.heap.size, 0, none⟩) 1 1, .slice none 0 0, fun b => if b = w.heap.size then .nodes else if b = w.heap.size + 1 then .tree else .other, rfl, ⟨?_, by simp, ?_, ?_, Row.nil _ _ _ _ _, ?_⟩, ⟨rfl, rfl, rfl, by simp; omega, ?_, ?_⟩⟩
  · intro b hb
    have hb' : w.heap.size + 1 + 1 ≤ b := by simpa using hb
    simp [show b ≠ w.heap.size by omega, show b ≠ w.heap.size + 1 by omega]
  · have := heap_alloc_new (w.alloc (.cells #[.int .i64 1, .string ⟨#[]⟩, .string ⟨#[]⟩, .slice none 0 0, .int .i64 (-1), .slice none 0 0] 40)) (.cells #[.slice (some ⟨w.heap.size, 0, none⟩) 1 1, .slice none 0 0] 44)
    simpa using this
  · refine ⟨rfl, some ⟨w.heap.size, 0, none⟩, 1, rfl, by decide, by unfold maxLen; omega, .inr ⟨w.heap.size, #[.int .i64 1, .string ⟨#[]⟩, .string ⟨#[]⟩, .slice none 0 0, .int .i64 (-1), .slice none 0 0], rfl, by simp, ?_, by simp, rfl⟩⟩
    rw [Below.heap_alloc _ _ _ (by simp)]
    exact heap_alloc_new w _
  · intro i p hp
    have : i = 0 := by
      rcases Nat.eq_zero_or_pos i with e | e
      · exact e
      · rw [List.getElem?_eq_none (by simp; omega)] at hp; cases hp
    subst this
    cases hp
    exact ⟨Row.nil _ _ _ _ _, Row.nil _ _ _ _ _⟩
  · intro b hb
    simp [e1 b hb]
  · intro b hb _
    rw [Below.heap_alloc _ _ _ (by simp; omega), Below.heap_alloc _ _ _ hb]

/-- an error of the program's -/
def isErr (v : Value) : Prop := ∃ t a, v = .iface t (.pointer (some a))

set_option maxHeartbeats 2000000 in
set_option maxRecDepth 100000 in
theorem create_bad {w : World} {M : Nat → Lab} {tb : Nat} {nv uv : Value} {ps : List Pn} {us : List Value} (h : Lies w M tb nv uv ps us) (hE : Errs w M) (hn : ps.length ≤ 400) (kind : Int) (tag words : ByteArray) (hbad : 20000 < words.size ∨ ps.length = 400) :
    Calls Tryz.prog 50 #[.pointer (some ⟨tb, 0, none⟩), .agg #[.int .i64 kind, .string tag, .string words, .slice none 0 0, .int .i64 0, .slice none 0 0]] w fun e w' =>
      ∃ v, e = .returned (.tuple #[.int .i64 0, v]) ∧ isErr v ∧ Below w.heap.size w w' := by
  obtain ⟨t, a, hc⟩ := hE.cell 3 (by decide)
  have hlt : 3 < w.heap.size := World.block_lt_of_cell? w _ hc
  have H : Hid (Lies w M tb nv uv ps us) := h
  clear h hE
  by_cases h2 : 20000 < words.size
  · go_enter Tryz.func50, Tryz.ntmps50
    go_wp2
    go_quiet (fail)
    go_wp2
    go_ret2
    exact ⟨_, rfl, ⟨t, a, rfl⟩, below_drewN ((Below.refl _ _).alloc (Nat.le_refl _) _) _⟩
  · have hr : decide (ps.length < 400) = false := by simp; omega
    go_enter Tryz.func50, Tryz.ntmps50
    go_wp2_with (go_at_call 68; refine (room_any (H.out.alloc _) hn).mono ?_; rintro e w' ⟨rfl, rfl⟩; rw [hr])
    go_quiet (fail)
    go_wp2
    go_ret2
    exact ⟨_, rfl, ⟨t, a, rfl⟩, below_drewN ((Below.refl _ _).alloc (Nat.le_refl _) _) _⟩

/-- a new root -/
def newP (kind : Int) (tag words : ByteArray) : Pn := ⟨⟨kind, tag, words, [], -1, []⟩, .slice none 0 0, .slice none 0 0⟩

/-- a node was made -/
def Made (w : World) (M : Nat → Lab) (tb : Nat) (ps : List Pn) (us : List Value) (p : Pn) (e : Ending) (w' : World) : Prop :=
  e = .returned (.tuple #[.int .i64 ps.length, .nilIface]) ∧ ∃ M' nv' uv' f, Lies w' M' tb nv' uv' (ps ++ [p]) (us ++ [f]) ∧ Frg w' M' f tb ps.length ∧ Moved w M w' M'

theorem six_cells {w : World} {b : Nat} {t : TypeId} {fr : Nat × Nat} {a0 a1 a2 a3 a4 a5 : Value} (h : w.heap[b]? = some (.cells #[a0, a1, a2, a3, a4, a5] t fr)) :
    w.cell? ⟨b, 0, none⟩ = some a0 ∧ w.cell? ⟨b, 1, none⟩ = some a1 ∧ w.cell? ⟨b, 2, none⟩ = some a2 ∧ w.cell? ⟨b, 3, none⟩ = some a3 ∧ w.cell? ⟨b, 4, none⟩ = some a4 ∧ w.cell? ⟨b, 5, none⟩ = some a5 := by
  refine ⟨?_, ?_, ?_, ?_, ?_, ?_⟩ <;> (rw [cell_of_row w b _ _ _ _ h]; rfl)

set_option maxHeartbeats 2000000 in
set_option maxRecDepth 100000 in
theorem create_good {w : World} {M : Nat → Lab} {tb : Nat} {nv uv : Value} {ps : List Pn} {us : List Value} (h : Lies w M tb nv uv ps us) (hn : ps.length < 400) (hu : us.length ≤ 1099511627776) (kind : Int) (tag words : ByteArray) (hw : words.size ≤ 20000) :
    Calls Tryz.prog 50 #[.pointer (some ⟨tb, 0, none⟩), .agg #[.int .i64 kind, .string tag, .string words, .slice none 0 0, .int .i64 0, .slice none 0 0]] w (Made w M tb ps us (newP kind tag words)) := by
  have H : Hid (Lies w M tb nv uv ps us) := h
  have hr : decide (ps.length < 400) = true := by simp; omega
  clear h
  go_enter Tryz.func50, Tryz.ntmps50
  go_wp2_with (first
    | (go_at_call 68; refine (room_any (H.out.alloc _) (by omega)).mono ?_; rintro e w' ⟨rfl, rfl⟩; rw [hr])
    | (go_at_call 69; refine (forget_any (H.out.alloc _)).mono ?_; rintro e w1 ⟨ca, rfl, hF, hB⟩; have H1 : Hid _ := And.intro ((H.out.alloc _).below hB) (And.intro hF hB); clear hF hB)
    | (go_at_call 55; refine (keep_any H1.out.1 _ _ ca hu).mono ?_; rintro e w2 ⟨rfl, M2, uv2, hL2, hm2⟩; obtain ⟨hb0, hb1, hb2, hb3, hb4, hb5⟩ := six_cells (((hm2.far _ (Nat.lt_of_lt_of_le (by simp) H1.out.2.2.size) (H.out.fresh _ (Nat.le_refl _))).trans (H1.out.2.2.block _ (by simp))).trans (heap_alloc_new w _)); have H2 : Hid _ := And.intro hL2 hm2; clear hL2 hm2)
    | (go_at_call 76; refine (add_any H2.out.1 (by omega) kind 0 tag words none 0 0 [] (Row.nil _ _ _ _ _)).mono ?_; rintro e w3 ⟨rfl, M3, nv3, hL3, hm3⟩))
  go_ret2
  refine ⟨rfl, M3, nv3, uv2, _, hL3, (H1.out.2.1.moved H2.out.2).moved hm3, ?_⟩
  exact ((((Moved.refl _ _).alloc _).below H1.out.2.2).trans H2.out.2).trans hm3
end Go.Proofs.YtjfklhfdonbpgaaGreatDoor

/- What looks at a tree: kids, places, ways. -/
namespace Go.Proofs.YtjfklhfdonbpgaaGreatDoor
open Go.RowKit

theorem Tryz.infoInt : (Tryz.prog.info? 3).map (fun i => (i.zero, i.size, i.bytes)) = some (some (.int .i64 0), 1, 8) := by kernel_rfl

set_option maxHeartbeats 1000000 in
set_option maxRecDepth 100000 in
theorem clone_any {w : World} {M : Nat → Lab} {l : Lab} {v : Value} {n : Nat} {xs : List Int} (h : Row w M l 3 1 v n (xs.map intV)) (hn : n ≤ 1099511627776) :
    Calls Tryz.prog 47 #[v] w fun e w' => ∃ v', e = .returned v' ∧ w'.ownsRow w.heap.size 3 1 v' n (xs.map intV) ∧ Below w.heap.size w w' := by
  obtain ⟨i0, hi, hz0, hz1, hz2⟩ := info_parts Tryz.infoInt
  have qs : ∀ (w : World) (a : Option Addr) (n c n' c' : Nat), (binOp .eql 38 (.slice a n c) (.slice none n' c')).run Tryz.prog w = .ok (.bool a.isNone) w := fun w a n c n' c' => Lib.run_eql_slice_nil w _ _ a n c n' c' Tryz.underlying38
  obtain ⟨hl, a, cap, rfl, h1, h2, h3⟩ := id h
  cases a with
  | none =>
    have hz : n = 0 ∧ cap = 0 := by
      rcases h3 with ⟨h3, _⟩ | ⟨g, cur, ha, _⟩
      · exact ⟨by omega, h3⟩
      · cases ha
    obtain ⟨rfl, rfl⟩ := hz
    have hx : xs.map intV = [] := List.eq_nil_of_length_eq_zero (by simpa using hl)
    have HX : Hid (xs.map intV = []) := hx
    clear h hl h3 hx
    go_enter Tryz.func47, Tryz.ntmps47
    go_wp2
    go_ret
    exact ⟨_, rfl, by rw [HX.out]; exact World.ownsRow_nil _ _ _ _, Below.refl _ _⟩
  | some ad =>
    obtain ⟨g, rfl⟩ : ∃ g, ad = ⟨g, 0, none⟩ := by
      rcases h3 with ⟨_, h3 | ⟨g, h3⟩⟩ | ⟨g, cur, ha, _⟩
      · cases h3
      · exact ⟨g, by cases h3; rfl⟩
      · exact ⟨g, by cases ha; rfl⟩
    have hcells : Hid (∀ j u, (xs.map intV)[j]? = some u → (w.alloc (.cells #[] 3)).cell? ((⟨g, 0, none⟩ : Addr).add j) = some u) := by
      intro j u hu
      have hadd : (⟨g, 0, none⟩ : Addr).add j = ⟨g, j, none⟩ := by unfold Addr.add; split <;> simp_all
      have hc := (h.cell rfl hu).1
      rw [hadd]
      exact (World.cell?_of_block (a := ⟨g, j, none⟩) (Below.heap_alloc w _ g (World.block_lt_of_cell? w _ hc))).trans hc
    have hone : Hid (∀ u ∈ xs.map intV, u.oneCell' = true) := by
      intro u hu
      obtain ⟨k, _, rfl⟩ := List.mem_map.1 hu
      rfl
    have hown : Hid ((w.alloc (.cells #[] 3)).ownsRow w.heap.size 3 1 (.slice (some ⟨w.heap.size, 0, none⟩) 0 0) 0 []) := World.ownsRow_made w #[] 0 (Nat.le_refl _) (by unfold maxLen; omega) rfl
    have HL : Hid ((xs.map intV).length = n * 1) := hl
    clear h hl h3
    unfold maxLen at h2
    go_enter Tryz.func47, Tryz.ntmps47
    go_wp2_with (at_builtin; refine wpList_append_own_at _ (by rfl) (.tmp 5) (.tmp 6) 38 (by rfl) w.heap.size 3 i0 (.int .i64 0) 1 8 Tryz.underlying38 hi hz0 hz1 hz2 rfl (by decide) (.slice (some ⟨w.heap.size, 0, none⟩) 0 0) 0 [] (by rfl) hown.out ⟨g, 0, none⟩ n cap (xs.map intV) (by rfl) HL.out hcells.out hone.out (by unfold maxLen; omega) (by omega) (by simp) ?_; intro v' w' hv hg _ _; have HV : Hid _ := And.intro hv hg; clear hv hg)
    go_ret
    refine ⟨_, rfl, by simpa using HV.out.1, ?_⟩
    exact ((Below.refl _ _).alloc (Nat.le_refl _) _).grown HV.out.2 (by simp) (fun k hk => by simp [Value.ownBlock] at hk; omega)

set_option maxHeartbeats 1000000 in
theorem kids_any {w : World} {M : Nat → Lab} {tb : Nat} {nv uv : Value} {ps : List Pn} {us : List Value} (h : Lies w M tb nv uv ps us) {i : Nat} {p : Pn} (hp : ps[i]? = some p) (hk : p.n.kids.length ≤ 1099511627776) :
    Calls Tryz.prog 17 #[.pointer (some ⟨tb, 0, none⟩), .int .i64 i] w fun e w' => ∃ v', e = .returned v' ∧ w'.ownsRow w.heap.size 3 1 v' p.n.kids.length (p.n.kids.map intV) ∧ Below w.heap.size w w' := by
  have hb := hasB_of hp
  obtain ⟨nb, cap, rfl, hc, hm, _, _, hi⟩ := h.form hp
  have c0 := h.cell0
  have c5 := (h.cellN rfl (f := 5) hp (by omega) rfl).1
  have hr := (h.node i p hp).2
  obtain ⟨ka, kc, hkv, _, _⟩ := hr.shape
  rw [hkv] at c5
  have HR : Hid (Row w M (.kids i) 3 1 (.slice ka p.n.kids.length kc) p.n.kids.length (p.n.kids.map intV)) := hkv ▸ hr
  have H : Hid (Lies w M tb (.slice (some ⟨nb, 0, none⟩) ps.length cap) uv ps us) := h
  unfold maxLen at hm
  clear h hr hkv
  go_enter Tryz.func17, Tryz.ntmps17
  go_wp2_with (first
    | (go_at_call 45; refine (has_any H.out _).mono ?_; rintro e w' ⟨rfl, rfl⟩; rw [hb])
    | (go_at_call 47; refine (clone_any HR.out hk).mono ?_; rintro e w1 ⟨v1, rfl, ho, hB⟩))
  go_ret
  exact ⟨_, rfl, ho, hB⟩

def kidsB (k : Int) : Bool := decide (k = 1 ∨ k = 2)
set_option maxHeartbeats 1000000 in
theorem mayHaveKids_any {w : World} {M : Nat → Lab} {tb : Nat} {nv uv : Value} {ps : List Pn} {us : List Value} (h : Lies w M tb nv uv ps us) {i : Nat} {p : Pn} (hp : ps[i]? = some p) :
    Calls Tryz.prog 53 #[.pointer (some ⟨tb, 0, none⟩), .int .i64 i] w fun e w' => e = .returned (.bool (kidsB p.n.kind)) ∧ w' = w := by
  obtain ⟨nb, cap, rfl, hc, hm, _, _, hi⟩ := h.form hp
  have c0 := h.cell0
  have c4 := (h.cellN rfl (f := 0) hp (by omega) rfl).1
  rw [Nat.add_zero] at c4
  unfold maxLen at hm
  clear h
  go_enter Tryz.func53, Tryz.ntmps53
  go_wp2
  all_goals go_ret
  all_goals refine ⟨ret_bool ?_, rfl⟩
  all_goals (unfold kidsB; by_cases h1 : p.n.kind = 1 <;> by_cases h2 : p.n.kind = 2 <;> simp_all)

set_option maxHeartbeats 2000000 in
theorem index_any {w : World} {M : Nat → Lab} {l : Lab} {v : Value} {n : Nat} {xs : List Int} (h : Row w M l 3 1 v n (xs.map intV)) (x : Int) (hx : x ∈ xs) :
    Calls Tryz.prog 100 #[v, .int .i64 x] w fun e w' => e = .returned (.int .i64 (idx xs x : Nat)) ∧ w' = w := by
  have hln : xs.length = n := by have := h.1; simpa using this
  have hpos : 0 < n := by
    rw [← hln]
    exact List.length_pos_of_mem hx
  obtain ⟨g, cap, rfl, hc, hm, _, _⟩ := h.form hpos
  unfold maxLen at hm
  have hcell : Hid (∀ k y, xs[k]? = some y → w.cell? ⟨g, k, none⟩ = some (.int .i64 y)) := by
    intro k y hk
    exact (h.cell rfl (j := k) (u := .int .i64 y) (by simp [hk, intV])).1
  have hlt : idx xs x < xs.length := List.findIdx_lt_length.2 ⟨x, hx, by simp⟩
  have HG : Hid (xs[idx xs x]? = some x) := idx_get hx
  have HB : Hid (∀ k, k < idx xs x → xs[k]? ≠ some x) := by
    intro k hk e
    have := List.not_of_lt_findIdx hk
    rw [List.getElem?_eq_getElem (by omega)] at e
    rw [Option.some.inj e] at this
    simp at this
  clear h
  generalize idx xs x = r at *
  go_enter Tryz.func100, Tryz.ntmps100
  go_wp2
  go_loop [8] (fun i => ∃ k : Nat, k ≤ r ∧ i = .int .i64 k) (fun i => r + 1 - (intOf i).toNat)
  case atStart => exact ⟨0, by omega, rfl⟩
  case round =>
    obtain ⟨k, hk, rfl⟩ := hrel
    have hks : ∃ y, xs[k]? = some y := ⟨xs[k]'(by omega), List.getElem?_eq_getElem _⟩
    obtain ⟨y, hy⟩ := hks
    have ck := hcell.out k y hy
    by_cases hkr : k = r
    · subst hkr
      obtain rfl : y = x := Option.some.inj (hy.symm.trans HG.out)
      clear hy
      go_wp2
      go_ret
      exact ⟨rfl, rfl⟩
    · have hne : (x == y) = false := by
        rw [beq_eq_false_iff_ne]
        intro e
        subst e
        exact HB.out k (by omega) hy
      have hne' : ¬ x = y := by simpa using hne
      clear hy
      go_wp2
      go_round
      case rel => exact ⟨k + 1, by omega, by go_num⟩
      case measure => simp [intOf]; omega
end Go.Proofs.YtjfklhfdonbpgaaGreatDoor

/- append onto a slice of the call's own, of another slice that may be nil. -/
namespace Go.Proofs.YtjfklhfdonbpgaaGreatDoor
open Go.RowKit

/-- what a slice yields -/
def SrcOf (w : World) (size : Nat) (x : Value) (m : Nat) (news : List Value) : Prop :=
  news.length = m * size ∧ (∀ u ∈ news, u.oneCell' = true) ∧ ∃ a c, x = .slice a m c ∧ ((a = none ∧ m = 0) ∨ ∃ ad, a = some ad ∧ ∀ j u, news[j]? = some u → w.cell? (ad.add j) = some u)

theorem SrcOf.keep {w w' : World} {size m : Nat} {x : Value} {news : List Value} (h : SrcOf w size x m news) (hc : ∀ a v, w.cell? a = some v → w'.cell? a = some v) : SrcOf w' size x m news := by
  obtain ⟨h1, h2, a, c, h3, h4⟩ := h
  refine ⟨h1, h2, a, c, h3, ?_⟩
  rcases h4 with h4 | ⟨ad, h5, h6⟩
  · exact .inl h4
  · exact .inr ⟨ad, h5, fun j u hu => hc _ _ (h6 j u hu)⟩

theorem add0 (g j : Nat) : (⟨g, 0, none⟩ : Addr).add j = ⟨g, j, none⟩ := by unfold Addr.add; split <;> simp_all

theorem Row.src {w : World} {M : Nat → Lab} {l : Lab} {e : TypeId} {size n : Nat} {v : Value} {xs : List Value} (h : Row w M l e size v n xs) (h1 : ∀ u ∈ xs, u.oneCell' = true) : SrcOf w size v n xs := by
  obtain ⟨a, cap, hv, hc, hm⟩ := h.shape
  refine ⟨h.1, h1, a, cap, hv, ?_⟩
  cases a with
  | none =>
    obtain ⟨_, a', cap', hv', _, _, h3⟩ := id h
    rw [hv] at hv'
    cases hv'
    rcases h3 with ⟨h3, _⟩ | ⟨g, cur, h3, _⟩
    · exact .inl ⟨rfl, by omega⟩
    · cases h3
  | some ad =>
    have hz : ∃ g, ad = ⟨g, 0, none⟩ := by
      obtain ⟨_, a', cap', hv', _, _, h3⟩ := id h
      rw [hv] at hv'
      cases hv'
      rcases h3 with ⟨_, h3 | ⟨g, h3⟩⟩ | ⟨g, cur, h3, _⟩
      · cases h3
      · exact ⟨g, by cases h3; rfl⟩
      · exact ⟨g, by cases h3; rfl⟩
    obtain ⟨g, rfl⟩ := hz
    refine .inr ⟨_, rfl, fun j u hu => ?_⟩
    rw [add0]
    exact (h.cell hv hu).1

theorem own_src {w : World} {B : Nat} {e : TypeId} {size n : Nat} {v : Value} {xs : List Value} (h : w.ownsRow B e size v n xs) (h1 : ∀ u ∈ xs, u.oneCell' = true) : SrcOf w size v n xs := by
  refine ⟨h.1, h1, ?_⟩
  rcases h.2 with ⟨rfl, rfl⟩ | ⟨g, cap, cur, rfl, hb, hg, _⟩
  · exact ⟨none, 0, rfl, .inl ⟨rfl, rfl⟩⟩
  · exact ⟨_, cap, rfl, .inr ⟨_, rfl, h.cells (g := g) rfl⟩⟩

theorem own_same {w w' : World} {B : Nat} {e : TypeId} {size n : Nat} {v : Value} {xs : List Value} (h : w.ownsRow B e size v n xs) (hs : ∀ k, v.ownBlock = some k → w'.heap[k]? = w.heap[k]?) : w'.ownsRow B e size v n xs := by
  refine ⟨h.1, ?_⟩
  rcases h.2 with h0 | ⟨g, cap, cur, rfl, hb, hg, h1⟩
  · exact .inl h0
  · exact .inr ⟨g, cap, cur, rfl, hb, (hs g rfl).trans hg, h1⟩
theorem own_below {w w' : World} {B C : Nat} {e : TypeId} {size n : Nat} {v : Value} {xs : List Value} (h : w.ownsRow B e size v n xs) (hb : Below C w w') (hC : w.heap.size ≤ C) : w'.ownsRow B e size v n xs :=
  own_same h fun k hk => hb.block k (Nat.lt_of_lt_of_le (h.lt k hk).2 hC)

section
variable {P : Program}

theorem run_app_own (w : World) (base : Nat) (t ty e : TypeId) (i : TypeInfo) (z : Value) (size bytes : Nat) (ht : P.underlying t = some (.slice e)) (hi : P.info? e = some i) (hz : i.zero = some z)
    (hsize : i.size = size) (hby : i.bytes = bytes) (hzs : z.cells.size = size) (hsz : 0 < size)
    (v : Value) (n : Nat) (xs : List Value) (hown : w.ownsRow base e size v n xs)
    (x : Value) (m : Nat) (news : List Value) (hsrc : SrcOf w size x m news)
    (h63 : n + m ≤ maxLen) (hbytes : (n + m) * bytes ≤ 140737488355328) (hbase : base ≤ w.heap.size) :
    ∃ v' w', (Builtin.append_ #[t, t] ty #[v, x]).run P w = .ok v' w' ∧ w'.ownsRow base e size v' (n + m) (xs ++ news) ∧ w.grownBy w' v.ownBlock ∧ (v'.ownBlock = v.ownBlock ∨ v'.ownBlock = some w.heap.size) := by
  obtain ⟨hl, h1, a, c, rfl, hs⟩ := hsrc
  rcases hs with ⟨rfl, rfl⟩ | ⟨ad, rfl, hnews⟩
  · have hn : news = [] := List.eq_nil_of_length_eq_zero (by simpa using hl)
    subst hn
    subst hsize
    refine ⟨v, w, ?_, by simpa using hown, ⟨rfl, rfl, rfl, Nat.le_refl _, fun _ _ _ => rfl⟩, .inl rfl⟩
    rcases hown.2 with ⟨rfl, rfl⟩ | ⟨g, cap, cur, rfl, hb, hg, hnc, _⟩
    · simp [Builtin.append_, run_underlying ht, sizeOf, typeInfo, hi, Builtin.lenOf, Builtin.firstCells]
    · simp [Builtin.append_, run_underlying ht, sizeOf, typeInfo, hi, Builtin.lenOf, Builtin.firstCells, loadCells, hnc, storeCells]
  · obtain ⟨v', w', h2, h3, h4, _, h5⟩ := run_append_own_at (P := P) w base t ty e i z size bytes ht hi hz hsize hby hzs hsz v n xs hown ad m c news hl hnews h1 h63 hbytes hbase
    exact ⟨v', w', h2, h3, h4, h5⟩

theorem wp_app_own (w : World) {o : Oper} {a : Act} {K : Act → World → Prop} {Q : Exit → Act → World → Prop} (s x : Operand) (t : TypeId)
    (ho : o.op = .call { callee := .builtin .append, args := #[s, x], argTypes := #[t, t] })
    (base : Nat) (e : TypeId) (i : TypeInfo) (z : Value) (size bytes : Nat) (ht : P.underlying t = some (.slice e)) (hi : P.info? e = some i) (hz : i.zero = some z)
    (hsize : i.size = size) (hby : i.bytes = bytes) (hzs : z.cells.size = size) (hsz : 0 < size)
    (v : Value) (n : Nat) (xs : List Value) (hs : a.eval s = v) (hown : w.ownsRow base e size v n xs)
    (xv : Value) (m : Nat) (news : List Value) (hx : a.eval x = xv) (hsrc : SrcOf w size xv m news)
    (h63 : n + m ≤ maxLen) (hbytes : (n + m) * bytes ≤ 140737488355328) (hbase : base ≤ w.heap.size)
    (h : ∀ v' w', w'.ownsRow base e size v' (n + m) (xs ++ news) → w.grownBy w' v.ownBlock → (v'.ownBlock = v.ownBlock ∨ v'.ownBlock = some w.heap.size) → K (a.put o.dst v') w') : o.wp P a w K Q := by
  obtain ⟨v', w', hr, h2, h3, h5⟩ := run_app_own (P := P) w base t o.type e i z size bytes ht hi hz hsize hby hzs hsz v n xs hown xv m news hsrc h63 hbytes hbase
  unfold Oper.wp execOp
  simp only [ho, resolve, invoke, builtin, Sem.run_bind, Sem.run_pure, Result.andThen_ok, List.map_toArray, List.map_cons, List.map_nil, hs, hx, hr]
  exact h v' w' h2 h3 h5

theorem wpList_app_own (w : World) {ops : Array Oper} {rest : List Oper} {o : Oper} {a : Act} {Q : Exit → Act → World → Prop} (hgd : o.guard = none) (s x : Operand) (t : TypeId)
    (ho : o.op = .call { callee := .builtin .append, args := #[s, x], argTypes := #[t, t] })
    (base : Nat) (e : TypeId) (i : TypeInfo) (z : Value) (size bytes : Nat) (ht : P.underlying t = some (.slice e)) (hi : P.info? e = some i) (hz : i.zero = some z)
    (hsize : i.size = size) (hby : i.bytes = bytes) (hzs : z.cells.size = size) (hsz : 0 < size)
    (v : Value) (n : Nat) (xs : List Value) (hs : a.eval s = v) (hown : w.ownsRow base e size v n xs)
    (xv : Value) (m : Nat) (news : List Value) (hx : a.eval x = xv) (hsrc : SrcOf w size xv m news)
    (h63 : n + m ≤ maxLen) (hbytes : (n + m) * bytes ≤ 140737488355328) (hbase : base ≤ w.heap.size)
    (h : ∀ v' w', w'.ownsRow base e size v' (n + m) (xs ++ news) → w.grownBy w' v.ownBlock → (v'.ownBlock = v.ownBlock ∨ v'.ownBlock = some w.heap.size) → wpList P ops Q rest (a.put o.dst v') w') :
    wpList P ops Q (o :: rest) a w :=
  wpList_plain hgd fun _ hK => wp_app_own w s x t ho base e i z size bytes ht hi hz hsize hby hzs hsz v n xs hs hown xv m news hx hsrc h63 hbytes hbase fun v' w' h2 h3 h5 => hK _ _ (h v' w' h2 h3 h5)
end
end Go.Proofs.YtjfklhfdonbpgaaGreatDoor

/- Where a kid stands; small facts on lists that a call owns. -/
namespace Go.Proofs.YtjfklhfdonbpgaaGreatDoor
open Go.RowKit

set_option maxHeartbeats 2000000 in
set_option maxRecDepth 100000 in
theorem place_any {w : World} {M : Nat → Lab} {tb : Nat} {nv uv : Value} {ps : List Pn} {us : List Value} (h : Lies w M tb nv uv ps us) {i q : Nat} {p m : Pn} (hp : ps[i]? = some p) (hq : p.n.parent = q) (hm : ps[q]? = some m) (hk : (i : Int) ∈ m.n.kids) :
    Calls Tryz.prog 88 #[.pointer (some ⟨tb, 0, none⟩), .int .i64 i] w fun e w' => e = .returned (.int .i64 (idx m.n.kids i : Nat)) ∧ ∃ n, w' = w.drewN n := by
  obtain ⟨nb, cap, rfl, hc, hmx, _, _, hi⟩ := h.form hp
  have hqi : q < ps.length := (List.getElem?_eq_some_iff.1 hm).1
  have c0 := h.cell0
  have c4 := (h.cellN rfl (f := 4) hp (by omega) rfl).1
  rw [hq] at c4
  have c5 := (h.cellN rfl (f := 5) hm (by omega) rfl).1
  have hr := (h.node q m hm).2
  obtain ⟨ka, kc, hkv, _, _⟩ := hr.shape
  rw [hkv] at c5
  have HR : Hid (Row w M (.kids q) 3 1 (.slice ka m.n.kids.length kc) m.n.kids.length (m.n.kids.map intV)) := hkv ▸ hr
  unfold maxLen at hmx
  have i1 : (0 : Int) ≤ (i : Int) := by omega
  have i2 : (i : Int) < (ps.length : Int) := by omega
  have i3 : (0 : Int) ≤ (q : Int) := by omega
  have i4 : (q : Int) < (ps.length : Int) := by omega
  clear h hr hkv hp hm hq
  go_enter Tryz.func88, Tryz.ntmps88
  go_wp2
  go_quiet ((go_at_call 100; refine Calls.quiet_of_same (index_any (M := M) (l := .kids q) (n := m.n.kids.length) ?_ _ hk); exact HR.out.keep (fun _ _ _ => rfl) (fun _ _ => rfl)))
  go_wp2
  go_ret
  exact ⟨rfl, _, rfl⟩

theorem own_cell {w : World} {B : Nat} {v : Value} {n : Nat} {xs : List Int} (h : w.ownsRow B 3 1 v n (xs.map intV)) : xs.length = n ∧ ∃ a c, v = .slice a n c ∧ n ≤ c ∧ c ≤ maxLen ∧ ∀ k y, xs[k]? = some y → ∃ g, a = some ⟨g, 0, none⟩ ∧ w.cell? ⟨g, k, none⟩ = some (.int .i64 y) ∧ w.frozen? ⟨g, k, none⟩ = false := by
  have hl : xs.length = n := by have := h.1; simpa using this
  refine ⟨hl, ?_⟩
  rcases h.2 with ⟨rfl, rfl⟩ | ⟨g, cap, cur, rfl, hb, hg, h1, h2, h3, h4⟩
  · refine ⟨none, 0, rfl, Nat.le_refl _, by unfold maxLen; omega, fun k y hk => ?_⟩
    rw [List.length_eq_zero_iff.1 hl] at hk
    simp at hk
  · refine ⟨_, cap, rfl, h1, h2, fun k y hk => ⟨g, rfl, ?_, ?_⟩⟩
    · rw [cell_of_row w g k cur 3 (0, 0) hg]
      have hk' : (xs.map intV)[k]? = some (.int .i64 y) := by simp [hk, intV]
      rw [← h4, List.getElem?_take] at hk'
      split at hk'
      · simpa using hk'
      · cases hk'
    · simp [World.frozen?, hg]

def nodesOf (ps : List Pn) : List Nd := ps.map Pn.n

theorem nodesOf_get {ps : List Pn} {i : Nat} {n : Nd} (h : (nodesOf ps)[i]? = some n) : ∃ p, ps[i]? = some p ∧ p.n = n := by
  simpa [nodesOf] using h

theorem below_size {B : Nat} {w w' : World} (h : Below B w w') : w.heap.size ≤ w'.heap.size := h.size

theorem own_keep {w w' : World} {A B : Nat} {v : Value} {n : Nat} {xs : List Value} (h : w.ownsRow A 3 1 v n xs) (hb : Below B w w') (hB : ∀ k, v.ownBlock = some k → k < B) : w'.ownsRow A 3 1 v n xs := by
  refine ⟨h.1, ?_⟩
  rcases h.2 with h0 | ⟨g, cap, cur, rfl, h1, h2, h3⟩
  · exact .inl h0
  · exact .inr ⟨g, cap, cur, rfl, h1, (hb.block g (hB g rfl)).trans h2, h3⟩

theorem hasB_lt {n i : Nat} (h : i < n) : hasB n i = true := by unfold hasB; simp; omega

theorem nodes_get {ps : List Pn} {j : Nat} {p : Pn} (h : ps[j]? = some p) : (nodesOf ps)[j]? = some p.n := by
  simp [nodesOf, h]

theorem one_attr (l : List (ByteArray × ByteArray)) : ∀ u ∈ attrCells l, u.oneCell' = true := by
  intro u hu
  obtain ⟨x, _, hx⟩ := List.mem_flatMap.1 hu
  simp at hx
  rcases hx with rfl | rfl <;> rfl

theorem one_int (l : List Int) : ∀ u ∈ l.map intV, u.oneCell' = true := by
  intro u hu
  obtain ⟨k, _, rfl⟩ := List.mem_map.1 hu
  rfl

theorem SrcOf.below {w w' : World} {size m : Nat} {x : Value} {news : List Value} (h : SrcOf w size x m news) (hb : Below w.heap.size w w') : SrcOf w' size x m news :=
  h.keep fun a _ hv => (hb.cell (World.block_lt_of_cell? w a hv)).trans hv

theorem own_shape {w : World} {B : Nat} {e : TypeId} {size n : Nat} {v : Value} {xs : List Value} (h : w.ownsRow B e size v n xs) : ∃ a c, v = .slice a n c := by
  rcases h.2 with ⟨rfl, rfl⟩ | ⟨g, cap, cur, rfl, _⟩
  · exact ⟨none, 0, rfl⟩
  · exact ⟨_, _, rfl⟩

theorem below_grown {w w' : World} (hg : w.grownBy w' none) : Below w.heap.size w w' := (Below.refl _ _).grown hg (Nat.le_refl _) (fun _ h => by cases h)
end Go.Proofs.YtjfklhfdonbpgaaGreatDoor

/- Where an attribute stands. -/
namespace Go.Proofs.YtjfklhfdonbpgaaGreatDoor
open Go.RowKit

def eqS (a b : ByteArray) : Bool := a.toList == b.toList
def findA (l : List (ByteArray × ByteArray)) (name : ByteArray) : Option Nat := l.findIdx? fun x => eqS x.1 name
def findI (l : List (ByteArray × ByteArray)) (name : ByteArray) : Int := match findA l name with
  | some k => k
  | none => -1

set_option maxHeartbeats 1000000 in
theorem find1_any (n v name : ByteArray) (b : Nat) (w : World) (hb : w.cell? ⟨b, 0, none⟩ = some (.string name)) :
    Calls Tryz.prog 84 #[.agg #[.string n, .string v], .pointer (some ⟨b, 0, none⟩)] w fun e w' => e = .returned (.bool (eqS n name)) ∧ Below w.heap.size w w' := by
  have hlt : b < w.heap.size := World.block_lt_of_cell? w _ hb
  go_enter Tryz.func84, Tryz.ntmps84
  go_wp2
  go_ret
  exact ⟨rfl, (Below.refl _ _).alloc (Nat.le_refl _) _⟩

theorem findI_some {l : List (ByteArray × ByteArray)} {name : ByteArray} {k : Nat} {x : ByteArray × ByteArray} (hx : l[k]? = some x) (he : eqS x.1 name = true) (hb : ∀ j, j < k → ∀ y, l[j]? = some y → eqS y.1 name = false) : findA l name = some k := by
  unfold findA
  rw [List.findIdx?_eq_some_iff_getElem]
  obtain ⟨hk, rfl⟩ := List.getElem?_eq_some_iff.1 hx
  refine ⟨hk, he, fun j hj => ?_⟩
  have := hb j hj l[j] (List.getElem?_eq_getElem (by omega))
  simp [this]
theorem findI_none {l : List (ByteArray × ByteArray)} {name : ByteArray} (hb : ∀ j, j < l.length → ∀ y, l[j]? = some y → eqS y.1 name = false) : findA l name = none := by
  unfold findA
  rw [List.findIdx?_eq_none_iff]
  intro x hx
  obtain ⟨j, hj, rfl⟩ := List.getElem_of_mem hx
  exact hb j hj _ (List.getElem?_eq_getElem hj)

set_option maxHeartbeats 4000000 in
set_option maxRecDepth 100000 in
theorem indexFunc_any {w : World} {M : Nat → Lab} {l : Lab} {v : Value} {at_ : List (ByteArray × ByteArray)} (h : Row w M l 79 2 v at_.length (attrCells at_)) (name : ByteArray) (b : Nat) (hb : w.cell? ⟨b, 0, none⟩ = some (.string name)) :
    Calls Tryz.prog 83 #[v, .func (.func 84) #[] #[.pointer (some ⟨b, 0, none⟩)]] w fun e w' => e = .returned (.int .i64 (findI at_ name)) ∧ Below w.heap.size w w' := by
  obtain ⟨a, cap, rfl, h1, h2⟩ := h.shape
  have hcell : Hid (∀ k x, at_[k]? = some x → ∃ g, a = some ⟨g, 0, none⟩ ∧ g < w.heap.size ∧ w.cell? ⟨g, k * 2, none⟩ = some (.string x.1) ∧ w.cell? ⟨g, k * 2 + 1, none⟩ = some (.string x.2)) := by
    intro k x hk
    have hkl : k < at_.length := (List.getElem?_eq_some_iff.1 hk).1
    obtain ⟨g, c, hv, _, _, _, hg⟩ := h.form (by omega)
    cases hv
    obtain ⟨q1, q2⟩ := attrCells_get at_ k x hk
    exact ⟨g, rfl, hg, (h.cell rfl q1).1, (h.cell rfl q2).1⟩
  have hlt : b < w.heap.size := World.block_lt_of_cell? w _ hb
  unfold maxLen at h2
  clear h
  go_enter Tryz.func83, Tryz.ntmps83
  go_wp2
  go_loopw [8] (fun i wr => ∃ k : Nat, k ≤ at_.length ∧ i = .int .i64 k ∧ Hid (∀ j, j < k → ∀ y, at_[j]? = some y → eqS y.1 name = false) ∧ Hid (Below w.heap.size w wr)) (fun i _ => at_.length - (intOf i).toNat)
  case atStart => exact ⟨0, by omega, rfl, (fun j hj => absurd hj (by omega) : ∀ j, j < 0 → ∀ y, at_[j]? = some y → eqS y.1 name = false), Below.refl _ _⟩
  case round =>
    obtain ⟨k, hk, rfl, hno, hbel⟩ := hrel
    by_cases hkl : k < at_.length
    · obtain ⟨x, hx⟩ : ∃ x, at_[k]? = some x := ⟨_, List.getElem?_eq_getElem hkl⟩
      obtain ⟨g, rfl, hg, c1, c2⟩ := hcell.out k x hx
      have c1' := (hbel.out.cell (p := ⟨g, k * 2, none⟩) hg).trans c1
      have c2' := (hbel.out.cell (p := ⟨g, k * 2 + 1, none⟩) hg).trans c2
      have hb' := (hbel.out.cell (p := ⟨b, 0, none⟩) hlt).trans hb
      have HX : Hid (at_[k]? = some x) := hx
      clear hx c1 c2
      cases he : eqS x.1 name
      · go_wp2_with (go_at_call 84; refine (find1_any x.1 x.2 name b _ hb').mono ?_; rintro e w1 ⟨rfl, hB⟩; rw [he])
        go_roundw
        case rel =>
          go_light
          refine ⟨k + 1, by omega, by go_num, ?_, (hbel.out.trans (hB.mono hbel.out.size) : Below w.heap.size w w1)⟩
          intro j hj y hy
          by_cases hjk : j = k
          · subst hjk
            obtain rfl := Option.some.inj (hy.symm.trans HX.out)
            exact he
          · exact hno.out j (by omega) y hy
        case measure => go_light; simp [intOf]; omega
      · have HF : Hid (findI at_ name = k) := by
          show findI at_ name = k
          simp only [findI, findI_some HX.out he hno.out]
        go_wp2_with (go_at_call 84; refine (find1_any x.1 x.2 name b _ hb').mono ?_; rintro e w1 ⟨rfl, hB⟩; rw [he])
        go_ret
        exact ⟨ret_int HF.out.symm, hbel.out.trans (hB.mono hbel.out.size)⟩
    · have hke : k = at_.length := by omega
      have HF : Hid (findI at_ name = -1) := by
        show findI at_ name = -1
        simp only [findI, findI_none (hke ▸ hno.out)]
      go_wp2
      go_ret
      exact ⟨ret_int HF.out.symm, hbel.out⟩

set_option maxHeartbeats 2000000 in
theorem find_any {w : World} {M : Nat → Lab} {tb : Nat} {uv : Value} {ps : List Pn} {us : List Value} {nb nc : Nat} (h : Lies w M tb (.slice (some ⟨nb, 0, none⟩) ps.length nc) uv ps us) {i : Nat} {p : Pn} (hp : ps[i]? = some p) (name : ByteArray) :
    Calls Tryz.prog 61 #[.pointer (some ⟨nb, i * 6, none⟩), .string name] w fun e w' => e = .returned (.int .i64 (findI p.n.attrs name)) ∧ Below w.heap.size w w' := by
  have c3 := (h.cellN rfl (f := 3) hp (by omega) rfl).1
  have hlt : nb < w.heap.size := World.block_lt_of_cell? w _ c3
  have hr := (h.node i p hp).1
  obtain ⟨ka, kc, hkv, _, _⟩ := hr.shape
  rw [hkv] at c3
  have HR : Hid (Row (w.alloc (.cells #[.string name] 9)) M (.attrs i) 79 2 (.slice ka p.n.attrs.length kc) p.n.attrs.length (attrCells p.n.attrs)) := by
    rw [hkv] at hr
    exact hr.keep (fun b hb _ => Below.heap_alloc w _ b hb) (fun _ _ => rfl)
  clear h hr hkv
  go_enter Tryz.func61, Tryz.ntmps61
  go_wp2_with (go_at_call 83; refine (indexFunc_any HR.out name _ (by simp)).mono ?_; rintro e w1 ⟨rfl, hB⟩)
  go_ret
  exact ⟨rfl, ((Below.refl _ _).alloc (Nat.le_refl _) _).trans (hB.mono (by simp))⟩

set_option maxHeartbeats 2000000 in
theorem wantElement_any {w : World} {M : Nat → Lab} {tb : Nat} {nv uv : Value} {ps : List Pn} {us : List Value} (h : Lies w M tb nv uv ps us) (hE : Errs w M) {i : Nat} {p : Pn} (hp : ps[i]? = some p) :
    Calls Tryz.prog 60 #[.pointer (some ⟨tb, 0, none⟩), .int .i64 i] w fun e w' => (∃ v, e = .returned v ∧ (if p.n.kind = 2 then v = .nilIface else isErr v)) ∧ w' = w := by
  have hb := hasB_of hp
  obtain ⟨nb, cap, rfl, hc, hm, _, _, hi⟩ := h.form hp
  obtain ⟨t, a, hc3⟩ := hE.cell 2 (by decide)
  have c0 := h.cell0
  have c4 := (h.cellN rfl (f := 0) hp (by omega) rfl).1
  rw [Nat.add_zero] at c4
  have H : Hid (Lies w M tb (.slice (some ⟨nb, 0, none⟩) ps.length cap) uv ps us) := h
  unfold maxLen at hm
  clear h hE
  by_cases hk : p.n.kind = 2
  · rw [hk] at c4
    simp only [if_pos hk]
    go_enter Tryz.func60, Tryz.ntmps60
    go_wp2_with (go_at_call 45; refine (has_any H.out _).mono ?_; rintro e w' ⟨rfl, rfl⟩; rw [hb])
    go_ret
    exact ⟨⟨_, rfl, rfl⟩, rfl⟩
  · have hkb : (p.n.kind == 2) = false := by simpa using hk
    simp only [if_neg hk]
    go_enter Tryz.func60, Tryz.ntmps60
    go_wp2_with (go_at_call 45; refine (has_any H.out _).mono ?_; rintro e w' ⟨rfl, rfl⟩; rw [hb])
    go_ret
    exact ⟨⟨_, rfl, ⟨t, a, rfl⟩⟩, rfl⟩
end Go.Proofs.YtjfklhfdonbpgaaGreatDoor

/- What Set makes of a tree. -/
namespace Go.Proofs.YtjfklhfdonbpgaaGreatDoor
open Go.RowKit

/-- a node's attributes turn: their row, and where the node says that it lies -/
theorem Lies.setAttrs {w w1 : World} {M M1 : Nat → Lab} {tb : Nat} {nv uv : Value} {ps : List Pn} {us : List Value} (h : Lies w M tb nv uv ps us) {nb m c0 : Nat} (hv : nv = .slice (some ⟨nb, 0, none⟩) m c0) {i : Nat} {p : Pn} (hp : ps[i]? = some p) (st : Step w M w1 M1 (.attrs i))
    {av' : Value} {at' : List (ByteArray × ByteArray)} (hr : Row w1 M1 (.attrs i) 79 2 av' at'.length (attrCells at')) :
    Lies (w1.setCell ⟨nb, i * 6 + 3, none⟩ av') M1 tb nv uv (ps.set i ⟨{ p.n with attrs := at' }, av', p.kv⟩) us ∧ Moved w M (w1.setCell ⟨nb, i * 6 + 3, none⟩ av') M1 ∧ (∃ u, w1.cell? ⟨nb, i * 6 + 3, none⟩ = some u) ∧ w1.frozen? ⟨nb, i * 6 + 3, none⟩ = false := by
  have hi : i < ps.length := (List.getElem?_eq_some_iff.1 hp).1
  obtain ⟨g, cap, hg, _, _, hM, hgl⟩ := h.nodes.form (by omega)
  have e1 : g = nb := by rw [hv] at hg; cases hg; rfl
  subst e1
  have hn1 : Row w1 M1 .nodes 40 6 nv ps.length (flat ps) := h.nodes.step st (by intro e; cases e)
  have hM1 : M1 g = .nodes := (st.lab g hgl).trans hM
  have st2 : Step w1 M1 (w1.setCell ⟨g, i * 6 + 3, none⟩ av') M1 .nodes := step_setCell av' hM1 st.fresh
  have hc := hn1.cell hv (flat_get ps i 3 p hp (by omega))
  refine ⟨⟨st2.fresh, (st.lab tb (lt_of_heap h.head)).trans h.tree, ?_, ?_, (h.undos.step st (by intro e; cases e)).step st2 (by intro e; cases e), ?_⟩, (st.moved (by intro e; cases e)).trans (st2.moved (by intro e; cases e)), ⟨_, hc.1⟩, hc.2⟩
  · have ht : M1 tb = .tree := (st.lab tb (lt_of_heap h.head)).trans h.tree
    have hl : tb < w1.heap.size := Nat.lt_of_lt_of_le (lt_of_heap h.head) st.size
    exact ((st2.far tb hl (by rw [ht]; intro e; cases e)).trans (st.far tb (lt_of_heap h.head) (by rw [h.tree]; intro e; cases e))).trans h.head
  · rw [List.length_set, flat_set ps i 3 p ⟨{ p.n with attrs := at' }, av', p.kv⟩ av' hp (by omega) rfl]
    exact hn1.set hv _ _ (by rw [flat_length]; omega)
  · intro j q hq
    by_cases hij : i = j
    · subst hij
      rw [List.getElem?_set_self hi] at hq
      cases hq
      exact ⟨hr.step st2 (by intro e; cases e), ((h.node i p hp).2.step st (by intro e; cases e)).step st2 (by intro e; cases e)⟩
    · rw [List.getElem?_set_ne hij] at hq
      exact ⟨((h.node j q hq).1.step st (by intro e; cases e; exact hij rfl)).step st2 (by intro e; cases e), ((h.node j q hq).2.step st (by intro e; cases e)).step st2 (by intro e; cases e)⟩

theorem flat_same (ps : List Pn) : ∀ (i : Nat) (p p' : Pn), ps[i]? = some p → p'.cells = p.cells → flat (ps.set i p') = flat ps := by
  induction ps with
  | nil => intro i p p' h; simp at h
  | cons q ps ih =>
    intro i p p' h he
    cases i with
    | zero => simp at h; subst h; rw [List.set_cons_zero, flat_cons, flat_cons, he]
    | succ i => rw [List.set_cons_succ, flat_cons, flat_cons, ih i p p' (by simpa using h) he]

/-- a node's attributes turn in their place -/
theorem Lies.turnAttrs {w w1 : World} {M M1 : Nat → Lab} {tb : Nat} {nv uv : Value} {ps : List Pn} {us : List Value} (h : Lies w M tb nv uv ps us) {i : Nat} {p : Pn} (hp : ps[i]? = some p) (st : Step w M w1 M1 (.attrs i))
    {at' : List (ByteArray × ByteArray)} (hr : Row w1 M1 (.attrs i) 79 2 p.av at'.length (attrCells at')) :
    Lies w1 M1 tb nv uv (ps.set i ⟨{ p.n with attrs := at' }, p.av, p.kv⟩) us ∧ Moved w M w1 M1 := by
  have hi : i < ps.length := (List.getElem?_eq_some_iff.1 hp).1
  refine ⟨⟨st.fresh, (st.lab tb (lt_of_heap h.head)).trans h.tree, (st.far tb (lt_of_heap h.head) (by rw [h.tree]; intro e; cases e)).trans h.head, ?_, h.undos.step st (by intro e; cases e), ?_⟩, st.moved (by intro e; cases e)⟩
  · rw [List.length_set, flat_same ps i p ⟨{ p.n with attrs := at' }, p.av, p.kv⟩ hp rfl]
    exact h.nodes.step st (by intro e; cases e)
  · intro j q hq
    by_cases hij : i = j
    · subst hij
      rw [List.getElem?_set_self hi] at hq
      cases hq
      exact ⟨hr, (h.node i p hp).2.step st (by intro e; cases e)⟩
    · rw [List.getElem?_set_ne hij] at hq
      exact ⟨(h.node j q hq).1.step st (by intro e; cases e; exact hij rfl), (h.node j q hq).2.step st (by intro e; cases e)⟩

/-- what Set makes of a list of attributes -/
def setAttr (l : List (ByteArray × ByteArray)) (name value : ByteArray) : List (ByteArray × ByteArray) := match findA l name with
  | some k => l.set k ((l.getD k (name, value)).1, value)
  | none => l ++ [(name, value)]

theorem Tryz.infoAttr : (Tryz.prog.info? 79).map (fun i => (i.zero, i.size, i.bytes)) = some (some (.agg #[.string ⟨#[]⟩, .string ⟨#[]⟩]), 2, 32) := by kernel_rfl

set_option maxHeartbeats 4000000 in
set_option maxRecDepth 100000 in
theorem set_bad {w : World} {M : Nat → Lab} {tb : Nat} {nv uv : Value} {ps : List Pn} {us : List Value} (h : Lies w M tb nv uv ps us) (hE : Errs w M) {i : Nat} {p : Pn} (hp : ps[i]? = some p) (name value : ByteArray) (hv : value.size ≤ 9223372036854775807) (hbad : p.n.kind ≠ 2 ∨ nameB name = false ∨ 20000 < value.size) :
    Calls Tryz.prog 30 #[.pointer (some ⟨tb, 0, none⟩), .int .i64 i, .string name, .string value] w fun e w' => (∃ v, e = .returned v ∧ isErr v) ∧ Below w.heap.size w w' := by
  obtain ⟨t1, a1, hc1⟩ := hE.cell 0 (by decide)
  obtain ⟨t2, a2, hc2⟩ := hE.cell 3 (by decide)
  have l1 : 0 < w.heap.size := World.block_lt_of_cell? w _ hc1
  have l2 : 3 < w.heap.size := World.block_lt_of_cell? w _ hc2
  have W0 : Hid (∀ o1 o2, Lies ((w.alloc o1).alloc o2) M tb nv uv ps us ∧ Errs ((w.alloc o1).alloc o2) M) := fun o1 o2 => ⟨(h.alloc o1).alloc o2, hE.below (((Below.refl _ _).alloc (Nat.le_refl _) _).alloc (by simp) _)⟩
  clear h hE
  by_cases hk : p.n.kind = 2
  · cases hn : nameB name
    · go_enter Tryz.func30, Tryz.ntmps30
      go_wp2_with (first
        | (go_at_call 60; refine (wantElement_any (W0.out _ _).1 (W0.out _ _).2 hp).mono ?_; rintro e w' ⟨⟨v, rfl, hv⟩, rfl⟩; rw [if_pos hk] at hv; subst hv)
        | (go_at_call 49; refine (name_any _ _).mono ?_; rintro e w' ⟨rfl, rfl⟩; rw [hn]))
      all_goals go_ret
      all_goals exact ⟨⟨_, rfl, ⟨t1, a1, rfl⟩⟩, ((Below.refl _ _).alloc (Nat.le_refl _) _).alloc (by simp) _⟩
    · have hvs : 20000 < value.size := by
        rcases hbad with h | h | h
        · exact absurd hk h
        · rw [hn] at h; cases h
        · exact h
      go_enter Tryz.func30, Tryz.ntmps30
      go_wp2_with (first
        | (go_at_call 60; refine (wantElement_any (W0.out _ _).1 (W0.out _ _).2 hp).mono ?_; rintro e w' ⟨⟨v, rfl, hv⟩, rfl⟩; rw [if_pos hk] at hv; subst hv)
        | (go_at_call 49; refine (name_any _ _).mono ?_; rintro e w' ⟨rfl, rfl⟩; rw [hn]))
      all_goals go_ret
      all_goals exact ⟨⟨_, rfl, ⟨t2, a2, rfl⟩⟩, ((Below.refl _ _).alloc (Nat.le_refl _) _).alloc (by simp) _⟩
  · go_enter Tryz.func30, Tryz.ntmps30
    go_wp2_with (go_at_call 60; refine (wantElement_any (W0.out _ _).1 (W0.out _ _).2 hp).mono ?_; rintro e w' ⟨⟨v, rfl, hv⟩, rfl⟩; rw [if_neg hk] at hv; obtain ⟨t3, a3, rfl⟩ := hv)
    all_goals go_ret
    all_goals exact ⟨⟨_, rfl, ⟨t3, a3, rfl⟩⟩, ((Below.refl _ _).alloc (Nat.le_refl _) _).alloc (by simp) _⟩
end Go.Proofs.YtjfklhfdonbpgaaGreatDoor

/- The end of a row is cleared, and cut off. -/
namespace Go.Proofs.YtjfklhfdonbpgaaGreatDoor
open Go.RowKit

section
variable {P : Program}
theorem clear_tail (w : World) (M : Nat → Lab) (l : Lab) (t e : TypeId) (z : Value) (size : Nat) (ht : P.underlying t = some (.slice e)) (hv : ∀ w, (zeroValue e).run P w = .ok z w) (hzs : z.cells.size = size) (hz1 : ∀ u ∈ z.cells.toList, u.oneCell' = true) (hsz : 0 < size)
    (g n k cap c : Nat) (xs ys : List Value) (hr : Row w M l e size (.slice (some ⟨g, 0, none⟩) (n + k) cap) (n + k) (xs ++ ys)) (hx : xs.length = n * size) (hk : 0 < k) (hfr : ∀ b, w.heap.size ≤ b → M b = .other) :
    ∃ w', (∀ ty, (Builtin.clear_ #[t] ty #[.slice (some ⟨g, n * size, none⟩) k c]).run P w = .ok (.tuple #[]) w') ∧ Row w' M l e size (.slice (some ⟨g, 0, none⟩) n cap) n xs ∧ Step w M w' M l := by
  obtain ⟨hl, a, cap', hv', h1, h2, h3⟩ := hr
  cases hv'
  rcases h3 with ⟨h3, _⟩ | ⟨g', cur, ha, hM, hg, h4, h5⟩
  · omega
  · cases ha
    have hzl : (Builtin.zeroCells z.cells k).toList.length = k * size := by simp [size_zeroCells, hzs]
    have hfit : n * size + k * size ≤ cur.size := by
      rw [← Nat.add_mul]
      exact Nat.le_trans (Nat.mul_le_mul_right _ h1) h4
    have hone : ∀ u ∈ (Builtin.zeroCells z.cells k).toList, u.oneCell' = true := by
      intro u hu
      simp only [Builtin.zeroCells, Array.toList_map, List.mem_map] at hu
      obtain ⟨j, hj, rfl⟩ := hu
      have hjs : j % z.cells.size < z.cells.size := Nat.mod_lt _ (by omega)
      rw [getElem!_pos z.cells _ hjs]
      exact hz1 _ (by simp)
    have hst := run_storeCells_at P g (n * size) e (Builtin.zeroCells z.cells k).toList 0 cur w hg (by rw [hzl]; simpa using hfit) hone
    rw [Nat.add_zero, hzl] at hst
    refine ⟨w.setRow g (cur.toList.take (n * size) ++ (Builtin.zeroCells z.cells k).toList ++ cur.toList.drop (n * size + k * size)).toArray, fun ty => ?_, ⟨hx, _, cap, rfl, by omega, h2, .inr ⟨g, _, rfl, hM, setRow_heap w g cur _ e _ hg, ?_, ?_⟩⟩, ⟨rfl, rfl, rfl, by simp [World.setRow], fun _ _ => rfl, ?_, ?_⟩⟩
    · obtain ⟨k', rfl⟩ : ∃ k', k = k' + 1 := ⟨k - 1, by omega⟩
      simp [Builtin.clear_, run_underlying ht, hv, hst]
    · simp only [List.size_toArray, List.length_append, List.length_take, List.length_drop, Array.length_toList, hzl]
      omega
    · have := congrArg (List.take (n * size)) h5
      rw [List.take_take, List.take_append_of_le_length (by omega), List.take_of_length_le (l := xs) (by omega), Nat.min_eq_left (Nat.mul_le_mul_right _ (by omega))] at this
      simp only [List.append_assoc]
      rw [List.take_append_of_le_length (by simp; omega), List.take_take, Nat.min_self, this]
    · intro b hb
      exact hfr b (by simpa [World.setRow] using hb)
    · intro b hb hne
      exact setRow_other w g b _ (fun e => hne (by rw [e]; exact hM))

theorem step_clear (w : World) {ops : Array Oper} {o : Oper} {a : Act} {K : Act → World → Prop} {Q : Exit → Act → World → Prop} {E : Prop} (hgd : o.guard = none) (x : Operand) (t : TypeId)
    (ho : o.op = .call { callee := .builtin .clear, args := #[x], argTypes := #[t] }) (v : Value) (hx : a.eval x = v) (w' : World) (hr : ∀ ty, (Builtin.clear_ #[t] ty #[v]).run P w = .ok (.tuple #[]) w')
    (h : K (a.put o.dst (.tuple #[])) w') : if Region.wanted o (yielded ops a.tmps) = true then Oper.wp P o a w K Q else E := by
  have hw : Region.wanted o (yielded ops a.tmps) = true := by simp [Region.wanted, hgd]
  rw [if_pos hw]
  unfold Oper.wp execOp
  simp only [ho, resolve, invoke, builtin, Sem.run_bind, Sem.run_pure, Result.andThen_ok, List.map_toArray, List.map_cons, List.map_nil, hx, hr]
  exact h
end
end Go.Proofs.YtjfklhfdonbpgaaGreatDoor

/- Elements, texts and comments; what undoes the making of a node; nothing can be undone any more. -/
namespace Go.Proofs.YtjfklhfdonbpgaaGreatDoor
open Go.RowKit

set_option maxHeartbeats 2000000 in
theorem element_good {w : World} {M : Nat → Lab} {tb : Nat} {nv uv : Value} {ps : List Pn} {us : List Value} (h : Lies w M tb nv uv ps us) (hn : ps.length < 400) (hu : us.length ≤ 1099511627776) (tag : ByteArray) (ht : nameB tag = true) :
    Calls Tryz.prog 20 #[.pointer (some ⟨tb, 0, none⟩), .string tag] w (Made w M tb ps us (newP 2 tag ⟨#[]⟩)) := by
  have H : Hid (Lies w M tb nv uv ps us) := h
  clear h
  go_enter Tryz.func20, Tryz.ntmps20
  go_wp2_with (first
    | (go_at_call 49; refine (name_any _ _).mono ?_; rintro e w' ⟨rfl, rfl⟩; rw [ht])
    | (go_at_call 50; refine (create_good H.out hn hu 2 tag ⟨#[]⟩ (by decide)).mono ?_; rintro e w' ⟨rfl, M', nv', uv', f, h1, h2, h3⟩))
  go_ret2
  exact ⟨rfl, M', nv', uv', f, h1, h2, h3⟩

set_option maxHeartbeats 2000000 in
theorem element_bad {w : World} {M : Nat → Lab} {tb : Nat} {nv uv : Value} {ps : List Pn} {us : List Value} (h : Lies w M tb nv uv ps us) (hE : Errs w M) (hn : ps.length ≤ 400) (tag : ByteArray) (hbad : nameB tag = false ∨ ps.length = 400) :
    Calls Tryz.prog 20 #[.pointer (some ⟨tb, 0, none⟩), .string tag] w fun e w' => ∃ v, e = .returned (.tuple #[.int .i64 0, v]) ∧ isErr v ∧ Below w.heap.size w w' := by
  obtain ⟨t, a, hc⟩ := hE.cell 0 (by decide)
  have H : Hid (Lies w M tb nv uv ps us) := h
  have HE : Hid (Errs w M) := hE
  clear h hE
  cases ht : nameB tag
  · go_enter Tryz.func20, Tryz.ntmps20
    go_wp2_with (go_at_call 49; refine (name_any _ _).mono ?_; rintro e w' ⟨rfl, rfl⟩; rw [ht])
    go_quiet (fail)
    go_wp2
    go_ret2
    exact ⟨_, rfl, ⟨t, a, rfl⟩, below_drewN (Below.refl _ _) _⟩
  · have h4 : ps.length = 400 := by rcases hbad with h | h; · rw [ht] at h; cases h
                                    · exact h
    go_enter Tryz.func20, Tryz.ntmps20
    go_wp2_with (first
      | (go_at_call 49; refine (name_any _ _).mono ?_; rintro e w' ⟨rfl, rfl⟩; rw [ht])
      | (go_at_call 50; refine (create_bad H.out HE.out hn 2 tag ⟨#[]⟩ (.inr h4)).mono ?_; rintro e w' ⟨v, rfl, ⟨t2, a2, rfl⟩, hB⟩))
    go_ret2
    exact ⟨_, rfl, ⟨t2, a2, rfl⟩, hB⟩

set_option maxHeartbeats 2000000 in
theorem text_good {w : World} {M : Nat → Lab} {tb : Nat} {nv uv : Value} {ps : List Pn} {us : List Value} (h : Lies w M tb nv uv ps us) (hn : ps.length < 400) (hu : us.length ≤ 1099511627776) (words : ByteArray) (hw : words.size ≤ 20000) :
    Calls Tryz.prog 23 #[.pointer (some ⟨tb, 0, none⟩), .string words] w (Made w M tb ps us (newP 3 ⟨#[]⟩ words)) := by
  have H : Hid (Lies w M tb nv uv ps us) := h
  clear h
  go_enter Tryz.func23, Tryz.ntmps23
  go_wp2_with (go_at_call 50; refine (create_good H.out hn hu 3 ⟨#[]⟩ words hw).mono ?_; rintro e w' ⟨rfl, M', nv', uv', f, h1, h2, h3⟩)
  go_ret2
  exact ⟨rfl, M', nv', uv', f, h1, h2, h3⟩
set_option maxHeartbeats 2000000 in
theorem comment_good {w : World} {M : Nat → Lab} {tb : Nat} {nv uv : Value} {ps : List Pn} {us : List Value} (h : Lies w M tb nv uv ps us) (hn : ps.length < 400) (hu : us.length ≤ 1099511627776) (words : ByteArray) (hw : words.size ≤ 20000) :
    Calls Tryz.prog 24 #[.pointer (some ⟨tb, 0, none⟩), .string words] w (Made w M tb ps us (newP 4 ⟨#[]⟩ words)) := by
  have H : Hid (Lies w M tb nv uv ps us) := h
  clear h
  go_enter Tryz.func24, Tryz.ntmps24
  go_wp2_with (go_at_call 50; refine (create_good H.out hn hu 4 ⟨#[]⟩ words hw).mono ?_; rintro e w' ⟨rfl, M', nv', uv', f, h1, h2, h3⟩)
  go_ret2
  exact ⟨rfl, M', nv', uv', f, h1, h2, h3⟩

set_option maxHeartbeats 1000000 in
theorem settle_any {w : World} {M : Nat → Lab} {tb : Nat} {nv uv : Value} {ps : List Pn} {us : List Value} (h : Lies w M tb nv uv ps us) :
    Calls Tryz.prog 37 #[.pointer (some ⟨tb, 0, none⟩)] w fun e w' => e = .returned (.tuple #[]) ∧ Lies w' M tb nv (.slice none 0 0) ps [] ∧ Moved w M w' M := by
  have c1 := h.cell1
  have f1 := h.frozen 1
  have HR : Hid _ := h.headUndos (uv' := .slice none 0 0) (us' := []) (w1 := w) (M1 := M) ⟨rfl, rfl, rfl, Nat.le_refl _, fun _ _ => rfl, h.fresh, fun _ _ _ => rfl⟩ (Row.nil _ _ _ _ _)
  clear h
  go_enter Tryz.func37, Tryz.ntmps37
  go_wp2
  go_end0
  exact ⟨rfl, HR.out.1, HR.out.2⟩

/-- the last of the kept functions is let go -/
theorem Lies.pop {w : World} {M : Nat → Lab} {tb : Nat} {nv : Value} {ps : List Pn} {us : List Value} {f : Value} {ub uc m : Nat} (h : Lies w M tb nv (.slice (some ⟨ub, 0, none⟩) m uc) ps (us ++ [f])) :
    Lies ((w.setCell ⟨ub, us.length, none⟩ .nilFunc).setCell ⟨tb, 1, none⟩ (.slice (some ⟨ub, 0, none⟩) us.length us.length)) M tb nv (.slice (some ⟨ub, 0, none⟩) us.length us.length) ps us ∧
      Moved w M ((w.setCell ⟨ub, us.length, none⟩ .nilFunc).setCell ⟨tb, 1, none⟩ (.slice (some ⟨ub, 0, none⟩) us.length us.length)) M ∧
      (w.setCell ⟨ub, us.length, none⟩ .nilFunc).cell? ⟨tb, 1, none⟩ = some (.slice (some ⟨ub, 0, none⟩) m uc) ∧ (w.setCell ⟨ub, us.length, none⟩ .nilFunc).frozen? ⟨tb, 1, none⟩ = false := by
  have hl : (us ++ [f]).length = us.length + 1 := by simp
  have hr := h.undos
  rw [hl] at hr
  obtain ⟨g, cap, hv, h1, h2, h3, h4⟩ := hr.form (by omega)
  cases hv
  have st : Step w M (w.setCell ⟨ub, us.length, none⟩ .nilFunc) M .undos := step_setCell _ h3 h.fresh
  have hs := hr.set rfl us.length .nilFunc (by simp)
  have hrow : Row (w.setCell ⟨ub, us.length, none⟩ .nilFunc) M .undos 1 1 (.slice (some ⟨ub, 0, none⟩) us.length us.length) us.length us := by
    obtain ⟨_, a, cap', hv, k1, k2, k3⟩ := hs
    cases hv
    rcases k3 with ⟨e, _⟩ | ⟨g', cur, ha, hM, hg, k4, k5⟩
    · omega
    · refine ⟨by simp, _, us.length, rfl, Nat.le_refl _, by unfold maxLen at *; omega, .inr ⟨g', cur, ha, hM, hg, by omega, ?_⟩⟩
      have := congrArg (List.take us.length) k5
      rw [List.take_take] at this
      simpa [Nat.min_eq_left (Nat.le_succ _)] using this
  have HR := h.headUndos (us' := us) st hrow
  obtain ⟨_, hc1, _, hf1⟩ := head_cell ((st.far tb (lt_of_heap h.head) (by rw [h.tree]; intro e; cases e)).trans h.head)
  exact ⟨HR.1, HR.2, hc1, hf1⟩

theorem zeroNode (w : World) : (zeroValue 40).run Tryz.prog w = .ok (.agg #[.int .i64 0, .string ⟨#[]⟩, .string ⟨#[]⟩, .slice none 0 0, .int .i64 0, .slice none 0 0]) w := by
  obtain ⟨i0, hi, hz0, hz1, hz2⟩ := info_parts Tryz.infoNode
  simp [zeroValue, typeInfo, hi, hz0]

set_option maxHeartbeats 1000000 in
set_option maxRecDepth 100000 in
theorem forget1_any {w : World} {M : Nat → Lab} {tb : Nat} {nv uv : Value} {ps qs : List Pn} {us : List Value} {b1 b2 : Nat} (h : Lies w M tb nv uv (ps ++ qs) us) (hq : 0 < qs.length) (m1 : M b1 = .other) (m2 : M b2 = .other) (k1 : w.cell? ⟨b1, 0, none⟩ = some (.pointer (some ⟨tb, 0, none⟩))) (k2 : w.cell? ⟨b2, 0, none⟩ = some (.int .i64 ps.length)) :
    Calls Tryz.prog 87 #[.pointer (some ⟨b1, 0, none⟩), .pointer (some ⟨b2, 0, none⟩)] w fun e w' => e = .returned (.tuple #[]) ∧ ∃ nv', Lies w' M tb nv' uv ps us ∧ Moved w M w' M := by
  have hnr := h.nodes
  rw [List.length_append, flat_append] at hnr
  obtain ⟨nb, cap, rfl, hc, hm, hnM, hnl⟩ := hnr.form (by omega)
  have hd : Row w.drew M .nodes 40 6 (.slice (some ⟨nb, 0, none⟩) (ps.length + qs.length) cap) (ps.length + qs.length) (flat ps ++ flat qs) := hnr
  obtain ⟨w1, hr1, hrow, st⟩ := clear_tail (P := Tryz.prog) w.drew M .nodes 41 40 _ 6 Tryz.underlying41 zeroNode rfl (by simp [Value.cells, Value.oneCell']) (by decide) nb ps.length qs.length cap (cap - ps.length) (flat ps) (flat qs) hd (flat_length ps) hq h.fresh
  have l1 : b1 < w.heap.size := World.block_lt_of_cell? w _ k1
  have l2 : b2 < w.heap.size := World.block_lt_of_cell? w _ k2
  have j1 : w1.cell? ⟨b1, 0, none⟩ = some (.pointer (some ⟨tb, 0, none⟩)) := (World.cell?_of_block (a := ⟨b1, 0, none⟩) (st.far b1 l1 (by rw [m1]; intro e; cases e))).trans k1
  have j2 : w1.cell? ⟨b2, 0, none⟩ = some (.int .i64 ps.length) := (World.cell?_of_block (a := ⟨b2, 0, none⟩) (st.far b2 l2 (by rw [m2]; intro e; cases e))).trans k2
  have c0 := h.cell0
  obtain ⟨hc0, _, hf0, _⟩ := head_cell ((st.far tb (lt_of_heap h.head) (by rw [h.tree]; intro e; cases e)).trans h.head)
  have HR : Hid _ := h.drew.headNodes st hrow (fun i p hp => h.drew.node i p (by rw [List.getElem?_append_left (List.getElem?_eq_some_iff.1 hp).1]; exact hp))
  have HC : Hid (∀ ty, (Builtin.clear_ #[41] ty #[.slice (some ⟨nb, ps.length * 6, none⟩) qs.length (cap - ps.length)]).run Tryz.prog w.drew = .ok (.tuple #[]) w1) := hr1
  have hne : ¬ cap = ps.length := by omega
  have i1 : (ps.length : Int) ≤ (ps.length : Int) + (qs.length : Int) := by omega
  have i2 : (ps.length : Int) + (qs.length : Int) ≤ (cap : Int) := by omega
  have i3 : (0 : Int) ≤ (ps.length : Int) := by omega
  have i4 : (ps.length : Int) ≤ (cap : Int) := by omega
  unfold maxLen at hm
  clear h hnr hd hr1 hrow st
  go_enter Tryz.func87, Tryz.ntmps87
  go_wp2
  go_region_law ((refine step_clear _ (by rfl) (.tmp 7) 41 (by rfl) (.slice (some ⟨nb, ps.length * 6, none⟩) qs.length (cap - ps.length)) (by simp [Act.eval, Act.put]) w1 HC.out ?_))
  all_goals go_wp2
  all_goals go_region
  all_goals go_wp2
  all_goals go_end0
  all_goals exact ⟨rfl, _, HR.out.1.drew, ((Moved.refl w M).drew.trans HR.out.2).drew⟩

set_option maxHeartbeats 1000000 in
set_option maxRecDepth 100000 in
theorem undo_forget {w : World} {M : Nat → Lab} {tb : Nat} {nv uv : Value} {ps : List Pn} {p : Pn} {us : List Value} {f : Value} (h : Lies w M tb nv uv (ps ++ [p]) (us ++ [f])) (hF : Frg w M f tb ps.length) :
    Calls Tryz.prog 38 #[.pointer (some ⟨tb, 0, none⟩)] w fun e w' => e = .returned (.bool true) ∧ ∃ nv' uv', Lies w' M tb nv' uv' ps us ∧ Moved w M w' M := by
  have hF0 := hF
  obtain ⟨b1, b2, rfl, m1, m2, k1, k2⟩ := hF
  have hul : (us ++ [Value.func (.func 87) #[] #[.pointer (some ⟨b1, 0, none⟩), .pointer (some ⟨b2, 0, none⟩)]]).length = us.length + 1 := by simp
  have hur := h.undos
  rw [hul] at hur
  obtain ⟨ub, uc, rfl, huc, hum, huM, hulb⟩ := hur.form (by omega)
  have c1 := h.cell1
  have cu := (hur.cell rfl (j := us.length) (u := .func (.func 87) #[] #[.pointer (some ⟨b1, 0, none⟩), .pointer (some ⟨b2, 0, none⟩)]) (by simp))
  obtain ⟨cu1, cu2⟩ := cu
  unfold maxLen at hum
  obtain ⟨q1, q2, d1, d2⟩ := h.pop
  obtain ⟨c1', c2', he', m1', m2', k1', k2'⟩ := hF0.moved q2
  cases he'
  have H : Hid _ := And.intro q1 q2
  clear h hur hF0 q1 q2
  go_enter Tryz.func38, Tryz.ntmps38
  go_wp2_with (go_at_call 87; refine (forget1_any H.out.1 (by simp) m1' m2' k1' k2').mono ?_; rintro e w1 ⟨rfl, nv1, hL1, hm1⟩)
  go_ret
  exact ⟨rfl, nv1, _, hL1, H.out.2.trans hm1⟩
end Go.Proofs.YtjfklhfdonbpgaaGreatDoor

/- How a tree of the document's answer lies in memory: as the program's does, of other types. -/
namespace Go.Proofs.YtjfklhfdonbpgaaGreatDoor
open Go.RowKit

structure RLies (w : World) (M : Nat → Lab) (tb : Nat) (nv uv : Value) (ps : List Pn) (us : List Value) : Prop where
  fresh : ∀ b, w.heap.size ≤ b → M b = .other
  tree : M tb = .tree
  head : w.heap[tb]? = some (.cells #[nv, uv] 28 (0, 0))
  nodes : Row w M .nodes 46 6 nv ps.length (flat ps)
  undos : Row w M .undos 25 1 uv us.length us
  node : ∀ i p, ps[i]? = some p → Row w M (.attrs i) 79 2 p.av p.n.attrs.length (attrCells p.n.attrs) ∧ Row w M (.kids i) 3 1 p.kv p.n.kids.length (p.n.kids.map intV)
theorem RLies.far {w w' : World} {M : Nat → Lab} {tb : Nat} {nv uv : Value} {ps : List Pn} {us : List Value} (h : RLies w M tb nv uv ps us) (hs : w.heap.size ≤ w'.heap.size) (hb : ∀ b, b < w.heap.size → M b ≠ .other → w'.heap[b]? = w.heap[b]?) : RLies w' M tb nv uv ps us where
  fresh b hb' := h.fresh b (by omega)
  tree := h.tree
  head := (hb tb (lt_of_heap h.head) (by rw [h.tree]; intro e; cases e)).trans h.head
  nodes := h.nodes.keep (fun b hb' e => hb b hb' (by rw [e]; intro e; cases e)) (fun _ _ => rfl)
  undos := h.undos.keep (fun b hb' e => hb b hb' (by rw [e]; intro e; cases e)) (fun _ _ => rfl)
  node i p hp := ⟨(h.node i p hp).1.keep (fun b hb' e => hb b hb' (by rw [e]; intro e; cases e)) (fun _ _ => rfl), (h.node i p hp).2.keep (fun b hb' e => hb b hb' (by rw [e]; intro e; cases e)) (fun _ _ => rfl)⟩
theorem RLies.alloc {w : World} {M : Nat → Lab} {tb : Nat} {nv uv : Value} {ps : List Pn} {us : List Value} (h : RLies w M tb nv uv ps us) (o : Obj) : RLies (w.alloc o) M tb nv uv ps us :=
  h.far (by simp) (fun b hb _ => Below.heap_alloc w o b hb)
theorem RLies.drew {w : World} {M : Nat → Lab} {tb : Nat} {nv uv : Value} {ps : List Pn} {us : List Value} (h : RLies w M tb nv uv ps us) : RLies w.drew M tb nv uv ps us :=
  h.far (Nat.le_refl _) (fun _ _ _ => rfl)
theorem RLies.below {w w' : World} {M : Nat → Lab} {tb : Nat} {nv uv : Value} {ps : List Pn} {us : List Value} (h : RLies w M tb nv uv ps us) (hb : Below w.heap.size w w') : RLies w' M tb nv uv ps us :=
  h.far hb.size (fun b hb' _ => hb.block b hb')
theorem RLies.cell0 {w : World} {M : Nat → Lab} {tb : Nat} {nv uv : Value} {ps : List Pn} {us : List Value} (h : RLies w M tb nv uv ps us) : w.cell? ⟨tb, 0, none⟩ = some nv := by
  rw [cell_of_row w tb 0 _ _ _ h.head]; rfl
theorem RLies.cell1 {w : World} {M : Nat → Lab} {tb : Nat} {nv uv : Value} {ps : List Pn} {us : List Value} (h : RLies w M tb nv uv ps us) : w.cell? ⟨tb, 1, none⟩ = some uv := by
  rw [cell_of_row w tb 1 _ _ _ h.head]; rfl
theorem RLies.frozen {w : World} {M : Nat → Lab} {tb : Nat} {nv uv : Value} {ps : List Pn} {us : List Value} (h : RLies w M tb nv uv ps us) (o : Nat) : w.frozen? ⟨tb, o, none⟩ = false := by
  simp [World.frozen?, h.head]
theorem RLies.setNode {w : World} {M : Nat → Lab} {tb : Nat} {nv uv : Value} {ps : List Pn} {us : List Value} (h : RLies w M tb nv uv ps us) {nb m c0 : Nat} (hv : nv = .slice (some ⟨nb, 0, none⟩) m c0)
    {i f : Nat} {p p' : Pn} {c : Value} (hp : ps[i]? = some p) (hf : f < 6) (he : p'.cells = p.cells.set f c)
    (ha : Row w M (.attrs i) 79 2 p'.av p'.n.attrs.length (attrCells p'.n.attrs)) (hk : Row w M (.kids i) 3 1 p'.kv p'.n.kids.length (p'.n.kids.map intV)) :
    RLies (w.setCell ⟨nb, i * 6 + f, none⟩ c) M tb nv uv (ps.set i p') us ∧ Step w M (w.setCell ⟨nb, i * 6 + f, none⟩ c) M .nodes := by
  have hi : i < ps.length := (List.getElem?_eq_some_iff.1 hp).1
  obtain ⟨g, cap, hg, _, _, hM, _⟩ := h.nodes.form (by omega)
  have e1 : g = nb := by rw [hv] at hg; cases hg; rfl
  subst e1
  have st : Step w M (w.setCell ⟨g, i * 6 + f, none⟩ c) M .nodes := step_setCell c hM h.fresh
  refine ⟨⟨st.fresh, h.tree, (st.far tb (lt_of_heap h.head) (by rw [h.tree]; intro e; cases e)).trans h.head, ?_, h.undos.step st (by intro e; cases e), ?_⟩, st⟩
  · rw [List.length_set, flat_set ps i f p p' c hp hf he]
    exact h.nodes.set hv _ c (by rw [flat_length]; omega)
  · intro j q hq
    by_cases hij : i = j
    · subst hij
      rw [List.getElem?_set_self hi] at hq
      cases hq
      exact ⟨ha.step st (by intro e; cases e), hk.step st (by intro e; cases e)⟩
    · rw [List.getElem?_set_ne hij] at hq
      exact ⟨(h.node j q hq).1.step st (by intro e; cases e), (h.node j q hq).2.step st (by intro e; cases e)⟩
theorem RLies.headNodes {w w1 : World} {M M1 : Nat → Lab} {tb : Nat} {nv uv : Value} {ps : List Pn} {us : List Value} (h : RLies w M tb nv uv ps us) (st : Step w M w1 M1 .nodes) {nv' : Value} {qs : List Pn}
    (hn : Row w1 M1 .nodes 46 6 nv' qs.length (flat qs)) (hq : ∀ i p, qs[i]? = some p → Row w M (.attrs i) 79 2 p.av p.n.attrs.length (attrCells p.n.attrs) ∧ Row w M (.kids i) 3 1 p.kv p.n.kids.length (p.n.kids.map intV)) :
    RLies (w1.setCell ⟨tb, 0, none⟩ nv') M1 tb nv' uv qs us ∧ Moved w M (w1.setCell ⟨tb, 0, none⟩ nv') M1 := by
  have hlt := lt_of_heap h.head
  have hM : M1 tb = .tree := (st.lab tb hlt).trans h.tree
  have st2 : Step w1 M1 (w1.setCell ⟨tb, 0, none⟩ nv') M1 .tree := step_setCell nv' hM st.fresh
  have hh : w1.heap[tb]? = some (.cells #[nv, uv] 28 (0, 0)) := (st.far tb hlt (by rw [h.tree]; intro e; cases e)).trans h.head
  refine ⟨⟨st2.fresh, hM, ?_, hn.step st2 (by intro e; cases e), (h.undos.step st (by intro e; cases e)).step st2 (by intro e; cases e), ?_⟩, (st.moved (by intro e; cases e)).trans (st2.moved (by intro e; cases e))⟩
  · rw [setCell_heap w1 tb 0 nv' _ _ _ hh]; rfl
  · intro i p hp
    exact ⟨((hq i p hp).1.step st (by intro e; cases e)).step st2 (by intro e; cases e), ((hq i p hp).2.step st (by intro e; cases e)).step st2 (by intro e; cases e)⟩
theorem RLies.headUndos {w w1 : World} {M M1 : Nat → Lab} {tb : Nat} {nv uv : Value} {ps : List Pn} {us : List Value} (h : RLies w M tb nv uv ps us) (st : Step w M w1 M1 .undos) {uv' : Value} {us' : List Value}
    (hn : Row w1 M1 .undos 25 1 uv' us'.length us') :
    RLies (w1.setCell ⟨tb, 1, none⟩ uv') M1 tb nv uv' ps us' ∧ Moved w M (w1.setCell ⟨tb, 1, none⟩ uv') M1 := by
  have hlt := lt_of_heap h.head
  have hM : M1 tb = .tree := (st.lab tb hlt).trans h.tree
  have st2 : Step w1 M1 (w1.setCell ⟨tb, 1, none⟩ uv') M1 .tree := step_setCell uv' hM st.fresh
  have hh : w1.heap[tb]? = some (.cells #[nv, uv] 28 (0, 0)) := (st.far tb hlt (by rw [h.tree]; intro e; cases e)).trans h.head
  refine ⟨⟨st2.fresh, hM, ?_, (h.nodes.step st (by intro e; cases e)).step st2 (by intro e; cases e), hn.step st2 (by intro e; cases e), ?_⟩, (st.moved (by intro e; cases e)).trans (st2.moved (by intro e; cases e))⟩
  · rw [setCell_heap w1 tb 1 uv' _ _ _ hh]; rfl
  · intro i p hp
    exact ⟨((h.node i p hp).1.step st (by intro e; cases e)).step st2 (by intro e; cases e), ((h.node i p hp).2.step st (by intro e; cases e)).step st2 (by intro e; cases e)⟩
theorem RLies.cellN {w : World} {M : Nat → Lab} {tb : Nat} {nv uv : Value} {ps : List Pn} {us : List Value} (h : RLies w M tb nv uv ps us) {nb m c0 : Nat} (hv : nv = .slice (some ⟨nb, 0, none⟩) m c0) {i f : Nat} {p : Pn} {c : Value} (hp : ps[i]? = some p) (hf : f < 6) (hc : p.cells[f]? = some c) :
    w.cell? ⟨nb, i * 6 + f, none⟩ = some c ∧ w.frozen? ⟨nb, i * 6 + f, none⟩ = false :=
  h.nodes.cell hv (by rw [flat_get ps i f p hp hf]; exact hc)
theorem RLies.form {w : World} {M : Nat → Lab} {tb : Nat} {nv uv : Value} {ps : List Pn} {us : List Value} (h : RLies w M tb nv uv ps us) {i : Nat} {p : Pn} (hp : ps[i]? = some p) :
    ∃ nb cap, nv = .slice (some ⟨nb, 0, none⟩) ps.length cap ∧ ps.length ≤ cap ∧ cap ≤ maxLen ∧ M nb = .nodes ∧ nb < w.heap.size ∧ i < ps.length := by
  have hi : i < ps.length := (List.getElem?_eq_some_iff.1 hp).1
  obtain ⟨g, cap, h1, h2, h3, h4, h5⟩ := h.nodes.form (by omega)
  exact ⟨g, cap, h1, h2, h3, h4, h5, hi⟩
theorem RLies.drewN {w : World} {M : Nat → Lab} {tb : Nat} {nv uv : Value} {ps : List Pn} {us : List Value} (h : RLies w M tb nv uv ps us) (n : Nat) : RLies (w.drewN n) M tb nv uv ps us :=
  h.far (Nat.le_refl _) (fun _ _ _ => rfl)
theorem RLies.setAttrs {w w1 : World} {M M1 : Nat → Lab} {tb : Nat} {nv uv : Value} {ps : List Pn} {us : List Value} (h : RLies w M tb nv uv ps us) {nb m c0 : Nat} (hv : nv = .slice (some ⟨nb, 0, none⟩) m c0) {i : Nat} {p : Pn} (hp : ps[i]? = some p) (st : Step w M w1 M1 (.attrs i))
    {av' : Value} {at' : List (ByteArray × ByteArray)} (hr : Row w1 M1 (.attrs i) 79 2 av' at'.length (attrCells at')) :
    RLies (w1.setCell ⟨nb, i * 6 + 3, none⟩ av') M1 tb nv uv (ps.set i ⟨{ p.n with attrs := at' }, av', p.kv⟩) us ∧ Moved w M (w1.setCell ⟨nb, i * 6 + 3, none⟩ av') M1 ∧ (∃ u, w1.cell? ⟨nb, i * 6 + 3, none⟩ = some u) ∧ w1.frozen? ⟨nb, i * 6 + 3, none⟩ = false := by
  have hi : i < ps.length := (List.getElem?_eq_some_iff.1 hp).1
  obtain ⟨g, cap, hg, _, _, hM, hgl⟩ := h.nodes.form (by omega)
  have e1 : g = nb := by rw [hv] at hg; cases hg; rfl
  subst e1
  have hn1 : Row w1 M1 .nodes 46 6 nv ps.length (flat ps) := h.nodes.step st (by intro e; cases e)
  have hM1 : M1 g = .nodes := (st.lab g hgl).trans hM
  have st2 : Step w1 M1 (w1.setCell ⟨g, i * 6 + 3, none⟩ av') M1 .nodes := step_setCell av' hM1 st.fresh
  have hc := hn1.cell hv (flat_get ps i 3 p hp (by omega))
  refine ⟨⟨st2.fresh, (st.lab tb (lt_of_heap h.head)).trans h.tree, ?_, ?_, (h.undos.step st (by intro e; cases e)).step st2 (by intro e; cases e), ?_⟩, (st.moved (by intro e; cases e)).trans (st2.moved (by intro e; cases e)), ⟨_, hc.1⟩, hc.2⟩
  · have ht : M1 tb = .tree := (st.lab tb (lt_of_heap h.head)).trans h.tree
    have hl : tb < w1.heap.size := Nat.lt_of_lt_of_le (lt_of_heap h.head) st.size
    exact ((st2.far tb hl (by rw [ht]; intro e; cases e)).trans (st.far tb (lt_of_heap h.head) (by rw [h.tree]; intro e; cases e))).trans h.head
  · rw [List.length_set, flat_set ps i 3 p ⟨{ p.n with attrs := at' }, av', p.kv⟩ av' hp (by omega) rfl]
    exact hn1.set hv _ _ (by rw [flat_length]; omega)
  · intro j q hq
    by_cases hij : i = j
    · subst hij
      rw [List.getElem?_set_self hi] at hq
      cases hq
      exact ⟨hr.step st2 (by intro e; cases e), ((h.node i p hp).2.step st (by intro e; cases e)).step st2 (by intro e; cases e)⟩
    · rw [List.getElem?_set_ne hij] at hq
      exact ⟨((h.node j q hq).1.step st (by intro e; cases e; exact hij rfl)).step st2 (by intro e; cases e), ((h.node j q hq).2.step st (by intro e; cases e)).step st2 (by intro e; cases e)⟩
theorem RLies.turnAttrs {w w1 : World} {M M1 : Nat → Lab} {tb : Nat} {nv uv : Value} {ps : List Pn} {us : List Value} (h : RLies w M tb nv uv ps us) {i : Nat} {p : Pn} (hp : ps[i]? = some p) (st : Step w M w1 M1 (.attrs i))
    {at' : List (ByteArray × ByteArray)} (hr : Row w1 M1 (.attrs i) 79 2 p.av at'.length (attrCells at')) :
    RLies w1 M1 tb nv uv (ps.set i ⟨{ p.n with attrs := at' }, p.av, p.kv⟩) us ∧ Moved w M w1 M1 := by
  have hi : i < ps.length := (List.getElem?_eq_some_iff.1 hp).1
  refine ⟨⟨st.fresh, (st.lab tb (lt_of_heap h.head)).trans h.tree, (st.far tb (lt_of_heap h.head) (by rw [h.tree]; intro e; cases e)).trans h.head, ?_, h.undos.step st (by intro e; cases e), ?_⟩, st.moved (by intro e; cases e)⟩
  · rw [List.length_set, flat_same ps i p ⟨{ p.n with attrs := at' }, p.av, p.kv⟩ hp rfl]
    exact h.nodes.step st (by intro e; cases e)
  · intro j q hq
    by_cases hij : i = j
    · subst hij
      rw [List.getElem?_set_self hi] at hq
      cases hq
      exact ⟨hr, (h.node i p hp).2.step st (by intro e; cases e)⟩
    · rw [List.getElem?_set_ne hij] at hq
      exact ⟨(h.node j q hq).1.step st (by intro e; cases e; exact hij rfl), (h.node j q hq).2.step st (by intro e; cases e)⟩
theorem RLies.setKids {w w1 : World} {M M1 : Nat → Lab} {tb : Nat} {nv uv : Value} {ps : List Pn} {us : List Value} (h : RLies w M tb nv uv ps us) {nb m c0 : Nat} (hv : nv = .slice (some ⟨nb, 0, none⟩) m c0) {i : Nat} {p : Pn} (hp : ps[i]? = some p) (st : Step w M w1 M1 (.kids i))
    {kv' : Value} {ks' : List Int} (hr : Row w1 M1 (.kids i) 3 1 kv' ks'.length (ks'.map intV)) :
    RLies (w1.setCell ⟨nb, i * 6 + 5, none⟩ kv') M1 tb nv uv (ps.set i ⟨{ p.n with kids := ks' }, p.av, kv'⟩) us ∧ Moved w M (w1.setCell ⟨nb, i * 6 + 5, none⟩ kv') M1 ∧ w1.cell? ⟨nb, i * 6 + 5, none⟩ = some p.kv ∧ w1.frozen? ⟨nb, i * 6 + 5, none⟩ = false ∧ w1.cell? ⟨tb, 0, none⟩ = some nv := by
  have hi : i < ps.length := (List.getElem?_eq_some_iff.1 hp).1
  obtain ⟨g, cap, hg, _, _, hM, hgl⟩ := h.nodes.form (by omega)
  have e1 : g = nb := by rw [hv] at hg; cases hg; rfl
  subst e1
  have hn1 : Row w1 M1 .nodes 46 6 nv ps.length (flat ps) := h.nodes.step st (by intro e; cases e)
  have hM1 : M1 g = .nodes := (st.lab g hgl).trans hM
  have st2 : Step w1 M1 (w1.setCell ⟨g, i * 6 + 5, none⟩ kv') M1 .nodes := step_setCell kv' hM1 st.fresh
  have hc := hn1.cell hv ((flat_get ps i 5 p hp (by omega)).trans rfl)
  have hh := (st.far tb (lt_of_heap h.head) (by rw [h.tree]; intro e; cases e)).trans h.head
  refine ⟨⟨st2.fresh, (st.lab tb (lt_of_heap h.head)).trans h.tree, ?_, ?_, (h.undos.step st (by intro e; cases e)).step st2 (by intro e; cases e), ?_⟩, (st.moved (by intro e; cases e)).trans (st2.moved (by intro e; cases e)), hc.1, hc.2, (head_cell hh).1⟩
  · have ht : M1 tb = .tree := (st.lab tb (lt_of_heap h.head)).trans h.tree
    have hl : tb < w1.heap.size := Nat.lt_of_lt_of_le (lt_of_heap h.head) st.size
    exact (st2.far tb hl (by rw [ht]; intro e; cases e)).trans hh
  · rw [List.length_set, flat_set ps i 5 p ⟨{ p.n with kids := ks' }, p.av, kv'⟩ kv' hp (by omega) rfl]
    exact hn1.set hv _ _ (by rw [flat_length]; omega)
  · intro j q hq
    by_cases hij : i = j
    · subst hij
      rw [List.getElem?_set_self hi] at hq
      cases hq
      exact ⟨((h.node i p hp).1.step st (by intro e; cases e)).step st2 (by intro e; cases e), hr.step st2 (by intro e; cases e)⟩
    · rw [List.getElem?_set_ne hij] at hq
      exact ⟨((h.node j q hq).1.step st (by intro e; cases e)).step st2 (by intro e; cases e), ((h.node j q hq).2.step st (by intro e; cases e; exact hij rfl)).step st2 (by intro e; cases e)⟩
theorem RLies.grown {w w' : World} {M : Nat → Lab} {tb : Nat} {nv uv : Value} {ps : List Pn} {us : List Value} {row : Option Nat} (h : RLies w M tb nv uv ps us) (hg : w.grownBy w' row) (hr : ∀ k, row = some k → M k = .other) : RLies w' M tb nv uv ps us :=
  h.far hg.size (fun b hb hne => hg.block b hb (fun e => hne (hr b e.symm)))
end Go.Proofs.YtjfklhfdonbpgaaGreatDoor

/- The document's answer: new trees and new nodes, and the copy that is kept of what was. -/
namespace Go.Proofs.YtjfklhfdonbpgaaGreatDoor
open Go.RowKit

theorem Tryz.infoRnode : (Tryz.prog.info? 46).map (fun i => (i.zero, i.size, i.bytes)) = some (some (.agg #[.int .i64 0, .string ⟨#[]⟩, .string ⟨#[]⟩, .slice none 0 0, .int .i64 0, .slice none 0 0]), 6, 96) := by kernel_rfl
theorem Tryz.infoRnodes : (Tryz.prog.info? 25).map (fun i => (i.zero, i.size, i.bytes)) = some (some (.slice none 0 0), 1, 24) := by kernel_rfl

/-- how much a tree holds: no list is too long to be copied -/
def Small (ps : List Pn) : Prop := ∀ (j : Nat) (p : Pn), ps[j]? = some p → p.n.attrs.length ≤ 1099511627776 ∧ p.n.kids.length ≤ 1099511627776




/-- a node's copy, as it lies in memory -/
def nodeBox (p : Pn) : Obj := .cells #[.int .i64 p.n.kind, .string p.n.tag, .string p.n.words, p.av, .int .i64 p.n.parent, p.kv] 46

theorem box_set {w : World} {B : Nat} {x0 x1 x2 x3 x4 x5 : Value} {t : TypeId} {fr : Nat × Nat} (h : w.heap[B]? = some (.cells #[x0, x1, x2, x3, x4, x5] t fr)) (v : Value) :
    (w.setCell ⟨B, 3, none⟩ v).heap[B]? = some (.cells #[x0, x1, x2, v, x4, x5] t fr) ∧ (w.setCell ⟨B, 5, none⟩ v).heap[B]? = some (.cells #[x0, x1, x2, x3, x4, v] t fr) :=
  ⟨setCell_heap w B 3 v _ _ _ h, setCell_heap w B 5 v _ _ _ h⟩
theorem box_frozen {w : World} {B : Nat} {cs : Array Value} {t : TypeId} (h : w.heap[B]? = some (.cells cs t (0, 0))) (o : Nat) : w.frozen? ⟨B, o, none⟩ = false := by
  simp [World.frozen?, h]


def CopiedPost (w : World) (e : Ending) (w' : World) : Prop := ∃ a n c, e = .returned (.slice a n c) ∧ Below w.heap.size w w'

set_option maxHeartbeats 8000000 in
set_option maxRecDepth 100000 in
theorem copied_any {w : World} {M : Nat → Lab} {tb : Nat} {nv uv : Value} {ps : List Pn} {us : List Value} (h : RLies w M tb nv uv ps us) (hs : Small ps) (hn : ps.length ≤ 1000000) :
    Calls Tryz.prog 77 #[nv] w (CopiedPost w) := by
  obtain ⟨i0, hi, hz0, hz1, hz2⟩ := info_parts Tryz.infoRnode
  obtain ⟨i1, hi1, hz10, hz11, hz12⟩ := info_parts Tryz.infoAttr
  obtain ⟨i2, hi2, hz20, hz21, hz22⟩ := info_parts Tryz.infoInt
  obtain ⟨a, cap, rfl, hc, hm⟩ := h.nodes.shape
  unfold maxLen at hm
  have H : Hid (∀ (k : Nat) p, ps[k]? = some p → ∃ nb, a = some ⟨nb, 0, none⟩ ∧ nb < w.heap.size ∧ (∀ f c, f < 6 → p.cells[f]? = some c → w.cell? ⟨nb, k * 6 + f, none⟩ = some c) ∧ SrcOf w 2 p.av p.n.attrs.length (attrCells p.n.attrs) ∧ SrcOf w 1 p.kv p.n.kids.length (p.n.kids.map intV) ∧ p.n.attrs.length ≤ 1099511627776 ∧ p.n.kids.length ≤ 1099511627776) := by
    intro k p hp
    obtain ⟨nb, c, hv, _, _, _, hl, _⟩ := h.form hp
    cases hv
    exact ⟨nb, rfl, hl, fun f c hf hc => (h.cellN rfl hp hf hc).1, (h.node k p hp).1.src (one_attr _), (h.node k p hp).2.src (one_int _), hs k p hp⟩
  clear h hs
  go_enter Tryz.func77, Tryz.ntmps77
  go_wp2
  go_loopw [3, 4] (fun out i wr => ∃ k : Nat, k ≤ ps.length ∧ i = .int .i64 k ∧ Hid (∃ xs, wr.ownsRow w.heap.size 46 6 out k xs) ∧ Hid (Below w.heap.size w wr)) (fun _ i _ => ps.length - (intOf i).toNat)
  case atStart => exact ⟨0, by omega, rfl, ⟨[], World.ownsRow_nil _ _ _ _⟩, Below.refl _ _⟩
  case round =>
    obtain ⟨k, hk, rfl, hown, hbel⟩ := hrel
    by_cases hlt : k < ps.length
    · obtain ⟨p, hp⟩ : ∃ p, ps[k]? = some p := ⟨_, List.getElem?_eq_getElem hlt⟩
      obtain ⟨nb, rfl, hnb, hcell, hsa, hsk, hla, hlk⟩ := H.out k p hp
      obtain ⟨xs, hxs⟩ := hown.out
      have HS : Hid (SrcOf w 2 p.av p.n.attrs.length (attrCells p.n.attrs) ∧ SrcOf w 1 p.kv p.n.kids.length (p.n.kids.map intV)) := ⟨hsa, hsk⟩
      obtain ⟨_, _, aa, ac, hav, _⟩ := hsa
      obtain ⟨_, _, ka, kc, hkv, _⟩ := hsk
      have cc : ∀ f c, f < 6 → p.cells[f]? = some c → wr.cell? ⟨nb, k * 6 + f, none⟩ = some c := fun f c hf hc => (hbel.out.cell (p := ⟨nb, k * 6 + f, none⟩) hnb).trans (hcell f c hf hc)
      have c0 := cc 0 _ (by omega) rfl
      rw [Nat.add_zero] at c0
      have c1 := cc 1 _ (by omega) rfl
      have c2 := cc 2 _ (by omega) rfl
      have c3 := cc 3 _ (by omega) rfl
      have c4 := cc 4 _ (by omega) rfl
      have c5 := cc 5 _ (by omega) rfl
      rw [hav] at c3
      rw [hkv] at c5
      have HO : Hid (wr.ownsRow w.heap.size 46 6 u3 k xs) := hxs
      have hsz := hbel.out.size
      have hnl := Nat.lt_of_lt_of_le hnb hsz
      obtain ⟨pn, pav, pkv⟩ := p
      dsimp only at hav hkv
      subst hav
      subst hkv
      dsimp only at c0 c1 c2 c3 c4 c5 hla hlk HS
      clear cc hcell hp hown hxs
      go_wp2_with (first
        | (at_builtin; refine wpList_app_own _ (by rfl) _ _ 37 (by rfl) wr.heap.size 79 i1 _ 2 32 Tryz.underlying37 hi1 hz10 hz11 hz12 rfl (by decide) (.slice none 0 0) 0 [] (by rfl) (World.ownsRow_nil _ _ _ _) (.slice aa pn.attrs.length ac) pn.attrs.length (attrCells pn.attrs) (by rfl) (HS.out.1.below (hbel.out.alloc hsz _)) (by unfold maxLen; omega) (by omega) (by simp) ?_
           intro v1 w1 hv1 hg1 _
           have hb1 := (below_grown hg1).block wr.heap.size (by simp)
           rw [heap_alloc_new wr] at hb1
           obtain ⟨d0, d1, d2, d3, d4, d5⟩ := six_cells hb1
           have df3 := box_frozen hb1 3
           rw [Nat.zero_add] at hv1
           obtain ⟨a1, e1, rfl⟩ := own_shape hv1
           obtain ⟨s0, s1, s2, s3, s4, s5⟩ := six_cells (box_set hb1 (.slice a1 pn.attrs.length e1)).1
           have HB1 : Hid (Below wr.heap.size wr w1) := ((Below.refl wr.heap.size wr).alloc (Nat.le_refl _) _).trans ((below_grown hg1).mono (by simp))
           have HX1 : Hid _ := (box_set hb1 (.slice a1 pn.attrs.length e1)).1
           clear hv1 hg1 hb1)
        | (at_builtin; refine wpList_app_own _ (by rfl) _ _ 38 (by rfl) wr.heap.size 3 i2 _ 1 8 Tryz.underlying38 hi2 hz20 hz21 hz22 rfl (by decide) (.slice none 0 0) 0 [] (by rfl) (World.ownsRow_nil _ _ _ _) (.slice ka pn.kids.length kc) pn.kids.length (pn.kids.map intV) (by rfl) (HS.out.2.below (hbel.out.trans ((HB1.out.setCell (Nat.le_refl _) _).mono hsz))) (by unfold maxLen; omega) (by omega) (by simpa using HB1.out.size) ?_
           intro v2 w2 hv2 hg2 _
           have hlx : wr.heap.size < w1.heap.size := World.block_lt_of_cell? w1 _ d0
           have hb2 := (below_grown hg2).block wr.heap.size (by simpa using hlx)
           rw [HX1.out] at hb2
           obtain ⟨t0, t1, t2, t3, t4, t5⟩ := six_cells hb2
           have df5 := box_frozen hb2 5
           rw [Nat.zero_add] at hv2
           obtain ⟨a2, e2, rfl⟩ := own_shape hv2
           obtain ⟨r0, r1, r2, r3, r4, r5⟩ := six_cells (box_set hb2 (.slice a2 pn.kids.length e2)).2
           have HB2 : Hid (Below wr.heap.size wr (w2.setCell ⟨wr.heap.size, 5, none⟩ (.slice a2 pn.kids.length e2))) := ((HB1.out.setCell (Nat.le_refl _) _).trans ((below_grown hg2).mono (by simpa using HB1.out.size))).setCell (Nat.le_refl _) _
           clear hv2 hg2 hb2)
        | (at_builtin; refine wpList_app_own _ (by rfl) _ _ 25 (by rfl) w.heap.size 46 i0 _ 6 96 Tryz.underlying25 hi hz0 hz1 hz2 rfl (by decide) u3 k xs (by rfl) ((own_below HO.out HB2.out (Nat.le_refl _)).alloc _) _ 1 [.int .i64 pn.kind, .string pn.tag, .string pn.words, .slice a1 pn.attrs.length e1, .int .i64 pn.parent, .slice a2 pn.kids.length e2] (by rfl) ⟨rfl, by simp [Value.oneCell'], _, _, rfl, .inr ⟨_, rfl, news_new _ #[.int .i64 pn.kind, .string pn.tag, .string pn.words, .slice a1 pn.attrs.length e1, .int .i64 pn.parent, .slice a2 pn.kids.length e2] 46 _ (by simp)⟩⟩ (by unfold maxLen; omega) (by omega) (by have := HB2.out.size; simp at this ⊢; omega) ?_
           intro v3 w3 hv3 hg3 hat3
           have HV : Hid (w3.ownsRow w.heap.size 46 6 v3 (k + 1) (xs ++ [.int .i64 pn.kind, .string pn.tag, .string pn.words, .slice a1 pn.attrs.length e1, .int .i64 pn.parent, .slice a2 pn.kids.length e2])) := hv3
           have HB3 : Hid (Below w.heap.size w w3) := ((hbel.out.trans (HB2.out.mono hsz)).alloc (Nat.le_trans hsz HB2.out.size) _).grown hg3 (by have := HB2.out.size; simp at this ⊢; omega) (fun b hb => (HO.out.lt b hb).1)
           clear hv3 hg3 hat3))
      go_roundw
      case rel => go_light; exact ⟨k + 1, by omega, by go_num, ⟨_, HV.out⟩, HB3⟩
      case measure => go_light; simp [intOf]; omega
    · obtain ⟨xs, hxs⟩ := hown.out
      obtain ⟨a3, c3, rfl⟩ : ∃ a3 c3, u3 = .slice a3 k c3 := by
        rcases hxs.2 with ⟨rfl, rfl⟩ | ⟨g, cap, cur, rfl, _⟩
        · exact ⟨none, 0, rfl⟩
        · exact ⟨_, _, rfl⟩
      go_wp2
      go_ret
      exact ⟨_, _, _, rfl, hbel.out⟩
end Go.Proofs.YtjfklhfdonbpgaaGreatDoor

/- The document's answer: the copy that is kept of a tree's nodes, and what it holds. -/
namespace Go.Proofs.YtjfklhfdonbpgaaGreatDoor
open Go.RowKit

/-- a row of a call's own, under a label -/
theorem own_row {w : World} {L : Nat → Lab} {l : Lab} {B : Nat} {e : TypeId} {size n : Nat} {v : Value} {xs : List Value} (h : w.ownsRow B e size v n xs) (hL : ∀ g, v.ownBlock = some g → L g = l) : Row w L l e size v n xs := by
  rcases h.2 with ⟨rfl, rfl⟩ | ⟨g, cap, cur, rfl, _, hg, h1, h2, h3, h4⟩
  · exact ⟨h.1, none, 0, rfl, Nat.le_refl _, by unfold maxLen; omega, .inl ⟨rfl, .inl rfl⟩⟩
  · exact ⟨h.1, _, _, rfl, h1, h2, .inr ⟨g, cur, rfl, hL g rfl, hg, by omega, h4⟩⟩

/-- a list of nodes with rows of its own -/
def KeptCopy (w : World) (L : Nat → Lab) (v : Value) (ns : List Nd) : Prop :=
  ∃ qs, nodesOf qs = ns ∧ (∀ b, w.heap.size ≤ b → L b = .other) ∧ Row w L .nodes 46 6 v qs.length (flat qs) ∧
    ∀ i p, qs[i]? = some p → Row w L (.attrs i) 79 2 p.av p.n.attrs.length (attrCells p.n.attrs) ∧ Row w L (.kids i) 3 1 p.kv p.n.kids.length (p.n.kids.map intV)

theorem KeptCopy.keep {w w' : World} {L : Nat → Lab} {v : Value} {ns : List Nd} (h : KeptCopy w L v ns) (hs : w.heap.size ≤ w'.heap.size) (hb : ∀ b, b < w.heap.size → L b ≠ .other → w'.heap[b]? = w.heap[b]?) : KeptCopy w' L v ns := by
  obtain ⟨qs, h1, h2, h3, h4⟩ := h
  refine ⟨qs, h1, fun b hb' => h2 b (by omega), h3.keep (fun b hb' e => hb b hb' (by rw [e]; intro e; cases e)) (fun _ _ => rfl), fun i p hp => ⟨?_, ?_⟩⟩
  · exact (h4 i p hp).1.keep (fun b hb' e => hb b hb' (by rw [e]; intro e; cases e)) (fun _ _ => rfl)
  · exact (h4 i p hp).2.keep (fun b hb' e => hb b hb' (by rw [e]; intro e; cases e)) (fun _ _ => rfl)

/-- so many nodes are copied -/
def CopyR (w : World) (ps : List Pn) (k : Nat) (out : Value) (wr : World) : Prop :=
  ∃ qs L, qs.length = k ∧ nodesOf qs = (nodesOf ps).take k ∧ wr.ownsRow w.heap.size 46 6 out k (flat qs) ∧ (∀ b, L b ≠ .other → w.heap.size ≤ b ∧ b < wr.heap.size) ∧ (∀ b, out.ownBlock = some b → L b = .other) ∧
    ∀ i p, qs[i]? = some p → Row wr L (.attrs i) 79 2 p.av p.n.attrs.length (attrCells p.n.attrs) ∧ Row wr L (.kids i) 3 1 p.kv p.n.kids.length (p.n.kids.map intV)

theorem CopyR.own {w wr : World} {ps : List Pn} {k : Nat} {out : Value} (h : CopyR w ps k out wr) : ∃ xs, wr.ownsRow w.heap.size 46 6 out k xs := by
  obtain ⟨qs, L, _, _, h3, _⟩ := h
  exact ⟨_, h3⟩
theorem CopyR.nil (w : World) (ps : List Pn) : CopyR w ps 0 (.slice none 0 0) w :=
  ⟨[], fun _ => .other, rfl, rfl, World.ownsRow_nil _ _ _ _, fun _ h => absurd rfl h, fun _ _ => rfl, fun i p hp => by simp at hp⟩

/-- all of them are -/
theorem CopyR.done {w wr : World} {ps : List Pn} {out : Value} (h : CopyR w ps ps.length out wr) : ∃ L, KeptCopy wr L out (nodesOf ps) ∧ ∀ b, L b ≠ .other → w.heap.size ≤ b := by
  obtain ⟨qs, L, h1, h2, h3, h4, h5, h6⟩ := h
  have hlt := h3.lt
  refine ⟨fun b => if out.ownBlock = some b then .nodes else L b, ⟨qs, ?_, ?_, ?_, ?_⟩, ?_⟩
  · rw [h2]; exact List.take_of_length_le (by simp [nodesOf])
  · intro b hb
    have e1 : ¬ out.ownBlock = some b := fun e => by have := (hlt b e).2; omega
    simp only [if_neg e1]
    by_cases e : L b = .other
    · exact e
    · have := (h4 b e).2; omega
  · rw [h1]
    exact own_row h3 (fun g hg => by simp only [if_pos hg])
  · have kp : ∀ {l : Lab} {e : TypeId} {size n : Nat} {v : Value} {xs : List Value}, l ≠ .other → Row wr L l e size v n xs → Row wr (fun b => if out.ownBlock = some b then .nodes else L b) l e size v n xs := by
      intro l e size n v xs hl hr
      obtain ⟨hlen, a, cap, rfl, k1, k2, k3⟩ := hr
      refine ⟨hlen, a, cap, rfl, k1, k2, ?_⟩
      rcases k3 with k3 | ⟨g, cur, rfl, hM, hg, k4, k5⟩
      · exact .inl k3
      · refine .inr ⟨g, cur, rfl, ?_, hg, k4, k5⟩
        have e1 : ¬ out.ownBlock = some g := fun e => hl (hM.symm.trans (h5 g e))
        simp only [if_neg e1]
        exact hM
    intro i p hp
    exact ⟨kp (by intro e; cases e) (h6 i p hp).1, kp (by intro e; cases e) (h6 i p hp).2⟩
  · intro b hb
    by_cases e1 : out.ownBlock = some b
    · exact (hlt b e1).1
    · simp only [if_neg e1] at hb
      exact (h4 b hb).1

/-- one more -/
theorem CopyR.step {w wr w1 w2 w3 : World} {ps : List Pn} {k : Nat} {out v1 v2 v3 : Value} {pn : Nd} {av kv : Value} {xs : List Value} (h : CopyR w ps k out wr) (hsz : w.heap.size ≤ wr.heap.size) (hp : ps[k]? = some ⟨pn, av, kv⟩) {o1 o2 : Obj}
    (hv1 : w1.ownsRow (wr.heap.size + 1) 79 2 v1 pn.attrs.length (attrCells pn.attrs)) (g1 : (wr.alloc o1).grownBy w1 none)
    (hv2 : w2.ownsRow w1.heap.size 3 1 v2 pn.kids.length (pn.kids.map intV)) (g2 : (w1.setCell ⟨wr.heap.size, 3, none⟩ v1).grownBy w2 none)
    (hx : wr.ownsRow w.heap.size 46 6 out k xs)
    (hv3 : w3.ownsRow w.heap.size 46 6 v3 (k + 1) (xs ++ [.int .i64 pn.kind, .string pn.tag, .string pn.words, v1, .int .i64 pn.parent, v2])) (g3 : ((w2.setCell ⟨wr.heap.size, 5, none⟩ v2).alloc o2).grownBy w3 out.ownBlock)
    (hat : v3.ownBlock = out.ownBlock ∨ v3.ownBlock = some ((w2.setCell ⟨wr.heap.size, 5, none⟩ v2).alloc o2).heap.size) : CopyR w ps (k + 1) v3 w3 := by
  obtain ⟨qs, L, h1, h2, h3, h4, h5, h6⟩ := h
  have exs : xs = flat qs := by
    rcases hx.2 with ⟨e1, e2⟩ | ⟨g, cap, cur, e1, _, k1, _, _, _, k2⟩
    · rcases h3.2 with ⟨_, _⟩ | ⟨g', cap', cur', e1', _⟩
      · have a1 := hx.1
        have a2 := h3.1
        subst e2
        have z1 : xs = [] := List.eq_nil_of_length_eq_zero (by simpa using a1)
        have z2 : flat qs = [] := List.eq_nil_of_length_eq_zero (by simpa using a2)
        rw [z1, z2]
      · rw [e1] at e1'; cases e1'
    · rcases h3.2 with ⟨e1', _⟩ | ⟨g', cap', cur', e1', _, k1', _, _, _, k2'⟩
      · rw [e1] at e1'; cases e1'
      · rw [e1] at e1'
        cases e1'
        rw [k1] at k1'
        cases k1'
        rw [← k2, ← k2']
  subst exs
  have s1 : wr.heap.size + 1 ≤ w1.heap.size := by have := g1.size; simpa using this
  have s2 : w1.heap.size ≤ w2.heap.size := by have := g2.size; simpa [World.setCell] using this
  have s3 : w2.heap.size + 1 ≤ w3.heap.size := by have := g3.size; simpa [World.setCell] using this
  have hol : ∀ b, out.ownBlock = some b → w.heap.size ≤ b ∧ b < wr.heap.size := h3.lt
  -- what stays
  have T3 : ∀ b, b < w2.heap.size → b ≠ wr.heap.size → out.ownBlock ≠ some b → w3.heap[b]? = w2.heap[b]? := by
    intro b hb hne ho
    rw [g3.block b (by simp [World.setCell]; omega) (fun e => ho e.symm), Below.heap_alloc _ _ b (by simpa [World.setCell] using hb)]
    exact Below.heap_setCell w2 _ _ b (by show b ≠ wr.heap.size; exact hne)
  have T2 : ∀ b, b < w1.heap.size → b ≠ wr.heap.size → w2.heap[b]? = w1.heap[b]? := by
    intro b hb hne
    rw [g2.block b (by simpa [World.setCell] using hb) (fun e => by cases e)]
    exact Below.heap_setCell w1 _ _ b (by show b ≠ wr.heap.size; exact hne)
  have T1 : ∀ b, b < wr.heap.size → w1.heap[b]? = wr.heap[b]? := by
    intro b hb
    rw [g1.block b (by simp; omega) (fun e => by cases e)]
    exact Below.heap_alloc _ _ b hb
  have B1 := hv1.lt
  have B2 := hv2.lt
  have ow1 : w3.ownsRow (wr.heap.size + 1) 79 2 v1 pn.attrs.length (attrCells pn.attrs) := own_same hv1 fun b hb => by
    obtain ⟨c1, c2⟩ := B1 b hb
    rw [T3 b (by omega) (by omega) (fun e => by have := (hol b e).2; omega), T2 b c2 (by omega)]
  have ow2 : w3.ownsRow w1.heap.size 3 1 v2 pn.kids.length (pn.kids.map intV) := own_same hv2 fun b hb => by
    obtain ⟨c1, c2⟩ := B2 b hb
    rw [T3 b c2 (by omega) (fun e => by have := (hol b e).2; omega)]
  let L' : Nat → Lab := fun b => if v1.ownBlock = some b then .attrs k else if v2.ownBlock = some b then .kids k else L b
  have old : ∀ b, b < wr.heap.size → L' b = L b := by
    intro b hb
    have e1 : ¬ v1.ownBlock = some b := fun e => by have := (B1 b e).1; omega
    have e2 : ¬ v2.ownBlock = some b := fun e => by have := (B2 b e).1; omega
    simp only [L', if_neg e1, if_neg e2]
  have b3 : ∀ b, v3.ownBlock = some b → w.heap.size ≤ b ∧ (b < wr.heap.size ∧ out.ownBlock = some b ∨ w2.heap.size ≤ b) := by
    intro b hb
    refine ⟨(hv3.lt b hb).1, ?_⟩
    rcases hat with e | e
    · rw [hb] at e; exact .inl ⟨(hol b e.symm).2, e.symm⟩
    · rw [hb] at e; cases e; right; simp [World.setCell]
  refine ⟨qs ++ [⟨pn, v1, v2⟩], L', by simp [h1], ?_, ?_, ?_, ?_, ?_⟩
  · rw [List.take_add_one, ← h2, nodes_get hp]
    simp [nodesOf]
  · rw [flat_append]; exact hv3
  · intro b hb
    by_cases e1 : v1.ownBlock = some b
    · have := B1 b e1; omega
    · by_cases e2 : v2.ownBlock = some b
      · have := B2 b e2; omega
      · simp only [L', if_neg e1, if_neg e2] at hb
        have := h4 b hb; omega
  · intro b hb
    rcases (b3 b hb).2 with ⟨c1, c2⟩ | c1
    · rw [old b c1]; exact h5 b c2
    · have e1 : ¬ v1.ownBlock = some b := fun e => by have := (B1 b e).2; omega
      have e2 : ¬ v2.ownBlock = some b := fun e => by have := (B2 b e).2; omega
      simp only [L', if_neg e1, if_neg e2]
      by_cases e : L b = .other
      · exact e
      · have := (h4 b e).2; omega
  · intro i p hpp
    by_cases hi : i < qs.length
    · rw [List.getElem?_append_left hi] at hpp
      have kp : ∀ {l : Lab} {e : TypeId} {size n : Nat} {v : Value} {xs : List Value}, l ≠ .other → Row wr L l e size v n xs → Row w3 L' l e size v n xs := by
        intro l e size n v xs hl hr
        refine hr.keep (fun b hb e => ?_) old
        have e3 : out.ownBlock ≠ some b := fun e' => hl (e.symm.trans (h5 b e'))
        rw [T3 b (by omega) (by omega) e3, T2 b (by omega) (by omega), T1 b hb]
      exact ⟨kp (by intro e; cases e) (h6 i p hpp).1, kp (by intro e; cases e) (h6 i p hpp).2⟩
    · rw [List.getElem?_append_right (by omega)] at hpp
      have e0 : i - qs.length = 0 := by
        rcases Nat.eq_zero_or_pos (i - qs.length) with e | e
        · exact e
        · rw [List.getElem?_eq_none (by simp; omega)] at hpp; cases hpp
      rw [e0] at hpp
      cases hpp
      obtain rfl : i = k := by omega
      refine ⟨own_row ow1 (fun g hg => ?_), own_row ow2 (fun g hg => ?_)⟩
      · simp only [L', if_pos hg]
      · have e1 : ¬ v1.ownBlock = some g := fun e => by have a := (B1 g e).2; have b := (B2 g hg).1; omega
        simp only [L', if_neg e1, if_pos hg]

def CopiedE (w : World) (ns : List Nd) (e : Ending) (w' : World) : Prop := ∃ a n c, e = .returned (.slice a n c) ∧ Below w.heap.size w w' ∧ ∃ L, KeptCopy w' L (.slice a n c) ns ∧ ∀ b, L b ≠ .other → w.heap.size ≤ b

set_option maxHeartbeats 8000000 in
set_option maxRecDepth 100000 in
theorem copiedE_any {w : World} {M : Nat → Lab} {tb : Nat} {nv uv : Value} {ps : List Pn} {us : List Value} (h : RLies w M tb nv uv ps us) (hs : Small ps) (hn : ps.length ≤ 1000000) :
    Calls Tryz.prog 77 #[nv] w (CopiedE w (nodesOf ps)) := by
  obtain ⟨i0, hi, hz0, hz1, hz2⟩ := info_parts Tryz.infoRnode
  obtain ⟨i1, hi1, hz10, hz11, hz12⟩ := info_parts Tryz.infoAttr
  obtain ⟨i2, hi2, hz20, hz21, hz22⟩ := info_parts Tryz.infoInt
  obtain ⟨a, cap, rfl, hc, hm⟩ := h.nodes.shape
  unfold maxLen at hm
  have H : Hid (∀ (k : Nat) p, ps[k]? = some p → ∃ nb, a = some ⟨nb, 0, none⟩ ∧ nb < w.heap.size ∧ (∀ f c, f < 6 → p.cells[f]? = some c → w.cell? ⟨nb, k * 6 + f, none⟩ = some c) ∧ SrcOf w 2 p.av p.n.attrs.length (attrCells p.n.attrs) ∧ SrcOf w 1 p.kv p.n.kids.length (p.n.kids.map intV) ∧ p.n.attrs.length ≤ 1099511627776 ∧ p.n.kids.length ≤ 1099511627776) := by
    intro k p hp
    obtain ⟨nb, c, hv, _, _, _, hl, _⟩ := h.form hp
    cases hv
    exact ⟨nb, rfl, hl, fun f c hf hc => (h.cellN rfl hp hf hc).1, (h.node k p hp).1.src (one_attr _), (h.node k p hp).2.src (one_int _), hs k p hp⟩
  clear h hs
  go_enter Tryz.func77, Tryz.ntmps77
  go_wp2
  go_loopw [3, 4] (fun out i wr => ∃ k : Nat, k ≤ ps.length ∧ i = .int .i64 k ∧ Hid (CopyR w ps k out wr) ∧ Hid (Below w.heap.size w wr)) (fun _ i _ => ps.length - (intOf i).toNat)
  case atStart => exact ⟨0, by omega, rfl, CopyR.nil w ps, Below.refl _ _⟩
  case round =>
    obtain ⟨k, hk, rfl, hown, hbel⟩ := hrel
    by_cases hlt : k < ps.length
    · obtain ⟨p, hp⟩ : ∃ p, ps[k]? = some p := ⟨_, List.getElem?_eq_getElem hlt⟩
      obtain ⟨nb, rfl, hnb, hcell, hsa, hsk, hla, hlk⟩ := H.out k p hp
      obtain ⟨xs, hxs⟩ := hown.out.own
      have HS : Hid (SrcOf w 2 p.av p.n.attrs.length (attrCells p.n.attrs) ∧ SrcOf w 1 p.kv p.n.kids.length (p.n.kids.map intV)) := ⟨hsa, hsk⟩
      obtain ⟨_, _, aa, ac, hav, _⟩ := hsa
      obtain ⟨_, _, ka, kc, hkv, _⟩ := hsk
      have cc : ∀ f c, f < 6 → p.cells[f]? = some c → wr.cell? ⟨nb, k * 6 + f, none⟩ = some c := fun f c hf hc => (hbel.out.cell (p := ⟨nb, k * 6 + f, none⟩) hnb).trans (hcell f c hf hc)
      have c0 := cc 0 _ (by omega) rfl
      rw [Nat.add_zero] at c0
      have c1 := cc 1 _ (by omega) rfl
      have c2 := cc 2 _ (by omega) rfl
      have c3 := cc 3 _ (by omega) rfl
      have c4 := cc 4 _ (by omega) rfl
      have c5 := cc 5 _ (by omega) rfl
      rw [hav] at c3
      rw [hkv] at c5
      have HO : Hid (wr.ownsRow w.heap.size 46 6 u3 k xs) := hxs
      have hsz := hbel.out.size
      have hnl := Nat.lt_of_lt_of_le hnb hsz
      obtain ⟨pn, pav, pkv⟩ := p
      dsimp only at hav hkv
      subst hav
      subst hkv
      dsimp only at c0 c1 c2 c3 c4 c5 hla hlk HS
      have HP : Hid _ := hp
      clear cc hcell hp hxs
      go_wp2_with (first
        | (at_builtin; refine wpList_app_own _ (by rfl) _ _ 37 (by rfl) (wr.heap.size + 1) 79 i1 _ 2 32 Tryz.underlying37 hi1 hz10 hz11 hz12 rfl (by decide) (.slice none 0 0) 0 [] (by rfl) (World.ownsRow_nil _ _ _ _) (.slice aa pn.attrs.length ac) pn.attrs.length (attrCells pn.attrs) (by rfl) (HS.out.1.below (hbel.out.alloc hsz _)) (by unfold maxLen; omega) (by omega) (by simp) ?_
           intro v1 w1 hv1 hg1 _
           have hb1 := (below_grown hg1).block wr.heap.size (by simp)
           rw [heap_alloc_new wr] at hb1
           obtain ⟨d0, d1, d2, d3, d4, d5⟩ := six_cells hb1
           have df3 := box_frozen hb1 3
           rw [Nat.zero_add] at hv1
           obtain ⟨a1, e1, rfl⟩ := own_shape hv1
           obtain ⟨s0, s1, s2, s3, s4, s5⟩ := six_cells (box_set hb1 (.slice a1 pn.attrs.length e1)).1
           have HB1 : Hid (Below wr.heap.size wr w1) := ((Below.refl wr.heap.size wr).alloc (Nat.le_refl _) _).trans ((below_grown hg1).mono (by simp))
           have HX1 : Hid _ := (box_set hb1 (.slice a1 pn.attrs.length e1)).1
           have HG1 : Hid _ := And.intro hv1 hg1
           clear hv1 hg1 hb1)
        | (at_builtin; refine wpList_app_own _ (by rfl) _ _ 38 (by rfl) w1.heap.size 3 i2 _ 1 8 Tryz.underlying38 hi2 hz20 hz21 hz22 rfl (by decide) (.slice none 0 0) 0 [] (by rfl) (World.ownsRow_nil _ _ _ _) (.slice ka pn.kids.length kc) pn.kids.length (pn.kids.map intV) (by rfl) (HS.out.2.below (hbel.out.trans ((HB1.out.setCell (Nat.le_refl _) _).mono hsz))) (by unfold maxLen; omega) (by omega) (by simp [World.setCell]) ?_
           intro v2 w2 hv2 hg2 _
           have hlx : wr.heap.size < w1.heap.size := World.block_lt_of_cell? w1 _ d0
           have hb2 := (below_grown hg2).block wr.heap.size (by simpa using hlx)
           rw [HX1.out] at hb2
           obtain ⟨t0, t1, t2, t3, t4, t5⟩ := six_cells hb2
           have df5 := box_frozen hb2 5
           rw [Nat.zero_add] at hv2
           obtain ⟨a2, e2, rfl⟩ := own_shape hv2
           obtain ⟨r0, r1, r2, r3, r4, r5⟩ := six_cells (box_set hb2 (.slice a2 pn.kids.length e2)).2
           have HB2 : Hid (Below wr.heap.size wr (w2.setCell ⟨wr.heap.size, 5, none⟩ (.slice a2 pn.kids.length e2))) := ((HB1.out.setCell (Nat.le_refl _) _).trans ((below_grown hg2).mono (by simpa using HB1.out.size))).setCell (Nat.le_refl _) _
           have HG2 : Hid _ := And.intro hv2 hg2
           clear hv2 hg2 hb2)
        | (at_builtin; refine wpList_app_own _ (by rfl) _ _ 25 (by rfl) w.heap.size 46 i0 _ 6 96 Tryz.underlying25 hi hz0 hz1 hz2 rfl (by decide) u3 k xs (by rfl) ((own_below HO.out HB2.out (Nat.le_refl _)).alloc _) _ 1 [.int .i64 pn.kind, .string pn.tag, .string pn.words, .slice a1 pn.attrs.length e1, .int .i64 pn.parent, .slice a2 pn.kids.length e2] (by rfl) ⟨rfl, by simp [Value.oneCell'], _, _, rfl, .inr ⟨_, rfl, news_new _ #[.int .i64 pn.kind, .string pn.tag, .string pn.words, .slice a1 pn.attrs.length e1, .int .i64 pn.parent, .slice a2 pn.kids.length e2] 46 _ (by simp)⟩⟩ (by unfold maxLen; omega) (by omega) (by have := HB2.out.size; simp at this ⊢; omega) ?_
           intro v3 w3 hv3 hg3 hat3
           have HV : Hid (w3.ownsRow w.heap.size 46 6 v3 (k + 1) (xs ++ [.int .i64 pn.kind, .string pn.tag, .string pn.words, .slice a1 pn.attrs.length e1, .int .i64 pn.parent, .slice a2 pn.kids.length e2])) := hv3
           have HB3 : Hid (Below w.heap.size w w3) := ((hbel.out.trans (HB2.out.mono hsz)).alloc (Nat.le_trans hsz HB2.out.size) _).grown hg3 (by have := HB2.out.size; simp at this ⊢; omega) (fun b hb => (HO.out.lt b hb).1)
           have HG3 : Hid _ := And.intro hv3 (And.intro hg3 hat3)
           clear hv3 hg3 hat3))
      go_roundw
      case rel => go_light; exact ⟨k + 1, by omega, by go_num, CopyR.step hown.out hsz HP.out HG1.out.1 HG1.out.2 HG2.out.1 HG2.out.2 HO.out HG3.out.1 HG3.out.2.1 HG3.out.2.2, HB3⟩
      case measure => go_light; simp [intOf]; omega
    · obtain ⟨xs, hxs⟩ := hown.out.own
      obtain rfl : k = ps.length := by omega
      obtain ⟨a3, c3, rfl⟩ := own_shape hxs
      go_wp2
      go_ret
      exact ⟨_, _, _, rfl, hbel.out, hown.out.done⟩
end Go.Proofs.YtjfklhfdonbpgaaGreatDoor

/- The document's answer: what is kept of what was; new nodes. -/
namespace Go.Proofs.YtjfklhfdonbpgaaGreatDoor
open Go.RowKit

section
variable {P : Program}
/-- a call of a function that has a body -/
theorem run_enter {f : FuncId} {fn : Func} {c : Code} (hf : P.funcs[f]? = some fn) (hname : (fn.name == "runtime.NumGoroutine") = false) (hb : fn.body = some c) (args : Array Value) (w : World) :
    (callFunc f args).run P w = .ok (.enter f args) w := by
  have h1 : fn.name ≠ "runtime.NumGoroutine" := by simpa using hname
  simp [callFunc, Sem.run_bind, hf, h1, hb]

/-- a call of a function at a step of a region that draws its order -/
theorem step_call (w : World) {ops : Array Oper} {o : Oper} {a : Act} {K : Act → World → Prop} {Q : Exit → Act → World → Prop} {E : Prop} (hgd : o.guard = none) (f : FuncId) (xs : List Operand) (ts : Array TypeId)
    (ho : o.op = .call { callee := .value (.func f), args := xs.toArray, argTypes := ts }) {fn : Func} {c : Code} (hf : P.funcs[f]? = some fn) (hname : (fn.name == "runtime.NumGoroutine") = false) (hb : fn.body = some c)
    (xv : List Value) (hx : xs.map a.eval = xv) {R : Ending → World → Prop} (h : Calls P f xv.toArray w R)
    (hR : ∀ e w', R e w' → ∃ v, e = .returned v ∧ K (a.put o.dst v) w') :
    if Region.wanted o (yielded ops a.tmps) = true then Oper.wp P o a w K Q else E := by
  have hw : Region.wanted o (yielded ops a.tmps) = true := by simp [Region.wanted, hgd]
  rw [if_pos hw]
  unfold Oper.wp execOp
  have hr : ∀ w, (Deferred.ofValue (a.eval (Operand.func f)) xv.toArray).run P w = .ok ⟨.fn (.func f) #[], xv.toArray⟩ w := fun w => by
    simp [go_sem, Deferred.ofValue, Act.eval]
  simp only [ho, resolve, invoke, Sem.run_bind, List.map_toArray, hx, hr, Result.andThen_ok, run_enter hf hname hb, Array.append_empty]
  rw [Oper.upon_enter]
  refine h.mono fun e w' hRe => ?_
  obtain ⟨v, rfl, hv⟩ := hR e w' hRe
  exact hv
end

/-- what was is kept -/
def RKept (w : World) (M : Nat → Lab) (tb : Nat) (nv : Value) (ps : List Pn) (us : List Value) (e : Ending) (w' : World) : Prop :=
  e = .returned (.tuple #[]) ∧ ∃ M' uv' v, RLies w' M' tb nv uv' ps (us ++ [v]) ∧ Moved w M w' M'

set_option maxHeartbeats 4000000 in
set_option maxRecDepth 100000 in
theorem rkeep_any {w : World} {M : Nat → Lab} {tb : Nat} {nv uv : Value} {ps : List Pn} {us : List Value} (h : RLies w M tb nv uv ps us) (hs : Small ps) (hn : ps.length ≤ 1000000) (hu : us.length ≤ 1000000000) :
    Calls Tryz.prog 52 #[.pointer (some ⟨tb, 0, none⟩)] w (RKept w M tb nv ps us) := by
  obtain ⟨i0, hi, hz0, hz1, hz2⟩ := info_parts Tryz.infoRnodes
  obtain ⟨a, cap, ha, hc, hm⟩ := h.undos.shape
  subst ha
  have c0 := h.cell0
  have c1 := h.cell1
  have hlt : tb < w.heap.size := lt_of_heap h.head
  have H : Hid (RLies w M tb nv (.slice a us.length cap) ps us) := h
  have HS : Hid (Small ps) := hs
  clear h hs
  go_enter Tryz.func52, Tryz.ntmps52
  go_wp2
  go_region_law ((first
    | (refine step_call _ (by rfl) 77 [.tmp 10] #[25] (by rfl) Tryz.func77 (by kernel_rfl) (by rfl) [nv] (by simp [Act.eval]) (copied_any H.out.drew HS.out hn) ?_
       rintro e w1 ⟨a1, n1, e1, rfl, hB1⟩
       refine ⟨_, rfl, ?_⟩
       have H1 : Hid (RLies w1 M tb nv (.slice a us.length cap) ps us) := H.out.drew.below hB1
       have q0 := H1.out.cell0
       have q1 := H1.out.cell1
       have hl1 : tb < w1.heap.size := lt_of_heap H1.out.head
       have HB1 : Hid (Below w.heap.size w w1) := (Below.refl _ _).drew.trans hB1
       clear hB1)
    | (refine step_app_row _ (by rfl) (.tmp 6) (.tmp 12) 26 (by rfl) M .undos 25 i0 (.slice none 0 0) 1 24 Tryz.underlying26 hi hz0 hz1 hz2 rfl (by decide) (.slice a us.length cap) us.length us (by simp [Act.eval]) (H1.out.alloc _).undos ⟨w1.heap.size, 0, none⟩ 1 1 [.slice a1 n1 e1] (by simp [Act.eval]) rfl (cell_one_new _ _ _) (by simp [Value.oneCell']) (by decide) (by unfold maxLen; omega) (by omega) (H1.out.alloc _).fresh ?_
       intro g cap1 w2 M2 hr st
       obtain ⟨hc0, hc1, hf0, hf1⟩ := head_cell ((st.far tb (lt_of_heap (H1.out.alloc _).head) (by rw [H1.out.tree]; intro e; cases e)).trans (H1.out.alloc _).head)
       have HR : Hid _ := (H1.out.alloc _).headUndos (uv' := .slice (some ⟨g, 0, none⟩) (us.length + 1) cap1) (us' := us ++ [.slice a1 n1 e1]) st (by rw [List.length_append]; exact hr)
       clear hr st)))
  all_goals go_wp2
  all_goals go_end0
  all_goals exact ⟨rfl, M2, _, _, HR.out.1, (((Moved.refl _ _).below HB1.out).alloc _).trans HR.out.2⟩

theorem rhas_any {w : World} {M : Nat → Lab} {tb : Nat} {nv uv : Value} {ps : List Pn} {us : List Value} (h : RLies w M tb nv uv ps us) (id : Int) :
    Calls Tryz.prog 43 #[.pointer (some ⟨tb, 0, none⟩), .int .i64 id] w fun e w' => e = .returned (.bool (hasB ps.length id)) ∧ w' = w := by
  obtain ⟨a, cap, rfl, hc, hm⟩ := h.nodes.shape
  have c0 := h.cell0
  unfold maxLen at hm
  go_enter Tryz.func43, Tryz.ntmps43
  go_wp2
  all_goals go_ret
  all_goals refine ⟨ret_bool ?_, rfl⟩
  all_goals (unfold hasB; simp; try omega)
end Go.Proofs.YtjfklhfdonbpgaaGreatDoor
