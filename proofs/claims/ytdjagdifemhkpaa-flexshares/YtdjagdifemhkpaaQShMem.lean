/- The document's Share: what lies in memory. -/
import Derived.Test.YtdjagdifemhkpaaQMem
import Derived.Deep.DeepCutAuto
import Derived.BigRegion
namespace Go.Proofs.Ytdjagdifemhkpaa
open Go.RowKit
set_option linter.unusedVariables false      -- bounds that are for the walk

structure QSt (wl wr : World) (g1 g2 g3 n : Nat) (O : Nat → Int) (D : Nat → Bool) (Fc : Nat → Int) : Prop where
  below : Below wl.heap.size wl wr
  lo1 : wl.heap.size ≤ g1
  lo2 : wl.heap.size ≤ g2
  lo3 : wl.heap.size ≤ g3
  ne12 : g1 ≠ g2
  ne13 : g1 ≠ g3
  ne23 : g2 ≠ g3
  o : BlkF wr g1 3 n (fun j => .int .i64 (O j))
  d : BlkF wr g2 4 n (fun j => .bool (D j))
  f : BlkF wr g3 3 n (fun j => .int .i64 (Fc j))
section
variable {wl wr W : World} {g1 g2 g3 n : Nat} {O O' : Nat → Int} {D D' : Nat → Bool} {Fc Fc' : Nat → Int}
theorem QSt.held (h : QSt wl wr g1 g2 g3 n O D Fc) (hb : Below wr.heap.size wr W) : QSt wl W g1 g2 g3 n O D Fc :=
  ⟨h.below.trans (hb.mono h.below.size), h.lo1, h.lo2, h.lo3, h.ne12, h.ne13, h.ne23, h.o.held hb, h.d.held hb, h.f.held hb⟩
theorem QSt.congr (h : QSt wl wr g1 g2 g3 n O D Fc) (h1 : ∀ j, j < n → O j = O' j) (h2 : ∀ j, j < n → D j = D' j) (h3 : ∀ j, j < n → Fc j = Fc' j) : QSt wl wr g1 g2 g3 n O' D' Fc' :=
  ⟨h.below, h.lo1, h.lo2, h.lo3, h.ne12, h.ne13, h.ne23, h.o.congr (fun j hj => by rw [h1 j hj]), h.d.congr (fun j hj => by rw [h2 j hj]), h.f.congr (fun j hj => by rw [h3 j hj])⟩
theorem QSt.setO (h : QSt wl wr g1 g2 g3 n O D Fc) (k : Nat) (x : Int) : QSt wl (wr.setCell ⟨g1, k, none⟩ (.int .i64 x)) g1 g2 g3 n (fun j => if j = k then x else O j) D Fc :=
  ⟨h.below.setCell h.lo1 _, h.lo1, h.lo2, h.lo3, h.ne12, h.ne13, h.ne23, (h.o.set k _).congr (fun j hj => by split <;> simp [*]), h.d.other (Ne.symm h.ne12) _ _, h.f.other (Ne.symm h.ne13) _ _⟩
theorem QSt.setD (h : QSt wl wr g1 g2 g3 n O D Fc) (k : Nat) (x : Bool) : QSt wl (wr.setCell ⟨g2, k, none⟩ (.bool x)) g1 g2 g3 n O (fun j => if j = k then x else D j) Fc :=
  ⟨h.below.setCell h.lo2 _, h.lo1, h.lo2, h.lo3, h.ne12, h.ne13, h.ne23, h.o.other h.ne12 _ _, (h.d.set k _).congr (fun j hj => by split <;> simp [*]), h.f.other (Ne.symm h.ne23) _ _⟩
theorem QSt.setF (h : QSt wl wr g1 g2 g3 n O D Fc) (k : Nat) (x : Int) : QSt wl (wr.setCell ⟨g3, k, none⟩ (.int .i64 x)) g1 g2 g3 n O D (fun j => if j = k then x else Fc j) :=
  ⟨h.below.setCell h.lo3 _, h.lo1, h.lo2, h.lo3, h.ne12, h.ne13, h.ne23, h.o.other h.ne13 _ _, h.d.other h.ne23 _ _, (h.f.set k _).congr (fun j hj => by split <;> simp [*])⟩
theorem QSt.start (h1 : BlkF wr g1 3 n (fun _ => .int .i64 0)) (h2 : BlkF wr g2 4 n (fun _ => .bool false)) (h3 : BlkF wr g3 3 n (fun _ => .int .i64 0)) (hb : Below wl.heap.size wl wr) (l1 : wl.heap.size ≤ g1) (l2 : g1 < g2) (l3 : g2 < g3) : QSt wl wr g1 g2 g3 n (fun _ => 0) (fun _ => false) (fun _ => 0) :=
  ⟨hb, l1, by omega, by omega, by omega, by omega, by omega, h1, h2, h3⟩
end

/-- gaps between the first of so many -/
theorem gapsN_succ (k : Nat) (gap : Int) : gapsN (k + 1) gap = if 0 < k then gapsN k gap + gap else gapsN k gap := by
  unfold gapsN
  split
  · rw [show max (((k + 1 : Nat) : Int) - 1) 0 = max ((k : Int) - 1) 0 + 1 by omega, Int.add_mul]; omega
  · obtain rfl : k = 0 := by omega
    rfl
theorem gapsN_zero (gap : Int) : gapsN 0 gap = 0 := by
  unfold gapsN
  rw [show max (((0 : Nat) : Int) - 1) 0 = 0 by omega, Int.zero_mul]
theorem arsN_succ {its : List It} {k : Nat} {i : It} (h : its[k]? = some i) : arsN its (k + 1) = arsN its k + i.ar := by
  unfold arsN; rw [List.take_add_one, h]; simp
theorem holdsN_succ {its : List It} {k : Nat} {i : It} (h : its[k]? = some i) : holdsN its (k + 1) = holdsN its k + bndI i i.b := by
  unfold holdsN; rw [List.take_add_one, h]; simp
theorem ItsOk.holds {its : List It} (h : ItsOk its) (k : Nat) : 0 ≤ holdsN its k ∧ holdsN its k ≤ 3355443200 := by
  have := sum_map_bd (fun i => bndI i i.b) 16777216 (its.take k) (fun i hi => bndI_b (h.ok i (List.mem_of_mem_take hi)))
  have hl : (its.take k).length ≤ 200 := by rw [List.length_take]; have := h.len; omega
  unfold holdsN; omega
def qcount (l : List It) : List It := (l.take 200).map qitN
theorem qcount_ok (l : List It) : ItsOk (qcount l) := by
  refine ⟨by unfold qcount; rw [List.length_map, List.length_take]; omega, fun i hi => ?_⟩
  obtain ⟨j, _, rfl⟩ := List.mem_map.1 hi
  exact qitN_ok j
theorem qcount_mn (l : List It) : ∀ i ∈ qcount l, 0 ≤ i.mn := fun i hi => by
  obtain ⟨j, _, rfl⟩ := List.mem_map.1 hi
  show 0 ≤ max _ _; omega

def setB (ps : List Pr) (k : Nat) : Bool := match ps[k]? with | some p => p.settled | none => false
theorem setB_at {ps : List Pr} {k : Nat} {p : Pr} (h : ps[k]? = some p) : setB ps k = p.settled := by unfold setB; rw [h]

theorem map_atF (f : Pr → Int) (qs : List Pr) {n : Nat} (h : qs.length = n) : qs.map f = (List.range n).map (atF f qs) := by
  subst h
  apply List.ext_getElem?
  intro k
  rw [List.getElem?_map, List.getElem?_map]
  by_cases hk : k < qs.length
  · rw [List.getElem?_range hk, List.getElem?_eq_getElem hk]
    simp only [Option.map_some]
    rw [atF_at (List.getElem?_eq_getElem hk)]
  · rw [List.getElem?_eq_none (by omega), List.getElem?_eq_none (by simp; omega)]; rfl
theorem map_setB (qs : List Pr) {n : Nat} (h : qs.length = n) : qs.map Pr.settled = (List.range n).map (setB qs) := by
  subst h
  apply List.ext_getElem?
  intro k
  rw [List.getElem?_map, List.getElem?_map]
  by_cases hk : k < qs.length
  · rw [List.getElem?_range hk, List.getElem?_eq_getElem hk]
    simp only [Option.map_some]
    rw [setB_at (List.getElem?_eq_getElem hk)]
  · rw [List.getElem?_eq_none (by omega), List.getElem?_eq_none (by simp; omega)]; rfl
def openW (w : World) (g n : Nat) : Nat := ((List.range n).filter fun k => match w.cell? ⟨g, k, none⟩ with | some (.bool false) => true | _ => false).length
theorem openW_eq {w : World} {g n : Nat} {qs : List Pr} (h : BlkF w g 4 n (fun j => .bool (setB qs j))) (hl : qs.length = n) : openW w g n = (openL qs).length := by
  unfold openW openL
  rw [hl]
  congr 1
  apply List.filter_congr
  intro k hk
  have hk' : k < qs.length := by rw [hl]; exact List.mem_range.1 hk
  rw [h.cell (List.mem_range.1 hk), setB_at (List.getElem?_eq_getElem hk'), List.getElem?_eq_getElem hk']
  generalize qs[k] = p
  cases hp : p.settled <;> simp [hp]
theorem count_open (qs : List Pr) : ∀ k, k ≤ qs.length → sumO (fun _ => 1) qs k = (((List.range k).filter fun k => match qs[k]? with | some p => !p.settled | none => false).length : Nat)
  | 0, _ => by simp [sumO]
  | k + 1, hk => by
    obtain ⟨p, hp⟩ : ∃ p, qs[k]? = some p := ⟨_, List.getElem?_eq_getElem (by omega)⟩
    rw [sumO_succ hp, count_open qs k (by omega), List.range_succ, List.filter_append, List.length_append]
    cases hs : p.settled <;> simp [hp, hs]
theorem count_all (qs : List Pr) : sumO (fun _ => 1) qs qs.length = ((openL qs).length : Nat) := count_open qs _ (Nat.le_refl _)
/-- between two rounds of the document's -/
def QInv (wl wr : World) (g1 g2 g3 n : Nat) (gw : Bool) (rz st : Int) (its : List It) (fin : List Pr) : Prop :=
  ∃ qs, QSt wl wr g1 g2 g3 n (atF Pr.size qs) (setB qs) (atF (facP gw) qs) ∧ qs.map Pr.i = its ∧ StOk qs ∧ ∃ f, (openL qs).length ≤ f ∧ shareL gw rz st f qs = fin
def gainI (ds : List Pr) (k : Nat) : Int := if setB ds k = true then 0 else atF Pr.moved ds k
def restOf : Nat → Code → Code
  | 0, c => c
  | n + 1, .seq _ c => restOf n c
  | _, c => c
def inB : Code → Code
  | .block _ c => c
  | c => c
def inLp : Code → Code
  | .loop c => c
  | c => c
def fstOf : Code → Code
  | .seq c _ => c
  | c => c
def bodyOf (f : Func) : Code := match f.body with | some c => c | none => .skip
/-- a round of the document's Share -/
def roundS (f : Func) : Code := inB (inLp (inB (restOf 14 (bodyOf f))))
end Go.Proofs.Ytdjagdifemhkpaa
