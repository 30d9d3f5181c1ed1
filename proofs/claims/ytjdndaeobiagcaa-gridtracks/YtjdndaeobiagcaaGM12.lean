/- A stable sort by places: the list that comes out, by spans. -/
import Derived.Test.YtjdndaeobiagcaaGM04
import Derived.Test.YtjdndaeobiagcaaGM00
namespace Go.Proofs.Ytjdndaeobiagcaa
open Go.RowKit
set_option linter.unusedVariables false      -- bounds that are for the walk

theorem sorted_unique {α : Type} {R : α → α → Prop} (irr : ∀ x, ¬ R x x) (tr : ∀ x y z, R x y → R y z → R x z) : ∀ l1 l2 : List α, l1.Pairwise R → l2.Pairwise R → (∀ x, x ∈ l1 ↔ x ∈ l2) → l1 = l2
  | [], [], _, _, _ => rfl
  | [], b :: s, _, _, h => absurd ((h b).2 (List.mem_cons_self ..)) (by simp)
  | a :: r, [], _, _, h => absurd ((h a).1 (List.mem_cons_self ..)) (by simp)
  | a :: r, b :: s, h1, h2, h => by
    rw [List.pairwise_cons] at h1 h2
    have hab : a = b := by
      rcases List.mem_cons.1 ((h a).1 (List.mem_cons_self ..)) with e | e
      · exact e
      · rcases List.mem_cons.1 ((h b).2 (List.mem_cons_self ..)) with e2 | e2
        · exact e2.symm
        · exact absurd (tr _ _ _ (h1.1 b e2) (h2.1 a e)) (irr a)
    subst hab
    congr 1
    refine sorted_unique irr tr r s h1.2 h2.2 (fun x => ⟨fun hx => ?_, fun hx => ?_⟩)
    · rcases List.mem_cons.1 ((h x).1 (List.mem_cons_of_mem _ hx)) with e | e
      · subst e; exact absurd (h1.1 x hx) (irr x)
      · exact e
    · rcases List.mem_cons.1 ((h x).2 (List.mem_cons_of_mem _ hx)) with e | e
      · subst e; exact absurd (h2.1 x hx) (irr x)
      · exact e
/-- needs by their spans, each span's as they stood -/
def byspan (l : List Nd3) : List Nd3 := (List.range 20).flatMap (fun (s : Nat) => l.filter (fun x => decide (x.s = (s : Int) + 1)))
theorem tags_byspan {key : Nat → Int} {n : Nat} {t : Tg} (hk : ∀ i, i < n → 1 ≤ key i ∧ key i ≤ 20) (hs : Srt key t 0 n) (hp : Prm 0 n (fun i => i) t) : (List.range n).map t = (List.range 20).flatMap (fun (s : Nat) => (List.range n).filter (fun i => decide (key i = (s : Int) + 1))) := by
  refine sorted_unique (R := lex key) (fun x h => h.irr) (fun x y z h1 h2 => h1.trans h2) _ _ ?_ ?_ ?_
  · rw [List.pairwise_iff_getElem]
    intro i j hi hj hij
    simp only [List.length_map, List.length_range] at hi hj
    simp only [List.getElem_map, List.getElem_range]
    exact hs i j (Nat.zero_le _) hij hj
  · rw [List.pairwise_flatMap]
    refine ⟨fun s _ => ?_, ?_⟩
    · refine List.Pairwise.imp_of_mem ?_ ((List.pairwise_lt_range (n := n)).filter _)
      intro i j hi hj hij
      have e1 := of_decide_eq_true (List.mem_filter.1 hi).2
      have e2 := of_decide_eq_true (List.mem_filter.1 hj).2
      unfold lex
      omega
    · refine List.Pairwise.imp ?_ (List.pairwise_lt_range (n := 20))
      intro a b hab x hx y hy
      have e1 := of_decide_eq_true (List.mem_filter.1 hx).2
      have e2 := of_decide_eq_true (List.mem_filter.1 hy).2
      unfold lex
      omega
  · intro x
    constructor
    · intro hx
      obtain ⟨i, hi, rfl⟩ := List.mem_map.1 hx
      obtain ⟨j, j1, j2, j3⟩ := hp.fro i (Nat.zero_le _) (List.mem_range.1 hi)
      rw [j3]
      have hj := hk j j2
      rw [List.mem_flatMap]
      exact ⟨(key j - 1).toNat, List.mem_range.2 (by omega), List.mem_filter.2 ⟨List.mem_range.2 j2, decide_eq_true (by omega)⟩⟩
    · intro hx
      obtain ⟨s, _, hx⟩ := List.mem_flatMap.1 hx
      have hxn := List.mem_range.1 (List.mem_filter.1 hx).1
      obtain ⟨j, j1, j2, j3⟩ := hp.to x (Nat.zero_le _) hxn
      exact List.mem_map.2 ⟨j, List.mem_range.2 j2, j3.symm⟩
theorem sorted_byspan {D : Nat → Nd3} {n : Nat} {t : Tg} (hk : ∀ i, i < n → 1 ≤ (D i).s ∧ (D i).s ≤ 20) (hs : Srt (fun i => (D i).s) t 0 n) (hp : Prm 0 n (fun i => i) t) : (List.range n).map (fun i => D (t i)) = byspan ((List.range n).map D) := by
  have h := congrArg (List.map D) (tags_byspan hk hs hp)
  rw [List.map_map] at h
  refine Eq.trans h ?_
  unfold byspan
  rw [List.map_flatMap]
  congr 1
  funext s
  rw [List.filter_map]
  rfl
end Go.Proofs.Ytjdndaeobiagcaa

/- Rows that are shared, as plain mathematics. -/
namespace Go.Proofs.Ytjdndaeobiagcaa
open Go.RowKit

/-- an item -/
structure It where
  b : Int
  mn : Int
  mx : Int
  ar : Int
  gr : Int
  sh : Int

def facN (n : Int) : Int := if 1000000000 < max n 0 then 1000000000 else max n 0
/-- an item as it counts -/
def itN (i : It) : It := ⟨max (heldN i.b) 0, heldN i.mn, heldN i.mx, heldN i.ar, facN i.gr, facN i.sh⟩
/-- held by its bounds -/
def capN (n mx : Int) : Int := if 0 ≤ mx ∧ mx < n then mx else n
def bndI (i : It) (n : Int) : Int := max (capN n i.mx) (max i.mn 0)
def wantN (i : It) : Int := bndI i i.b + i.ar

structure It.Ok (i : It) : Prop where
  b0 : 0 ≤ i.b
  b1 : i.b ≤ 16777216
  mn0 : -16777216 ≤ i.mn
  mn1 : i.mn ≤ 16777216
  mx0 : -16777216 ≤ i.mx
  mx1 : i.mx ≤ 16777216
  ar0 : -16777216 ≤ i.ar
  ar1 : i.ar ≤ 16777216
  gr0 : 0 ≤ i.gr
  gr1 : i.gr ≤ 1000000000
  sh0 : 0 ≤ i.sh
  sh1 : i.sh ≤ 1000000000

theorem facN_bd (n : Int) : 0 ≤ facN n ∧ facN n ≤ 1000000000 := by unfold facN; split <;> omega
theorem itN_ok (i : It) : (itN i).Ok := by
  have h1 := heldN_bd i.b
  have h2 := heldN_bd i.mn
  have h3 := heldN_bd i.mx
  have h4 := heldN_bd i.ar
  have h5 := facN_bd i.gr
  have h6 := facN_bd i.sh
  exact ⟨by simp only [itN]; omega, by simp only [itN]; omega, h2.1, h2.2, h3.1, h3.2, h4.1, h4.2, h5.1, h5.2, h6.1, h6.2⟩

theorem bndI_b {i : It} (h : i.Ok) : 0 ≤ bndI i i.b ∧ bndI i i.b ≤ 16777216 := by
  have := h.b0; have := h.b1; have := h.mn1; have := h.mx1
  unfold bndI capN; split <;> omega
theorem bndI_bd {i : It} (h : i.Ok) (n : Int) (h1 : n ≤ 1000000000000) : 0 ≤ bndI i n ∧ bndI i n ≤ 1000000000000 := by
  have := h.mn1; have := h.mx1
  unfold bndI capN; split <;> omega
/-- what a bound changed is one of the bounds -/
theorem bndI_moved {i : It} (h : i.Ok) (n : Int) (hm : bndI i n ≠ n) : bndI i n ≤ 16777216 := by
  have := h.mn1; have := h.mx1
  revert hm
  unfold bndI capN; split <;> omega

/-- a part of a row -/
structure Pr where
  i : It
  size : Int
  moved : Int
  settled : Bool

def facG (grow : Bool) (i : It) : Int := if grow = true then i.gr else i.sh
def wtG (grow : Bool) (i : It) : Int := if grow = true then i.gr else i.sh * i.b
theorem facG_bd (grow : Bool) {i : It} (h : i.Ok) : 0 ≤ facG grow i ∧ facG grow i ≤ 1000000000 := by
  unfold facG; split
  · exact ⟨h.gr0, h.gr1⟩
  · exact ⟨h.sh0, h.sh1⟩
theorem wtG_bd (grow : Bool) {i : It} (h : i.Ok) : 0 ≤ wtG grow i ∧ wtG grow i ≤ 16777216000000000 := by
  unfold wtG; split
  · have := h.gr0; have := h.gr1; omega
  · have h1 := Int.mul_nonneg h.sh0 h.b0
    have h2 : i.sh * i.b ≤ 1000000000 * 16777216 := Int.le_trans (Int.mul_le_mul_of_nonneg_right h.sh1 h.b0) (Int.mul_le_mul_of_nonneg_left h.b1 (by omega))
    omega

/-- the places of those that are open -/
def openL (ps : List Pr) : List Nat := (List.range ps.length).filter fun k => match ps[k]? with | some p => !p.settled | none => false

theorem filter_take {p : Nat → Bool} : ∀ {n m k : Nat}, ((List.range n).filter p)[m]? = some k → k < n ∧ p k = true ∧ ((List.range n).filter p).take m = (List.range k).filter p
  | 0, m, k, h => by simp at h
  | n + 1, m, k, h => by
    rw [List.range_succ, List.filter_append] at h ⊢
    rw [List.getElem?_append] at h
    split at h
    · rename_i hl
      obtain ⟨h1, h2, h3⟩ := filter_take h
      exact ⟨by omega, h2, by rw [List.take_append_of_le_length (by omega)]; exact h3⟩
    · rename_i hl
      by_cases hp : p n = true
      · simp only [List.filter_cons, hp, if_true, List.filter_nil] at h ⊢
        have hm : m - ((List.range n).filter p).length = 0 := by
          rcases Nat.eq_zero_or_pos (m - ((List.range n).filter p).length) with h0 | h0
          · exact h0
          · obtain ⟨q, hq⟩ : ∃ q, m - ((List.range n).filter p).length = q + 1 := ⟨_, (Nat.succ_pred_eq_of_pos h0).symm⟩
            rw [hq] at h
            simp at h
        rw [hm] at h
        simp only [List.getElem?_cons_zero, Option.some.injEq] at h
        subst h
        refine ⟨by omega, hp, ?_⟩
        rw [show m = ((List.range n).filter p).length by omega, List.take_left]
      · simp only [List.filter_cons, hp, List.filter_nil] at h
        simp at h

theorem openL_at {ps : List Pr} {m k : Nat} (h : (openL ps)[m]? = some k) : ∃ p, ps[k]? = some p ∧ p.settled = false := by
  obtain ⟨h1, h2, _⟩ := filter_take h
  obtain ⟨p, hp⟩ : ∃ p, ps[k]? = some p := ⟨_, List.getElem?_eq_getElem h1⟩
  rw [hp] at h2
  exact ⟨p, hp, by simpa using h2⟩
theorem openL_le (ps : List Pr) : (openL ps).length ≤ ps.length := by
  have := List.length_filter_le (fun k => match ps[k]? with | some p => !p.settled | none => false) (List.range ps.length)
  simpa [openL] using this

/-- the sum of what the open ones ahead of place k have -/
def sumO (f : Pr → Int) (ps : List Pr) (k : Nat) : Int := (((ps.take k).filter fun p => !p.settled).map f).sum
theorem sumO_succ {f : Pr → Int} {ps : List Pr} {k : Nat} {p : Pr} (h : ps[k]? = some p) : sumO f ps (k + 1) = sumO f ps k + (if p.settled = true then 0 else f p) := by
  unfold sumO
  rw [List.take_add_one, h]
  simp only [Option.toList_some, List.filter_append, List.map_append, List.sum_append]
  cases hs : p.settled <;> simp [hs]
theorem sumO_bd {f : Pr → Int} {ps : List Pr} {B : Int} (hB : ∀ p ∈ ps, 0 ≤ f p ∧ f p ≤ B) (hB0 : 0 ≤ B) (k : Nat) : 0 ≤ sumO f ps k ∧ sumO f ps k ≤ k * B := by
  induction k with
  | zero => simp [sumO]
  | succ k ih =>
    by_cases hk : k < ps.length
    · obtain ⟨p, hp⟩ : ∃ p, ps[k]? = some p := ⟨_, List.getElem?_eq_getElem hk⟩
      have := hB p (List.mem_of_getElem? hp)
      rw [sumO_succ hp]
      have e : ((k + 1 : Nat) : Int) * B = k * B + B := by rw [Int.natCast_add, Int.add_mul]; simp
      rw [e]
      split <;> omega
    · have e1 : sumO f ps (k + 1) = sumO f ps k := by
        unfold sumO
        rw [List.take_of_length_le (by omega), List.take_of_length_le (by omega)]
      have e : ((k + 1 : Nat) : Int) * B = k * B + B := by rw [Int.natCast_add, Int.add_mul]; simp
      rw [e1, e]; omega

/-- by places -/
theorem sumO_places (f : Pr → Int) (ps : List Pr) : ∀ k, k ≤ ps.length → sumO f ps k = (((List.range k).filter fun k => match ps[k]? with | some p => !p.settled | none => false).map fun k => match ps[k]? with | some p => f p | none => 0).sum
  | 0, _ => by simp [sumO]
  | k + 1, hk => by
    obtain ⟨p, hp⟩ : ∃ p, ps[k]? = some p := ⟨_, List.getElem?_eq_getElem (by omega)⟩
    rw [sumO_succ hp, sumO_places f ps k (by omega), List.range_succ, List.filter_append, List.map_append, List.sum_append]
    congr 1
    cases hs : p.settled <;> simp [hp, hs]

theorem openL_sum {ps : List Pr} {m k : Nat} (f : Pr → Int) (h : (openL ps)[m]? = some k) : (((openL ps).take m).map fun k => match ps[k]? with | some p => f p | none => 0).sum = sumO f ps k := by
  obtain ⟨h1, h2, h3⟩ := filter_take h
  unfold openL
  rw [h3, sumO_places f ps k (by omega)]
theorem openL_all (f : Pr → Int) (ps : List Pr) : ((openL ps).map fun k => match ps[k]? with | some p => f p | none => 0).sum = sumO f ps ps.length := by
  rw [sumO_places f ps ps.length (Nat.le_refl _)]; rfl
theorem openL_nodup (ps : List Pr) : (openL ps).Nodup := List.Pairwise.filter _ List.nodup_range
end Go.Proofs.Ytjdndaeobiagcaa
