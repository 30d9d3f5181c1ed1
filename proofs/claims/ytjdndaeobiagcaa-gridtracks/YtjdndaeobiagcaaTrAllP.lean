/- Tracks: plain: bounds of what needs do to sizes; how many needs and shares there are. -/
import Derived.Test.YtjdndaeobiagcaaTrDeal
namespace Go.Proofs.Ytjdndaeobiagcaa
open Go.RowKit
set_option linter.unusedVariables false      -- bounds that are for the walk

theorem byK_len (l : List Nd3) : ∀ K : Nat, ((List.range K).flatMap (fun (s : Nat) => l.filter (fun x => decide (x.s = (s : Int) + 1)))).length = (l.filter (fun x => decide (1 ≤ x.s ∧ x.s ≤ (K : Int)))).length
  | 0 => by
    have : l.filter (fun x => decide (1 ≤ x.s ∧ x.s ≤ ((0 : Nat) : Int))) = [] := by
      rw [List.filter_eq_nil_iff]
      intro x _
      simp
      omega
    rw [this]
    rfl
  | K + 1 => by
    rw [List.range_succ, List.flatMap_append, List.length_append, byK_len l K]
    simp only [List.flatMap_cons, List.flatMap_nil, List.append_nil]
    induction l with
    | nil => rfl
    | cons x r ih =>
      simp only [List.filter_cons]
      by_cases h1 : 1 ≤ x.s ∧ x.s ≤ (K : Int)
      · have h2 : ¬ x.s = (K : Int) + 1 := by omega
        have h3 : 1 ≤ x.s ∧ x.s ≤ ((K + 1 : Nat) : Int) := by omega
        rw [decide_eq_true h1, decide_eq_false h2, decide_eq_true h3]
        simp only [if_true, Bool.false_eq_true, if_false, List.length_cons]
        omega
      · by_cases h2 : x.s = (K : Int) + 1
        · have h3 : 1 ≤ x.s ∧ x.s ≤ ((K + 1 : Nat) : Int) := by omega
          rw [decide_eq_false h1, decide_eq_true h2, decide_eq_true h3]
          simp only [if_true, Bool.false_eq_true, if_false, List.length_cons]
          omega
        · have h3 : ¬ (1 ≤ x.s ∧ x.s ≤ ((K + 1 : Nat) : Int)) := by omega
          rw [decide_eq_false h1, decide_eq_false h2, decide_eq_false h3]
          simp only [Bool.false_eq_true, if_false]
          omega
theorem byspan_len (l : List Nd3) : (byspan l).length ≤ l.length := by
  unfold byspan
  rw [byK_len]
  exact List.length_filter_le _ _
theorem needs_ok {l : List Nd3} {x : Nd3} (h : x ∈ byspan (needsP l)) : NdOk x := by
  obtain ⟨s, _, hx⟩ := List.mem_flatMap.1 h
  obtain ⟨y, hy, rfl⟩ := List.mem_map.1 (List.mem_filter.1 hx).1
  have ho := of_decide_eq_true (List.mem_filter.1 hy).2
  have hb := heldN_bd y.z
  exact ⟨ho.1, ho.2.1, ho.2.2.1, ho.2.2.2, hb.1, hb.2⟩
theorem needsP_le (l : List Nd3) : (needsP l).length ≤ l.length := by
  unfold needsP
  rw [List.length_map]
  exact List.length_filter_le _ _
theorem reachN_ge : ∀ (l : List Nd3) (x : Nd3), x ∈ l → (x.f + x.s - 1).toNat ≤ reachN l := by
  have key : ∀ (l : List Nd3) (m : Nat), m ≤ l.foldl (fun m x => max m (x.f + x.s - 1).toNat) m ∧ ∀ x ∈ l, (x.f + x.s - 1).toNat ≤ l.foldl (fun m x => max m (x.f + x.s - 1).toNat) m := by
    intro l
    induction l with
    | nil => intro m; simp
    | cons a r ih =>
      intro m
      rw [List.foldl_cons]
      have h1 := ih (max m (a.f + a.s - 1).toNat)
      refine ⟨by omega, fun i hi => ?_⟩
      rcases List.mem_cons.1 hi with rfl | hi
      · omega
      · exact h1.2 i hi
  exact fun l x hx => (key l 0).2 x hx
theorem reachN_le {l : List Nd3} (h : ∀ x ∈ l, NdOk x) : reachN l ≤ 219 := by
  have key : ∀ (l : List Nd3) (m : Nat), m ≤ 219 → (∀ x ∈ l, NdOk x) → l.foldl (fun m x => max m (x.f + x.s - 1).toNat) m ≤ 219 := by
    intro l
    induction l with
    | nil => intro m hm _; simpa using hm
    | cons a r ih =>
      intro m hm ha
      rw [List.foldl_cons]
      have ho := ha a (List.mem_cons_self ..)
      have := ho.f2; have := ho.s2
      exact ih _ (by omega) (fun x hx => ha x (List.mem_cons_of_mem _ hx))
  exact key l 0 (by omega) h
theorem shl_few {tr : Nat → Tr2} (h : ∀ i, 20 ≤ i → ¬ (tr i).k = 3) : ∀ n, (shl tr n).length ≤ min n 20
  | 0 => by simp [shl]
  | n + 1 => by
    have ih := shl_few h n
    rw [shl_succ]
    split
    · rename_i hk
      have : n < 20 := by
        rcases Nat.lt_or_ge n 20 with e | e
        · exact e
        · exact absurd hk (h n e)
      rw [List.length_append]
      simp only [List.length_cons, List.length_nil]
      omega
    · omega
theorem atT_pad (l : List Tr2) (m i : Nat) (h : l.length ≤ i) : (atT (padT l m) i).k = 0 := by
  unfold atT padT
  rw [List.getElem?_append_right h, List.getElem?_replicate]
  split <;> rfl
theorem padT_mem {l : List Tr2} {m : Nat} {t : Tr2} (h : t ∈ padT l m) : t ∈ l ∨ t = ⟨0, 0⟩ := by
  unfold padT at h
  rcases List.mem_append.1 h with e | e
  · exact .inl e
  · exact .inr (List.mem_replicate.1 e).2
theorem widF_bd {tr : Nat → Tr2} {gap : Int} {x : Nd3} {sz : Nat → Int} {M : Int} {n : Nat} (h : ∀ j, j < n → 0 ≤ sz j ∧ sz j ≤ M) (g1 : -16777216 ≤ gap) (g2 : gap ≤ 16777216) (hx : NdOk x) (hr : (x.f - 1).toNat + x.s.toNat ≤ n) : ∀ j, j < n → 0 ≤ widF tr gap x sz j ∧ widF tr gap x sz j ≤ M + 400000000 := by
  intro j hj
  have hj0 := h j hj
  unfold widF
  split
  · omega
  · split
    · omega
    · rename_i hm
      have hb := smz_bd h (x.f - 1).toNat x.s.toNat hr
      have hz := hx.z2; have s1 := hx.s1; have s2 := hx.s2
      have hms : missW gap x sz (x.f - 1).toNat x.s.toNat ≤ 400000000 := by
        unfold missW
        have a0 : 0 ≤ max (x.s - 1) 0 := by omega
        have a2 : max (x.s - 1) 0 * (-gap) ≤ 20 * 16777216 := Int.le_trans (Int.mul_le_mul_of_nonneg_left (show -gap ≤ 16777216 by omega) a0) (Int.mul_le_mul_of_nonneg_right (by omega) (by omega))
        rw [Int.mul_neg] at a2
        omega
      have ha := addQ_bd (op := opn tr (x.f - 1).toNat x.s.toNat) (miss := missW gap x sz (x.f - 1).toNat x.s.toNat) h (by omega) _ (Nat.le_refl _) j hj
      refine ⟨ha.1, Int.le_trans ha.2 ?_⟩
      have : missW gap x sz (x.f - 1).toNat x.s.toNat * ((opn tr (x.f - 1).toNat x.s.toNat).length : Int) / ((opn tr (x.f - 1).toNat x.s.toNat).length : Int) ≤ missW gap x sz (x.f - 1).toNat x.s.toNat := by
        by_cases e : ((opn tr (x.f - 1).toNat x.s.toNat).length : Int) = 0
        · rw [e, Int.mul_zero, Int.zero_ediv]; omega
        · rw [Int.mul_ediv_cancel _ e]; exact Int.le_refl _
      omega
theorem ownT_bd {room : Int} {t : Tr2} (h : TrOk room t) (r2 : room ≤ 16777216) : 0 ≤ ownT room t ∧ ownT room t ≤ 170000000000 := by
  have := h.n0; have := h.n1
  unfold ownT
  split
  · omega
  · split
    · rename_i hk
      have hr := h.k2 hk
      have p1 : 0 ≤ room * t.n := Int.mul_nonneg hr h.n0
      have p2 : room * t.n ≤ 16777216 * 1000000000 := Int.mul_le_mul r2 h.n1 h.n0 (by omega)
      omega
    · omega
end Go.Proofs.Ytjdndaeobiagcaa
