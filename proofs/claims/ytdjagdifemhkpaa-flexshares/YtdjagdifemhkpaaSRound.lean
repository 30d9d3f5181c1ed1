/- A round settles one at least, and what it settles lies within bounds. -/
import Derived.Test.YtdjagdifemhkpaaSDeal
namespace Go.Proofs.Ytdjagdifemhkpaa
open Go.RowKit

theorem sum_pos_mem : ∀ l : List Int, 0 < l.sum → ∃ x ∈ l, 0 < x
  | [], h => by simp at h
  | x :: r, h => by
    rw [List.sum_cons] at h
    by_cases hx : 0 < x
    · exact ⟨x, List.mem_cons_self .., hx⟩
    · obtain ⟨y, hy, h2⟩ := sum_pos_mem r (by omega)
      exact ⟨y, List.mem_cons_of_mem _ hy, h2⟩
theorem sum_neg_mem : ∀ l : List Int, l.sum < 0 → ∃ x ∈ l, x < 0
  | [], h => by simp at h
  | x :: r, h => by
    rw [List.sum_cons] at h
    by_cases hx : x < 0
    · exact ⟨x, List.mem_cons_self .., hx⟩
    · obtain ⟨y, hy, h2⟩ := sum_neg_mem r (by omega)
      exact ⟨y, List.mem_cons_of_mem _ hy, h2⟩
theorem sgnN_eq {x y : Int} : sgnN x = sgnN y ↔ ((x < 0 ↔ y < 0) ∧ (0 < x ↔ 0 < y)) := by
  unfold sgnN
  (repeat' split) <;> omega

/-- some open one is settled -/
theorem some_settled {ds : List Pr} (h : openL ds ≠ []) : ∃ k ∈ openL ds, ∃ p, ds[k]? = some p ∧ settledP (movedN ds) p = true := by
  by_cases h0 : movedN ds = 0
  · obtain ⟨k, hk⟩ := List.exists_mem_of_ne_nil _ h
    obtain ⟨m, hm⟩ := List.getElem?_of_mem hk
    obtain ⟨p, hp, _⟩ := openL_at hm
    exact ⟨k, hk, p, hp, by simp [settledP, h0]⟩
  · have hs := openL_all Pr.moved ds
    have key : ∃ k ∈ openL ds, ∃ p, ds[k]? = some p ∧ sgnN p.moved = sgnN (movedN ds) := by
      rcases Int.lt_or_le (movedN ds) 0 with hn | hn
      · obtain ⟨x, hx, hx0⟩ := sum_neg_mem _ (show _ < 0 by rw [hs]; exact hn)
        obtain ⟨k, hk, rfl⟩ := List.mem_map.1 hx
        obtain ⟨m, hm⟩ := List.getElem?_of_mem hk
        obtain ⟨p, hp, _⟩ := openL_at hm
        rw [hp] at hx0
        exact ⟨k, hk, p, hp, sgnN_eq.2 (by simp only at hx0; omega)⟩
      · obtain ⟨x, hx, hx0⟩ := sum_pos_mem _ (show 0 < _ by rw [hs]; show 0 < movedN ds; omega)
        obtain ⟨k, hk, rfl⟩ := List.mem_map.1 hx
        obtain ⟨m, hm⟩ := List.getElem?_of_mem hk
        obtain ⟨p, hp, _⟩ := openL_at hm
        rw [hp] at hx0
        exact ⟨k, hk, p, hp, sgnN_eq.2 (by simp only at hx0; omega)⟩
    obtain ⟨k, hk, p, hp, hq⟩ := key
    exact ⟨k, hk, p, hp, by simp [settledP, hq]⟩

theorem filter_lt {α : Type} {q : α → Bool} : ∀ {l : List α} {x : α}, x ∈ l → q x = false → (l.filter q).length < l.length
  | [], x, h, _ => by simp at h
  | y :: r, x, h, hq => by
    rcases List.mem_cons.1 h with rfl | h
    · have := List.length_filter_le q r
      simp only [List.filter_cons, hq, List.length_cons]
      simp; omega
    · have ih := filter_lt h hq
      simp only [List.filter_cons, List.length_cons]
      split
      · rw [List.length_cons]; omega
      · omega

theorem openL_settle (mv : Int) (ds : List Pr) : openL (ds.map (settleP mv)) = (openL ds).filter fun k => match ds[k]? with | some p => !settledP mv p | none => false := by
  unfold openL
  rw [List.length_map, List.filter_filter]
  apply List.filter_congr
  intro k hk
  obtain ⟨p, hp⟩ : ∃ p, ds[k]? = some p := ⟨_, List.getElem?_eq_getElem (List.mem_range.1 hk)⟩
  simp only [List.getElem?_map, hp, Option.map_some]
  unfold settleP
  cases hs : p.settled <;> simp [hs]

theorem round_less (grow : Bool) (room start : Int) {ps : List Pr} (h : openL ps ≠ []) : (openL (roundN grow room start ps)).length < (openL ps).length := by
  unfold roundN
  generalize amountP grow room start ps = a
  rw [openL_settle, ← openL_dealt grow a ps]
  obtain ⟨k, hk, p, hp, hq⟩ := some_settled (ds := dealtL grow a ps) (by rw [openL_dealt]; exact h)
  exact filter_lt hk (by rw [hp]; simp [hq])

theorem round_ok (grow : Bool) (room start : Int) {ps : List Pr} (h : RowOk ps) :
    (∀ p ∈ roundN grow room start ps, p.settled = true) ∨ RowOk (roundN grow room start ps) := by
  unfold roundN
  generalize ha : amountP grow room start ps = a
  obtain ⟨mv, hmv⟩ : ∃ mv, movedN (dealtL grow a ps) = mv := ⟨_, rfl⟩
  rw [hmv]
  by_cases h0 : mv = 0
  · refine .inl fun p hp => ?_
    obtain ⟨q, _, rfl⟩ := List.mem_map.1 hp
    unfold settleP
    split
    · assumption
    · simp [settledP, h0]
  · right
    have mem : ∀ q ∈ dealtL grow a ps, ∃ k p, ps[k]? = some p ∧ q = dealtAt grow a ps k p := by
      intro q hq
      obtain ⟨k, hk⟩ := List.getElem?_of_mem hq
      have hkl : k < ps.length := by have := (List.getElem?_eq_some_iff.1 hk).1; rwa [dealtL_len] at this
      obtain ⟨p, hp⟩ : ∃ p, ps[k]? = some p := ⟨_, List.getElem?_eq_getElem hkl⟩
      rw [dealtL_at hp] at hk
      exact ⟨k, p, hp, (Option.some.inj hk).symm⟩
    refine ⟨by rw [List.length_map, dealtL_len]; exact h.len, ?_, ?_⟩
    · intro p hp
      obtain ⟨q, hq, rfl⟩ := List.mem_map.1 hp
      obtain ⟨k, p0, hp0, rfl⟩ := mem q hq
      have : (settleP mv (dealtAt grow a ps k p0)).i = p0.i := by
        unfold settleP
        split <;> exact dealtAt_i ..
      rw [this]
      exact h.ok p0 (List.mem_of_getElem? hp0)
    · intro p hp hs
      obtain ⟨q, hq, rfl⟩ := List.mem_map.1 hp
      obtain ⟨k, p0, hp0, rfl⟩ := mem q hq
      have hm0 := List.mem_of_getElem? hp0
      unfold settleP at hs ⊢
      by_cases h1 : (dealtAt grow a ps k p0).settled = true
      · rw [if_pos h1]
        rw [dealtAt_settled] at h1
        have : dealtAt grow a ps k p0 = p0 := by unfold dealtAt; rw [if_pos h1]
        rw [this]
        exact h.got p0 hm0 h1
      · rw [if_neg h1] at hs ⊢
        rw [dealtAt_settled] at h1
        simp only [settledP, h0, decide_false, Bool.false_or, decide_eq_true_eq] at hs
        have e : dealtAt grow a ps k p0 = dealP a (sumO (wtP grow) ps ps.length) (sumO (wtP grow) ps k) (wtP grow p0) p0 := by unfold dealtAt; rw [if_neg h1]
        rw [e] at hs ⊢
        simp only [dealP] at hs ⊢
        have hne : bndI p0.i (p0.i.b + partN a (sumO (wtP grow) ps k) (wtP grow p0) (sumO (wtP grow) ps ps.length)) ≠ p0.i.b + partN a (sumO (wtP grow) ps k) (wtP grow p0) (sumO (wtP grow) ps ps.length) := by
          intro e2
          rw [e2] at hs
          have := sgnN_eq.1 hs
          omega
        have hi := h.ok p0 hm0
        refine ⟨?_, bndI_moved hi _ hne⟩
        unfold bndI
        omega
end Go.Proofs.Ytdjagdifemhkpaa
