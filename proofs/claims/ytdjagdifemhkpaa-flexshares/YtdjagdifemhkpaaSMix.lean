/- Lists of which some places were changed. -/
import Derived.Test.YtdjagdifemhkpaaSRound
namespace Go.Proofs.Ytdjagdifemhkpaa
open Go.RowKit

/-- the first m of these places are changed -/
def mixL (f : Nat → Pr → Pr) (is : List Nat) (m : Nat) (ps : List Pr) : List Pr := ps.mapIdx fun k p => if k ∈ is.take m then f k p else p
theorem mixL_len (f : Nat → Pr → Pr) (is : List Nat) (m : Nat) (ps : List Pr) : (mixL f is m ps).length = ps.length := by simp [mixL]
theorem mixL_zero (f : Nat → Pr → Pr) (is : List Nat) (ps : List Pr) : mixL f is 0 ps = ps := by
  apply List.ext_getElem?
  intro k
  simp [mixL]
theorem mixL_at {f : Nat → Pr → Pr} {is : List Nat} {m k : Nat} {ps : List Pr} {p : Pr} (h : ps[k]? = some p) : (mixL f is m ps)[k]? = some (if k ∈ is.take m then f k p else p) := by
  simp [mixL, h]
theorem take_not_mem {is : List Nat} (hn : is.Nodup) {m k : Nat} (h : is[m]? = some k) : k ∉ is.take m := by
  intro hk
  obtain ⟨j, hj⟩ := List.getElem?_of_mem hk
  have hjm : j < m := by
    have := (List.getElem?_eq_some_iff.1 hj).1
    rw [List.length_take] at this
    omega
  rw [List.getElem?_take_of_lt hjm] at hj
  obtain ⟨hm', hm2⟩ := List.getElem?_eq_some_iff.1 h
  obtain ⟨hj', hj2⟩ := List.getElem?_eq_some_iff.1 hj
  exact List.pairwise_iff_getElem.1 hn j m hj' hm' hjm (hj2.trans hm2.symm)
/-- at the next place nothing was changed yet -/
theorem mixL_here {f : Nat → Pr → Pr} {is : List Nat} (hn : is.Nodup) {m k : Nat} {ps : List Pr} {p : Pr} (hk : is[m]? = some k) (h : ps[k]? = some p) : (mixL f is m ps)[k]? = some p := by
  rw [mixL_at h, if_neg (take_not_mem hn hk)]
theorem mixL_next {f : Nat → Pr → Pr} {is : List Nat} {m k : Nat} {ps : List Pr} {p : Pr} (hk : is[m]? = some k) (h : ps[k]? = some p) : (mixL f is m ps).set k (f k p) = mixL f is (m + 1) ps := by
  have hkl : k < ps.length := (List.getElem?_eq_some_iff.1 h).1
  apply List.ext_getElem?
  intro j
  rw [List.getElem?_set]
  have et : is.take (m + 1) = is.take m ++ [k] := by rw [List.take_add_one, hk]; rfl
  by_cases e : k = j
  · subst e
    rw [if_pos rfl, if_pos (by rw [mixL_len]; exact hkl), mixL_at h, et, if_pos (by simp)]
  · rw [if_neg e]
    by_cases hj : j < ps.length
    · obtain ⟨q, hq⟩ : ∃ q, ps[j]? = some q := ⟨_, List.getElem?_eq_getElem hj⟩
      rw [mixL_at hq, mixL_at hq, et]
      have : (j ∈ is.take m ++ [k]) ↔ j ∈ is.take m := by
        simp only [List.mem_append, List.mem_singleton]
        constructor
        · rintro (h | h)
          · exact h
          · exact absurd h.symm e
        · exact .inl
      simp only [this]
    · rw [List.getElem?_eq_none (by rw [mixL_len]; omega), List.getElem?_eq_none (by rw [mixL_len]; omega)]

theorem openL_mem {ps : List Pr} {k : Nat} {p : Pr} (h : ps[k]? = some p) : k ∈ openL ps ↔ p.settled = false := by
  unfold openL
  rw [List.mem_filter, List.mem_range]
  simp only [h]
  constructor
  · rintro ⟨_, h2⟩; simpa using h2
  · intro h2; exact ⟨(List.getElem?_eq_some_iff.1 h).1, by simpa using h2⟩

theorem mixL_dealt (grow : Bool) (a : Int) (ps : List Pr) : mixL (dealtAt grow a ps) (openL ps) (openL ps).length ps = dealtL grow a ps := by
  apply List.ext_getElem?
  intro k
  by_cases hk : k < ps.length
  · obtain ⟨p, hp⟩ : ∃ p, ps[k]? = some p := ⟨_, List.getElem?_eq_getElem hk⟩
    rw [mixL_at hp, dealtL_at hp, List.take_length]
    by_cases hm : k ∈ openL ps
    · rw [if_pos hm]
    · rw [if_neg hm]
      have : p.settled = true := by
        cases hs : p.settled
        · exact absurd ((openL_mem hp).2 hs) hm
        · rfl
      unfold dealtAt
      rw [if_pos this]
  · rw [List.getElem?_eq_none (by rw [mixL_len]; omega), List.getElem?_eq_none (by rw [dealtL_len]; omega)]
theorem mixL_settle (mv : Int) (ds : List Pr) : mixL (fun _ p => settleP mv p) (openL ds) (openL ds).length ds = ds.map (settleP mv) := by
  apply List.ext_getElem?
  intro k
  by_cases hk : k < ds.length
  · obtain ⟨p, hp⟩ : ∃ p, ds[k]? = some p := ⟨_, List.getElem?_eq_getElem hk⟩
    rw [mixL_at hp, List.getElem?_map, hp, List.take_length]
    by_cases hm : k ∈ openL ds
    · rw [if_pos hm]; rfl
    · rw [if_neg hm]
      have : p.settled = true := by
        cases hs : p.settled
        · exact absurd ((openL_mem hp).2 hs) hm
        · rfl
      simp [settleP, this]
  · rw [List.getElem?_eq_none (by rw [mixL_len]; omega), List.getElem?_eq_none (by simp; omega)]
end Go.Proofs.Ytdjagdifemhkpaa
