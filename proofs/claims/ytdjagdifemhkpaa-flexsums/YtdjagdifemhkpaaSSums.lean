/- What is shared is shared to the last part: the mathematics. -/
import Derived.Test.YtdjagdifemhkpaaSShPure
import Derived.Test.YtdjagdifemhkpaaSRowOf
namespace Go.Proofs.Ytdjagdifemhkpaa
open Go.RowKit

/-- an item that may be as wide as it likes, and grows -/
structure It.Free (i : It) : Prop where
  b0 : 0 ≤ i.b
  mn : i.mn = 0
  mx : i.mx = -1
  gr : 1000 ≤ i.gr

theorem It.Free.bnd {i : It} (h : i.Free) (n : Int) (hn : 0 ≤ n) : bndI i n = n := by
  unfold bndI capN
  rw [h.mx, h.mn, if_neg (by omega)]
  omega
theorem It.Free.made {i : It} (h : i.Free) : mkP true i = ⟨i, i.b, 0, false⟩ := by
  have e := h.bnd i.b h.b0
  have := h.gr
  unfold mkP awayN facG
  rw [e]
  simp
  omega

section
variable {its : List It} (hf : ∀ i ∈ its, i.Free)
include hf
theorem free_parts : its.map (mkP true) = its.map (fun i => ⟨i, i.b, 0, false⟩) := List.map_congr_left fun i hi => (hf i hi).made
theorem free_open {f : Pr → Int} (k : Nat) : sumO f (its.map (mkP true)) k = ((its.take k).map fun i => f ⟨i, i.b, 0, false⟩).sum := by
  rw [free_parts hf]
  unfold sumO
  rw [← List.map_take, List.filter_map]
  have : ((its.take k).filter ((fun p : Pr => !p.settled) ∘ fun i => (⟨i, i.b, 0, false⟩ : Pr))) = its.take k := List.filter_eq_self.2 (fun i _ => rfl)
  rw [this, List.map_map]
  rfl
end

def grs (its : List It) (k : Nat) : Int := ((its.take k).map It.gr).sum
theorem grs_succ {its : List It} {k : Nat} {i : It} (h : its[k]? = some i) : grs its (k + 1) = grs its k + i.gr := by
  unfold grs; rw [List.take_add_one, h]; simp
theorem grs_mono {its : List It} (hf : ∀ i ∈ its, i.Free) : ∀ k, 0 ≤ grs its k ∧ (0 < k → its ≠ [] → 1000 ≤ grs its k) := by
  intro k
  induction k with
  | zero => simp [grs]
  | succ k ih =>
    by_cases hk : k < its.length
    · obtain ⟨i, hi⟩ : ∃ i, its[k]? = some i := ⟨_, List.getElem?_eq_getElem hk⟩
      have := (hf i (List.mem_of_getElem? hi)).gr
      rw [grs_succ hi]
      exact ⟨by omega, fun _ _ => by omega⟩
    · have e : grs its (k + 1) = grs its k := by
        unfold grs; rw [List.take_of_length_le (by omega), List.take_of_length_le (by omega)]
      rw [e]
      refine ⟨ih.1, fun _ hne => ih.2 ?_ hne⟩
      rcases Nat.eq_zero_or_pos k with h0 | h0
      · subst h0
        exact absurd (List.eq_nil_of_length_eq_zero (by omega)) hne
      · exact h0
theorem grs_le {its : List It} (hf : ∀ i ∈ its, i.Free) : ∀ {k j : Nat}, k ≤ j → grs its k ≤ grs its j := by
  intro k j h
  induction j with
  | zero =>
    obtain rfl : k = 0 := by omega
    exact Int.le_refl _
  | succ j ih =>
    by_cases e : k = j + 1
    · subst e; exact Int.le_refl _
    · have h1 := ih (by omega)
      by_cases hj : j < its.length
      · obtain ⟨i, hi⟩ : ∃ i, its[j]? = some i := ⟨_, List.getElem?_eq_getElem hj⟩
        have := (hf i (List.mem_of_getElem? hi)).gr
        rw [grs_succ hi]; omega
      · have e1 : grs its (j + 1) = grs its j := by
          unfold grs; rw [List.take_of_length_le (by omega), List.take_of_length_le (by omega)]
        omega

/-- how wide the k-th is then -/
def wideN (its : List It) (F : Int) (k : Nat) (i : It) : Int := i.b + (F * grs its (k + 1) / grs its its.length - F * grs its k / grs its its.length)

theorem wide_ge {its : List It} (hf : ∀ i ∈ its, i.Free) {F : Int} (hF : 0 ≤ F) {k : Nat} {i : It} (h : its[k]? = some i) (hne : its ≠ []) : i.b ≤ wideN its F k i := by
  have h1 := (grs_mono hf its.length).2 (by have := (List.getElem?_eq_some_iff.1 h).1; omega) hne
  have h2 : F * grs its k ≤ F * grs its (k + 1) := Int.mul_le_mul_of_nonneg_left (grs_le hf (by omega)) hF
  have h3 := Int.ediv_le_ediv (show 0 < grs its its.length by omega) h2
  unfold wideN; omega

def basesN (its : List It) (k : Nat) : Int := ((its.take k).map It.b).sum
theorem basesN_succ {its : List It} {k : Nat} {i : It} (h : its[k]? = some i) : basesN its (k + 1) = basesN its k + i.b := by
  unfold basesN; rw [List.take_add_one, h]; simp

/-- the whole sharing -/
theorem free_share {its : List It} (hf : ∀ i ∈ its, i.Free) (hne : its ≠ []) (room start : Int) (hF : 0 ≤ room - basesN its its.length) :
    (shareL true room start its.length (its.map (mkP true))).map Pr.size = its.mapIdx (wideN its (room - basesN its its.length)) := by
  have hlen : 0 < its.length := List.length_pos_iff.2 hne
  obtain ⟨F, hFF⟩ : ∃ F, room - basesN its its.length = F := ⟨_, rfl⟩
  rw [hFF] at hF ⊢
  have hfree : freeN room (its.map (mkP true)) (its.map (mkP true)).length = F := by
    rw [← hFF]
    unfold freeN basesN
    rw [List.take_of_length_le (Nat.le_refl _), List.take_of_length_le (Nat.le_refl _), free_parts hf, List.map_map]
    rfl
  have hg := (grs_mono hf its.length).2 hlen hne
  have hwt : ∀ k, sumO (wtP true) (its.map (mkP true)) k = grs its k := fun k => by rw [free_open hf]; rfl
  have ham : amountP true room start (its.map (mkP true)) = F := by
    unfold amountP amountN
    have : sumO (facP true) (its.map (mkP true)) (its.map (mkP true)).length = grs its its.length := by rw [free_open hf, List.length_map]; rfl
    rw [this, if_pos hg, hfree]
  have hd : dealtL true F (its.map (mkP true)) = its.mapIdx (fun k i => ⟨i, wideN its F k i, 0, false⟩) := by
    apply List.ext_getElem?
    intro k
    by_cases hk : k < its.length
    · obtain ⟨i, hi⟩ : ∃ i, its[k]? = some i := ⟨_, List.getElem?_eq_getElem hk⟩
      have hm := hf i (List.mem_of_getElem? hi)
      rw [dealtL_at (p := ⟨i, i.b, 0, false⟩) (by rw [free_parts hf, List.getElem?_map, hi]; rfl), List.getElem?_mapIdx, hi]
      simp only [Option.map_some, Option.some.injEq]
      unfold dealtAt
      rw [if_neg (by simp), hwt, hwt, List.length_map]
      have hw : wtP true ⟨i, i.b, 0, false⟩ = i.gr := rfl
      rw [hw]
      have hp : partN F (grs its k) i.gr (grs its its.length) = wideN its F k i - i.b := by
        unfold partN wideN
        rw [if_neg (by omega), grs_succ hi]; omega
      have hge := wide_ge hf hF hi hne
      unfold dealP
      simp only [hp]
      rw [show i.b + (wideN its F k i - i.b) = wideN its F k i by omega, hm.bnd _ (by have := hm.b0; omega)]
      congr 1
      omega
    · rw [List.getElem?_eq_none (by rw [dealtL_len, List.length_map]; omega), List.getElem?_eq_none (by rw [List.length_mapIdx]; omega)]
  have hmv : movedN (dealtL true F (its.map (mkP true))) = 0 := by
    unfold movedN sumO
    have : ∀ x ∈ (((dealtL true F (its.map (mkP true))).take (dealtL true F (its.map (mkP true))).length).filter fun p => !p.settled).map Pr.moved, x = 0 := by
      intro x hx
      obtain ⟨p, hp, rfl⟩ := List.mem_map.1 hx
      have hp2 := List.mem_of_mem_take (List.mem_filter.1 hp).1
      rw [hd] at hp2
      obtain ⟨k, hk, rfl⟩ := List.mem_mapIdx.1 hp2
      rfl
    generalize (((dealtL true F (its.map (mkP true))).take (dealtL true F (its.map (mkP true))).length).filter fun p => !p.settled).map Pr.moved = l at this
    induction l with
    | nil => rfl
    | cons x r ih =>
      rw [List.sum_cons, this x (List.mem_cons_self ..), ih (fun y hy => this y (List.mem_cons_of_mem _ hy))]
      rfl
  have hr : roundN true room start (its.map (mkP true)) = its.mapIdx (fun k i => ⟨i, wideN its F k i, 0, true⟩) := by
    unfold roundN
    rw [ham, hmv, hd]
    apply List.ext_getElem?
    intro k
    simp only [List.getElem?_map, List.getElem?_mapIdx]
    cases its[k]? with
    | none => rfl
    | some i => simp [settleP, settledP]
  have hop : openL (its.map (mkP true)) ≠ [] := by
    intro e
    obtain ⟨i, hi⟩ : ∃ i, its[0]? = some i := ⟨_, List.getElem?_eq_getElem hlen⟩
    have : 0 ∈ openL (its.map (mkP true)) := by
      unfold openL
      rw [List.mem_filter]
      refine ⟨by simp; exact hlen, ?_⟩
      rw [free_parts hf, List.getElem?_map, hi]
      rfl
    rw [e] at this
    cases this
  have hop2 : openL (roundN true room start (its.map (mkP true))) = [] := by
    apply open_none
    intro p hp
    rw [hr] at hp
    obtain ⟨k, hk, rfl⟩ := List.mem_mapIdx.1 hp
    rfl
  obtain ⟨n, hn⟩ : ∃ n, its.length = n + 1 := ⟨its.length - 1, by omega⟩
  rw [hn]
  unfold shareL
  rw [if_neg hop, shareL_done hop2, hr]
  apply List.ext_getElem?
  intro k
  simp only [List.getElem?_map, List.getElem?_mapIdx]
  cases its[k]? <;> rfl

/-- the first ones together -/
theorem wide_sum {its : List It} (hf : ∀ i ∈ its, i.Free) (F : Int) : ∀ k, k ≤ its.length → ((its.mapIdx (wideN its F)).take k).sum = basesN its k + F * grs its k / grs its its.length
  | 0, _ => by simp [basesN, grs]
  | k + 1, hk => by
    obtain ⟨i, hi⟩ : ∃ i, its[k]? = some i := ⟨_, List.getElem?_eq_getElem (by omega)⟩
    rw [List.take_add_one, List.getElem?_mapIdx, hi, List.sum_append, wide_sum hf F k (by omega), basesN_succ hi]
    simp only [Option.map_some, Option.toList_some, List.sum_cons, List.sum_nil]
    unfold wideN
    omega
theorem wide_all {its : List It} (hf : ∀ i ∈ its, i.Free) (hne : its ≠ []) (F : Int) : (its.mapIdx (wideN its F)).sum = basesN its its.length + F := by
  have hlen : 0 < its.length := List.length_pos_iff.2 hne
  have h := wide_sum hf F its.length (Nat.le_refl _)
  rw [List.take_of_length_le (by rw [List.length_mapIdx]; exact Nat.le_refl _)] at h
  have hg := (grs_mono hf its.length).2 hlen hne
  rw [h, Int.mul_ediv_cancel _ (by omega)]
end Go.Proofs.Ytdjagdifemhkpaa
