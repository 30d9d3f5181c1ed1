/- FlexSums, its mathematics. -/
import Derived.Test.YtdjagdifemhkpaaSSums
import Derived.Test.YtdjagdifemhkpaaSShare
namespace Go.Proofs.Ytdjagdifemhkpaa
open Go.RowKit

/-- the item that the law makes -/
def lawI (x : It) : It := ⟨x.b, 0, -1, x.ar, x.gr, x.sh⟩
structure GoodI (x : It) : Prop where
  b0 : 0 ≤ x.b
  b1 : x.b ≤ 100000
  a0 : 0 ≤ x.ar
  a1 : x.ar ≤ 100000
  g0 : 1000 ≤ x.gr
  g1 : x.gr ≤ 1000000000
theorem law_it {x : It} (h : GoodI x) : itN (lawI x) = ⟨x.b, 0, -1, x.ar, x.gr, facN x.sh⟩ := by
  have := h.b0; have := h.b1; have := h.a0; have := h.a1; have := h.g0; have := h.g1
  unfold itN lawI
  rw [heldN_of x.b (by omega) (by omega), heldN_of 0 (by omega) (by omega), heldN_of (-1) (by omega) (by omega), heldN_of x.ar (by omega) (by omega)]
  have e : facN x.gr = x.gr := by unfold facN; split <;> omega
  simp only [e]
  congr 1
  omega

section
variable {l : List It} (hg : ∀ x ∈ l, GoodI x) (hl : l.length ≤ 60)
include hg hl
theorem law_count : countN (l.map lawI) = l.map fun x => ⟨x.b, 0, -1, x.ar, x.gr, facN x.sh⟩ := by
  unfold countN
  rw [List.take_of_length_le (by rw [List.length_map]; omega), List.map_map]
  exact List.map_congr_left fun x hx => law_it (hg x hx)
theorem law_free : ∀ i ∈ countN (l.map lawI), i.Free := by
  intro i hi
  rw [law_count hg hl] at hi
  obtain ⟨x, hx, rfl⟩ := List.mem_map.1 hi
  have h := hg x hx
  exact ⟨h.b0, rfl, rfl, h.g0⟩
theorem law_len : (countN (l.map lawI)).length = l.length := by rw [law_count hg hl, List.length_map]
theorem law_bases (k : Nat) : basesN (countN (l.map lawI)) k = basesN l k := by
  rw [law_count hg hl]; unfold basesN; rw [← List.map_take, List.map_map]; rfl
theorem law_ars (k : Nat) : arsN (countN (l.map lawI)) k = arsN l k := by
  rw [law_count hg hl]; unfold arsN; rw [← List.map_take, List.map_map]; rfl
theorem law_wants (k : Nat) : wantsN (countN (l.map lawI)) k = basesN l k + arsN l k := by
  rw [← law_bases hg hl, ← law_ars hg hl]
  have hf := law_free hg hl
  generalize countN (l.map lawI) = its at *
  unfold wantsN basesN arsN
  have hf2 : ∀ i ∈ its.take k, i.Free := fun i hi => hf i (List.mem_of_mem_take hi)
  generalize its.take k = m at *
  clear hf hg hl
  induction m with
  | nil => rfl
  | cons i r ih =>
    have h := hf2 i (List.mem_cons_self ..)
    simp only [List.map_cons, List.sum_cons, ih (fun j hj => hf2 j (List.mem_cons_of_mem _ hj))]
    unfold wantN
    rw [h.bnd i.b h.b0]
    omega

theorem law_sizes (room gap : Int) (r0 : 0 ≤ room) (r1 : room ≤ 16777216) (g0 : 0 ≤ gap) (g1 : gap ≤ 1000) (hn : 0 < l.length) (hu : gap * ((l.length : Int) - 1) + basesN l l.length + arsN l l.length < room) :
    (sharedN (l.map lawI) room gap).sum + arsN l l.length + gap * ((l.length : Int) - 1) = room ∧ ∀ (k : Nat) (x : It), l[k]? = some x → ∃ o, (sharedN (l.map lawI) room gap)[k]? = some o ∧ x.b ≤ o := by
  have hf := law_free hg hl
  have hlen := law_len hg hl
  have hb := law_bases hg hl
  have ha := law_ars hg hl
  have hw := law_wants hg hl
  have hc := law_count hg hl
  unfold sharedN
  rw [heldN_of room (by omega) r1, heldN_of gap (by omega) (by omega)]
  obtain ⟨its, hits⟩ : ∃ x, countN (l.map lawI) = x := ⟨_, rfl⟩
  rw [hits] at hf hlen hc ⊢
  simp only [hits] at hb ha hw
  have hgap : gapsN its.length gap = gap * ((l.length : Int) - 1) := by
    unfold gapsN; rw [hlen, show max ((l.length : Int) - 1) 0 = (l.length : Int) - 1 by omega, Int.mul_comm]
  have hne : its ≠ [] := fun e => by rw [e] at hlen; simp at hlen; omega
  have hgr : growN its room gap = true := by
    unfold growN
    rw [hgap, hlen, hw]
    simp; omega
  have hro : roomN its room gap = room - gap * ((l.length : Int) - 1) - arsN l l.length := by
    unfold roomN; rw [hgap, hlen, ha]
  have hpa : partsN its room gap = its.map (mkP true) := by unfold partsN; rw [hgr]
  rw [hgr, hpa, free_share hf hne _ _ (by rw [hro, hlen, hb]; omega)]
  refine ⟨?_, fun k x hk => ?_⟩
  · rw [wide_all hf hne, hro, hlen, hb]; omega
  · have hi : its[k]? = some ⟨x.b, 0, -1, x.ar, x.gr, facN x.sh⟩ := by rw [hc, List.getElem?_map, hk]; rfl
    refine ⟨_, by rw [List.getElem?_mapIdx, hi]; rfl, ?_⟩
    exact wide_ge (i := ⟨x.b, 0, -1, x.ar, x.gr, facN x.sh⟩) hf (by rw [hro, hlen, hb]; omega) hi hne
end
theorem shared_len (l : List It) (room gap : Int) : (sharedN l room gap).length = min 200 l.length := by
  unfold sharedN
  rw [List.length_map, shareL_len]
  unfold partsN countN
  rw [List.length_map, List.length_map, List.length_take]
end Go.Proofs.Ytdjagdifemhkpaa
