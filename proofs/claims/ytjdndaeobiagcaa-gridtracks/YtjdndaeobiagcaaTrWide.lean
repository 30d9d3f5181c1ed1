/- widen: the auto tracks of a need, by what it misses. Plain. -/
import Derived.Test.YtjdndaeobiagcaaTrBand
namespace Go.Proofs.Ytjdndaeobiagcaa
open Go.RowKit
set_option linter.unusedVariables false      -- bounds that are for the walk

/-- the auto tracks among q from a place on -/
def opn (tr : Nat → Tr2) (fr q : Nat) : List Nat := ((List.range q).map (fun i => fr + i)).filter (fun i => decide ((tr i).k = 0))
theorem opn_succ (tr : Nat → Tr2) (fr q : Nat) : opn tr fr (q + 1) = if (tr (fr + q)).k = 0 then opn tr fr q ++ [fr + q] else opn tr fr q := by
  unfold opn
  rw [List.range_succ, List.map_append, List.filter_append]
  by_cases h : (tr (fr + q)).k = 0
  · simp [h]
  · simp [h]
theorem opn_mem {tr : Nat → Tr2} {fr q x : Nat} (h : x ∈ opn tr fr q) : fr ≤ x ∧ x < fr + q := by
  unfold opn at h
  obtain ⟨i, hi, rfl⟩ := List.mem_map.1 (List.mem_filter.1 h).1
  have := List.mem_range.1 hi
  omega
theorem opn_len (tr : Nat → Tr2) (fr q : Nat) : (opn tr fr q).length ≤ q := by
  unfold opn
  refine Nat.le_trans (List.length_filter_le _ _) ?_
  simp
/-- how wide they are together -/
def smz (sz : Nat → Int) (fr q : Nat) : Int := ((List.range q).map (fun i => sz (fr + i))).sum
theorem smz_succ (sz : Nat → Int) (fr q : Nat) : smz sz fr (q + 1) = smz sz fr q + sz (fr + q) := by
  unfold smz
  rw [List.range_succ, List.map_append, List.sum_append]
  simp
theorem smz_bd {sz : Nat → Int} {M : Int} {n : Nat} (h : ∀ j, j < n → 0 ≤ sz j ∧ sz j ≤ M) (fr : Nat) : ∀ q, fr + q ≤ n → 0 ≤ smz sz fr q ∧ smz sz fr q ≤ (q : Int) * M
  | 0, _ => by simp [smz]
  | q + 1, hq => by
    have ih := smz_bd h fr q (by omega)
    have := h (fr + q) (by omega)
    rw [smz_succ, Int.natCast_add, Int.add_mul]
    omega
/-- q of them have got their share of what is missing -/
def addQ (miss : Int) (op : List Nat) : Nat → (Nat → Int) → (Nat → Int)
  | 0, sz => sz
  | q + 1, sz => fun j => if j = op.getD q 0 then addQ miss op q sz j + (miss * ((q : Int) + 1) / (op.length : Int) - miss * (q : Int) / (op.length : Int)) else addQ miss op q sz j
/-- what a need does to sizes -/
def missW (gap : Int) (x : Nd3) (sz : Nat → Int) (fr m : Nat) : Int := x.z - max (x.s - 1) 0 * gap - smz sz fr m
open Classical in
noncomputable def widF (tr : Nat → Tr2) (gap : Int) (x : Nd3) (sz : Nat → Int) : Nat → Int :=
  if (∃ i, i < x.s.toNat ∧ (tr ((x.f - 1).toNat + i)).k = 3) then sz
  else if missW gap x sz (x.f - 1).toNat x.s.toNat ≤ 0 then sz
  else addQ (missW gap x sz (x.f - 1).toNat x.s.toNat) (opn tr (x.f - 1).toNat x.s.toNat) (opn tr (x.f - 1).toNat x.s.toNat).length sz
theorem addQ_bd {miss : Int} {op : List Nat} {sz : Nat → Int} {M : Int} {n : Nat} (h : ∀ j, j < n → 0 ≤ sz j ∧ sz j ≤ M) (hm : 0 ≤ miss) : ∀ q, q ≤ op.length → ∀ j, j < n → 0 ≤ addQ miss op q sz j ∧ addQ miss op q sz j ≤ M + miss * (q : Int) / (op.length : Int) := by
  intro q
  induction q with
  | zero => intro _ j hj; have := h j hj; simp [addQ]; omega
  | succ q ih =>
    intro hq j hj
    have i1 := ih (by omega) j hj
    have hL : (0 : Int) < (op.length : Int) := by omega
    have hle : miss * (q : Int) / (op.length : Int) ≤ miss * ((q : Int) + 1) / (op.length : Int) := Int.ediv_le_ediv hL (by rw [Int.mul_add]; omega)
    rw [show ((q + 1 : Nat) : Int) = (q : Int) + 1 by omega]
    unfold addQ
    split <;> omega
end Go.Proofs.Ytjdndaeobiagcaa
