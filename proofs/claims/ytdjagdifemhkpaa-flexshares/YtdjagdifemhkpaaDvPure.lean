/- Division of 128 bits by 64: the school method with two digits of 32 bits. -/
import Derived.Test.YtdjagdifemhkpaaProg
namespace Go.Proofs.Ytdjagdifemhkpaa

/-- one digit: the loop's own numbers: what is tried (q) and what is left then (r) -/
structure Dig (u n1 y1 y0 q r : Nat) : Prop where
  eq : u = q * y1 + r
  ge : (u * 4294967296 + n1) / (y1 * 4294967296 + y0) ≤ q
  le : q ≤ 4294967297
  y1l : 2147483648 ≤ y1
  y1h : y1 < 4294967296
  y0h : y0 < 4294967296
  n1h : n1 < 4294967296
  lt : u < y1 * 4294967296 + y0

theorem dig_begin {u n1 y1 y0 : Nat} (y1l : 2147483648 ≤ y1) (y1h : y1 < 4294967296) (y0h : y0 < 4294967296) (n1h : n1 < 4294967296) (lt : u < y1 * 4294967296 + y0) :
    Dig u n1 y1 y0 (u / y1) (u - u / y1 * y1) ∧ u - u / y1 * y1 < y1 := by
  have hm : u / y1 * y1 ≤ u := Nat.div_mul_le_self u y1
  have hmod : u - u / y1 * y1 < y1 := by
    have := Nat.mod_lt u (show 0 < y1 by omega)
    have e := Nat.div_add_mod' u y1
    omega
  refine ⟨⟨by omega, ?_, ?_, y1l, y1h, y0h, n1h, lt⟩, hmod⟩
  · apply Nat.le_of_lt_succ
    rw [Nat.div_lt_iff_lt_mul (by omega)]
    have h1 : u < (u / y1 + 1) * y1 := by rw [Nat.add_mul]; omega
    generalize u / y1 = q at *
    have h2 : u + 1 ≤ (q + 1) * y1 := h1
    have h3 : (u + 1) * 4294967296 ≤ (q + 1) * y1 * 4294967296 := Nat.mul_le_mul_right _ h2
    have h4 : (q.succ) * (y1 * 4294967296 + y0) = (q + 1) * y1 * 4294967296 + (q + 1) * y0 := by rw [Nat.mul_add, ← Nat.mul_assoc]
    rw [h4]
    generalize (q + 1) * y1 = a at *
    generalize (q + 1) * y0 = b at *
    omega
  · apply Nat.le_of_lt_succ
    rw [Nat.div_lt_iff_lt_mul (by omega)]
    omega

theorem lin_a (u n y : Nat) (h : n < 4294967296) (l : u < y) : u * 4294967296 + n < 4294967296 * y := by omega
theorem dig_top {u n1 y1 y0 : Nat} (n1h : n1 < 4294967296) (lt : u < y1 * 4294967296 + y0) : (u * 4294967296 + n1) / (y1 * 4294967296 + y0) < 4294967296 := by
  rw [Nat.div_lt_iff_lt_mul (by omega)]
  exact lin_a _ _ _ n1h lt

/-- the test says that it is too great -/
theorem Dig.less {u n1 y1 y0 q r : Nat} (h : Dig u n1 y1 y0 q r) (t : 4294967296 ≤ q ∨ 4294967296 * r + n1 < q * y0) : 0 < q ∧ Dig u n1 y1 y0 (q - 1) (r + y1) := by
  have hlt : (u * 4294967296 + n1) / (y1 * 4294967296 + y0) < q := by
    rcases t with t | t
    · exact Nat.lt_of_lt_of_le (dig_top h.n1h h.lt) t
    · rw [Nat.div_lt_iff_lt_mul (by have := h.y1l; omega)]
      have e := h.eq
      have h4 : q * (y1 * 4294967296 + y0) = q * y1 * 4294967296 + q * y0 := by rw [Nat.mul_add, ← Nat.mul_assoc]
      rw [h4, e]
      generalize q * y1 = a at *
      generalize q * y0 = b at *
      omega
  have hq : 0 < q := Nat.lt_of_le_of_lt (Nat.zero_le _) hlt
  refine ⟨hq, ⟨?_, by omega, by have := h.le; omega, h.y1l, h.y1h, h.y0h, h.n1h, h.lt⟩⟩
  have e := h.eq
  obtain ⟨p, rfl⟩ : ∃ p, q = p + 1 := ⟨q - 1, by omega⟩
  rw [Nat.add_mul] at e
  simp only [Nat.add_sub_cancel]
  omega

/-- what is tried does -/
theorem Dig.done {u n1 y1 y0 q r : Nat} (h : Dig u n1 y1 y0 q r) (t : q * y0 ≤ 4294967296 * r + n1) : q = (u * 4294967296 + n1) / (y1 * 4294967296 + y0) := by
  apply Nat.le_antisymm _ h.ge
  rw [Nat.le_div_iff_mul_le (by have := h.y1l; omega)]
  have e := h.eq
  have h4 : q * (y1 * 4294967296 + y0) = q * y1 * 4294967296 + q * y0 := by rw [Nat.mul_add, ← Nat.mul_assoc]
  rw [h4, e]
  generalize q * y1 = a at *
  generalize q * y0 = b at *
  omega

/-- what is left is beyond a digit -/
theorem Dig.far {u n1 y1 y0 q r : Nat} (h : Dig u n1 y1 y0 q r) (hq : q ≤ 4294967296) (hr : 4294967296 ≤ r) : q = (u * 4294967296 + n1) / (y1 * 4294967296 + y0) := by
  apply h.done
  have h1 : q * y0 ≤ 4294967296 * 4294967295 := Nat.mul_le_mul hq (by have := h.y0h; omega)
  omega

/-- what is left behind a digit -/
theorem dig_rest (N y : Nat) (_ : 0 < y) : N - N / y * y = N % y ∧ N / y * y ≤ N := by
  have e := Nat.div_add_mod' N y
  have := Nat.div_mul_le_self N y
  omega

/-- both digits together -/
theorem two_digits (u n1 n0 y : Nat) (hy : 0 < y) :
    (u * 4294967296 + n1) / y * 4294967296 + ((u * 4294967296 + n1) % y * 4294967296 + n0) / y = (u * 18446744073709551616 + n1 * 4294967296 + n0) / y ∧
    ((u * 4294967296 + n1) % y * 4294967296 + n0) % y = (u * 18446744073709551616 + n1 * 4294967296 + n0) % y := by
  have e : u * 18446744073709551616 + n1 * 4294967296 + n0 = (u * 4294967296 + n1) % y * 4294967296 + n0 + y * ((u * 4294967296 + n1) / y * 4294967296) := by
    have h := Nat.div_add_mod (u * 4294967296 + n1) y
    have h2 : y * ((u * 4294967296 + n1) / y * 4294967296) = y * ((u * 4294967296 + n1) / y) * 4294967296 := by rw [Nat.mul_assoc]
    rw [h2]
    generalize y * ((u * 4294967296 + n1) / y) = a at *
    generalize (u * 4294967296 + n1) % y = b at *
    omega
  constructor
  · rw [e, Nat.add_mul_div_left _ _ hy, Nat.add_comm]
  · rw [e, Nat.add_mul_mod_self_left]
end Go.Proofs.Ytdjagdifemhkpaa
