/- Between the digits, and behind them. -/
import Derived.Test.YtdjagdifemhkpaaDvSet
namespace Go.Proofs.Ytdjagdifemhkpaa
open Go.RowKit

theorem wrapSub (x n W u : Int) (h : x * 4294967296 + n - W = u) (h0 : 0 ≤ u) (h1 : u < 18446744073709551616) :
    IntKind.u64.wrap (IntKind.u64.wrap (IntKind.u64.wrap (x * 4294967296) + n) - IntKind.u64.wrap W) = u := by
  simp only [IntKind.wrap_u64]
  omega

theorem wrapAdd (a b T : Nat) (h : a * 4294967296 + b = T) (hT : T < 18446744073709551616) : IntKind.u64.wrap (IntKind.u64.wrap ((a : Int) * 4294967296) + (b : Int)) = (T : Int) := by
  simp only [IntKind.wrap_u64]
  omega

theorem dv_mid {U n1 Y : Nat} {v : Int} (hy : 0 < Y) (hY : Y < 18446744073709551616) (hv : v = (((U * 4294967296 + n1) / Y : Nat) : Int)) :
    ∃ (A A2 A3 : Int) (u : Nat), IntKind.u64.wrap ((U : Int) * 4294967296) = A ∧ IntKind.u64.wrap (A + (n1 : Int)) = A2 ∧ IntKind.u64.wrap (v * (Y : Int)) = A3 ∧ IntKind.u64.wrap (A2 - A3) = (u : Int) ∧ u = (U * 4294967296 + n1) % Y := by
  refine ⟨_, _, _, (U * 4294967296 + n1) % Y, rfl, rfl, rfl, ?_, rfl⟩
  have hl := Nat.mod_lt (U * 4294967296 + n1) hy
  have e := Nat.div_add_mod' (U * 4294967296 + n1) Y
  apply wrapSub
  · rw [hv, ← Int.natCast_mul]
    generalize (U * 4294967296 + n1) / Y * Y = W at *
    generalize (U * 4294967296 + n1) % Y = z at *
    omega
  · omega
  · omega

theorem dv_dig {u n y1 y0 : Nat} (y1l : 2147483648 ≤ y1) (y1h : y1 < 4294967296) (y0h : y0 < 4294967296) (nh : n < 4294967296) (lt : u < y1 * 4294967296 + y0) (ul : u < 18446744073709551616) :
    ∃ q r Z : Nat, IntKind.u64.wrap ((u : Int) / (y1 : Int)) = (q : Int) ∧ IntKind.u64.wrap ((q : Int) * (y1 : Int)) = (Z : Int) ∧ IntKind.u64.wrap ((u : Int) - (Z : Int)) = (r : Int) ∧ r < 4294967296 ∧ Dig u n y1 y0 q r := by
  obtain ⟨d1, d2⟩ := dig_begin y1l y1h y0h nh lt
  have hm : u / y1 * y1 ≤ u := Nat.div_mul_le_self _ _
  refine ⟨u / y1, u - u / y1 * y1, u / y1 * y1, ?_, wrapMul _ _ (by omega), ?_, by omega, d1⟩
  · rw [← Int.natCast_ediv]; exact wrapU _ (Nat.lt_of_le_of_lt (Nat.div_le_self _ _) ul)
  · rw [show (u : Int) - ((u / y1 * y1 : Nat) : Int) = ((u - u / y1 * y1 : Nat) : Int) by omega]
    exact wrapU _ (by omega)

theorem dv_end {hi lo y s t Y y1 y0 U V n1 n0 u : Nat} {v v2 : Int} (D : DvSet hi lo y s t Y y1 y0 U V n1 n0) (hh : hi < y) (hl : lo < 18446744073709551616) (hv : v = (((U * 4294967296 + n1) / Y : Nat) : Int)) (hu : u = (U * 4294967296 + n1) % Y) (hv2 : v2 = (((u * 4294967296 + n0) / Y : Nat) : Int)) :
    ∃ (B1 B3 B4 B5 : Int) (r : Nat), IntKind.u64.wrap (v * 4294967296) = B1 ∧ IntKind.u64.wrap (B1 + v2) = (((hi * 18446744073709551616 + lo) / y : Nat) : Int) ∧ IntKind.u64.wrap ((u : Int) * 4294967296) = B3 ∧ IntKind.u64.wrap (B3 + (n0 : Int)) = B4 ∧ IntKind.u64.wrap (v2 * (Y : Int)) = B5 ∧ IntKind.u64.wrap (B4 - B5) = (r : Int) ∧ (r : Int) / 2 ^ s = (((hi * 18446744073709551616 + lo) % y : Nat) : Int) := by
  have hY0 : 0 < Y := by have := D.yl; omega
  have hp : 0 < 2 ^ s := Nat.pow_pos (by omega)
  obtain ⟨t1, t2⟩ := two_digits U n1 n0 Y hY0
  rw [← hu, ← D.all, D.yY] at t1 t2
  rw [Nat.mul_div_mul_right _ _ hp] at t1
  rw [Nat.mul_mod_mul_right] at t2
  rw [← D.yY] at t1 t2
  have hq : (hi * 18446744073709551616 + lo) / y < 18446744073709551616 := by
    rw [Nat.div_lt_iff_lt_mul (by omega)]; omega
  obtain ⟨_, _, _, u2, m1, m2, m3, m4, m5⟩ := dv_mid (U := u) (n1 := n0) hY0 D.yh hv2
  refine ⟨_, _, _, _, (u * 4294967296 + n0) % Y, rfl, ?_, m1, m2, m3, by rw [m4, m5], ?_⟩
  · rw [hv, hv2]; exact wrapAdd _ _ _ t1 hq
  · rw [t2]
    rw [show ((2 : Int) ^ s) = ((2 ^ s : Nat) : Int) by simp, ← Int.natCast_ediv, Nat.mul_div_cancel _ hp]
end Go.Proofs.Ytdjagdifemhkpaa
