/- What Div64 sets up: numbers shifted so that the divisor fills its 64 bits. -/
import Derived.Test.YtjdndaeobiagcaaGM23
import Derived.Test.YtjdndaeobiagcaaXShelf
import Derived.Lib.ItoaNum
import Derived.Laws.Bits64b
import Derived.WalkKit
namespace Go.Proofs.Ytjdndaeobiagcaa
open Go.RowKit

theorem wrapU (n : Nat) (h : n < 18446744073709551616) : IntKind.u64.wrap (n : Int) = (n : Int) := by rw [IntKind.wrap_u64]; omega
theorem wrapU_mod (n : Nat) : IntKind.u64.wrap (n : Int) = ((n % 18446744073709551616 : Nat) : Int) := by rw [IntKind.wrap_u64]; omega
theorem wrapMul (a b : Nat) (h : a * b < 18446744073709551616) : IntKind.u64.wrap ((a : Int) * (b : Int)) = ((a * b : Nat) : Int) := by rw [← Int.natCast_mul]; exact wrapU _ h
theorem wrapPow (a s : Nat) : IntKind.u64.wrap ((a : Int) * 2 ^ s) = ((a * 2 ^ s % 18446744073709551616 : Nat) : Int) := by
  rw [show (a : Int) * 2 ^ s = ((a * 2 ^ s : Nat) : Int) by simp]; exact wrapU_mod _
theorem andLow (a : Nat) (ha : a < 18446744073709551616) : bits .and .u64 (a : Int) 4294967295 = ((a % 4294967296 : Nat) : Int) := by
  have h := bits_and_u64_nat a 4294967295 ha (by omega)
  rw [show a &&& 4294967295 = a % 4294967296 from Nat.and_two_pow_sub_one_eq_mod a 32] at h
  exact h

structure DvSet (hi lo y s t Y y1 y0 U V n1 n0 : Nat) : Prop where
  s1 : 1 ≤ s
  st : s + t = 64
  t1 : 1 ≤ t
  lz : (64 : Int) - (Lib.bitLen y : Int) = (s : Int)
  e1 : IntKind.u64.wrap ((y : Int) * 2 ^ s) = (Y : Int)
  e2 : (Y : Int) / 4294967296 = (y1 : Int)
  e3 : bits .and .u64 (Y : Int) 4294967295 = (y0 : Int)
  e5 : bits .or .u64 (IntKind.u64.wrap ((hi : Int) * 2 ^ s)) ((lo : Int) / 2 ^ t) = (U : Int)
  e6 : IntKind.u64.wrap ((lo : Int) * 2 ^ s) = (V : Int)
  e7 : (V : Int) / 4294967296 = (n1 : Int)
  e8 : bits .and .u64 (V : Int) 4294967295 = (n0 : Int)
  yY : Y = y * 2 ^ s
  yy : Y = y1 * 4294967296 + y0
  yl : 9223372036854775808 ≤ Y
  yh : Y < 18446744073709551616
  y0h : y0 < 4294967296
  n1h : n1 < 4294967296
  n0h : n0 < 4294967296
  ul : U < Y
  all : (hi * 18446744073709551616 + lo) * 2 ^ s = U * 18446744073709551616 + n1 * 4294967296 + n0

theorem or_add (a b s : Nat) (h : b < 2 ^ s) : (a * 2 ^ s) ||| b = a * 2 ^ s + b := by
  rw [Nat.mul_comm, ← Nat.two_pow_add_eq_or_of_lt h]

theorem dv_set (hi lo y : Nat) (h1 : hi < y) (h2 : y < 9223372036854775808) (h3 : lo < 18446744073709551616) :
    ∃ s t Y y1 y0 U V n1 n0, DvSet hi lo y s t Y y1 y0 U V n1 n0 := by
  obtain ⟨b1, b2, b3⟩ := Lib.bitLenAux_bounds 64 y (by omega) (by omega)
  have hb63 : Lib.bitLen y ≤ 63 := Lib.bitLen_le y 63 (by omega) h2
  have hbe : Lib.bitLen y = Lib.bitLenAux 64 y := rfl
  rw [← hbe] at b1 b2 b3
  obtain ⟨k, hk⟩ : ∃ k, Lib.bitLen y = k := ⟨_, rfl⟩
  rw [hk] at b1 b2 b3 hb63
  obtain ⟨s, hs⟩ : ∃ s, s = 64 - k := ⟨_, rfl⟩
  have hp1 : 2 ^ (k - 1) * 2 ^ s = 9223372036854775808 := by rw [← Nat.pow_add, show k - 1 + s = 63 by omega]
  have hp2 : 2 ^ k * 2 ^ s = 18446744073709551616 := by rw [← Nat.pow_add, show k + s = 64 by omega]
  have hpos : 0 < 2 ^ s := Nat.pow_pos (by omega)
  have yl : 9223372036854775808 ≤ y * 2 ^ s := by rw [← hp1]; exact Nat.mul_le_mul_right _ b2
  have yh : y * 2 ^ s < 18446744073709551616 := by rw [← hp2]; exact Nat.mul_lt_mul_of_pos_right b3 hpos
  have hh : hi * 2 ^ s + 2 ^ s ≤ y * 2 ^ s := by
    have : (hi + 1) * 2 ^ s ≤ y * 2 ^ s := Nat.mul_le_mul_right _ h1
    rw [Nat.add_mul, Nat.one_mul] at this
    exact this
  have ht : 2 ^ (64 - s) * 2 ^ s = 18446744073709551616 := by rw [← Nat.pow_add, show 64 - s + s = 64 by omega]
  have hlt : lo / 2 ^ (64 - s) < 2 ^ s := by
    rw [Nat.div_lt_iff_lt_mul (Nat.pow_pos (by omega)), Nat.mul_comm, ht]; exact h3
  have hlo : lo * 2 ^ s = lo / 2 ^ (64 - s) * 18446744073709551616 + lo * 2 ^ s % 18446744073709551616 := by
    have e := Nat.div_add_mod' (lo * 2 ^ s) 18446744073709551616
    rw [← ht, Nat.mul_div_mul_right _ _ hpos, ht] at e
    exact e.symm
  refine ⟨s, 64 - s, y * 2 ^ s, y * 2 ^ s / 4294967296, y * 2 ^ s % 4294967296, hi * 2 ^ s + lo / 2 ^ (64 - s), lo * 2 ^ s % 18446744073709551616, lo * 2 ^ s % 18446744073709551616 / 4294967296, lo * 2 ^ s % 18446744073709551616 % 4294967296, ?_⟩
  have hV : lo * 2 ^ s % 18446744073709551616 < 18446744073709551616 := Nat.mod_lt _ (by omega)
  have hall : (hi * 18446744073709551616 + lo) * 2 ^ s = (hi * 2 ^ s) * 18446744073709551616 + lo * 2 ^ s := by rw [Nat.add_mul, Nat.mul_right_comm]
  have hor : hi * 2 ^ s ||| lo / 2 ^ (64 - s) = hi * 2 ^ s + lo / 2 ^ (64 - s) := or_add hi _ s hlt
  have hcast : (lo : Int) / 2 ^ (64 - s) = ((lo / 2 ^ (64 - s) : Nat) : Int) := by simp
  have hw1 := wrapPow y s
  have hw2 := wrapPow hi s
  have hw3 := wrapPow lo s
  rw [Nat.mod_eq_of_lt yh] at hw1
  generalize hpp : 2 ^ s = p at *
  generalize lo / 2 ^ (64 - s) = q at *
  generalize hYY : y * p = Y at *
  generalize hi * p = A at *
  generalize lo * p = L at *
  rw [Nat.mod_eq_of_lt (show A < 18446744073709551616 by omega)] at hw2
  refine ⟨by omega, by omega, by omega, by omega, hw1, by omega, andLow _ yh, ?_, hw3, by omega, andLow _ hV, by rw [hpp]; exact hYY.symm, by omega, yl, yh, by omega, by omega, by omega, by omega, ?_⟩
  · rw [hw2, hcast, bits_or_u64_nat A q (by omega) (by omega), hor]
  · rw [hpp, hall]
    generalize L % 18446744073709551616 = M at *
    omega
end Go.Proofs.Ytjdndaeobiagcaa

/- Between the digits, and behind them. -/
namespace Go.Proofs.Ytjdndaeobiagcaa
open Go.RowKit

theorem wrapSub (x n W u : Int) (h : x * 4294967296 + n - W = u) (h0 : 0 ≤ u) (h1 : u < 18446744073709551616) :
    IntKind.u64.wrap (IntKind.u64.wrap (IntKind.u64.wrap (x * 4294967296) + n) - IntKind.u64.wrap W) = u := by
  simp only [IntKind.wrap_u64]
  omega

theorem wrapAdd (a b T : Nat) (h : a * 4294967296 + b = T) (hT : T < 18446744073709551616) : IntKind.u64.wrap (IntKind.u64.wrap ((a : Int) * 4294967296) + (b : Int)) = (T : Int) := by
  simp only [IntKind.wrap_u64]
  omega

theorem dv_mid {U n1 Y : Nat} {v : Int} (hy : 0 < Y) (hY : Y < 18446744073709551616) (hv : v = (((U * 4294967296 + n1) / Y : Nat) : Int)) :
    ∃ (A A2 A3 : Int) (u : Nat), IntKind.u64.wrap ((U : Int) * 4294967296) = A ∧ IntKind.u64.wrap (A + (n1 : Int)) = A2 ∧ IntKind.u64.wrap (v * (Y : Int)) = A3 ∧ IntKind.u64.wrap (A2 - A3) = (u : Int) ∧ u = (U * 4294967296 + n1) % Y := by
  refine ⟨_, _, _, (U * 4294967296 + n1) % Y, rfl, rfl, rfl, ?_, rfl⟩
  have hl := Nat.mod_lt (U * 4294967296 + n1) hy
  have e := Nat.div_add_mod' (U * 4294967296 + n1) Y
  apply wrapSub
  · rw [hv, ← Int.natCast_mul]
    generalize (U * 4294967296 + n1) / Y * Y = W at *
    generalize (U * 4294967296 + n1) % Y = z at *
    omega
  · omega
  · omega

theorem dv_dig {u n y1 y0 : Nat} (y1l : 2147483648 ≤ y1) (y1h : y1 < 4294967296) (y0h : y0 < 4294967296) (nh : n < 4294967296) (lt : u < y1 * 4294967296 + y0) (ul : u < 18446744073709551616) :
    ∃ q r Z : Nat, IntKind.u64.wrap ((u : Int) / (y1 : Int)) = (q : Int) ∧ IntKind.u64.wrap ((q : Int) * (y1 : Int)) = (Z : Int) ∧ IntKind.u64.wrap ((u : Int) - (Z : Int)) = (r : Int) ∧ r < 4294967296 ∧ Dig u n y1 y0 q r := by
  obtain ⟨d1, d2⟩ := dig_begin y1l y1h y0h nh lt
  have hm : u / y1 * y1 ≤ u := Nat.div_mul_le_self _ _
  refine ⟨u / y1, u - u / y1 * y1, u / y1 * y1, ?_, wrapMul _ _ (by omega), ?_, by omega, d1⟩
  · rw [← Int.natCast_ediv]; exact wrapU _ (Nat.lt_of_le_of_lt (Nat.div_le_self _ _) ul)
  · rw [show (u : Int) - ((u / y1 * y1 : Nat) : Int) = ((u - u / y1 * y1 : Nat) : Int) by omega]
    exact wrapU _ (by omega)

theorem dv_end {hi lo y s t Y y1 y0 U V n1 n0 u : Nat} {v v2 : Int} (D : DvSet hi lo y s t Y y1 y0 U V n1 n0) (hh : hi < y) (hl : lo < 18446744073709551616) (hv : v = (((U * 4294967296 + n1) / Y : Nat) : Int)) (hu : u = (U * 4294967296 + n1) % Y) (hv2 : v2 = (((u * 4294967296 + n0) / Y : Nat) : Int)) :
    ∃ (B1 B3 B4 B5 : Int) (r : Nat), IntKind.u64.wrap (v * 4294967296) = B1 ∧ IntKind.u64.wrap (B1 + v2) = (((hi * 18446744073709551616 + lo) / y : Nat) : Int) ∧ IntKind.u64.wrap ((u : Int) * 4294967296) = B3 ∧ IntKind.u64.wrap (B3 + (n0 : Int)) = B4 ∧ IntKind.u64.wrap (v2 * (Y : Int)) = B5 ∧ IntKind.u64.wrap (B4 - B5) = (r : Int) ∧ (r : Int) / 2 ^ s = (((hi * 18446744073709551616 + lo) % y : Nat) : Int) := by
  have hY0 : 0 < Y := by have := D.yl; omega
  have hp : 0 < 2 ^ s := Nat.pow_pos (by omega)
  obtain ⟨t1, t2⟩ := two_digits U n1 n0 Y hY0
  rw [← hu, ← D.all, D.yY] at t1 t2
  rw [Nat.mul_div_mul_right _ _ hp] at t1
  rw [Nat.mul_mod_mul_right] at t2
  rw [← D.yY] at t1 t2
  have hq : (hi * 18446744073709551616 + lo) / y < 18446744073709551616 := by
    rw [Nat.div_lt_iff_lt_mul (by omega)]; omega
  obtain ⟨_, _, _, u2, m1, m2, m3, m4, m5⟩ := dv_mid (U := u) (n1 := n0) hY0 D.yh hv2
  refine ⟨_, _, _, _, (u * 4294967296 + n0) % Y, rfl, ?_, m1, m2, m3, by rw [m4, m5], ?_⟩
  · rw [hv, hv2]; exact wrapAdd _ _ _ t1 hq
  · rw [t2]
    rw [show ((2 : Int) ^ s) = ((2 ^ s : Nat) : Int) by simp, ← Int.natCast_ediv, Nat.mul_div_cancel _ hp]
end Go.Proofs.Ytjdndaeobiagcaa
