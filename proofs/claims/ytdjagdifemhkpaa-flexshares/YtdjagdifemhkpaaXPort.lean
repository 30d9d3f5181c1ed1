/- portion: so much of an amount, rounded down; shares. -/
import Derived.Test.YtdjagdifemhkpaaDv64
namespace Go.Proofs.Ytdjagdifemhkpaa
open Go.RowKit
set_option linter.unusedVariables false      -- bounds that are for the walk

theorem div64_any (m y : Nat) (h1 : m / 18446744073709551616 < y) (h2 : y < 9223372036854775808) (w : World) :
    Calls Try.prog 91 #[.int .u64 ((m / 18446744073709551616 : Nat) : Int), .int .u64 ((m % 18446744073709551616 : Nat) : Int), .int .u64 y] w fun e w' => e = .returned (.tuple #[.int .u64 ((m / y : Nat) : Int), .int .u64 ((m % y : Nat) : Int)]) ∧ Below w.heap.size w w' := by
  have hm := Nat.div_add_mod' m 18446744073709551616
  have hl : m % 18446744073709551616 < 18446744073709551616 := Nat.mod_lt _ (by omega)
  rcases Nat.eq_zero_or_pos (m / 18446744073709551616) with h0 | h0
  · rw [h0]
    have := div64_small (m % 18446744073709551616) y (by omega) h2 hl w
    rw [h0, Nat.zero_mul, Nat.zero_add] at hm
    rw [hm] at this
    rw [hm]
    exact this
  · have := div64_great (m / 18446744073709551616) (m % 18446744073709551616) y h0 h1 h2 hl w
    rw [hm] at this
    exact this

set_option maxHeartbeats 400000 in
theorem magnitude_any (n : Int) (h1 : -4000000000000000000 ≤ n) (h2 : n ≤ 4000000000000000000) (w : World) : Calls Try.prog 83 #[.int .i64 n] w fun e w' => e = .returned (.int .i64 (n.natAbs : Int)) ∧ w' = w := by
  rcases Int.lt_or_le n 0 with h0 | h0
  · have g1 : n < -n := by omega
    go_enter Try.func83, Try.ntmps83
    go_wp2
    all_goals
      go_returns
      exact ⟨ret_i (by omega), rfl⟩
  · have g1 : ¬ n < -n := by omega
    go_enter Try.func83, Try.ntmps83
    go_wp2
    all_goals
      go_returns
      exact ⟨ret_i (by omega), rfl⟩

theorem neg_floor (m c : Nat) (hc : 0 < c) : (-(m : Int)) / (c : Int) = if m % c = 0 then -((m / c : Nat) : Int) else -((m / c + 1 : Nat) : Int) := by
  have e := Nat.div_add_mod' m c
  have hl := Nat.mod_lt m hc
  split
  · rename_i h
    rw [h, Nat.add_zero] at e
    apply Int.ediv_eq_of_eq_mul_left (by omega)
    rw [Int.neg_mul, ← Int.natCast_mul, e]
  · rename_i h
    have key : (-(m : Int)) = (c - m % c : Nat) + (c : Int) * -((m / c + 1 : Nat) : Int) := by
      have e2 : (c : Int) * ((m / c + 1 : Nat) : Int) = ((m / c * c : Nat) : Int) + c := by
        rw [← Int.natCast_mul, Nat.mul_add, Nat.mul_comm c]; simp
      rw [Int.mul_neg, e2]
      omega
    rw [key, Int.add_mul_ediv_left _ _ (by omega), Int.ediv_eq_zero_of_lt (by omega) (by omega)]
    omega

set_option maxHeartbeats 1000000 in
set_option maxRecDepth 100000 in
theorem portion_any (a : Int) (n c : Nat) (a1 : -4000000000000000000 ≤ a) (a2 : a ≤ 4000000000000000000) (hn : n ≤ c) (hc : 0 < c) (hc2 : c < 4000000000000000000) (w : World) :
    Calls Try.prog 82 #[.int .i64 a, .int .i64 (n : Int), .int .i64 (c : Int)] w fun e w' => e = .returned (.int .i64 (a * n / c)) ∧ Below w.heap.size w w' := by
  obtain ⟨m, hm⟩ : ∃ m, a.natAbs = m := ⟨_, rfl⟩
  have hmb : m ≤ 4000000000000000000 := by omega
  have hmn : m * n ≤ m * c := Nat.mul_le_mul_left m hn
  have hq : m * n / c ≤ m := by
    apply Nat.le_of_lt_succ
    rw [Nat.div_lt_iff_lt_mul hc, Nat.succ_mul]
    omega
  have hhi : m * n / 18446744073709551616 < c := by
    rw [Nat.div_lt_iff_lt_mul (by omega)]
    have : m * c ≤ 4000000000000000000 * c := Nat.mul_le_mul_right c hmb
    omega
  have MU := hidF (Try.bits_Mul64 m n (by omega) (by omega))
  have DV := hidF (div64_any (m * n) c hhi (by omega))
  obtain ⟨q, hqq⟩ : ∃ q, m * n / c = q := ⟨_, rfl⟩
  obtain ⟨r, hrr⟩ : ∃ r, m * n % c = r := ⟨_, rfl⟩
  obtain ⟨H, hH⟩ : ∃ q, m * n / 18446744073709551616 = q := ⟨_, rfl⟩
  obtain ⟨L, hL⟩ : ∃ r, m * n % 18446744073709551616 = r := ⟨_, rfl⟩
  have k1 : IntKind.u64.wrap (m : Int) = (m : Int) := wrapU m (by omega)
  have k2 : IntKind.u64.wrap (n : Int) = (n : Int) := wrapU n (by omega)
  have k3 : IntKind.u64.wrap (c : Int) = (c : Int) := wrapU c (by omega)
  rw [hqq, hrr, hH, hL] at DV
  rw [hH, hL] at MU
  rw [hqq] at hq
  rcases Int.lt_or_le a 0 with h0 | h0
  · have g0 : ¬ 0 ≤ a := by omega
    have GM := hidF (show max a (-a) = (m : Int) by omega)
    have ha : a * n / c = (-((m * n : Nat) : Int)) / (c : Int) := by
      rw [show a = -(m : Int) by omega, Int.neg_mul, Int.natCast_mul]
    have HR := hidF (ha.trans (neg_floor (m * n) c hc))
    rw [hrr, hqq] at HR
    clear hm hqq hrr hH hL ha hmn hhi
    by_cases hr0 : r = 0
    · subst hr0
      have HR2 := hidF (HR.out.trans (if_pos rfl))
      clear HR
      go_enter Try.func82, Try.ntmps82
      go_wp2_with fail
      rw [GM.out]
      refine (MU.out w).mono ?_
      rintro e w'' ⟨rfl, hw''⟩
      rw [hw'']
      clear hw''
      go_wp2_with fail
      refine (DV.out w).mono ?_
      rintro e w3 ⟨rfl, hb3⟩
      go_wp2_with fail
      all_goals
        go_returns
        exact ⟨ret_i (by rw [HR2.out]), hb3⟩
    · have HR2 := hidF (HR.out.trans (if_neg hr0))
      have g9 : (0 : Int) < (r : Int) := by omega
      clear HR hr0
      have k4 : IntKind.u64.wrap ((q : Int) + 1) = ((q + 1 : Nat) : Int) := wrapU (q + 1) (by omega)
      go_enter Try.func82, Try.ntmps82
      go_wp2_with fail
      rw [GM.out]
      refine (MU.out w).mono ?_
      rintro e w'' ⟨rfl, hw''⟩
      rw [hw'']
      clear hw''
      go_wp2_with fail
      refine (DV.out w).mono ?_
      rintro e w3 ⟨rfl, hb3⟩
      go_wp2_with fail
      all_goals
        go_returns
        exact ⟨ret_i (by rw [HR2.out]; simp), hb3⟩
  · have GM := hidF (show max a (-a) = (m : Int) by omega)
    have ha : a * n / c = (q : Int) := by
      rw [show a = (m : Int) by omega, ← Int.natCast_mul, ← Int.natCast_ediv, hqq]
    have HR := hidF ha
    clear hm hqq hrr hH hL ha hmn hhi
    go_enter Try.func82, Try.ntmps82
    go_wp2_with fail
    rw [GM.out]
    refine (MU.out w).mono ?_
    rintro e w'' ⟨rfl, hw''⟩
    rw [hw'']
    clear hw''
    go_wp2_with fail
    refine (DV.out w).mono ?_
    rintro e w3 ⟨rfl, hb3⟩
    go_wp2_with fail
    all_goals
      go_returns
      exact ⟨ret_i (by rw [HR.out]), hb3⟩
end Go.Proofs.Ytdjagdifemhkpaa
