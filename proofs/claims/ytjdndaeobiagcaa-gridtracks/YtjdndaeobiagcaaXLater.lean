/- later, half, gaps, Stand; the document's Down and Stand. -/
import Derived.Test.YtjdndaeobiagcaaGM00
namespace Go.Proofs.Ytjdndaeobiagcaa
open Go.RowKit
set_option linter.unusedVariables false      -- bounds that are for the walk

/-- by how much later the k-th of n things begins -/
def laterN (left k n how : Int) : Int :=
  if how = 1 then left else if how = 2 then left / 2 else if left < 0 then 0 else
  if how = 3 then left * k / max (n - 1) 1 else if how = 4 then left * (2 * k + 1) / (2 * n) else if how = 5 then left * (k + 1) / (n + 1) else 0

set_option maxHeartbeats 400000 in
theorem half_any (n : Int) (h1 : -1000000000000 ≤ n) (h2 : n ≤ 1000000000000) (w : World) : Calls Try.prog 40 #[.int .i64 n] w fun e w' => e = .returned (.int .i64 (n / 2)) ∧ w' = w := by
  go_enter Try.func40, Try.ntmps40
  go_wp2
  all_goals
    go_returns
    exact ⟨ret_i (by omega), rfl⟩

set_option maxHeartbeats 400000 in
theorem gaps_any (n g : Int) (h0 : 0 ≤ n) (h1 : n ≤ 200) (g1 : -16777216 ≤ g) (g2 : g ≤ 16777216) (w : World) : Calls Try.prog 38 #[.int .i64 n, .int .i64 g] w fun e w' => e = .returned (.int .i64 (max (n - 1) 0 * g)) ∧ w' = w := by
  have hb : -3355443200 ≤ max (n - 1) 0 * g ∧ max (n - 1) 0 * g ≤ 3355443200 := by
    have a1 : max (n - 1) 0 * g ≤ 200 * 16777216 := Int.le_trans (Int.mul_le_mul_of_nonneg_left g2 (by omega)) (Int.mul_le_mul_of_nonneg_right (by omega) (by omega))
    have a2 : max (n - 1) 0 * (-g) ≤ 200 * 16777216 := Int.le_trans (Int.mul_le_mul_of_nonneg_left (show -g ≤ 16777216 by omega) (by omega)) (Int.mul_le_mul_of_nonneg_right (by omega) (by omega))
    rw [Int.mul_neg] at a2
    omega
  obtain ⟨m, hm⟩ : ∃ m, max (n - 1) 0 = m := ⟨_, rfl⟩
  rw [hm] at hb ⊢
  have HM := hidF hm
  by_cases hc : n - 1 < 0
  · obtain rfl : m = 0 := by omega
    clear hm HM
    go_enter Try.func38, Try.ntmps38
    go_wp2
    all_goals
      go_returns
      exact ⟨ret_i (by omega), rfl⟩
  · obtain rfl : m = n - 1 := by omega
    clear hm HM
    obtain ⟨b1, b2⟩ := hb
    go_enter Try.func38, Try.ntmps38
    go_wp2
    all_goals
      go_returns
      exact ⟨ret_i (by omega), rfl⟩

theorem wrapOf {p : Int} (h0 : 0 ≤ p) (h1 : p ≤ 9000000000000000000) : IntKind.i64.wrap p = p := by rw [IntKind.wrap_i64]; omega
theorem wrapDiv {p q : Int} (h0 : 0 ≤ p) (h2 : p ≤ 9000000000000000000) (h1 : 0 < q) : IntKind.i64.wrap (p / q) = p / q := wrapOf (Int.ediv_nonneg h0 (by omega)) (Int.le_trans (Int.ediv_le_self q h0) h2)
theorem mul_bd {a b A B : Int} (h0 : 0 ≤ a) (h1 : a ≤ A) (h2 : 0 ≤ b) (h3 : b ≤ B) : 0 ≤ a * b ∧ a * b ≤ A * B :=
  ⟨Int.mul_nonneg h0 h2, Int.le_trans (Int.mul_le_mul_of_nonneg_right h1 h2) (Int.mul_le_mul_of_nonneg_left h3 (by omega))⟩

set_option maxHeartbeats 2000000 in
set_option maxRecDepth 100000 in
theorem later_any (left k n how : Int) (l1 : -10000000000 ≤ left) (l2 : left ≤ 10000000000) (k1 : 0 ≤ k) (k2 : k < n) (n2 : n ≤ 200) (w : World) :
    Calls Try.prog 39 #[.int .i64 left, .int .i64 k, .int .i64 n, .int .i64 how] w fun e w' => e = .returned (.int .i64 (laterN left k n how)) ∧ w' = w := by
  unfold laterN
  by_cases h1 : how = 1
  · subst h1
    go_enter Try.func39, Try.ntmps39
    go_wp2
    go_returns
    exact ⟨rfl, rfl⟩
  rw [if_neg h1]
  by_cases h2 : how = 2
  · subst h2
    go_enter Try.func39, Try.ntmps39
    go_wp2_with fail
    refine (half_any left (by omega) (by omega) w).mono ?_
    rintro e w' ⟨rfl, rfl⟩
    go_wp2_with fail
    go_returns
    exact ⟨rfl, rfl⟩
  rw [if_neg h2]
  have f1 : (how == 1) = false := by simpa using h1
  have f2 : (how == 2) = false := by simpa using h2
  clear h1 h2
  by_cases h0 : left < 0
  · rw [if_pos h0]
    go_enter Try.func39, Try.ntmps39
    go_wp2_with fail
    go_returns
    exact ⟨rfl, rfl⟩
  rw [if_neg h0]
  have hl : 0 ≤ left := by omega
  clear h0
  by_cases h3 : how = 3
  · subst h3
    obtain ⟨b1, b2⟩ := mul_bd hl l2 k1 (show k ≤ 200 by omega)
    have W := wrapOf b1 (show left * k ≤ 9000000000000000000 by omega)
    rw [if_pos rfl]
    by_cases hn : n - 1 < 1
    · have e1 : max (n - 1) 1 = 1 := by omega
      rw [e1]
      clear e1
      go_enter Try.func39, Try.ntmps39
      go_wp2_with fail
      all_goals
        go_returns
        exact ⟨ret_i (by simp only [Int.ediv_one]), rfl⟩
    · have e1 : max (n - 1) 1 = n - 1 := by omega
      have hd := wrapDiv b1 (by omega) (show (0 : Int) < n - 1 by omega)
      rw [e1]
      clear e1
      go_enter Try.func39, Try.ntmps39
      go_wp2_with fail
      all_goals
        go_returns
        exact ⟨rfl, rfl⟩
  rw [if_neg h3]
  have f3 : (how == 3) = false := by simpa using h3
  clear h3
  by_cases h4 : how = 4
  · subst h4
    obtain ⟨b1, b2⟩ := mul_bd hl l2 (show 0 ≤ 2 * k + 1 by omega) (show 2 * k + 1 ≤ 401 by omega)
    have W := wrapOf b1 (show left * (2 * k + 1) ≤ 9000000000000000000 by omega)
    rw [if_pos rfl]
    have hd := wrapDiv b1 (by omega) (show (0 : Int) < 2 * n by omega)
    go_enter Try.func39, Try.ntmps39
    go_wp2_with fail
    all_goals
      go_returns
      exact ⟨rfl, rfl⟩
  rw [if_neg h4]
  have f4 : (how == 4) = false := by simpa using h4
  clear h4
  by_cases h5 : how = 5
  · subst h5
    obtain ⟨b1, b2⟩ := mul_bd hl l2 (show 0 ≤ k + 1 by omega) (show k + 1 ≤ 201 by omega)
    have W := wrapOf b1 (show left * (k + 1) ≤ 9000000000000000000 by omega)
    rw [if_pos rfl]
    have hd := wrapDiv b1 (by omega) (show (0 : Int) < n + 1 by omega)
    go_enter Try.func39, Try.ntmps39
    go_wp2_with fail
    all_goals
      go_returns
      exact ⟨rfl, rfl⟩
  rw [if_neg h5]
  have f5 : (how == 5) = false := by simpa using h5
  clear h5
  go_enter Try.func39, Try.ntmps39
  go_wp2_with fail
  all_goals
    go_returns
    exact ⟨rfl, rfl⟩

theorem tdiv_floor (a b : Int) (hb : 0 < b) : (if a.tdiv b * b > a then a.tdiv b - 1 else a.tdiv b) = a / b := by
  rcases Int.lt_or_le a 0 with ha | ha
  · have h := Int.tdiv_eq_ediv (a := a) (b := b)
    by_cases hd : b ∣ a
    · have e : a.tdiv b = a / b := by rw [h]; simp [hd]
      have h2 : a / b * b = a := Int.ediv_mul_cancel hd
      rw [e, h2, if_neg (by omega)]
    · have e : a.tdiv b = a / b + 1 := by
        rw [h, if_neg (by simp [hd]; omega), Int.sign_eq_one_of_pos hb]
      have h2 : a < (a / b + 1) * b := Int.lt_ediv_add_one_mul_self a hb
      rw [e, if_pos h2]; omega
  · have e : a.tdiv b = a / b := Int.tdiv_eq_ediv_of_nonneg ha
    have h2 : a / b * b ≤ a := Int.ediv_mul_le a (by omega)
    rw [e, if_neg (by omega)]

theorem tdiv_bd (a b : Int) (hb : 0 < b) (h1 : -1000000000000000 ≤ a) (h2 : a ≤ 1000000000000000) (b2 : b ≤ 1000) : -1000000000000000 ≤ a.tdiv b ∧ a.tdiv b ≤ 1000000000000000 ∧ -1000000000000001000 ≤ a.tdiv b * b ∧ a.tdiv b * b ≤ 1000000000000001000 := by
  have hA : a.tdiv b * b = a - a.tmod b := by have := Int.mul_tdiv_add_tmod a b; rw [Int.mul_comm] at this; omega
  have hm := Int.tmod_lt_of_pos a hb
  have hm2 := Int.lt_tmod_of_pos a hb
  have hn : (a.tdiv b).natAbs ≤ a.natAbs := Int.natAbs_tdiv_le_natAbs a b
  omega

set_option maxHeartbeats 400000 in
set_option maxRecDepth 100000 in
theorem down_any (a b : Int) (hb : 0 < b) (b2 : b ≤ 1000) (h1 : -1000000000000000 ≤ a) (h2 : a ≤ 1000000000000000) (w : World) : Calls Try.prog 41 #[.int .i64 a, .int .i64 b] w fun e w' => e = .returned (.int .i64 (a / b)) ∧ w' = w := by
  have hf := tdiv_floor a b hb
  obtain ⟨t1, t2, t3, t4⟩ := tdiv_bd a b hb h1 h2 b2
  obtain ⟨q, hq⟩ : ∃ q, a.tdiv b = q := ⟨_, rfl⟩
  rw [hq] at t1 t2 t3 t4 hf
  by_cases hc : q * b > a
  · rw [if_pos hc] at hf
    have HF := hidF hf
    clear hf
    go_enter Try.func41, Try.ntmps41
    go_wp2
    all_goals
      go_returns
      exact ⟨ret_i (by rw [← HF.out]), rfl⟩
  · rw [if_neg hc] at hf
    have HF := hidF hf
    clear hf
    go_enter Try.func41, Try.ntmps41
    go_wp2
    all_goals
      go_returns
      exact ⟨ret_i (by rw [← HF.out]), rfl⟩
end Go.Proofs.Ytjdndaeobiagcaa
