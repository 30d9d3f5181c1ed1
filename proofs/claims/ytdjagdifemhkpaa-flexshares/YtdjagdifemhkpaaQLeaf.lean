/- The document's factor, hold, size, weight, left. -/
import Derived.Test.YtdjagdifemhkpaaSItem
import Derived.Test.YtdjagdifemhkpaaFWRef0
namespace Go.Proofs.Ytdjagdifemhkpaa
open Go.RowKit
set_option linter.unusedVariables false      -- bounds that are for the walk

set_option maxHeartbeats 400000 in
set_option maxRecDepth 100000 in
theorem qfactor_any (n : Int) (w : World) : Calls Try.prog 56 #[.int .i64 n] w fun e w' => e = .returned (.int .i64 (facN n)) ∧ w' = w := by
  have L := hidF (fun W => least_any n 1000000000 W)
  by_cases h : n < 0
  · have e : facN n = 0 := by unfold facN; split <;> omega
    rw [e]
    go_enter Try.func56, Try.ntmps56
    go_wp2_with fail
    go_returns
    exact ⟨rfl, rfl⟩
  · have e : facN n = min n 1000000000 := by unfold facN; split <;> omega
    rw [e]
    go_enter Try.func56, Try.ntmps56
    go_wp2_with fail
    refine (L.out _).mono ?_
    rintro e w1 ⟨rfl, hw1⟩
    rw [hw1]
    go_wp2_with fail
    go_returns
    exact ⟨rfl, rfl⟩

set_option maxHeartbeats 1000000 in
set_option maxRecDepth 100000 in
theorem qhold_any (i : It) (n : Int) (hm : 0 ≤ i.mn) (w : World) :
    Calls Try.prog 32 #[itV i, .int .i64 n] w fun e w' => e = .returned (.int .i64 (bndI i n)) ∧ Below w.heap.size w w' := by
  obtain ⟨b, mn, mx, ar, gr, sh⟩ := i
  unfold itV bndI
  simp only at hm ⊢
  have M := hidF (fun (x : Int) (W : World) => most_any x mn W)
  obtain ⟨cp, hcp⟩ : ∃ c, capN n mx = c := ⟨_, rfl⟩
  have e : max cp (max mn 0) = max cp mn := by omega
  rw [hcp, e]
  clear e
  unfold capN at hcp
  by_cases c1 : 0 ≤ mx
  · by_cases c2 : mx < n
    · have e : cp = mx := by rw [← hcp, if_pos ⟨c1, c2⟩]
      subst e
      clear hcp
      go_enter Try.func32, Try.ntmps32
      go_wp2_with fail
      refine (M.out _ _).mono ?_
      rintro e w1 ⟨rfl, hw1⟩
      rw [hw1]
      go_wp2_with fail
      go_returns
      exact ⟨rfl, by go_grown⟩
    · have e : cp = n := by rw [← hcp, if_neg (by omega)]
      subst e
      clear hcp
      go_enter Try.func32, Try.ntmps32
      go_wp2_with fail
      refine (M.out _ _).mono ?_
      rintro e w1 ⟨rfl, hw1⟩
      rw [hw1]
      go_wp2_with fail
      go_returns
      exact ⟨rfl, by go_grown⟩
  · have e : cp = n := by rw [← hcp, if_neg (by omega)]
    subst e
    clear hcp
    go_enter Try.func32, Try.ntmps32
    go_wp2_with fail
    refine (M.out _ _).mono ?_
    rintro e w1 ⟨rfl, hw1⟩
    rw [hw1]
    go_wp2_with fail
    go_returns
    exact ⟨rfl, by go_grown⟩

set_option maxHeartbeats 400000 in
theorem qsize_any (n : Int) (h1 : -4000000000000000000 ≤ n) (h2 : n ≤ 4000000000000000000) (w : World) : Calls Try.prog 35 #[.int .i64 n] w fun e w' => e = .returned (.int .i64 (n.natAbs : Int)) ∧ w' = w := by
  go_enter Try.func35, Try.ntmps35
  go_wp2
  all_goals
    go_returns
    exact ⟨ret_i (by omega), rfl⟩

set_option maxHeartbeats 400000 in
set_option maxRecDepth 100000 in
theorem qweight_any {i : It} (hi : i.Ok) (grow : Bool) (w : World) :
    Calls Try.prog 34 #[itV i, .int .i64 (facG grow i), .bool grow] w fun e w' => e = .returned (.int .i64 (wtG grow i)) ∧ Below w.heap.size w w' := by
  obtain ⟨z1, z2⟩ := wtG_bd false hi
  obtain ⟨b, mn, mx, ar, gr, sh⟩ := i
  unfold itV facG wtG at *
  simp only [Bool.false_eq_true, if_false] at z1 z2
  have W9 : IntKind.i64.wrap (sh * b) = sh * b := wrapJ (by omega) (by omega)
  cases grow
  all_goals
    simp only
    go_enter Try.func34, Try.ntmps34
    go_wp2_with fail
    go_returns
    exact ⟨by first | rfl | simp [W9], by go_grown⟩
end Go.Proofs.Ytdjagdifemhkpaa
