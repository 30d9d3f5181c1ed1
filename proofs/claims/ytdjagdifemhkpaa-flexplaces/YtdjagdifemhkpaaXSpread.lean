/- Spread and Stand: where things begin; the program's. -/
import Derived.Test.YtdjagdifemhkpaaXLater
import Derived.StillTailTactics
import Derived.Deep.DeepCutAuto
namespace Go.Proofs.Ytdjagdifemhkpaa
open Go.RowKit
set_option linter.unusedVariables false      -- bounds that are for the walk

def standN (size room how : Int) : Int := if how = 1 then heldN room - heldN size else if how = 2 then (heldN room - heldN size) / 2 else 0

set_option maxHeartbeats 1000000 in
set_option maxRecDepth 100000 in
theorem stand_any (size room how : Int) (w : World) :
    Calls Try.prog 16 #[.int .i64 size, .int .i64 room, .int .i64 how] w fun e w' => e = .returned (.int .i64 (standN size room how)) ∧ Below w.heap.size w w' := by
  have h1 := heldN_bd size
  have h2 := heldN_bd room
  obtain ⟨a, ha⟩ : ∃ a, heldN size = a := ⟨_, rfl⟩
  obtain ⟨b, hb⟩ : ∃ b, heldN room = b := ⟨_, rfl⟩
  unfold standN
  have HA := hidF ha
  have HB := hidF hb
  rw [ha] at h1 ⊢
  rw [hb] at h2 ⊢
  clear ha hb
  obtain ⟨a1, a2⟩ := h1
  obtain ⟨b1, b2⟩ := h2
  by_cases c1 : how = 1
  · subst c1
    go_enter Try.func16, Try.ntmps16
    go_wp2_with fail
    refine (hold_pre [(⟨w.heap.size, 0, none⟩, size), (⟨w.heap.size + 1, 0, none⟩, room)] _ _ _ _ rfl (by simp) (by simp [HoldPre, go_sem]; omega)).mono ?_
    rintro e w' ⟨rfl, rfl⟩
    simp only [holdAll, HA.out, HB.out]
    go_wp2_with fail
    go_returns
    exact ⟨rfl, by go_grown⟩
  · rw [if_neg c1]
    have f1 : (how == 1) = false := by simpa using c1
    clear c1
    by_cases c2 : how = 2
    · subst c2
      go_enter Try.func16, Try.ntmps16
      go_wp2_with fail
      refine (hold_pre [(⟨w.heap.size, 0, none⟩, size), (⟨w.heap.size + 1, 0, none⟩, room)] _ _ _ _ rfl (by simp) (by simp [HoldPre, go_sem]; omega)).mono ?_
      rintro e w' ⟨rfl, rfl⟩
      simp only [holdAll, HA.out, HB.out]
      go_wp2_with fail
      refine (half_any (b - a) (by omega) (by omega) _).mono ?_
      rintro e w' ⟨rfl, rfl⟩
      go_wp2_with fail
      go_returns
      exact ⟨rfl, by go_grown⟩
    · rw [if_neg c2]
      have f2 : (how == 2) = false := by simpa using c2
      clear c2
      go_enter Try.func16, Try.ntmps16
      go_wp2_with fail
      refine (hold_pre [(⟨w.heap.size, 0, none⟩, size), (⟨w.heap.size + 1, 0, none⟩, room)] _ _ _ _ rfl (by simp) (by simp [HoldPre, go_sem]; omega)).mono ?_
      rintro e w' ⟨rfl, rfl⟩
      simp only [holdAll, HA.out, HB.out]
      go_wp2_with fail
      go_returns
      exact ⟨rfl, by go_grown⟩

set_option maxHeartbeats 1000000 in
set_option maxRecDepth 100000 in
theorem qstand_any (size room how : Int) (w : World) :
    Calls Try.prog 18 #[.int .i64 size, .int .i64 room, .int .i64 how] w fun e w' => e = .returned (.int .i64 (standN size room how)) ∧ w' = w := by
  obtain ⟨a1, a2⟩ := heldN_bd size
  obtain ⟨b1, b2⟩ := heldN_bd room
  obtain ⟨a, ha⟩ : ∃ a, heldN size = a := ⟨_, rfl⟩
  obtain ⟨b, hb⟩ : ∃ b, heldN room = b := ⟨_, rfl⟩
  unfold standN
  have HA := hidF ha
  have HB := hidF hb
  rw [ha] at a1 a2 ⊢
  rw [hb] at b1 b2 ⊢
  clear ha hb
  by_cases c1 : how = 1
  · subst c1
    go_enter Try.func18, Try.ntmps18
    go_wp2_with fail
    refine (qheld_any room _).mono ?_
    rintro e w' ⟨rfl, rfl⟩
    rw [HB.out]
    go_wp2_with fail
    refine (qheld_any size _).mono ?_
    rintro e w' ⟨rfl, rfl⟩
    rw [HA.out]
    go_wp2_with fail
    go_returns
    exact ⟨rfl, rfl⟩
  · rw [if_neg c1]
    have f1 : (how == 1) = false := by simpa using c1
    clear c1
    by_cases c2 : how = 2
    · subst c2
      go_enter Try.func18, Try.ntmps18
      go_wp2_with fail
      refine (qheld_any room _).mono ?_
      rintro e w' ⟨rfl, rfl⟩
      rw [HB.out]
      go_wp2_with fail
      refine (qheld_any size _).mono ?_
      rintro e w' ⟨rfl, rfl⟩
      rw [HA.out]
      go_wp2_with fail
      refine (down_any (b - a) 2 (by omega) (by omega) (by omega) (by omega) _).mono ?_
      rintro e w' ⟨rfl, rfl⟩
      go_wp2_with fail
      go_returns
      exact ⟨rfl, rfl⟩
    · rw [if_neg c2]
      have f2 : (how == 2) = false := by simpa using c2
      clear c2
      go_enter Try.func18, Try.ntmps18
      go_wp2_with fail
      refine (qheld_any room _).mono ?_
      rintro e w' ⟨rfl, rfl⟩
      rw [HB.out]
      go_wp2_with fail
      refine (qheld_any size _).mono ?_
      rintro e w' ⟨rfl, rfl⟩
      rw [HA.out]
      go_wp2_with fail
      go_returns
      exact ⟨rfl, rfl⟩

set_option maxHeartbeats 1000000 in
set_option maxRecDepth 100000 in
theorem firsts_any (a : Option Addr) (n cap : Nat) (h1 : n ≤ cap) (h2 : cap ≤ 9223372036854775807) (w : World) :
    Calls Try.prog 37 #[.slice a n cap, .int .i64 200] w fun e w' => e = .returned (.slice a (min n 200) cap) ∧ w' = w := by
  by_cases hc : n ≤ 200
  · have hc' : ¬ (200 : Int) < (n : Int) := by omega
    go_enter Try.func37, Try.ntmps37
    go_wp2_with fail
    all_goals
      go_returns
      exact ⟨rfl, rfl⟩
  · have hc' : (200 : Int) < (n : Int) := by omega
    have hn : min n 200 = 200 := by omega
    rw [hn]
    go_enter Try.func37, Try.ntmps37
    go_wp2_with fail
    all_goals
      go_returns
      exact ⟨rfl, rfl⟩
end Go.Proofs.Ytdjagdifemhkpaa
