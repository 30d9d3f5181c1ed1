/- FlexPlaces: where things begin, by the program and by the document. -/
import Derived.Test.YtdjagdifemhkpaaXQSpread
import Derived.Deep.RegionHeld3
namespace Go.Proofs.Ytdjagdifemhkpaa
open Go.RowKit
set_option linter.unusedVariables false      -- bounds that are for the walk

theorem spread_two : spreadN [2, 2] 10 0 3 = [0, 8] := by
  have h2 := heldN_of 2 (by omega) (by omega)
  have h0 := heldN_of 0 (by omega) (by omega)
  have h1 := heldN_of 10 (by omega) (by omega)
  simp [spreadN, cutN, begN, leftN, laterN, h2, h0, h1, List.range, List.range.loop]
theorem stand_two : standN 2 10 2 = 4 := by
  have h2 := heldN_of 2 (by omega) (by omega)
  have h1 := heldN_of 10 (by omega) (by omega)
  simp [standN, h2, h1]

theorem spreadN_le (l : List Int) (room gap how : Int) : (spreadN l room gap how).length ≤ 200 := by
  rw [spreadN_len, cutN_len]; omega

theorem two_intL (w : World) (t : TypeId) (a b : Int) : IntL (w.alloc (.cells #[.int .i64 a, .int .i64 b] t)) (.slice (some ⟨w.heap.size, 0, none⟩) 2 2) [a, b] := by
  refine ⟨_, 2, rfl, Nat.le_refl _, by omega, fun j x hj => ⟨w.heap.size, 0, rfl, by simp, ?_⟩⟩
  rw [cell_of_row _ w.heap.size _ _ _ _ (heap_alloc_new w _), Nat.zero_add]
  match j, hj with
  | 0, hj => simpa using hj
  | 1, hj => simpa using hj
  | (n + 2), hj => simp at hj

set_option maxHeartbeats 4000000 in
set_option maxRecDepth 100000 in
theorem places_law {w : World} {v : Value} {l : List Int} (h : IntL w v l) (room gap how : Int) :
    Calls Try.prog 5 #[v, .int .i64 room, .int .i64 gap, .int .i64 how] w fun e w' => e = .returned (.bool true) ∧ Below w.heap.size w w' := by
  have HI := hidF h
  obtain ⟨a, cap, rfl, hc1, hc2, hl⟩ := h
  have HL := hidF hl
  clear hl
  go_enter Try.func5, Try.ntmps5
  go_wp2_with fail
  refine (spread_any (two_intL w 3 2 2) 10 0 3).mono ?_
  rintro e w1 ⟨v1, rfl, ho, hb⟩
  rw [spread_two] at ho
  obtain ⟨a1, c1, rfl, k1, k2, hr⟩ := own_intL ho
  obtain ⟨g1, o1, rfl, gl, gc⟩ := hr 1 8 rfl
  have B1 := hidF (show Below w.heap.size w w1 from ((Below.refl w.heap.size w).alloc (Nat.le_refl _) _).trans (hb.mono (by simp)))
  have hz1 : w.heap.size ≤ w1.heap.size := B1.out.size
  simp only [List.length_cons, List.length_nil] at k1
  clear hr ho hb
  go_wp2_with fail
  refine (stand_any 2 10 2 w1).mono ?_
  rintro e w2 ⟨rfl, hb2⟩
  rw [stand_two]
  have gc2 := (hb2.cell (p := ⟨g1, o1 + 1, none⟩) gl).trans gc
  have B2 := hidF (B1.out.trans (hb2.mono hz1))
  clear hb2 gc
  have gc3 : w2.cell? ⟨g1, o1 + 1, none⟩ = some (.int .i64 8) := gc2
  have i1 : (1 : Int) < ((2 : Nat) : Int) := by omega
  by_cases hbig : 240 < l.length
  · have hbig' : (240 : Int) < (l.length : Int) := by omega
    go_wp2_with fail
    go_returns
    exact ⟨rfl, B2.out⟩
  have hbig' : ¬ (240 : Int) < (l.length : Int) := by omega
  clear hbig
  go_wp2_with fail
  refine (spread_any (HI.out.below B2.out) room gap how).mono ?_
  rintro e w3 ⟨v3, rfl, ho3, hb3⟩
  have B3 := hidF (B2.out.trans (hb3.mono B2.out.size))
  have I3 := hidF (own_intL ho3)
  clear ho3 hb3
  go_wp2_with fail
  refine (qspread_any (HI.out.below B3.out) room gap how).mono ?_
  rintro e w4 ⟨v4, rfl, ho4, hb4⟩
  have B4 := hidF (B3.out.trans (hb4.mono B3.out.size))
  have I4 := hidF (own_intL ho4)
  have I5 := hidF (I3.out.below hb4)
  clear ho4 hb4
  go_wp2_with fail
  refine (sameI_any I5.out I4.out).mono ?_
  rintro e w5 ⟨rfl, hb5⟩
  have B5 := hidF (B4.out.trans (hb5.mono B4.out.size))
  clear hb5 I3 I4 I5
  cases l with
  | nil =>
    go_wp2_with fail
    go_returns
    exact ⟨rfl, B5.out⟩
  | cons x r =>
    obtain ⟨b, o, rfl, hb, hx⟩ := HL.out 0 x rfl
    have hx5 : w5.cell? ⟨b, o, none⟩ = some (.int .i64 x) := (B5.out.cell (p := ⟨b, o, none⟩) hb).trans hx
    have hb5 : b < w5.heap.size := Nat.lt_of_lt_of_le hb B5.out.size
    obtain ⟨n, hn⟩ : ∃ n, (x :: r).length = n := ⟨_, rfl⟩
    have hn0 : (0 : Int) < (n : Int) := by rw [← hn]; simp
    have hn1 : ((n : Int) == 0) = false := by simp; omega
    rw [hn] at hc1 hbig' ⊢
    clear hn hx
    go_wp2_with fail
    have hnn : 0 < n := by omega
    have hnn2 : ¬ n = 0 := by omega
    have hnn3 : ¬ n ≤ 0 := by omega
    have B5d : Below w.heap.size w w5.drew := B5.out.drew
    go_region_held3 (fun wx => wx.cell? ⟨b, o, none⟩ = some (.int .i64 x) ∧ Below w.heap.size w wx ∧ b < wx.heap.size) (go_keep)
      (first
        | (go_at_call 16; refine (stand_any x room how _).mono ?_; rintro e w6 ⟨rfl, hb6⟩; have m0 := (hb6.cell (p := ⟨b, o, none⟩) hb5).trans hx5; have B6 : Below w.heap.size w w6 := B5d.trans (hb6.mono B5.out.size); have l6 : b < w6.heap.size := Nat.lt_of_lt_of_le hb B6.size)
        | (go_at_call 18; refine (qstand_any x room how _).mono ?_; rintro e w6 ⟨rfl, rfl⟩))
    all_goals
      go_wp2_with fail
      go_returns
      exact ⟨by simp, by first | exact B6 | exact B6.drew⟩
end Go.Proofs.Ytdjagdifemhkpaa
