/- Pictures: the small functions of both sides. -/
import Derived.Test.YtpkdigjejijiiaaPpBase
namespace Go.Proofs.Ytpkdigjejijiiaa
open Go.RowKit
set_option linter.unusedVariables false      -- bounds that are for the walk

theorem ret_i {a b : Int} (h : a = b) : Ending.returned (.int .i64 a) = .returned (.int .i64 b) := by rw [h]
set_option maxHeartbeats 400000 in
set_option maxRecDepth 100000 in
theorem sideOf_any (n : Int) (w : World) :
    Calls Try.prog 8 #[.int .i64 n] w fun e w' => e = .returned (.int .i64 (sideN n)) ∧ w' = w := by
  have h := sideN_eq n
  rw [h]
  clear h
  go_enter Try.func8, Try.ntmps8
  go_wp2_with fail
  all_goals
    go_returns
    exact ⟨ret_i (by omega), rfl⟩

theorem tdiv_two (a : Int) : (0 ≤ a → Int.tdiv a 2 = a / 2) ∧ (a < 0 → Int.tdiv a 2 = -((-a) / 2)) := by
  refine ⟨fun h => Int.tdiv_eq_ediv_of_nonneg h, fun h => ?_⟩
  have e : a = -(-a) := by omega
  rw [e, Int.neg_tdiv, Int.tdiv_eq_ediv_of_nonneg (by omega), Int.neg_neg]
theorem wrapUi (n : Int) (h0 : 0 ≤ n) (h : n < 18446744073709551616) : IntKind.u64.wrap n = n := by rw [IntKind.wrap_u64]; omega

set_option maxHeartbeats 1000000 in
set_option maxRecDepth 100000 in
theorem reaches_any (p place first size : Int) (p0 : 0 ≤ p) (p1 : p ≤ 64) (a1 : -16777216 ≤ place) (a2 : place ≤ 16777216) (s1 : -16777216 ≤ size) (s2 : size ≤ 16777216) (f1 : 0 < size → 0 ≤ first) (f2 : first ≤ 16777216) (b : Bool) (hb : b = true ↔ rchP p place first size) (w : World) :
    Calls Try.prog 14 #[.int .i64 p, .int .i64 place, .int .i64 first, .int .i64 size] w fun e w' => e = .returned (.bool b) ∧ w' = w := by
  have HB := hidF hb
  clear hb
  have HD : Hid (rchP p place first size ↔ (place ≤ p * 64 + 32 ∧ 0 < size ∧ first ≤ p * 64 + 32 - place ∧ p * 64 + 32 - place < size)) := Iff.rfl
  by_cases h1 : p * 64 + 32 < place
  · obtain rfl : b = false := by
      cases b
      · rfl
      · have := HD.out.1 (HB.out.1 rfl); omega
    go_enter Try.func14, Try.ntmps14
    go_wp2_with fail
    all_goals
      go_returns
      exact ⟨rfl, rfl⟩
  · by_cases h2 : size ≤ 0
    · obtain rfl : b = false := by
        cases b
        · rfl
        · have := HD.out.1 (HB.out.1 rfl); omega
      go_enter Try.func14, Try.ntmps14
      go_wp2_with fail
      all_goals
        go_returns
        exact ⟨rfl, rfl⟩
    · have f0 := f1 (by omega)
      obtain ⟨pl, hpl⟩ : ∃ q, IntKind.u64.wrap place = q := ⟨_, rfl⟩
      obtain ⟨way, hway⟩ : ∃ q, q = p * 64 + 32 - place := ⟨_, rfl⟩
      have e1 : IntKind.u64.wrap (p * 64 + 32) = p * 64 + 32 := wrapUi _ (by omega) (by omega)
      have e3 : IntKind.u64.wrap (p * 64 + 32 - pl) = way := by
        rw [← hpl, hway]
        simp only [IntKind.wrap_u64]
        omega
      have e4 : IntKind.u64.wrap first = first := wrapUi _ (by omega) (by omega)
      have e5 : IntKind.u64.wrap size = size := wrapUi _ (by omega) (by omega)
      have HW := hidF hway
      clear hway
      by_cases h3 : first ≤ way
      · by_cases h4 : way < size
        · obtain rfl : b = true := HB.out.2 (HD.out.2 (by have := HW.out; omega))
          go_enter Try.func14, Try.ntmps14
          go_wp2_with fail
          all_goals
            go_returns
            exact ⟨rfl, rfl⟩
        · obtain rfl : b = false := by
            cases b
            · rfl
            · have := HD.out.1 (HB.out.1 rfl); have := HW.out; omega
          go_enter Try.func14, Try.ntmps14
          go_wp2_with fail
          all_goals
            go_returns
            exact ⟨rfl, rfl⟩
      · obtain rfl : b = false := by
          cases b
          · rfl
          · have := HD.out.1 (HB.out.1 rfl); have := HW.out; omega
        go_enter Try.func14, Try.ntmps14
        go_wp2_with fail
        all_goals
          go_returns
          exact ⟨rfl, rfl⟩

set_option maxHeartbeats 400000 in
set_option maxRecDepth 100000 in
theorem least_any (a b c : Int) (hc : c = min a b) (w : World) :
    Calls Try.prog 10 #[.int .i64 a, .int .i64 b] w fun e w' => e = .returned (.int .i64 c) ∧ w' = w := by
  by_cases h : a < b
  · have e : c = a := by omega
    clear hc
    subst e
    go_enter Try.func10, Try.ntmps10
    go_wp2_with fail
    all_goals
      go_returns
      exact ⟨rfl, rfl⟩
  · have e : c = b := by omega
    clear hc
    subst e
    go_enter Try.func10, Try.ntmps10
    go_wp2_with fail
    all_goals
      go_returns
      exact ⟨rfl, rfl⟩
set_option maxHeartbeats 400000 in
set_option maxRecDepth 100000 in
theorem most_any (a b c : Int) (hc : c = max a b) (w : World) :
    Calls Try.prog 11 #[.int .i64 a, .int .i64 b] w fun e w' => e = .returned (.int .i64 c) ∧ w' = w := by
  by_cases h : b < a
  · have e : c = a := by omega
    clear hc
    subst e
    go_enter Try.func11, Try.ntmps11
    go_wp2_with fail
    all_goals
      go_returns
      exact ⟨rfl, rfl⟩
  · have e : c = b := by omega
    clear hc
    subst e
    go_enter Try.func11, Try.ntmps11
    go_wp2_with fail
    all_goals
      go_returns
      exact ⟨rfl, rfl⟩

set_option maxHeartbeats 400000 in
set_option maxRecDepth 100000 in
theorem half_any (a : Int) (h1 : -16777216 ≤ a) (h2 : a ≤ 16777216) (w : World) :
    Calls Try.prog 12 #[.int .i64 a, .int .i64 2] w fun e w' => e = .returned (.int .i64 (a / 2)) ∧ w' = w := by
  obtain ⟨d1, d2⟩ := tdiv_two a
  obtain ⟨q, hq⟩ : ∃ q, Int.tdiv a 2 = q := ⟨_, rfl⟩
  rw [hq] at d1 d2
  have q1 : -16777216 ≤ q := by rcases (by omega : 0 ≤ a ∨ a < 0) with h | h; have := d1 h; omega; have := d2 h; omega
  have q2 : q ≤ 16777216 := by rcases (by omega : 0 ≤ a ∨ a < 0) with h | h; have := d1 h; omega; have := d2 h; omega
  by_cases h : q * 2 > a
  · have e : a / 2 = q - 1 := by rcases (by omega : 0 ≤ a ∨ a < 0) with h | h; have := d1 h; omega; have := d2 h; omega
    rw [e]
    clear e d1 d2
    go_enter Try.func12, Try.ntmps12
    go_wp2
    all_goals
      go_returns
      exact ⟨ret_i rfl, rfl⟩
  · have e : a / 2 = q := by rcases (by omega : 0 ≤ a ∨ a < 0) with h | h; have := d1 h; omega; have := d2 h; omega
    rw [e]
    clear e d1 d2
    go_enter Try.func12, Try.ntmps12
    go_wp2
    all_goals
      go_returns
      exact ⟨ret_i rfl, rfl⟩

set_option maxHeartbeats 1000000 in
set_option maxRecDepth 100000 in
theorem inside_any (x y wd h px py : Int) (x1 : -100000000 ≤ x) (x2 : x ≤ 100000000) (y1 : -100000000 ≤ y) (y2 : y ≤ 100000000) (w1 : -100000000 ≤ wd) (w2 : wd ≤ 100000000) (h1 : -100000000 ≤ h) (h2 : h ≤ 100000000) (b : Bool) (hb : b = true ↔ x ≤ px ∧ px < x + wd ∧ y ≤ py ∧ py < y + h) (w : World) :
    Calls Try.prog 13 #[.agg #[.int .i64 x, .int .i64 y, .int .i64 wd, .int .i64 h], .int .i64 px, .int .i64 py] w fun e w' => e = .returned (.bool b) ∧ Below w.heap.size w w' := by
  have HB := hidF hb
  clear hb
  by_cases t1 : x ≤ px
  · by_cases t2 : px < x + wd
    · by_cases t3 : y ≤ py
      · by_cases t4 : py < y + h
        · obtain rfl : b = true := HB.out.2 ⟨t1, t2, t3, t4⟩
          go_enter Try.func13, Try.ntmps13
          go_wp2_with fail
          all_goals
            go_returns
            exact ⟨rfl, (Below.refl _ _).alloc (Nat.le_refl _) _⟩
        · obtain rfl : b = false := by cases b; rfl; exact absurd (HB.out.1 rfl).2.2.2 t4
          go_enter Try.func13, Try.ntmps13
          go_wp2_with fail
          all_goals
            go_returns
            exact ⟨rfl, (Below.refl _ _).alloc (Nat.le_refl _) _⟩
      · obtain rfl : b = false := by cases b; rfl; exact absurd (HB.out.1 rfl).2.2.1 t3
        go_enter Try.func13, Try.ntmps13
        go_wp2_with fail
        all_goals
          go_returns
          exact ⟨rfl, (Below.refl _ _).alloc (Nat.le_refl _) _⟩
    · obtain rfl : b = false := by cases b; rfl; exact absurd (HB.out.1 rfl).2.1 t2
      go_enter Try.func13, Try.ntmps13
      go_wp2_with fail
      all_goals
        go_returns
        exact ⟨rfl, (Below.refl _ _).alloc (Nat.le_refl _) _⟩
  · obtain rfl : b = false := by cases b; rfl; exact absurd (HB.out.1 rfl).1 t1
    go_enter Try.func13, Try.ntmps13
    go_wp2_with fail
    all_goals
      go_returns
      exact ⟨rfl, (Below.refl _ _).alloc (Nat.le_refl _) _⟩
end Go.Proofs.Ytpkdigjejijiiaa
