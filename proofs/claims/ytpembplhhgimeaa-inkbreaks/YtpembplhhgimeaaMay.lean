/- Whether a line may end between two runes: the program's mayEnd and the document's between answer the same. Condition: the runes are numbers that a rune can be. -/
import Derived.Test.YtpembplhhgimeaaMarks
namespace Go.Proofs.Ytpembplhhgimeaa
open Go.RowKit

/-- may a line end ahead of b, behind a, behind c? (-1: there is none) -/
def may (c a b : Int) : Bool :=
  if holdB a = true ∨ holdB b = true then false
  else if a = 32 then (b != 32)
  else if a = 8203 ∨ a = 173 then true
  else if a = 45 ∨ a = 8208 then (letB c || digB c) && letB b
  else wideB a && wideB b && !openB a && !closeB b

set_option maxHeartbeats 4000000 in
set_option maxRecDepth 100000 in
theorem mayEnd_any (c a b : Int) (w : World) : Calls Try.prog 19 #[.agg #[.int .i32 c, .int .i32 a], .int .i32 b] w fun e w' => e = .returned (.bool (may c a b)) ∧ Below w.heap.size w w' := by
  go_enter Try.func19, Try.ntmps19
  go_wp2_with (first
    | (go_at_call 22; refine (wide_any _ _).mono ?_; rintro e w' ⟨rfl, rfl⟩)
    | (go_at_call 23; refine (holds_any _ _).mono ?_; rintro e w' ⟨rfl, rfl⟩)
    | (go_at_call 24; refine (letter_any _ _).mono ?_; rintro e w' ⟨rfl, rfl⟩)
    | (go_at_call 25; refine (digit_any _ _).mono ?_; rintro e w' ⟨rfl, rfl⟩)
    | (go_at_call 26; refine (opens_any _ _).mono ?_; rintro e w' ⟨rfl, rfl⟩)
    | (go_at_call 27; refine (closes_any _ _).mono ?_; rintro e w' ⟨rfl, rfl⟩))
  all_goals go_ret
  all_goals go_light
  all_goals refine ⟨ret_bool ?_, (Below.refl _ _).alloc (Nat.le_refl _) _⟩
  all_goals (unfold may; simp_all)

theorem hold_one (r : Int) : oneB r [160, 8288] = holdB r := by rw [Bool.eq_iff_iff]; simp [oneB, holdB]
theorem open_one (r : Int) : oneB r [12300, 12302, 65288] = openB r := by rw [Bool.eq_iff_iff]; simp [oneB, openB]
theorem close_one (r : Int) : oneB r [12289, 12290, 12301, 12303, 65289, 65292] = closeB r := by rw [Bool.eq_iff_iff]; simp [oneB, closeB]

/-- the cells of a list of numbers that was just laid -/
theorem lit_cells (w : World) (xs : List Int) (t : TypeId) : ∀ j (h : j < xs.length), (w.alloc (.cells (xs.map (Value.int .i64)).toArray t)).cell? ⟨w.heap.size, j, none⟩ = some (.int .i64 xs[j]) := by
  intro j h
  have := cell_of_row (w.alloc (.cells (xs.map (Value.int .i64)).toArray t)) w.heap.size j _ t (0, 0) (heap_alloc_new w _)
  rw [this]
  simp [h]

theorem oneOf_hold (r : Int) (W : World) (m : Nat) (hm : W.heap.size = m) : Calls Try.prog 28 #[.int .i64 r, .slice (some ⟨m, 0, none⟩) 2 2] (W.alloc (.cells #[.int .i64 160, .int .i64 8288] 3)) fun e w' => e = .returned (.bool (holdB r)) ∧ w' = W.alloc (.cells #[.int .i64 160, .int .i64 8288] 3) := by
  subst hm
  rw [← hold_one]
  exact oneOf_any r [160, 8288] _ 2 _ (by decide) (lit_cells W [160, 8288] 3)
theorem oneOf_open (r : Int) (W : World) (m : Nat) (hm : W.heap.size = m) : Calls Try.prog 28 #[.int .i64 r, .slice (some ⟨m, 0, none⟩) 3 3] (W.alloc (.cells #[.int .i64 12300, .int .i64 12302, .int .i64 65288] 3)) fun e w' => e = .returned (.bool (openB r)) ∧ w' = W.alloc (.cells #[.int .i64 12300, .int .i64 12302, .int .i64 65288] 3) := by
  subst hm
  rw [← open_one]
  exact oneOf_any r [12300, 12302, 65288] _ 3 _ (by decide) (lit_cells W [12300, 12302, 65288] 3)
theorem oneOf_close (r : Int) (W : World) (m : Nat) (hm : W.heap.size = m) : Calls Try.prog 28 #[.int .i64 r, .slice (some ⟨m, 0, none⟩) 6 6] (W.alloc (.cells #[.int .i64 12289, .int .i64 12290, .int .i64 12301, .int .i64 12303, .int .i64 65289, .int .i64 65292] 3)) fun e w' => e = .returned (.bool (closeB r)) ∧ w' = W.alloc (.cells #[.int .i64 12289, .int .i64 12290, .int .i64 12301, .int .i64 12303, .int .i64 65289, .int .i64 65292] 3) := by
  subst hm
  rw [← close_one]
  exact oneOf_any r [12289, 12290, 12301, 12303, 65289, 65292] _ 6 _ (by decide) (lit_cells W [12289, 12290, 12301, 12303, 65289, 65292] 3)

theorem hold_at : holdB 32 = false ∧ holdB 8203 = false ∧ holdB 173 = false ∧ holdB 45 = false ∧ holdB 8208 = false := by decide
theorem wide_at : wideB 32 = false := by decide

set_option maxHeartbeats 8000000 in
set_option maxRecDepth 100000 in
theorem between_any (g n cap i : Nat) (a b c : Int) (w : World) (hi : 1 ≤ i) (hin : i < n) (hn : n ≤ 1048576) (hg : g < w.heap.size) (ha : w.cell? ⟨g, i - 1, none⟩ = some (.int .i64 a)) (hb : w.cell? ⟨g, i, none⟩ = some (.int .i64 b)) (hc : 2 ≤ i → w.cell? ⟨g, i - 2, none⟩ = some (.int .i64 c)) (h1 : ¬ 2 ≤ i → c = -1)
    (ba : 0 ≤ a ∧ a ≤ 2147483647) (bb : 0 ≤ b ∧ b ≤ 2147483647) :
    Calls Try.prog 20 #[.slice (some ⟨g, 0, none⟩) n cap, .int .i64 i] w fun e w' => e = .returned (.bool (may c a b)) ∧ Below w.heap.size w w' := by
  have m1 : ((i : Int) - 1).toNat = i - 1 := by omega
  have m2 : ((i : Int) - 2).toNat = i - 2 := by omega
  have bw : Below w.heap.size w (w.alloc (.cells #[.int .i64 160, .int .i64 8288] 3)) := (Below.refl _ _).alloc (Nat.le_refl _) _
  have hal : ∀ k, (w.alloc (.cells #[.int .i64 160, .int .i64 8288] 3)).cell? ⟨g, k, none⟩ = w.cell? ⟨g, k, none⟩ := fun k => bw.cell (p := ⟨g, k, none⟩) hg
  have BW : Hid (Below w.heap.size w (w.alloc (.cells #[.int .i64 160, .int .i64 8288] 3))) := bw
  have HC : Hid (¬ 2 ≤ i → c = -1) := h1
  clear bw h1
  have go : ∀ (h2 : (2 ≤ i ∧ w.cell? ⟨g, i - 2, none⟩ = some (.int .i64 c)) ∨ (i < 2 ∧ Hid (c = -1))), Calls Try.prog 20 #[.slice (some ⟨g, 0, none⟩) n cap, .int .i64 i] w fun e w' => e = .returned (.bool (may c a b)) ∧ Below w.heap.size w w' := by
    clear hc HC
    rintro (⟨h2, hcc⟩ | ⟨h2, HCC⟩)
    all_goals
      go_enter Try.func20, Try.ntmps20
      go_wp2_with fail
      refine (oneOf_hold _ _ _ rfl).mono ?_
      rintro e W1 ⟨rfl, hW1⟩
      subst hW1
      go_wp2_with fail
      refine (oneOf_hold _ _ _ rfl).mono ?_
      rintro e W1 ⟨rfl, hW1⟩
      subst hW1
      go_wp2_with (first
        | (go_at_call 22; refine (wide_any _ _).mono ?_; rintro e w' ⟨rfl, hw'⟩; subst hw')
        | (go_at_call 29; refine (isLetter_any _ _).mono ?_; rintro e w' ⟨rfl, hw'⟩; subst hw'))
      all_goals try (go_at_call 28; refine (oneOf_open _ _ _ (by simp)).mono ?_; rintro e W1 ⟨rfl, hW1⟩; subst hW1; go_wp2_with fail; refine (oneOf_close _ _ _ (by simp)).mono ?_; rintro e W1 ⟨rfl, hW1⟩; subst hW1; go_wp2_with fail)
      all_goals go_ret
      all_goals go_light
      all_goals refine ⟨ret_bool ?_, by repeat (first | exact Below.refl _ _ | refine Below.alloc ?_ (by simp; try omega) _)⟩
      all_goals clear hal BW m1 m2 ha hb
      all_goals (try simp only [beq_iff_eq, beq_eq_false_iff_ne, ne_eq] at *)
      all_goals (try clear hcc)
      all_goals (unfold may)
      all_goals simp_all [digB]
      all_goals first | (intros; omega) | (intro h; have e := HCC.out; rw [e] at h; simp [letB] at h)
  by_cases h2 : 2 ≤ i
  · exact go (.inl ⟨h2, hc h2⟩)
  · exact go (.inr ⟨by omega, HC.out h2⟩)
end Go.Proofs.Ytpembplhhgimeaa
