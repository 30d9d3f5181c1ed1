/- A stable sort by places: tags that tell where things stood, moved by swaps. -/
import Derived.Test.YtjdndaeobiagcaaGM00
namespace Go.Proofs.Ytjdndaeobiagcaa
open Go.RowKit
set_option linter.unusedVariables false      -- bounds that are for the walk

abbrev Tg := Nat → Nat
/-- by keys, and where these are the same by the places of old -/
def lex (key : Nat → Int) (i j : Nat) : Prop := key i < key j ∨ (key i = key j ∧ i < j)
theorem lex.trans {key : Nat → Int} {i j k : Nat} (h : lex key i j) (h2 : lex key j k) : lex key i k := by unfold lex at *; omega
theorem lex.irr {key : Nat → Int} {i : Nat} (h : lex key i i) : False := by unfold lex at h; omega
theorem lex.le {key : Nat → Int} {i j : Nat} (h : lex key i j) : key i ≤ key j := by unfold lex at h; omega
def Srt (key : Nat → Int) (t : Tg) (a b : Nat) : Prop := ∀ i j, a ≤ i → i < j → j < b → lex key (t i) (t j)
theorem Srt.mono {key : Nat → Int} {t : Tg} {a b c d : Nat} (h : Srt key t a b) (h1 : a ≤ c) (h2 : d ≤ b) : Srt key t c d := fun i j e1 e2 e3 => h i j (by omega) e2 (by omega)
theorem Srt.congr {key : Nat → Int} {t t' : Tg} {a b : Nat} (h : Srt key t a b) (e : ∀ k, a ≤ k → k < b → t' k = t k) : Srt key t' a b := fun i j e1 e2 e3 => by rw [e i e1 (by omega), e j (by omega) e3]; exact h i j e1 e2 e3
theorem Srt.le {key : Nat → Int} {t : Tg} {a b i j : Nat} (h : Srt key t a b) (h1 : a ≤ i) (h2 : i ≤ j) (h3 : j < b) : key (t i) ≤ key (t j) := by
  by_cases e : i = j
  · subst e; exact Int.le_refl _
  · exact (h i j h1 (by omega) h3).le
/-- moved within a range -/
structure Prm (a b : Nat) (t t' : Tg) : Prop where
  out : ∀ k, (k < a ∨ b ≤ k) → t' k = t k
  fro : ∀ k, a ≤ k → k < b → ∃ j, a ≤ j ∧ j < b ∧ t' k = t j
  to : ∀ k, a ≤ k → k < b → ∃ j, a ≤ j ∧ j < b ∧ t k = t' j
theorem Prm.refl (a b : Nat) (t : Tg) : Prm a b t t := ⟨fun _ _ => rfl, fun k h1 h2 => ⟨k, h1, h2, rfl⟩, fun k h1 h2 => ⟨k, h1, h2, rfl⟩⟩
theorem Prm.trans {a b : Nat} {t t' t'' : Tg} (h : Prm a b t t') (h2 : Prm a b t' t'') : Prm a b t t'' := by
  refine ⟨fun k hk => (h2.out k hk).trans (h.out k hk), fun k e1 e2 => ?_, fun k e1 e2 => ?_⟩
  · obtain ⟨j, j1, j2, j3⟩ := h2.fro k e1 e2
    obtain ⟨i, i1, i2, i3⟩ := h.fro j j1 j2
    exact ⟨i, i1, i2, j3.trans i3⟩
  · obtain ⟨j, j1, j2, j3⟩ := h.to k e1 e2
    obtain ⟨i, i1, i2, i3⟩ := h2.to j j1 j2
    exact ⟨i, i1, i2, j3.trans i3⟩
theorem Prm.mono {a b c d : Nat} {t t' : Tg} (h : Prm a b t t') (h1 : c ≤ a) (h2 : b ≤ d) : Prm c d t t' := by
  refine ⟨fun k hk => h.out k (by omega), fun k e1 e2 => ?_, fun k e1 e2 => ?_⟩
  · by_cases e : a ≤ k ∧ k < b
    · obtain ⟨j, j1, j2, j3⟩ := h.fro k e.1 e.2
      exact ⟨j, by omega, by omega, j3⟩
    · exact ⟨k, e1, e2, h.out k (by omega)⟩
  · by_cases e : a ≤ k ∧ k < b
    · obtain ⟨j, j1, j2, j3⟩ := h.to k e.1 e.2
      exact ⟨j, by omega, by omega, j3⟩
    · exact ⟨k, e1, e2, (h.out k (by omega)).symm⟩
/-- a change that is undone by places -/
theorem Prm.of {a b : Nat} {t t' : Tg} (f g : Nat → Nat) (e : ∀ k, t' k = t (f k)) (h1 : ∀ k, (k < a ∨ b ≤ k) → f k = k) (h2 : ∀ k, a ≤ k → k < b → a ≤ f k ∧ f k < b) (h3 : ∀ k, a ≤ k → k < b → a ≤ g k ∧ g k < b ∧ f (g k) = k) : Prm a b t t' := by
  refine ⟨fun k hk => by rw [e, h1 k hk], fun k e1 e2 => ⟨f k, (h2 k e1 e2).1, (h2 k e1 e2).2, e k⟩, fun k e1 e2 => ⟨g k, (h3 k e1 e2).1, (h3 k e1 e2).2.1, ?_⟩⟩
  rw [e, (h3 k e1 e2).2.2]
def swapT (t : Tg) (x y : Nat) : Tg := fun k => if k = x then t y else if k = y then t x else t k
theorem swapT_prm {a b x y : Nat} (t : Tg) (h1 : a ≤ x) (h2 : x < b) (h3 : a ≤ y) (h4 : y < b) : Prm a b t (swapT t x y) := by
  refine Prm.of (fun k => if k = x then y else if k = y then x else k) (fun k => if k = x then y else if k = y then x else k) (fun k => ?_) (fun k hk => ?_) (fun k e1 e2 => ?_) (fun k e1 e2 => ⟨?_, ?_, ?_⟩)
  · unfold swapT
    repeat' split
    all_goals rfl
  all_goals
    repeat' split
    all_goals omega

/-- while an element is let down: it stands at j, what was ahead of it stands sorted -/
structure Ins (key : Nat → Int) (t0 t : Tg) (a i j : Nat) : Prop where
  le : a ≤ j
  ge : j ≤ i
  srt : ∀ p q, a ≤ p → p < q → q ≤ i → p ≠ j → q ≠ j → lex key (t p) (t q)
  up : ∀ q, j < q → q ≤ i → key (t j) < key (t q)
  prm : Prm a (i + 1) t0 t
  tag : ∀ p, a ≤ p → p ≤ i → p ≠ j → t p < t j
theorem Ins.start {key : Nat → Int} {t0 t : Tg} {a i : Nat} (hs : Srt key t a i) (hp : Prm a i t0 t) (hai : a ≤ i) (hasc : ∀ p q, a ≤ p → p < q → q ≤ i → t0 p < t0 q) : Ins key t0 t a i i := by
  refine ⟨hai, Nat.le_refl _, fun p q e1 e2 e3 e4 e5 => hs p q e1 e2 (by omega), fun q e1 e2 => by omega, hp.mono (Nat.le_refl _) (by omega), fun p e1 e2 e3 => ?_⟩
  rw [hp.out i (.inr (Nat.le_refl _))]
  obtain ⟨j, j1, j2, j3⟩ := hp.fro p e1 (by omega)
  rw [j3]
  exact hasc j i j1 j2 (Nat.le_refl _)
theorem Ins.step {key : Nat → Int} {t0 t : Tg} {a i j : Nat} (h : Ins key t0 t a i j) (hj : a < j) (hk : key (t j) < key (t (j - 1))) : Ins key t0 (swapT t j (j - 1)) a i (j - 1) := by
  have hg := h.ge
  have e1 : swapT t j (j - 1) j = t (j - 1) := by unfold swapT; rw [if_pos rfl]
  have e2 : swapT t j (j - 1) (j - 1) = t j := by unfold swapT; rw [if_neg (by omega), if_pos rfl]
  have e3 : ∀ k, k ≠ j → k ≠ j - 1 → swapT t j (j - 1) k = t k := fun k h1 h2 => by unfold swapT; rw [if_neg h1, if_neg h2]
  refine ⟨by omega, by omega, fun p q h1 h2 h3 h4 h5 => ?_, fun q h1 h2 => ?_, h.prm.trans (swapT_prm t h.le (by omega) (by omega) (by omega)), fun p h1 h2 h3 => ?_⟩
  · by_cases ep : p = j
    · subst ep
      rw [e1, e3 q (by omega) (by omega)]
      exact h.srt (p - 1) q (by omega) (by omega) h3 (by omega) (by omega)
    · by_cases eq : q = j
      · subst eq
        rw [e1, e3 p (by omega) (by omega)]
        exact h.srt p (q - 1) h1 (by omega) (by omega) (by omega) (by omega)
      · rw [e3 p ep h4, e3 q eq h5]
        exact h.srt p q h1 h2 h3 ep eq
  · rw [e2]
    by_cases eq : q = j
    · subst eq; rw [e1]; exact hk
    · rw [e3 q eq (by omega)]
      exact h.up q (by omega) h2
  · rw [e2]
    by_cases ep : p = j
    · subst ep; rw [e1]; exact h.tag (p - 1) (by omega) (by omega) (by omega)
    · rw [e3 p ep h3]
      exact h.tag p h1 h2 ep
theorem Ins.done {key : Nat → Int} {t0 t : Tg} {a i j : Nat} (h : Ins key t0 t a i j) (hj : j = a ∨ ¬ key (t j) < key (t (j - 1))) : Srt key t a (i + 1) := by
  have hle := h.le
  intro p q h1 h2 h3
  by_cases ep : p = j
  · subst ep
    exact .inl (h.up q h2 (by omega))
  · by_cases eq : q = j
    · subst eq
      rcases hj with hj | hj
      · omega
      · have ht := h.tag (q - 1) (by omega) (by have := h.ge; omega) (by omega)
        have hlast : lex key (t (q - 1)) (t q) := by unfold lex; omega
        by_cases e : p = q - 1
        · subst e; exact hlast
        · exact (h.srt p (q - 1) h1 (by omega) (by have := h.ge; omega) ep (by omega)).trans hlast
    · exact h.srt p q h1 h2 (by omega) ep eq

/-- blocks swapped: c places from x on with those from y on -/
def swapR (t : Tg) (x y c : Nat) : Tg := fun k => if x ≤ k ∧ k < x + c then t (k + (y - x)) else if y ≤ k ∧ k < y + c then t (k - (y - x)) else t k
theorem swapR_zero (t : Tg) (x y : Nat) : swapR t x y 0 = t := by
  funext k
  unfold swapR
  repeat' split
  all_goals first | rfl | (exfalso; omega) | (congr 1; omega)
theorem swapR_succ (t : Tg) (x y c : Nat) (h : x + c < y) : swapT (swapR t x y c) (x + c) (y + c) = swapR t x y (c + 1) := by
  funext k
  unfold swapT swapR
  repeat' split
  all_goals first | rfl | (exfalso; omega) | (congr 1; omega)
/-- two blocks beside each other, turned round -/
def rotF (t : Tg) (a m b : Nat) : Tg := fun k => if a ≤ k ∧ k < a + (b - m) then t (k + (m - a)) else if a + (b - m) ≤ k ∧ k < b then t (k - (b - m)) else t k
theorem rot_left (t : Tg) (m i j : Nat) (hi : i ≤ m) (h : j < i) : rotF (swapR t (m - i) m j) (m - (i - j)) m (m + j) = rotF t (m - i) m (m + j) := by
  funext k
  unfold rotF swapR
  repeat' split
  all_goals first | rfl | (exfalso; omega) | (congr 1; omega)
theorem rot_right (t : Tg) (m i j : Nat) (hi : i ≤ m) (h : i < j) : rotF (swapR t (m - i) (m + j - i) i) (m - i) m (m + (j - i)) = rotF t (m - i) m (m + j) := by
  funext k
  unfold rotF swapR
  repeat' split
  all_goals first | rfl | (exfalso; omega) | (congr 1; omega)
theorem rot_same (t : Tg) (m i : Nat) (hi : i ≤ m) : swapR t (m - i) m i = rotF t (m - i) m (m + i) := by
  funext k
  unfold swapR rotF
  repeat' split
  all_goals first | rfl | (exfalso; omega) | (congr 1; omega)
theorem rotF_prm (t : Tg) {a m b : Nat} (h1 : a ≤ m) (h2 : m ≤ b) : Prm a b t (rotF t a m b) := by
  refine Prm.of (fun k => if a ≤ k ∧ k < a + (b - m) then k + (m - a) else if a + (b - m) ≤ k ∧ k < b then k - (b - m) else k) (fun k => if a ≤ k ∧ k < m then k + (b - m) else if m ≤ k ∧ k < b then k - (m - a) else k) (fun k => ?_) (fun k hk => ?_) (fun k e1 e2 => ?_) (fun k e1 e2 => ⟨?_, ?_, ?_⟩)
  · unfold rotF
    repeat' split
    all_goals rfl
  all_goals
    repeat' split
    all_goals omega
end Go.Proofs.Ytjdndaeobiagcaa
