/- A stable sort by places: tags that tell where things stood, moved by swaps. -/
import Derived.Test.YtlfepdecgfcifaaGreatDoorM15
namespace Go.Proofs.YtlfepdecgfcifaaGreatDoor
open Go.RowKit
set_option linter.unusedVariables false      -- bounds that are for the walk

abbrev Tg := Nat → Nat
/-- by keys, and where these are the same by the places of old -/
def lex (key : Nat → Int) (i j : Nat) : Prop := key i < key j ∨ (key i = key j ∧ i < j)
theorem lex.trans {key : Nat → Int} {i j k : Nat} (h : lex key i j) (h2 : lex key j k) : lex key i k := by unfold lex at *; omega
theorem lex.irr {key : Nat → Int} {i : Nat} (h : lex key i i) : False := by unfold lex at h; omega
theorem lex.le {key : Nat → Int} {i j : Nat} (h : lex key i j) : key i ≤ key j := by unfold lex at h; omega
def Srt (key : Nat → Int) (t : Tg) (a b : Nat) : Prop := ∀ i j, a ≤ i → i < j → j < b → lex key (t i) (t j)
theorem Srt.mono {key : Nat → Int} {t : Tg} {a b c d : Nat} (h : Srt key t a b) (h1 : a ≤ c) (h2 : d ≤ b) : Srt key t c d := fun i j e1 e2 e3 => h i j (by omega) e2 (by omega)
theorem Srt.congr {key : Nat → Int} {t t' : Tg} {a b : Nat} (h : Srt key t a b) (e : ∀ k, a ≤ k → k < b → t' k = t k) : Srt key t' a b := fun i j e1 e2 e3 => by rw [e i e1 (by omega), e j (by omega) e3]; exact h i j e1 e2 e3
theorem Srt.le {key : Nat → Int} {t : Tg} {a b i j : Nat} (h : Srt key t a b) (h1 : a ≤ i) (h2 : i ≤ j) (h3 : j < b) : key (t i) ≤ key (t j) := by
  by_cases e : i = j
  · subst e; exact Int.le_refl _
  · exact (h i j h1 (by omega) h3).le
/-- moved within a range -/
structure Prm (a b : Nat) (t t' : Tg) : Prop where
  out : ∀ k, (k < a ∨ b ≤ k) → t' k = t k
  fro : ∀ k, a ≤ k → k < b → ∃ j, a ≤ j ∧ j < b ∧ t' k = t j
  toB : ∀ k, a ≤ k → k < b → ∃ j, a ≤ j ∧ j < b ∧ t k = t' j
theorem Prm.refl (a b : Nat) (t : Tg) : Prm a b t t := ⟨fun _ _ => rfl, fun k h1 h2 => ⟨k, h1, h2, rfl⟩, fun k h1 h2 => ⟨k, h1, h2, rfl⟩⟩
theorem Prm.trans {a b : Nat} {t t' t'' : Tg} (h : Prm a b t t') (h2 : Prm a b t' t'') : Prm a b t t'' := by
  refine ⟨fun k hk => (h2.out k hk).trans (h.out k hk), fun k e1 e2 => ?_, fun k e1 e2 => ?_⟩
  · obtain ⟨j, j1, j2, j3⟩ := h2.fro k e1 e2
    obtain ⟨i, i1, i2, i3⟩ := h.fro j j1 j2
    exact ⟨i, i1, i2, j3.trans i3⟩
  · obtain ⟨j, j1, j2, j3⟩ := h.toB k e1 e2
    obtain ⟨i, i1, i2, i3⟩ := h2.toB j j1 j2
    exact ⟨i, i1, i2, j3.trans i3⟩
theorem Prm.mono {a b c d : Nat} {t t' : Tg} (h : Prm a b t t') (h1 : c ≤ a) (h2 : b ≤ d) : Prm c d t t' := by
  refine ⟨fun k hk => h.out k (by omega), fun k e1 e2 => ?_, fun k e1 e2 => ?_⟩
  · by_cases e : a ≤ k ∧ k < b
    · obtain ⟨j, j1, j2, j3⟩ := h.fro k e.1 e.2
      exact ⟨j, by omega, by omega, j3⟩
    · exact ⟨k, e1, e2, h.out k (by omega)⟩
  · by_cases e : a ≤ k ∧ k < b
    · obtain ⟨j, j1, j2, j3⟩ := h.toB k e.1 e.2
      exact ⟨j, by omega, by omega, j3⟩
    · exact ⟨k, e1, e2, (h.out k (by omega)).symm⟩
/-- a change that is undone by places -/
theorem Prm.of {a b : Nat} {t t' : Tg} (f g : Nat → Nat) (e : ∀ k, t' k = t (f k)) (h1 : ∀ k, (k < a ∨ b ≤ k) → f k = k) (h2 : ∀ k, a ≤ k → k < b → a ≤ f k ∧ f k < b) (h3 : ∀ k, a ≤ k → k < b → a ≤ g k ∧ g k < b ∧ f (g k) = k) : Prm a b t t' := by
  refine ⟨fun k hk => by rw [e, h1 k hk], fun k e1 e2 => ⟨f k, (h2 k e1 e2).1, (h2 k e1 e2).2, e k⟩, fun k e1 e2 => ⟨g k, (h3 k e1 e2).1, (h3 k e1 e2).2.1, ?_⟩⟩
  rw [e, (h3 k e1 e2).2.2]
def swapT (t : Tg) (x y : Nat) : Tg := fun k => if k = x then t y else if k = y then t x else t k
theorem swapT_prm {a b x y : Nat} (t : Tg) (h1 : a ≤ x) (h2 : x < b) (h3 : a ≤ y) (h4 : y < b) : Prm a b t (swapT t x y) := by
  refine Prm.of (fun k => if k = x then y else if k = y then x else k) (fun k => if k = x then y else if k = y then x else k) (fun k => ?_) (fun k hk => ?_) (fun k e1 e2 => ?_) (fun k e1 e2 => ⟨?_, ?_, ?_⟩)
  · unfold swapT
    repeat' split
    all_goals rfl
  all_goals
    repeat' split
    all_goals omega

/-- while an element is let down: it stands at j, what was ahead of it stands sorted -/
structure Ins (key : Nat → Int) (t0 t : Tg) (a i j : Nat) : Prop where
  le : a ≤ j
  ge : j ≤ i
  srt : ∀ p q, a ≤ p → p < q → q ≤ i → p ≠ j → q ≠ j → lex key (t p) (t q)
  up : ∀ q, j < q → q ≤ i → key (t j) < key (t q)
  prm : Prm a (i + 1) t0 t
  tag : ∀ p, a ≤ p → p ≤ i → p ≠ j → t p < t j
theorem Ins.start {key : Nat → Int} {t0 t : Tg} {a i : Nat} (hs : Srt key t a i) (hp : Prm a i t0 t) (hai : a ≤ i) (hasc : ∀ p q, a ≤ p → p < q → q ≤ i → t0 p < t0 q) : Ins key t0 t a i i := by
  refine ⟨hai, Nat.le_refl _, fun p q e1 e2 e3 e4 e5 => hs p q e1 e2 (by omega), fun q e1 e2 => by omega, hp.mono (Nat.le_refl _) (by omega), fun p e1 e2 e3 => ?_⟩
  rw [hp.out i (.inr (Nat.le_refl _))]
  obtain ⟨j, j1, j2, j3⟩ := hp.fro p e1 (by omega)
  rw [j3]
  exact hasc j i j1 j2 (Nat.le_refl _)
theorem Ins.step {key : Nat → Int} {t0 t : Tg} {a i j : Nat} (h : Ins key t0 t a i j) (hj : a < j) (hk : key (t j) < key (t (j - 1))) : Ins key t0 (swapT t j (j - 1)) a i (j - 1) := by
  have hg := h.ge
  have e1 : swapT t j (j - 1) j = t (j - 1) := by unfold swapT; rw [if_pos rfl]
  have e2 : swapT t j (j - 1) (j - 1) = t j := by unfold swapT; rw [if_neg (by omega), if_pos rfl]
  have e3 : ∀ k, k ≠ j → k ≠ j - 1 → swapT t j (j - 1) k = t k := fun k h1 h2 => by unfold swapT; rw [if_neg h1, if_neg h2]
  refine ⟨by omega, by omega, fun p q h1 h2 h3 h4 h5 => ?_, fun q h1 h2 => ?_, h.prm.trans (swapT_prm t h.le (by omega) (by omega) (by omega)), fun p h1 h2 h3 => ?_⟩
  · by_cases ep : p = j
    · subst ep
      rw [e1, e3 q (by omega) (by omega)]
      exact h.srt (p - 1) q (by omega) (by omega) h3 (by omega) (by omega)
    · by_cases eq : q = j
      · subst eq
        rw [e1, e3 p (by omega) (by omega)]
        exact h.srt p (q - 1) h1 (by omega) (by omega) (by omega) (by omega)
      · rw [e3 p ep h4, e3 q eq h5]
        exact h.srt p q h1 h2 h3 ep eq
  · rw [e2]
    by_cases eq : q = j
    · subst eq; rw [e1]; exact hk
    · rw [e3 q eq (by omega)]
      exact h.up q (by omega) h2
  · rw [e2]
    by_cases ep : p = j
    · subst ep; rw [e1]; exact h.tag (p - 1) (by omega) (by omega) (by omega)
    · rw [e3 p ep h3]
      exact h.tag p h1 h2 ep
theorem Ins.done {key : Nat → Int} {t0 t : Tg} {a i j : Nat} (h : Ins key t0 t a i j) (hj : j = a ∨ ¬ key (t j) < key (t (j - 1))) : Srt key t a (i + 1) := by
  have hle := h.le
  intro p q h1 h2 h3
  by_cases ep : p = j
  · subst ep
    exact .inl (h.up q h2 (by omega))
  · by_cases eq : q = j
    · subst eq
      rcases hj with hj | hj
      · omega
      · have ht := h.tag (q - 1) (by omega) (by have := h.ge; omega) (by omega)
        have hlast : lex key (t (q - 1)) (t q) := by unfold lex; omega
        by_cases e : p = q - 1
        · subst e; exact hlast
        · exact (h.srt p (q - 1) h1 (by omega) (by have := h.ge; omega) ep (by omega)).trans hlast
    · exact h.srt p q h1 h2 (by omega) ep eq

/-- blocks swapped: c places from x on with those from y on -/
def swapR (t : Tg) (x y c : Nat) : Tg := fun k => if x ≤ k ∧ k < x + c then t (k + (y - x)) else if y ≤ k ∧ k < y + c then t (k - (y - x)) else t k
theorem swapR_zero (t : Tg) (x y : Nat) : swapR t x y 0 = t := by
  funext k
  unfold swapR
  repeat' split
  all_goals first | rfl | (exfalso; omega) | (congr 1; omega)
theorem swapR_succ (t : Tg) (x y c : Nat) (h : x + c < y) : swapT (swapR t x y c) (x + c) (y + c) = swapR t x y (c + 1) := by
  funext k
  unfold swapT swapR
  repeat' split
  all_goals first | rfl | (exfalso; omega) | (congr 1; omega)
/-- two blocks beside each other, turned round -/
def rotF (t : Tg) (a m b : Nat) : Tg := fun k => if a ≤ k ∧ k < a + (b - m) then t (k + (m - a)) else if a + (b - m) ≤ k ∧ k < b then t (k - (b - m)) else t k
theorem rot_left (t : Tg) (m i j : Nat) (hi : i ≤ m) (h : j < i) : rotF (swapR t (m - i) m j) (m - (i - j)) m (m + j) = rotF t (m - i) m (m + j) := by
  funext k
  unfold rotF swapR
  repeat' split
  all_goals first | rfl | (exfalso; omega) | (congr 1; omega)
theorem rot_right (t : Tg) (m i j : Nat) (hi : i ≤ m) (h : i < j) : rotF (swapR t (m - i) (m + j - i) i) (m - i) m (m + (j - i)) = rotF t (m - i) m (m + j) := by
  funext k
  unfold rotF swapR
  repeat' split
  all_goals first | rfl | (exfalso; omega) | (congr 1; omega)
theorem rot_same (t : Tg) (m i : Nat) (hi : i ≤ m) : swapR t (m - i) m i = rotF t (m - i) m (m + i) := by
  funext k
  unfold swapR rotF
  repeat' split
  all_goals first | rfl | (exfalso; omega) | (congr 1; omega)
theorem rotF_prm (t : Tg) {a m b : Nat} (h1 : a ≤ m) (h2 : m ≤ b) : Prm a b t (rotF t a m b) := by
  refine Prm.of (fun k => if a ≤ k ∧ k < a + (b - m) then k + (m - a) else if a + (b - m) ≤ k ∧ k < b then k - (b - m) else k) (fun k => if a ≤ k ∧ k < m then k + (b - m) else if m ≤ k ∧ k < b then k - (m - a) else k) (fun k => ?_) (fun k hk => ?_) (fun k e1 e2 => ?_) (fun k e1 e2 => ⟨?_, ?_, ?_⟩)
  · unfold rotF
    repeat' split
    all_goals rfl
  all_goals
    repeat' split
    all_goals omega
end Go.Proofs.YtlfepdecgfcifaaGreatDoor

/- A stable sort by places: merging. -/
namespace Go.Proofs.YtlfepdecgfcifaaGreatDoor
open Go.RowKit
set_option linter.unusedVariables false      -- bounds that are for the walk

/-- the one at a goes to the place ahead of i -/
def shL (t : Tg) (a i : Nat) : Tg := fun k => if a ≤ k ∧ k + 1 < i then t (k + 1) else if a ≤ k ∧ k + 1 = i then t a else t k
theorem shL_start (t : Tg) (a : Nat) : shL t a (a + 1) = t := by
  funext k
  unfold shL
  repeat' split
  all_goals first | rfl | (exfalso; omega) | (congr 1; omega)
theorem shL_step (t : Tg) (a k : Nat) (h : a ≤ k) : swapT (shL t a (k + 1)) k (k + 1) = shL t a (k + 1 + 1) := by
  funext j
  unfold swapT shL
  repeat' split
  all_goals first | rfl | (exfalso; omega) | (congr 1; omega)
/-- the one at m goes to i -/
def shR (t : Tg) (i m : Nat) : Tg := fun k => if k = i ∧ i ≤ m then t m else if i < k ∧ k ≤ m then t (k - 1) else t k
theorem shR_start (t : Tg) (m : Nat) : shR t m m = t := by
  funext k
  unfold shR
  repeat' split
  all_goals first | rfl | (exfalso; omega) | (congr 1; omega)
theorem shR_step (t : Tg) (k m : Nat) (h : 1 ≤ k) (h2 : k ≤ m) : swapT (shR t k m) k (k - 1) = shR t (k - 1) m := by
  funext j
  unfold swapT shR
  repeat' split
  all_goals first | rfl | (exfalso; omega) | (congr 1; omega)
theorem merge_one {key : Nat → Int} {t : Tg} {a b i : Nat} (hs : Srt key t (a + 1) b) (ht : ∀ j, a < j → j < b → t a < t j) (h1 : a + 1 ≤ i) (h2 : i ≤ b) (lo : ∀ j, a < j → j < i → key (t j) < key (t a)) (hi : ∀ j, i ≤ j → j < b → ¬ key (t j) < key (t a)) : Srt key (shL t a i) a b ∧ Prm a b t (shL t a i) := by
  constructor
  · intro p q e1 e2 e3
    have p1 : a ≤ p → p + 1 < i → shL t a i p = t (p + 1) := fun x y => by unfold shL; rw [if_pos ⟨x, y⟩]
    have p2 : ∀ p, a ≤ p → p + 1 < i → shL t a i p = t (p + 1) := fun p x y => by unfold shL; rw [if_pos ⟨x, y⟩]
    have p3 : ∀ p, a ≤ p → p + 1 = i → shL t a i p = t a := fun p x y => by unfold shL; rw [if_neg (by omega), if_pos ⟨x, y⟩]
    have p4 : ∀ p, i ≤ p → shL t a i p = t p := fun p x => by unfold shL; rw [if_neg (by omega), if_neg (by omega)]
    by_cases c1 : p + 1 < i
    · rw [p2 p e1 c1]
      by_cases c2 : q + 1 < i
      · rw [p2 q (by omega) c2]; exact hs _ _ (by omega) (by omega) (by omega)
      · by_cases c3 : q + 1 = i
        · rw [p3 q (by omega) c3]; exact .inl (lo _ (by omega) (by omega))
        · rw [p4 q (by omega)]; exact hs _ _ (by omega) (by omega) (by omega)
    · by_cases c2 : p + 1 = i
      · rw [p3 p e1 c2, p4 q (by omega)]
        have := hi q (by omega) e3
        have := ht q (by omega) e3
        unfold lex; omega
      · rw [p4 p (by omega), p4 q (by omega)]; exact hs _ _ (by omega) (by omega) (by omega)
  · refine Prm.of (fun k => if a ≤ k ∧ k + 1 < i then k + 1 else if a ≤ k ∧ k + 1 = i then a else k) (fun k => if k = a then i - 1 else if a < k ∧ k < i then k - 1 else k) (fun k => ?_) (fun k hk => ?_) (fun k e1 e2 => ?_) (fun k e1 e2 => ⟨?_, ?_, ?_⟩)
    · unfold shL
      repeat' split
      all_goals rfl
    all_goals
      repeat' split
      all_goals omega
theorem merge_last {key : Nat → Int} {t : Tg} {a m i : Nat} (hs : Srt key t a m) (ht : ∀ j, a ≤ j → j < m → t j < t m) (h1 : a ≤ i) (h2 : i ≤ m) (lo : ∀ j, a ≤ j → j < i → ¬ key (t m) < key (t j)) (hi : ∀ j, i ≤ j → j < m → key (t m) < key (t j)) : Srt key (shR t i m) a (m + 1) ∧ Prm a (m + 1) t (shR t i m) := by
  constructor
  · intro p q e1 e2 e3
    have p2 : ∀ p, i < p → p ≤ m → shR t i m p = t (p - 1) := fun p x y => by unfold shR; rw [if_neg (by omega), if_pos ⟨x, y⟩]
    have p3 : shR t i m i = t m := by unfold shR; rw [if_pos ⟨rfl, h2⟩]
    have p4 : ∀ p, p < i → shR t i m p = t p := fun p x => by unfold shR; rw [if_neg (by omega), if_neg (by omega)]
    by_cases c1 : p < i
    · rw [p4 p c1]
      by_cases c2 : q < i
      · rw [p4 q c2]; exact hs _ _ (by omega) (by omega) (by omega)
      · by_cases c3 : q = i
        · subst c3
          rw [p3]
          have := lo p e1 c1
          have := ht p e1 (by omega)
          unfold lex; omega
        · rw [p2 q (by omega) (by omega)]; exact hs _ _ (by omega) (by omega) (by omega)
    · by_cases c2 : p = i
      · subst c2
        rw [p3, p2 q (by omega) (by omega)]
        exact .inl (hi _ (by omega) (by omega))
      · rw [p2 p (by omega) (by omega), p2 q (by omega) (by omega)]; exact hs _ _ (by omega) (by omega) (by omega)
  · refine Prm.of (fun k => if k = i ∧ i ≤ m then m else if i < k ∧ k ≤ m then k - 1 else k) (fun k => if k = m then i else if i ≤ k ∧ k < m then k + 1 else k) (fun k => ?_) (fun k hk => ?_) (fun k e1 e2 => ?_) (fun k e1 e2 => ⟨?_, ?_, ?_⟩)
    · unfold shR
      repeat' split
      all_goals rfl
    all_goals
      repeat' split
      all_goals omega
/-- two blocks that are sorted, all of the first ahead of the second of old -/
structure Sym (key : Nat → Int) (t : Tg) (a m b : Nat) : Prop where
  am : a < m
  mb : m < b
  s1 : Srt key t a m
  s2 : Srt key t m b
  tag : ∀ i j, a ≤ i → i < m → m ≤ j → j < b → t i < t j
/-- where the two are cut -/
structure Cut (key : Nat → Int) (t : Tg) (a m b mid s e : Nat) : Prop where
  sm : s ≤ m
  lea : a ≤ s
  smid : s ≤ mid
  me : m ≤ e
  eb : e ≤ b
  mide : mid ≤ e
  sum : s + e = mid + m
  f1 : ∀ i j, a ≤ i → i < s → e ≤ j → j < b → key (t i) ≤ key (t j)
  f2 : ∀ i j, s ≤ i → i < m → m ≤ j → j < e → key (t j) < key (t i)
section
variable {key : Nat → Int} {t : Tg} {a m b mid s e : Nat}
theorem Cut.at1 (c : Cut key t a m b mid s e) {k : Nat} (h : k < s) : rotF t s m e k = t k := by unfold rotF; rw [if_neg (by omega), if_neg (by omega)]
theorem Cut.at2 (c : Cut key t a m b mid s e) {k : Nat} (h1 : s ≤ k) (h2 : k < mid) : rotF t s m e k = t (k + (m - s)) := by
  have := c.sum; have := c.me; have := c.sm
  unfold rotF; rw [if_pos (by omega)]
theorem Cut.at3 (c : Cut key t a m b mid s e) {k : Nat} (h1 : mid ≤ k) (h2 : k < e) : rotF t s m e k = t (k - (mid - s)) := by
  have := c.sum; have := c.me; have := c.sm; have := c.smid
  unfold rotF; rw [if_neg (by omega), if_pos (by omega)]; congr 1; omega
theorem Cut.at4 (c : Cut key t a m b mid s e) {k : Nat} (h : e ≤ k) : rotF t s m e k = t k := by
  have := c.mide; have := c.sum; have := c.me
  unfold rotF; rw [if_neg (by omega), if_neg (by omega)]
theorem Cut.one (h : Sym key t a m b) (c : Cut key t a m b mid s e) : Srt key (rotF t s m e) a s ∧ Srt key (rotF t s m e) s mid ∧ (∀ i j, a ≤ i → i < s → s ≤ j → j < mid → rotF t s m e i < rotF t s m e j) := by
  have := c.sum; have := c.me; have := c.sm; have := c.smid; have := c.mide; have := c.eb; have := c.lea
  refine ⟨fun i j e1 e2 e3 => ?_, fun i j e1 e2 e3 => ?_, fun i j e1 e2 e3 e4 => ?_⟩
  · rw [c.at1 (by omega), c.at1 e3]; exact h.s1 i j e1 e2 (by omega)
  · rw [c.at2 e1 (by omega), c.at2 (by omega) e3]; exact h.s2 _ _ (by omega) (by omega) (by omega)
  · rw [c.at1 e2, c.at2 e3 e4]; exact h.tag _ _ e1 (by omega) (by omega) (by omega)
theorem Cut.two (h : Sym key t a m b) (c : Cut key t a m b mid s e) : Srt key (rotF t s m e) mid e ∧ Srt key (rotF t s m e) e b ∧ (∀ i j, mid ≤ i → i < e → e ≤ j → j < b → rotF t s m e i < rotF t s m e j) := by
  have := c.sum; have := c.me; have := c.sm; have := c.smid; have := c.mide; have := c.eb; have := c.lea
  refine ⟨fun i j e1 e2 e3 => ?_, fun i j e1 e2 e3 => ?_, fun i j e1 e2 e3 e4 => ?_⟩
  · rw [c.at3 e1 (by omega), c.at3 (by omega) e3]; exact h.s1 _ _ (by omega) (by omega) (by omega)
  · rw [c.at4 e1, c.at4 (by omega)]; exact h.s2 _ _ (by omega) (by omega) (by omega)
  · rw [c.at3 e1 e2, c.at4 e3]; exact h.tag _ _ (by omega) (by omega) (by omega) (by omega)
theorem Cut.cross (h : Sym key t a m b) (c : Cut key t a m b mid s e) : ∀ i j, a ≤ i → i < mid → mid ≤ j → j < b → lex key (rotF t s m e i) (rotF t s m e j) := by
  have := c.sum; have := c.me; have := c.sm; have := c.smid; have := c.mide; have := c.eb; have := c.lea
  intro i j e1 e2 e3 e4
  by_cases c1 : i < s
  · rw [c.at1 c1]
    by_cases c2 : j < e
    · rw [c.at3 e3 c2]; exact h.s1 _ _ (by omega) (by omega) (by omega)
    · rw [c.at4 (by omega)]
      have h1 := c.f1 i j e1 c1 (by omega) e4
      have h2 := h.tag i j e1 (by omega) (by omega) e4
      unfold lex; omega
  · rw [c.at2 (by omega) e2]
    by_cases c2 : j < e
    · rw [c.at3 e3 c2]
      exact .inl (c.f2 _ _ (by omega) (by omega) (by omega) (by omega))
    · rw [c.at4 (by omega)]; exact h.s2 _ _ (by omega) (by omega) (by omega)
theorem Cut.rot_id (c : Cut key t a m b mid s e) (h : ¬ (s < m ∧ m < e)) : rotF t s m e = t := by
  have := c.sum; have := c.me; have := c.sm
  funext k
  unfold rotF
  repeat' split
  all_goals first | rfl | (exfalso; omega) | (congr 1; omega)
theorem Cut.fin (h : Sym key t a m b) (c : Cut key t a m b mid s e) {t2 t3 : Tg} (p2 : Prm a mid (rotF t s m e) t2) (q2 : Srt key t2 a mid) (p3 : Prm mid b t2 t3) (q3 : Srt key t3 mid b) (am : a ≤ mid) (mb : mid ≤ b) : Srt key t3 a b ∧ Prm a b t t3 := by
  refine ⟨fun i j e1 e2 e3 => ?_, ((rotF_prm t c.sm c.me).mono c.lea c.eb).trans ((p2.mono (Nat.le_refl _) mb).trans (p3.mono am (Nat.le_refl _)))⟩
  by_cases c1 : j < mid
  · rw [p3.out i (.inl (by omega)), p3.out j (.inl c1)]; exact q2 i j e1 e2 c1
  · by_cases c2 : i < mid
    · rw [p3.out i (.inl c2)]
      obtain ⟨i', i1, i2, i3⟩ := p2.fro i e1 c2
      obtain ⟨j', j1, j2, j3⟩ := p3.fro j (by omega) e3
      rw [i3, j3, p2.out j' (.inr j1)]
      exact c.cross h i' j' i1 i2 j1 j2
    · exact q3 i j (by omega) e2 e3
end
/-- while the place of the cut is looked for -/
structure Cts (key : Nat → Int) (t : Tg) (p lo hi s r : Nat) : Prop where
  los : lo ≤ s
  sr : s ≤ r
  rhi : r ≤ hi
  l : ∀ c, lo ≤ c → c < s → ¬ key (t (p - c)) < key (t c)
  u : ∀ c, r ≤ c → c < hi → key (t (p - c)) < key (t c)
/-- its bounds -/
structure CtB (a m b mid p lo hi : Nat) : Prop where
  psum : p + 1 = mid + m
  alo : a ≤ lo
  him : hi ≤ m
  lohi : lo ≤ hi
  pb : p - lo < b
  pm : ∀ c, c < hi → m ≤ p - c
  plo : lo ≤ p
  l0 : lo = a ∨ mid + m = lo + b
  h0 : hi = m ∨ hi = mid
  hmid : hi ≤ mid
theorem Cts.left {key : Nat → Int} {t : Tg} {a m b mid p lo hi s r c : Nat} (h : Sym key t a m b) (B : CtB a m b mid p lo hi) (k : Cts key t p lo hi s r) (h1 : s ≤ c) (h2 : c < r) (hc : ¬ key (t (p - c)) < key (t c)) : Cts key t p lo hi (c + 1) r := by
  have := B.alo; have := B.him; have := B.pb; have := k.los; have := k.rhi; have := B.plo
  refine ⟨by omega, by omega, k.rhi, fun d d1 d2 => ?_, k.u⟩
  have e1 : key (t d) ≤ key (t c) := h.s1.le (by omega) (by omega) (by omega)
  have e2 : key (t (p - c)) ≤ key (t (p - d)) := h.s2.le (B.pm c (by omega)) (by omega) (by omega)
  omega
theorem Cts.right {key : Nat → Int} {t : Tg} {a m b mid p lo hi s r c : Nat} (h : Sym key t a m b) (B : CtB a m b mid p lo hi) (k : Cts key t p lo hi s r) (h1 : s ≤ c) (h2 : c < r) (hc : key (t (p - c)) < key (t c)) : Cts key t p lo hi s c := by
  have := B.alo; have := B.him; have := B.pb; have := k.los; have := k.rhi; have := B.plo
  refine ⟨k.los, h1, by omega, k.l, fun d d1 d2 => ?_⟩
  have e1 : key (t c) ≤ key (t d) := h.s1.le (by omega) (by omega) (by omega)
  have e2 : key (t (p - d)) ≤ key (t (p - c)) := h.s2.le (B.pm d (by omega)) (by omega) (by omega)
  omega
theorem Cts.cut {key : Nat → Int} {t : Tg} {a m b mid p lo hi s : Nat} (h : Sym key t a m b) (hm : mid = (a + b) / 2) (B : CtB a m b mid p lo hi) (k : Cts key t p lo hi s s) : Cut key t a m b mid s (mid + m - s) := by
  have b1 := B.alo; have b2 := B.him; have b3 := B.pb; have b4 := k.los; have b5 := k.rhi; have b6 := B.plo; have b7 := B.psum; have b8 := B.hmid
  have a1 := h.am; have a2 := h.mb
  refine ⟨by omega, by omega, by omega, by omega, ?_, by omega, by omega, fun i j e1 e2 e3 e4 => ?_, fun i j e1 e2 e3 e4 => ?_⟩
  · omega
  · rcases B.l0 with e | e
    · by_cases es : s = lo
      · omega
      · have hh := k.l (s - 1) (by omega) (by omega)
        have f1 : key (t i) ≤ key (t (s - 1)) := h.s1.le e1 (by omega) (by omega)
        have f2 : key (t (p - (s - 1))) ≤ key (t j) := h.s2.le (by omega) (by omega) e4
        omega
    · by_cases es : s = lo
      · omega
      · have hh := k.l (s - 1) (by omega) (by omega)
        have f1 : key (t i) ≤ key (t (s - 1)) := h.s1.le e1 (by omega) (by omega)
        have f2 : key (t (p - (s - 1))) ≤ key (t j) := h.s2.le (by omega) (by omega) e4
        omega
  · by_cases es : s = hi
    · rcases B.h0 with e | e <;> omega
    · have hh := k.u s (Nat.le_refl _) (by omega)
      have f1 : key (t s) ≤ key (t i) := h.s1.le (by omega) e1 e2
      have f2 : key (t j) ≤ key (t (p - s)) := h.s2.le e3 (by omega) (by omega)
      omega
theorem CtB.great {a m b mid : Nat} (h1 : a < m) (h2 : m < b) (hm : mid = (a + b) / 2) (h : mid < m) : CtB a m b mid (mid + m - 1) (mid + m - b) mid :=
  ⟨by omega, by omega, by omega, by omega, by omega, fun c hc => by omega, by omega, .inr (by omega), .inr rfl, Nat.le_refl _⟩
theorem CtB.small {a m b mid : Nat} (h1 : a < m) (h2 : m < b) (hm : mid = (a + b) / 2) (h : ¬ mid < m) : CtB a m b mid (mid + m - 1) a m :=
  ⟨by omega, by omega, by omega, by omega, by omega, fun c hc => by omega, by omega, .inl rfl, .inl rfl, by omega⟩
end Go.Proofs.YtlfepdecgfcifaaGreatDoor
