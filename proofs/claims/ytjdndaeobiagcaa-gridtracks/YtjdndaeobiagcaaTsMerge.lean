/- A stable sort by places: merging. -/
import Derived.Test.YtjdndaeobiagcaaTsPure
namespace Go.Proofs.Ytjdndaeobiagcaa
open Go.RowKit
set_option linter.unusedVariables false      -- bounds that are for the walk

/-- the one at a goes to the place ahead of i -/
def shL (t : Tg) (a i : Nat) : Tg := fun k => if a ≤ k ∧ k + 1 < i then t (k + 1) else if a ≤ k ∧ k + 1 = i then t a else t k
theorem shL_start (t : Tg) (a : Nat) : shL t a (a + 1) = t := by
  funext k
  unfold shL
  repeat' split
  all_goals first | rfl | (exfalso; omega) | (congr 1; omega)
theorem shL_step (t : Tg) (a k : Nat) (h : a ≤ k) : swapT (shL t a (k + 1)) k (k + 1) = shL t a (k + 1 + 1) := by
  funext j
  unfold swapT shL
  repeat' split
  all_goals first | rfl | (exfalso; omega) | (congr 1; omega)
/-- the one at m goes to i -/
def shR (t : Tg) (i m : Nat) : Tg := fun k => if k = i ∧ i ≤ m then t m else if i < k ∧ k ≤ m then t (k - 1) else t k
theorem shR_start (t : Tg) (m : Nat) : shR t m m = t := by
  funext k
  unfold shR
  repeat' split
  all_goals first | rfl | (exfalso; omega) | (congr 1; omega)
theorem shR_step (t : Tg) (k m : Nat) (h : 1 ≤ k) (h2 : k ≤ m) : swapT (shR t k m) k (k - 1) = shR t (k - 1) m := by
  funext j
  unfold swapT shR
  repeat' split
  all_goals first | rfl | (exfalso; omega) | (congr 1; omega)
theorem merge_one {key : Nat → Int} {t : Tg} {a b i : Nat} (hs : Srt key t (a + 1) b) (ht : ∀ j, a < j → j < b → t a < t j) (h1 : a + 1 ≤ i) (h2 : i ≤ b) (lo : ∀ j, a < j → j < i → key (t j) < key (t a)) (hi : ∀ j, i ≤ j → j < b → ¬ key (t j) < key (t a)) : Srt key (shL t a i) a b ∧ Prm a b t (shL t a i) := by
  constructor
  · intro p q e1 e2 e3
    have p1 : a ≤ p → p + 1 < i → shL t a i p = t (p + 1) := fun x y => by unfold shL; rw [if_pos ⟨x, y⟩]
    have p2 : ∀ p, a ≤ p → p + 1 < i → shL t a i p = t (p + 1) := fun p x y => by unfold shL; rw [if_pos ⟨x, y⟩]
    have p3 : ∀ p, a ≤ p → p + 1 = i → shL t a i p = t a := fun p x y => by unfold shL; rw [if_neg (by omega), if_pos ⟨x, y⟩]
    have p4 : ∀ p, i ≤ p → shL t a i p = t p := fun p x => by unfold shL; rw [if_neg (by omega), if_neg (by omega)]
    by_cases c1 : p + 1 < i
    · rw [p2 p e1 c1]
      by_cases c2 : q + 1 < i
      · rw [p2 q (by omega) c2]; exact hs _ _ (by omega) (by omega) (by omega)
      · by_cases c3 : q + 1 = i
        · rw [p3 q (by omega) c3]; exact .inl (lo _ (by omega) (by omega))
        · rw [p4 q (by omega)]; exact hs _ _ (by omega) (by omega) (by omega)
    · by_cases c2 : p + 1 = i
      · rw [p3 p e1 c2, p4 q (by omega)]
        have := hi q (by omega) e3
        have := ht q (by omega) e3
        unfold lex; omega
      · rw [p4 p (by omega), p4 q (by omega)]; exact hs _ _ (by omega) (by omega) (by omega)
  · refine Prm.of (fun k => if a ≤ k ∧ k + 1 < i then k + 1 else if a ≤ k ∧ k + 1 = i then a else k) (fun k => if k = a then i - 1 else if a < k ∧ k < i then k - 1 else k) (fun k => ?_) (fun k hk => ?_) (fun k e1 e2 => ?_) (fun k e1 e2 => ⟨?_, ?_, ?_⟩)
    · unfold shL
      repeat' split
      all_goals rfl
    all_goals
      repeat' split
      all_goals omega
theorem merge_last {key : Nat → Int} {t : Tg} {a m i : Nat} (hs : Srt key t a m) (ht : ∀ j, a ≤ j → j < m → t j < t m) (h1 : a ≤ i) (h2 : i ≤ m) (lo : ∀ j, a ≤ j → j < i → ¬ key (t m) < key (t j)) (hi : ∀ j, i ≤ j → j < m → key (t m) < key (t j)) : Srt key (shR t i m) a (m + 1) ∧ Prm a (m + 1) t (shR t i m) := by
  constructor
  · intro p q e1 e2 e3
    have p2 : ∀ p, i < p → p ≤ m → shR t i m p = t (p - 1) := fun p x y => by unfold shR; rw [if_neg (by omega), if_pos ⟨x, y⟩]
    have p3 : shR t i m i = t m := by unfold shR; rw [if_pos ⟨rfl, h2⟩]
    have p4 : ∀ p, p < i → shR t i m p = t p := fun p x => by unfold shR; rw [if_neg (by omega), if_neg (by omega)]
    by_cases c1 : p < i
    · rw [p4 p c1]
      by_cases c2 : q < i
      · rw [p4 q c2]; exact hs _ _ (by omega) (by omega) (by omega)
      · by_cases c3 : q = i
        · subst c3
          rw [p3]
          have := lo p e1 c1
          have := ht p e1 (by omega)
          unfold lex; omega
        · rw [p2 q (by omega) (by omega)]; exact hs _ _ (by omega) (by omega) (by omega)
    · by_cases c2 : p = i
      · subst c2
        rw [p3, p2 q (by omega) (by omega)]
        exact .inl (hi _ (by omega) (by omega))
      · rw [p2 p (by omega) (by omega), p2 q (by omega) (by omega)]; exact hs _ _ (by omega) (by omega) (by omega)
  · refine Prm.of (fun k => if k = i ∧ i ≤ m then m else if i < k ∧ k ≤ m then k - 1 else k) (fun k => if k = m then i else if i ≤ k ∧ k < m then k + 1 else k) (fun k => ?_) (fun k hk => ?_) (fun k e1 e2 => ?_) (fun k e1 e2 => ⟨?_, ?_, ?_⟩)
    · unfold shR
      repeat' split
      all_goals rfl
    all_goals
      repeat' split
      all_goals omega
/-- two blocks that are sorted, all of the first ahead of the second of old -/
structure Sym (key : Nat → Int) (t : Tg) (a m b : Nat) : Prop where
  am : a < m
  mb : m < b
  s1 : Srt key t a m
  s2 : Srt key t m b
  tag : ∀ i j, a ≤ i → i < m → m ≤ j → j < b → t i < t j
/-- where the two are cut -/
structure Cut (key : Nat → Int) (t : Tg) (a m b mid s e : Nat) : Prop where
  sm : s ≤ m
  lea : a ≤ s
  smid : s ≤ mid
  me : m ≤ e
  eb : e ≤ b
  mide : mid ≤ e
  sum : s + e = mid + m
  f1 : ∀ i j, a ≤ i → i < s → e ≤ j → j < b → key (t i) ≤ key (t j)
  f2 : ∀ i j, s ≤ i → i < m → m ≤ j → j < e → key (t j) < key (t i)
section
variable {key : Nat → Int} {t : Tg} {a m b mid s e : Nat}
theorem Cut.at1 (c : Cut key t a m b mid s e) {k : Nat} (h : k < s) : rotF t s m e k = t k := by unfold rotF; rw [if_neg (by omega), if_neg (by omega)]
theorem Cut.at2 (c : Cut key t a m b mid s e) {k : Nat} (h1 : s ≤ k) (h2 : k < mid) : rotF t s m e k = t (k + (m - s)) := by
  have := c.sum; have := c.me; have := c.sm
  unfold rotF; rw [if_pos (by omega)]
theorem Cut.at3 (c : Cut key t a m b mid s e) {k : Nat} (h1 : mid ≤ k) (h2 : k < e) : rotF t s m e k = t (k - (mid - s)) := by
  have := c.sum; have := c.me; have := c.sm; have := c.smid
  unfold rotF; rw [if_neg (by omega), if_pos (by omega)]; congr 1; omega
theorem Cut.at4 (c : Cut key t a m b mid s e) {k : Nat} (h : e ≤ k) : rotF t s m e k = t k := by
  have := c.mide; have := c.sum; have := c.me
  unfold rotF; rw [if_neg (by omega), if_neg (by omega)]
theorem Cut.one (h : Sym key t a m b) (c : Cut key t a m b mid s e) : Srt key (rotF t s m e) a s ∧ Srt key (rotF t s m e) s mid ∧ (∀ i j, a ≤ i → i < s → s ≤ j → j < mid → rotF t s m e i < rotF t s m e j) := by
  have := c.sum; have := c.me; have := c.sm; have := c.smid; have := c.mide; have := c.eb; have := c.lea
  refine ⟨fun i j e1 e2 e3 => ?_, fun i j e1 e2 e3 => ?_, fun i j e1 e2 e3 e4 => ?_⟩
  · rw [c.at1 (by omega), c.at1 e3]; exact h.s1 i j e1 e2 (by omega)
  · rw [c.at2 e1 (by omega), c.at2 (by omega) e3]; exact h.s2 _ _ (by omega) (by omega) (by omega)
  · rw [c.at1 e2, c.at2 e3 e4]; exact h.tag _ _ e1 (by omega) (by omega) (by omega)
theorem Cut.two (h : Sym key t a m b) (c : Cut key t a m b mid s e) : Srt key (rotF t s m e) mid e ∧ Srt key (rotF t s m e) e b ∧ (∀ i j, mid ≤ i → i < e → e ≤ j → j < b → rotF t s m e i < rotF t s m e j) := by
  have := c.sum; have := c.me; have := c.sm; have := c.smid; have := c.mide; have := c.eb; have := c.lea
  refine ⟨fun i j e1 e2 e3 => ?_, fun i j e1 e2 e3 => ?_, fun i j e1 e2 e3 e4 => ?_⟩
  · rw [c.at3 e1 (by omega), c.at3 (by omega) e3]; exact h.s1 _ _ (by omega) (by omega) (by omega)
  · rw [c.at4 e1, c.at4 (by omega)]; exact h.s2 _ _ (by omega) (by omega) (by omega)
  · rw [c.at3 e1 e2, c.at4 e3]; exact h.tag _ _ (by omega) (by omega) (by omega) (by omega)
theorem Cut.cross (h : Sym key t a m b) (c : Cut key t a m b mid s e) : ∀ i j, a ≤ i → i < mid → mid ≤ j → j < b → lex key (rotF t s m e i) (rotF t s m e j) := by
  have := c.sum; have := c.me; have := c.sm; have := c.smid; have := c.mide; have := c.eb; have := c.lea
  intro i j e1 e2 e3 e4
  by_cases c1 : i < s
  · rw [c.at1 c1]
    by_cases c2 : j < e
    · rw [c.at3 e3 c2]; exact h.s1 _ _ (by omega) (by omega) (by omega)
    · rw [c.at4 (by omega)]
      have h1 := c.f1 i j e1 c1 (by omega) e4
      have h2 := h.tag i j e1 (by omega) (by omega) e4
      unfold lex; omega
  · rw [c.at2 (by omega) e2]
    by_cases c2 : j < e
    · rw [c.at3 e3 c2]
      exact .inl (c.f2 _ _ (by omega) (by omega) (by omega) (by omega))
    · rw [c.at4 (by omega)]; exact h.s2 _ _ (by omega) (by omega) (by omega)
theorem Cut.rot_id (c : Cut key t a m b mid s e) (h : ¬ (s < m ∧ m < e)) : rotF t s m e = t := by
  have := c.sum; have := c.me; have := c.sm
  funext k
  unfold rotF
  repeat' split
  all_goals first | rfl | (exfalso; omega) | (congr 1; omega)
theorem Cut.fin (h : Sym key t a m b) (c : Cut key t a m b mid s e) {t2 t3 : Tg} (p2 : Prm a mid (rotF t s m e) t2) (q2 : Srt key t2 a mid) (p3 : Prm mid b t2 t3) (q3 : Srt key t3 mid b) (am : a ≤ mid) (mb : mid ≤ b) : Srt key t3 a b ∧ Prm a b t t3 := by
  refine ⟨fun i j e1 e2 e3 => ?_, ((rotF_prm t c.sm c.me).mono c.lea c.eb).trans ((p2.mono (Nat.le_refl _) mb).trans (p3.mono am (Nat.le_refl _)))⟩
  by_cases c1 : j < mid
  · rw [p3.out i (.inl (by omega)), p3.out j (.inl c1)]; exact q2 i j e1 e2 c1
  · by_cases c2 : i < mid
    · rw [p3.out i (.inl c2)]
      obtain ⟨i', i1, i2, i3⟩ := p2.fro i e1 c2
      obtain ⟨j', j1, j2, j3⟩ := p3.fro j (by omega) e3
      rw [i3, j3, p2.out j' (.inr j1)]
      exact c.cross h i' j' i1 i2 j1 j2
    · exact q3 i j (by omega) e2 e3
end
/-- while the place of the cut is looked for -/
structure Cts (key : Nat → Int) (t : Tg) (p lo hi s r : Nat) : Prop where
  los : lo ≤ s
  sr : s ≤ r
  rhi : r ≤ hi
  l : ∀ c, lo ≤ c → c < s → ¬ key (t (p - c)) < key (t c)
  u : ∀ c, r ≤ c → c < hi → key (t (p - c)) < key (t c)
/-- its bounds -/
structure CtB (a m b mid p lo hi : Nat) : Prop where
  psum : p + 1 = mid + m
  alo : a ≤ lo
  him : hi ≤ m
  lohi : lo ≤ hi
  pb : p - lo < b
  pm : ∀ c, c < hi → m ≤ p - c
  plo : lo ≤ p
  l0 : lo = a ∨ mid + m = lo + b
  h0 : hi = m ∨ hi = mid
  hmid : hi ≤ mid
theorem Cts.left {key : Nat → Int} {t : Tg} {a m b mid p lo hi s r c : Nat} (h : Sym key t a m b) (B : CtB a m b mid p lo hi) (k : Cts key t p lo hi s r) (h1 : s ≤ c) (h2 : c < r) (hc : ¬ key (t (p - c)) < key (t c)) : Cts key t p lo hi (c + 1) r := by
  have := B.alo; have := B.him; have := B.pb; have := k.los; have := k.rhi; have := B.plo
  refine ⟨by omega, by omega, k.rhi, fun d d1 d2 => ?_, k.u⟩
  have e1 : key (t d) ≤ key (t c) := h.s1.le (by omega) (by omega) (by omega)
  have e2 : key (t (p - c)) ≤ key (t (p - d)) := h.s2.le (B.pm c (by omega)) (by omega) (by omega)
  omega
theorem Cts.right {key : Nat → Int} {t : Tg} {a m b mid p lo hi s r c : Nat} (h : Sym key t a m b) (B : CtB a m b mid p lo hi) (k : Cts key t p lo hi s r) (h1 : s ≤ c) (h2 : c < r) (hc : key (t (p - c)) < key (t c)) : Cts key t p lo hi s c := by
  have := B.alo; have := B.him; have := B.pb; have := k.los; have := k.rhi; have := B.plo
  refine ⟨k.los, h1, by omega, k.l, fun d d1 d2 => ?_⟩
  have e1 : key (t c) ≤ key (t d) := h.s1.le (by omega) (by omega) (by omega)
  have e2 : key (t (p - d)) ≤ key (t (p - c)) := h.s2.le (B.pm d (by omega)) (by omega) (by omega)
  omega
theorem Cts.cut {key : Nat → Int} {t : Tg} {a m b mid p lo hi s : Nat} (h : Sym key t a m b) (hm : mid = (a + b) / 2) (B : CtB a m b mid p lo hi) (k : Cts key t p lo hi s s) : Cut key t a m b mid s (mid + m - s) := by
  have b1 := B.alo; have b2 := B.him; have b3 := B.pb; have b4 := k.los; have b5 := k.rhi; have b6 := B.plo; have b7 := B.psum; have b8 := B.hmid
  have a1 := h.am; have a2 := h.mb
  refine ⟨by omega, by omega, by omega, by omega, ?_, by omega, by omega, fun i j e1 e2 e3 e4 => ?_, fun i j e1 e2 e3 e4 => ?_⟩
  · omega
  · rcases B.l0 with e | e
    · by_cases es : s = lo
      · omega
      · have hh := k.l (s - 1) (by omega) (by omega)
        have f1 : key (t i) ≤ key (t (s - 1)) := h.s1.le e1 (by omega) (by omega)
        have f2 : key (t (p - (s - 1))) ≤ key (t j) := h.s2.le (by omega) (by omega) e4
        omega
    · by_cases es : s = lo
      · omega
      · have hh := k.l (s - 1) (by omega) (by omega)
        have f1 : key (t i) ≤ key (t (s - 1)) := h.s1.le e1 (by omega) (by omega)
        have f2 : key (t (p - (s - 1))) ≤ key (t j) := h.s2.le (by omega) (by omega) e4
        omega
  · by_cases es : s = hi
    · rcases B.h0 with e | e <;> omega
    · have hh := k.u s (Nat.le_refl _) (by omega)
      have f1 : key (t s) ≤ key (t i) := h.s1.le (by omega) e1 e2
      have f2 : key (t j) ≤ key (t (p - s)) := h.s2.le e3 (by omega) (by omega)
      omega
theorem CtB.great {a m b mid : Nat} (h1 : a < m) (h2 : m < b) (hm : mid = (a + b) / 2) (h : mid < m) : CtB a m b mid (mid + m - 1) (mid + m - b) mid :=
  ⟨by omega, by omega, by omega, by omega, by omega, fun c hc => by omega, by omega, .inr (by omega), .inr rfl, Nat.le_refl _⟩
theorem CtB.small {a m b mid : Nat} (h1 : a < m) (h2 : m < b) (hm : mid = (a + b) / 2) (h : ¬ mid < m) : CtB a m b mid (mid + m - 1) a m :=
  ⟨by omega, by omega, by omega, by omega, by omega, fun c hc => by omega, by omega, .inl rfl, .inl rfl, by omega⟩
end Go.Proofs.Ytjdndaeobiagcaa
