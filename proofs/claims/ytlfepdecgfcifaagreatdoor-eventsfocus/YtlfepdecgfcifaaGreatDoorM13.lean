/- A stable sort by places: merging. -/
import Derived.Test.YtlfepdecgfcifaaGreatDoorM12
namespace Go.Proofs.YtlfepdecgfcifaaGreatDoor
open Go.RowKit
set_option linter.unusedVariables false      -- bounds that are for the walk

/-- the one at a goes to the place ahead of i -/
def shL (t : Tg) (a i : Nat) : Tg := fun k => if a ≤ k ∧ k + 1 < i then t (k + 1) else if a ≤ k ∧ k + 1 = i then t a else t k
theorem shL_start (t : Tg) (a : Nat) : shL t a (a + 1) = t := by
  funext k
  unfold shL
  repeat' split
  all_goals first | rfl | (exfalso; omega) | (congr 1; omega)
theorem shL_step (t : Tg) (a k : Nat) (h : a ≤ k) : swapT (shL t a (k + 1)) k (k + 1) = shL t a (k + 1 + 1) := by
  funext j
  unfold swapT shL
  repeat' split
  all_goals first | rfl | (exfalso; omega) | (congr 1; omega)
/-- the one at m goes to i -/
def shR (t : Tg) (i m : Nat) : Tg := fun k => if k = i ∧ i ≤ m then t m else if i < k ∧ k ≤ m then t (k - 1) else t k
theorem shR_start (t : Tg) (m : Nat) : shR t m m = t := by
  funext k
  unfold shR
  repeat' split
  all_goals first | rfl | (exfalso; omega) | (congr 1; omega)
theorem shR_step (t : Tg) (k m : Nat) (h : 1 ≤ k) (h2 : k ≤ m) : swapT (shR t k m) k (k - 1) = shR t (k - 1) m := by
  funext j
  unfold swapT shR
  repeat' split
  all_goals first | rfl | (exfalso; omega) | (congr 1; omega)
theorem merge_one {key : Nat → Int} {t : Tg} {a b i : Nat} (hs : Srt key t (a + 1) b) (ht : ∀ j, a < j → j < b → t a < t j) (h1 : a + 1 ≤ i) (h2 : i ≤ b) (lo : ∀ j, a < j → j < i → key (t j) < key (t a)) (hi : ∀ j, i ≤ j → j < b → ¬ key (t j) < key (t a)) : Srt key (shL t a i) a b ∧ Prm a b t (shL t a i) := by
  constructor
  · intro p q e1 e2 e3
    have p1 : a ≤ p → p + 1 < i → shL t a i p = t (p + 1) := fun x y => by unfold shL; rw [if_pos ⟨x, y⟩]
    have p2 : ∀ p, a ≤ p → p + 1 < i → shL t a i p = t (p + 1) := fun p x y => by unfold shL; rw [if_pos ⟨x, y⟩]
    have p3 : ∀ p, a ≤ p → p + 1 = i → shL t a i p = t a := fun p x y => by unfold shL; rw [if_neg (by omega), if_pos ⟨x, y⟩]
    have p4 : ∀ p, i ≤ p → shL t a i p = t p := fun p x => by unfold shL; rw [if_neg (by omega), if_neg (by omega)]
    by_cases c1 : p + 1 < i
    · rw [p2 p e1 c1]
      by_cases c2 : q + 1 < i
      · rw [p2 q (by omega) c2]; exact hs _ _ (by omega) (by omega) (by omega)
      · by_cases c3 : q + 1 = i
        · rw [p3 q (by omega) c3]; exact .inl (lo _ (by omega) (by omega))
        · rw [p4 q (by omega)]; exact hs _ _ (by omega) (by omega) (by omega)
    · by_cases c2 : p + 1 = i
      · rw [p3 p e1 c2, p4 q (by omega)]
        have := hi q (by omega) e3
        have := ht q (by omega) e3
        unfold lex; omega
      · rw [p4 p (by omega), p4 q (by omega)]; exact hs _ _ (by omega) (by omega) (by omega)
  · refine Prm.of (fun k => if a ≤ k ∧ k + 1 < i then k + 1 else if a ≤ k ∧ k + 1 = i then a else k) (fun k => if k = a then i - 1 else if a < k ∧ k < i then k - 1 else k) (fun k => ?_) (fun k hk => ?_) (fun k e1 e2 => ?_) (fun k e1 e2 => ⟨?_, ?_, ?_⟩)
    · unfold shL
      repeat' split
      all_goals rfl
    all_goals
      repeat' split
      all_goals omega
theorem merge_last {key : Nat → Int} {t : Tg} {a m i : Nat} (hs : Srt key t a m) (ht : ∀ j, a ≤ j → j < m → t j < t m) (h1 : a ≤ i) (h2 : i ≤ m) (lo : ∀ j, a ≤ j → j < i → ¬ key (t m) < key (t j)) (hi : ∀ j, i ≤ j → j < m → key (t m) < key (t j)) : Srt key (shR t i m) a (m + 1) ∧ Prm a (m + 1) t (shR t i m) := by
  constructor
  · intro p q e1 e2 e3
    have p2 : ∀ p, i < p → p ≤ m → shR t i m p = t (p - 1) := fun p x y => by unfold shR; rw [if_neg (by omega), if_pos ⟨x, y⟩]
    have p3 : shR t i m i = t m := by unfold shR; rw [if_pos ⟨rfl, h2⟩]
    have p4 : ∀ p, p < i → shR t i m p = t p := fun p x => by unfold shR; rw [if_neg (by omega), if_neg (by omega)]
    by_cases c1 : p < i
    · rw [p4 p c1]
      by_cases c2 : q < i
      · rw [p4 q c2]; exact hs _ _ (by omega) (by omega) (by omega)
      · by_cases c3 : q = i
        · subst c3
          rw [p3]
          have := lo p e1 c1
          have := ht p e1 (by omega)
          unfold lex; omega
        · rw [p2 q (by omega) (by omega)]; exact hs _ _ (by omega) (by omega) (by omega)
    · by_cases c2 : p = i
      · subst c2
        rw [p3, p2 q (by omega) (by omega)]
        exact .inl (hi _ (by omega) (by omega))
      · rw [p2 p (by omega) (by omega), p2 q (by omega) (by omega)]; exact hs _ _ (by omega) (by omega) (by omega)
  · refine Prm.of (fun k => if k = i ∧ i ≤ m then m else if i < k ∧ k ≤ m then k - 1 else k) (fun k => if k = m then i else if i ≤ k ∧ k < m then k + 1 else k) (fun k => ?_) (fun k hk => ?_) (fun k e1 e2 => ?_) (fun k e1 e2 => ⟨?_, ?_, ?_⟩)
    · unfold shR
      repeat' split
      all_goals rfl
    all_goals
      repeat' split
      all_goals omega
/-- two blocks that are sorted, all of the first ahead of the second of old -/
structure Sym (key : Nat → Int) (t : Tg) (a m b : Nat) : Prop where
  am : a < m
  mb : m < b
  s1 : Srt key t a m
  s2 : Srt key t m b
  tag : ∀ i j, a ≤ i → i < m → m ≤ j → j < b → t i < t j
/-- where the two are cut -/
structure Cut (key : Nat → Int) (t : Tg) (a m b mid s e : Nat) : Prop where
  sm : s ≤ m
  lea : a ≤ s
  smid : s ≤ mid
  me : m ≤ e
  eb : e ≤ b
  mide : mid ≤ e
  sum : s + e = mid + m
  f1 : ∀ i j, a ≤ i → i < s → e ≤ j → j < b → key (t i) ≤ key (t j)
  f2 : ∀ i j, s ≤ i → i < m → m ≤ j → j < e → key (t j) < key (t i)
section
variable {key : Nat → Int} {t : Tg} {a m b mid s e : Nat}
theorem Cut.at1 (c : Cut key t a m b mid s e) {k : Nat} (h : k < s) : rotF t s m e k = t k := by unfold rotF; rw [if_neg (by omega), if_neg (by omega)]
theorem Cut.at2 (c : Cut key t a m b mid s e) {k : Nat} (h1 : s ≤ k) (h2 : k < mid) : rotF t s m e k = t (k + (m - s)) := by
  have := c.sum; have := c.me; have := c.sm
  unfold rotF; rw [if_pos (by omega)]
theorem Cut.at3 (c : Cut key t a m b mid s e) {k : Nat} (h1 : mid ≤ k) (h2 : k < e) : rotF t s m e k = t (k - (mid - s)) := by
  have := c.sum; have := c.me; have := c.sm; have := c.smid
  unfold rotF; rw [if_neg (by omega), if_pos (by omega)]; congr 1; omega
theorem Cut.at4 (c : Cut key t a m b mid s e) {k : Nat} (h : e ≤ k) : rotF t s m e k = t k := by
  have := c.mide; have := c.sum; have := c.me
  unfold rotF; rw [if_neg (by omega), if_neg (by omega)]
theorem Cut.one (h : Sym key t a m b) (c : Cut key t a m b mid s e) : Srt key (rotF t s m e) a s ∧ Srt key (rotF t s m e) s mid ∧ (∀ i j, a ≤ i → i < s → s ≤ j → j < mid → rotF t s m e i < rotF t s m e j) := by
  have := c.sum; have := c.me; have := c.sm; have := c.smid; have := c.mide; have := c.eb; have := c.lea
  refine ⟨fun i j e1 e2 e3 => ?_, fun i j e1 e2 e3 => ?_, fun i j e1 e2 e3 e4 => ?_⟩
  · rw [c.at1 (by omega), c.at1 e3]; exact h.s1 i j e1 e2 (by omega)
  · rw [c.at2 e1 (by omega), c.at2 (by omega) e3]; exact h.s2 _ _ (by omega) (by omega) (by omega)
  · rw [c.at1 e2, c.at2 e3 e4]; exact h.tag _ _ e1 (by omega) (by omega) (by omega)
theorem Cut.two (h : Sym key t a m b) (c : Cut key t a m b mid s e) : Srt key (rotF t s m e) mid e ∧ Srt key (rotF t s m e) e b ∧ (∀ i j, mid ≤ i → i < e → e ≤ j → j < b → rotF t s m e i < rotF t s m e j) := by
  have := c.sum; have := c.me; have := c.sm; have := c.smid; have := c.mide; have := c.eb; have := c.lea
  refine ⟨fun i j e1 e2 e3 => ?_, fun i j e1 e2 e3 => ?_, fun i j e1 e2 e3 e4 => ?_⟩
  · rw [c.at3 e1 (by omega), c.at3 (by omega) e3]; exact h.s1 _ _ (by omega) (by omega) (by omega)
  · rw [c.at4 e1, c.at4 (by omega)]; exact h.s2 _ _ (by omega) (by omega) (by omega)
  · rw [c.at3 e1 e2, c.at4 e3]; exact h.tag _ _ (by omega) (by omega) (by omega) (by omega)
theorem Cut.cross (h : Sym key t a m b) (c : Cut key t a m b mid s e) : ∀ i j, a ≤ i → i < mid → mid ≤ j → j < b → lex key (rotF t s m e i) (rotF t s m e j) := by
  have := c.sum; have := c.me; have := c.sm; have := c.smid; have := c.mide; have := c.eb; have := c.lea
  intro i j e1 e2 e3 e4
  by_cases c1 : i < s
  · rw [c.at1 c1]
    by_cases c2 : j < e
    · rw [c.at3 e3 c2]; exact h.s1 _ _ (by omega) (by omega) (by omega)
    · rw [c.at4 (by omega)]
      have h1 := c.f1 i j e1 c1 (by omega) e4
      have h2 := h.tag i j e1 (by omega) (by omega) e4
      unfold lex; omega
  · rw [c.at2 (by omega) e2]
    by_cases c2 : j < e
    · rw [c.at3 e3 c2]
      exact .inl (c.f2 _ _ (by omega) (by omega) (by omega) (by omega))
    · rw [c.at4 (by omega)]; exact h.s2 _ _ (by omega) (by omega) (by omega)
theorem Cut.rot_id (c : Cut key t a m b mid s e) (h : ¬ (s < m ∧ m < e)) : rotF t s m e = t := by
  have := c.sum; have := c.me; have := c.sm
  funext k
  unfold rotF
  repeat' split
  all_goals first | rfl | (exfalso; omega) | (congr 1; omega)
theorem Cut.fin (h : Sym key t a m b) (c : Cut key t a m b mid s e) {t2 t3 : Tg} (p2 : Prm a mid (rotF t s m e) t2) (q2 : Srt key t2 a mid) (p3 : Prm mid b t2 t3) (q3 : Srt key t3 mid b) (am : a ≤ mid) (mb : mid ≤ b) : Srt key t3 a b ∧ Prm a b t t3 := by
  refine ⟨fun i j e1 e2 e3 => ?_, ((rotF_prm t c.sm c.me).mono c.lea c.eb).trans ((p2.mono (Nat.le_refl _) mb).trans (p3.mono am (Nat.le_refl _)))⟩
  by_cases c1 : j < mid
  · rw [p3.out i (.inl (by omega)), p3.out j (.inl c1)]; exact q2 i j e1 e2 c1
  · by_cases c2 : i < mid
    · rw [p3.out i (.inl c2)]
      obtain ⟨i', i1, i2, i3⟩ := p2.fro i e1 c2
      obtain ⟨j', j1, j2, j3⟩ := p3.fro j (by omega) e3
      rw [i3, j3, p2.out j' (.inr j1)]
      exact c.cross h i' j' i1 i2 j1 j2
    · exact q3 i j (by omega) e2 e3
end
/-- while the place of the cut is looked for -/
structure Cts (key : Nat → Int) (t : Tg) (p lo hi s r : Nat) : Prop where
  los : lo ≤ s
  sr : s ≤ r
  rhi : r ≤ hi
  l : ∀ c, lo ≤ c → c < s → ¬ key (t (p - c)) < key (t c)
  u : ∀ c, r ≤ c → c < hi → key (t (p - c)) < key (t c)
/-- its bounds -/
structure CtB (a m b mid p lo hi : Nat) : Prop where
  psum : p + 1 = mid + m
  alo : a ≤ lo
  him : hi ≤ m
  lohi : lo ≤ hi
  pb : p - lo < b
  pm : ∀ c, c < hi → m ≤ p - c
  plo : lo ≤ p
  l0 : lo = a ∨ mid + m = lo + b
  h0 : hi = m ∨ hi = mid
  hmid : hi ≤ mid
theorem Cts.left {key : Nat → Int} {t : Tg} {a m b mid p lo hi s r c : Nat} (h : Sym key t a m b) (B : CtB a m b mid p lo hi) (k : Cts key t p lo hi s r) (h1 : s ≤ c) (h2 : c < r) (hc : ¬ key (t (p - c)) < key (t c)) : Cts key t p lo hi (c + 1) r := by
  have := B.alo; have := B.him; have := B.pb; have := k.los; have := k.rhi; have := B.plo
  refine ⟨by omega, by omega, k.rhi, fun d d1 d2 => ?_, k.u⟩
  have e1 : key (t d) ≤ key (t c) := h.s1.le (by omega) (by omega) (by omega)
  have e2 : key (t (p - c)) ≤ key (t (p - d)) := h.s2.le (B.pm c (by omega)) (by omega) (by omega)
  omega
theorem Cts.right {key : Nat → Int} {t : Tg} {a m b mid p lo hi s r c : Nat} (h : Sym key t a m b) (B : CtB a m b mid p lo hi) (k : Cts key t p lo hi s r) (h1 : s ≤ c) (h2 : c < r) (hc : key (t (p - c)) < key (t c)) : Cts key t p lo hi s c := by
  have := B.alo; have := B.him; have := B.pb; have := k.los; have := k.rhi; have := B.plo
  refine ⟨k.los, h1, by omega, k.l, fun d d1 d2 => ?_⟩
  have e1 : key (t c) ≤ key (t d) := h.s1.le (by omega) (by omega) (by omega)
  have e2 : key (t (p - d)) ≤ key (t (p - c)) := h.s2.le (B.pm d (by omega)) (by omega) (by omega)
  omega
theorem Cts.cut {key : Nat → Int} {t : Tg} {a m b mid p lo hi s : Nat} (h : Sym key t a m b) (hm : mid = (a + b) / 2) (B : CtB a m b mid p lo hi) (k : Cts key t p lo hi s s) : Cut key t a m b mid s (mid + m - s) := by
  have b1 := B.alo; have b2 := B.him; have b3 := B.pb; have b4 := k.los; have b5 := k.rhi; have b6 := B.plo; have b7 := B.psum; have b8 := B.hmid
  have a1 := h.am; have a2 := h.mb
  refine ⟨by omega, by omega, by omega, by omega, ?_, by omega, by omega, fun i j e1 e2 e3 e4 => ?_, fun i j e1 e2 e3 e4 => ?_⟩
  · omega
  · rcases B.l0 with e | e
    · by_cases es : s = lo
      · omega
      · have hh := k.l (s - 1) (by omega) (by omega)
        have f1 : key (t i) ≤ key (t (s - 1)) := h.s1.le e1 (by omega) (by omega)
        have f2 : key (t (p - (s - 1))) ≤ key (t j) := h.s2.le (by omega) (by omega) e4
        omega
    · by_cases es : s = lo
      · omega
      · have hh := k.l (s - 1) (by omega) (by omega)
        have f1 : key (t i) ≤ key (t (s - 1)) := h.s1.le e1 (by omega) (by omega)
        have f2 : key (t (p - (s - 1))) ≤ key (t j) := h.s2.le (by omega) (by omega) e4
        omega
  · by_cases es : s = hi
    · rcases B.h0 with e | e <;> omega
    · have hh := k.u s (Nat.le_refl _) (by omega)
      have f1 : key (t s) ≤ key (t i) := h.s1.le (by omega) e1 e2
      have f2 : key (t j) ≤ key (t (p - s)) := h.s2.le e3 (by omega) (by omega)
      omega
theorem CtB.great {a m b mid : Nat} (h1 : a < m) (h2 : m < b) (hm : mid = (a + b) / 2) (h : mid < m) : CtB a m b mid (mid + m - 1) (mid + m - b) mid :=
  ⟨by omega, by omega, by omega, by omega, by omega, fun c hc => by omega, by omega, .inr (by omega), .inr rfl, Nat.le_refl _⟩
theorem CtB.small {a m b mid : Nat} (h1 : a < m) (h2 : m < b) (hm : mid = (a + b) / 2) (h : ¬ mid < m) : CtB a m b mid (mid + m - 1) a m :=
  ⟨by omega, by omega, by omega, by omega, by omega, fun c hc => by omega, by omega, .inl rfl, .inl rfl, by omega⟩
end Go.Proofs.YtlfepdecgfcifaaGreatDoor

/- Numbers in a block, as they are sorted by turns. -/
namespace Go.Proofs.YtlfepdecgfcifaaGreatDoor
open Go.RowKit
set_option linter.unusedVariables false      -- bounds that are for the walk
variable [OX : OrdX]

/-- numbers by places -/
def NdB (w : World) (g n : Nat) (D : Nat → Int) : Prop := ∃ arr, w.heap[g]? = some (.cells arr 3 (0, 0)) ∧ arr.size = OX.sz ∧ ∀ j : Nat, j < n → arr[j]? = some (.int .i64 (D j))
section
variable {w w' : World} {g n : Nat} {D D' : Nat → Int}
theorem NdB.lt (h : NdB w g n D) : g < w.heap.size := by
  obtain ⟨arr, h, _⟩ := h
  exact ltH h
theorem NdB.at (h : NdB w g n D) {k : Nat} (hk : k < n) : w.cell? ⟨g, k, none⟩ = some (.int .i64 (D k)) := by
  obtain ⟨arr, h, hz, h2⟩ := h
  rw [cell_of_row w g _ _ _ _ h]
  exact h2 k hk
theorem NdB.frz (h : NdB w g n D) (k : Nat) : w.frozen? ⟨g, k, none⟩ = false := by
  obtain ⟨arr, h, _⟩ := h
  simp [World.frozen?, h]
theorem NdB.congr (h : NdB w g n D) (e : ∀ j, j < n → D j = D' j) : NdB w g n D' := by
  obtain ⟨arr, h, hz, h2⟩ := h
  exact ⟨arr, h, hz, fun j hj => by rw [← e j hj]; exact h2 j hj⟩
theorem NdB.keep (h : NdB w g n D) (e : w'.heap[g]? = w.heap[g]?) : NdB w' g n D := by
  obtain ⟨arr, h, h2⟩ := h
  exact ⟨arr, e.trans h, h2⟩
theorem NdB.held (h : NdB w g n D) (hb : Below w.heap.size w w') : NdB w' g n D := h.keep (hb.block g h.lt)
theorem NdB.put (h : NdB w g n D) (x : Nat) (hx : x < n) (v : Int) : NdB (w.setCell ⟨g, x, none⟩ (.int .i64 v)) g n (fun k => if k = x then v else D k) := by
  obtain ⟨arr, h, hz, h2⟩ := h
  have e0 := heap_setCell_same w g x arr 3 (.int .i64 v) h
  refine ⟨_, e0, by simpa using hz, fun j hj => ?_⟩
  have b1 := h2 x hx
  have hs : x < arr.size := by
    rcases Nat.lt_or_ge x arr.size with h | h
    · exact h
    · rw [Array.getElem?_eq_none h] at b1; cases b1
  have a1 := h2 j hj
  by_cases e : j = x
  · subst e
    simp only [if_pos]
    rw [Array.getElem?_setIfInBounds_self_of_lt (by omega)]
  · simp only [if_neg e]
    rw [Array.getElem?_setIfInBounds_ne (by omega)]; exact a1
end
/-- while numbers are sorted: those that were there, as tags tell; the map of turns -/
structure SoAt (w wr : World) (g n : Nat) (D : Nat → Int) (t : Tg) : Prop where
  row : NdB wr g n (fun k => D (t k))
  keep : KeepM w g wr
  mp : MapK wr
  ne1 : OX.mb ≠ g
  ne2 : OX.mo ≠ g
  dm : ∀ k, 0 ≤ D k ∧ D k ≤ 1000000
section
variable {w wr W : World} {g n : Nat} {D : Nat → Int} {t : Tg}
theorem SoAt.held (h : SoAt w wr g n D t) (hb : Below wr.heap.size wr W) : SoAt w W g n D t := ⟨h.row.held hb, h.keep.trans (KeepM.of_below hb), h.mp.held hb, h.ne1, h.ne2, h.dm⟩
theorem SoAt.trans {w1 : World} {t' : Tg} (h : SoAt w w1 g n D t) (h2 : SoAt w1 W g n D t') : SoAt w W g n D t' := ⟨h2.row, h.keep.trans h2.keep, h2.mp, h2.ne1, h2.ne2, h2.dm⟩
theorem SoAt.refl (h : SoAt w wr g n D t) : SoAt wr wr g n D t := ⟨h.row, KeepM.refl _ _, h.mp, h.ne1, h.ne2, h.dm⟩
theorem SoAt.swap (h : SoAt w wr g n D t) {x y : Nat} (hx : x < n) (hy : y < n) : SoAt w ((wr.setCell ⟨g, x, none⟩ (.int .i64 (D (t y)))).setCell ⟨g, y, none⟩ (.int .i64 (D (t x)))) g n D (swapT t x y) := by
  have e1 := h.ne1
  have e2 := h.ne2
  refine ⟨((h.row.put x hx (D (t y))).put y hy (D (t x))).congr (fun j hj => ?_), (h.keep.setCell _ _).setCell _ _, h.mp.keep (by simp [World.setCell]) ((heap_setCell_other _ _ _ _ e1).trans (heap_setCell_other _ _ _ _ e1)) ((heap_setCell_other _ _ _ _ e2).trans (heap_setCell_other _ _ _ _ e2)), e1, e2, h.dm⟩
  unfold swapT
  by_cases e1 : j = y
  · subst e1
    by_cases e2 : j = x
    · subst e2; simp
    · simp [e2]
  · by_cases e2 : j = x
    · subst e2; simp [e1]
    · simp [e1, e2]
end
/-- how nodes are held against each other -/
def ordF : Value := .func (.func 34) #[] #[.pointer (some ⟨OX.mb, 0, none⟩)]
end Go.Proofs.YtlfepdecgfcifaaGreatDoor

/- slices' swapRange and rotate, at numbers. -/
namespace Go.Proofs.YtlfepdecgfcifaaGreatDoor
open Go.RowKit
set_option linter.unusedVariables false      -- bounds that are for the walk
set_option linter.unusedSectionVars false
variable [OX : OrdX]

theorem wrapT {x : Int} (h1 : -9000000000000000000 ≤ x) (h2 : x ≤ 9000000000000000000) : IntKind.i64.wrap x = x := by rw [IntKind.wrap_i64]; omega

set_option maxHeartbeats 4000000 in
set_option maxRecDepth 100000 in
theorem swapRange_any {w : World} {g n cap : Nat} {D : Nat → Int} {t : Tg} (h : SoAt w w g n D t) (hn : n ≤ 100000) {x y c : Nat} (h1 : x + c ≤ y) (h2 : y + c ≤ n) (fv : Value) :
    Calls Tryz.prog 117 #[.slice (some ⟨g, 0, none⟩) n cap, .int .i64 (x : Int), .int .i64 (y : Int), .int .i64 (c : Int), fv] w fun e w' => e = .returned (.tuple #[]) ∧ SoAt w w' g n D (swapR t x y c) := by
  have H0 := hidF h
  clear h
  go_enter Tryz.func117, Tryz.ntmps117
  go_wp2_with fail
  go_loopw [10] (fun iv wr => ∃ k : Nat, k ≤ c ∧ iv = .int .i64 k ∧ Hid (SoAt w wr g n D (swapR t x y k))) (fun iv _ => c - (intOf iv).toNat)
  case atStart => exact ⟨0, Nat.zero_le _, rfl, by show SoAt _ _ _ _ _ _; rw [swapR_zero]; exact H0.out⟩
  case round =>
    obtain ⟨k, hk, rfl, HZ⟩ := hrel
    by_cases hlt : k < c
    · have hlt' : (k : Int) < (c : Int) := by omega
      have gl := HZ.out.row.lt
      have a1 := HZ.out.row.at (k := x + k) (by omega)
      have b1 := HZ.out.row.at (k := y + k) (by omega)
      have f1 := HZ.out.row.frz (x + k)
      have f4 := HZ.out.row.frz (y + k)
      have HN := hidF (HZ.out.swap (x := x + k) (y := y + k) (by omega) (by omega))
      rw [swapR_succ t x y k (by omega)] at HN
      obtain ⟨ds, hd⟩ : ∃ d, D (swapR t x y k (x + k)) = d := ⟨_, rfl⟩
      obtain ⟨es, he⟩ : ∃ d, D (swapR t x y k (y + k)) = d := ⟨_, rfl⟩
      rw [hd] at a1 HN
      rw [he] at b1 HN
      obtain ⟨p, hp⟩ : ∃ p, x + k = p := ⟨_, rfl⟩
      obtain ⟨q, hq⟩ : ∃ q, y + k = q := ⟨_, rfl⟩
      have W1 : IntKind.i64.wrap ((x : Int) + (k : Int)) = (p : Int) := by rw [wrapT (by omega) (by omega)]; omega
      have W2 : IntKind.i64.wrap ((y : Int) + (k : Int)) = (q : Int) := by rw [wrapT (by omega) (by omega)]; omega
      rw [hp] at a1 f1 HN
      rw [hq] at b1 f4 HN
      have i1 : (0 : Int) ≤ (p : Int) := by omega
      have i2 : (p : Int) < (n : Int) := by omega
      have i3 : (0 : Int) ≤ (q : Int) := by omega
      have i4 : (q : Int) < (n : Int) := by omega
      have n1 : ¬ q = p := by omega
      have n2 : ¬ p = q := by omega
      clear hp hq hd he
      obtain ⟨w5, hw5⟩ : ∃ w5, w5 = wr := ⟨_, rfl⟩
      subst hw5
      go_upto_region 3 with fail
      go_region
      all_goals
        go_wp2_with fail
        go_roundw
        case rel => go_light; exact ⟨k + 1, by omega, by go_num, HN.out.held (Below.refl _ _).drew⟩
        case measure => simp [intOf]; omega
    · obtain rfl : k = c := by omega
      have hl2 : ¬ (k : Int) < (k : Int) := by omega
      go_wp2_with fail
      go_returns
      exact ⟨rfl, HZ.out⟩

set_option maxHeartbeats 4000000 in
set_option maxRecDepth 100000 in
theorem rotate_any {w : World} {g n cap : Nat} {D : Nat → Int} {t : Tg} (h : SoAt w w g n D t) (hn : n ≤ 100000) {a m b : Nat} (h1 : a < m) (h2 : m < b) (h3 : b ≤ n) (fv : Value) :
    Calls Tryz.prog 104 #[.slice (some ⟨g, 0, none⟩) n cap, .int .i64 (a : Int), .int .i64 (m : Int), .int .i64 (b : Int), fv] w fun e w' => e = .returned (.tuple #[]) ∧ SoAt w w' g n D (rotF t a m b) := by
  have H0 := hidF h
  have SR := hidF (fun (W : World) (s : Tg) (hs : SoAt W W g n D s) (x y c : Nat) (e1 : x + c ≤ y) (e2 : y + c ≤ n) => swapRange_any (cap := cap) hs hn e1 e2 fv)
  have W1 : IntKind.i64.wrap ((m : Int) - (a : Int)) = ((m - a : Nat) : Int) := by rw [wrapT (by omega) (by omega)]; omega
  have W2 : IntKind.i64.wrap ((b : Int) - (m : Int)) = ((b - m : Nat) : Int) := by rw [wrapT (by omega) (by omega)]; omega
  obtain ⟨i0, hi0⟩ : ∃ i, m - a = i := ⟨_, rfl⟩
  obtain ⟨j0, hj0⟩ : ∃ j, b - m = j := ⟨_, rfl⟩
  rw [hi0] at W1
  rw [hj0] at W2
  have HR : Hid (rotF t (m - i0) m (m + j0) = rotF t a m b) := by show _ = _; rw [← hi0, ← hj0, show m - (m - a) = a by omega, show m + (b - m) = b by omega]
  have i01 : 1 ≤ i0 := by omega
  have i02 : i0 ≤ m := by omega
  have j01 : 1 ≤ j0 := by omega
  have j02 : m + j0 ≤ n := by omega
  clear h hi0 hj0
  go_enter Tryz.func104, Tryz.ntmps104
  go_wp2_with fail
  go_loopw [10, 11] (fun iv jv wr => ∃ (i j : Nat) (s : Tg), 1 ≤ i ∧ i ≤ m ∧ 1 ≤ j ∧ m + j ≤ n ∧ iv = .int .i64 i ∧ jv = .int .i64 j ∧ Hid (SoAt w wr g n D s ∧ rotF s (m - i) m (m + j) = rotF t a m b)) (fun iv jv _ => (intOf iv).toNat + (intOf jv).toNat)
  case atStart => exact ⟨i0, j0, t, i01, i02, j01, j02, rfl, rfl, H0.out, HR.out⟩
  case round =>
    obtain ⟨i, j, s, a1, a2, a3, a4, rfl, rfl, HZ⟩ := hrel
    have W3 : IntKind.i64.wrap ((m : Int) - (i : Int)) = ((m - i : Nat) : Int) := by rw [wrapT (by omega) (by omega)]; omega
    by_cases hij : i = j
    · subst hij
      have SC := hidF (SR.out wr s HZ.out.1.refl (m - i) m i (by omega) a4)
      rw [rot_same s m i a2, HZ.out.2] at SC
      go_wp2_with fail
      refine SC.out.mono ?_
      rintro e w1 ⟨rfl, hw1⟩
      have H1 := hidF (HZ.out.1.trans hw1)
      clear hw1
      go_wp2_with fail
      go_returns
      exact ⟨rfl, H1.out⟩
    · have hne : ((i : Int) == (j : Int)) = false := by simp; omega
      by_cases hlt : j < i
      · have hlt' : (j : Int) < (i : Int) := by omega
        have SC := hidF (SR.out wr s HZ.out.1.refl (m - i) m j (by omega) a4)
        have W4 : IntKind.i64.wrap ((i : Int) - (j : Int)) = ((i - j : Nat) : Int) := by rw [wrapT (by omega) (by omega)]; omega
        have HE := hidF (rot_left s m i j a2 hlt)
        go_wp2_with fail
        refine SC.out.mono ?_
        rintro e w1 ⟨rfl, hw1⟩
        have H1 := hidF (HZ.out.1.trans hw1)
        clear hw1
        go_wp2_with fail
        go_roundw
        case rel =>
          go_light
          refine ⟨i - j, j, _, by omega, by omega, by omega, by omega, by first | rfl | go_num, rfl, H1.out, ?_⟩
          rw [HE.out, HZ.out.2]
        case measure => simp [intOf]; omega
      · have hlt' : ¬ (j : Int) < (i : Int) := by omega
        have W5 : IntKind.i64.wrap ((m : Int) + (j : Int)) = ((m + j : Nat) : Int) := by rw [wrapT (by omega) (by omega)]; omega
        have W6 : IntKind.i64.wrap ((m : Int) + (j : Int) - (i : Int)) = ((m + j - i : Nat) : Int) := by rw [wrapT (by omega) (by omega)]; omega
        have SC := hidF (SR.out wr s HZ.out.1.refl (m - i) (m + j - i) i (by omega) (by omega))
        have W4 : IntKind.i64.wrap ((j : Int) - (i : Int)) = ((j - i : Nat) : Int) := by rw [wrapT (by omega) (by omega)]; omega
        have HE := hidF (rot_right s m i j a2 (by omega))
        go_wp2_with fail
        refine SC.out.mono ?_
        rintro e w1 ⟨rfl, hw1⟩
        have H1 := hidF (HZ.out.1.trans hw1)
        clear hw1
        go_wp2_with fail
        go_roundw
        case rel =>
          go_light
          refine ⟨i, j - i, _, by omega, by omega, by omega, by omega, rfl, by first | rfl | go_num, H1.out, ?_⟩
          rw [HE.out, HZ.out.2]
        case measure => simp [intOf]; omega
end Go.Proofs.YtlfepdecgfcifaaGreatDoor
