/- The plain mathematics of a text that is parted between two runes: the runes of the head and of the tail are the whole's, so their widths add up. No conditions. -/
import Derived.Test.YtpembplhhgimeaaPlain
namespace Go.Proofs.Ytpembplhhgimeaa

theorem ext_size (s : ByteArray) (a e : Nat) (h : a ≤ e ∧ e ≤ s.size) : (s.extract a e).size = e - a := by
  simp [ByteArray.size_extract]; omega
theorem ext_get (s : ByteArray) (a e j : Nat) (h : a + j < e) (he : e ≤ s.size) : (s.extract a e).get! j = s.get! (a + j) := by
  have h1 : j < (s.extract a e).size := by rw [ext_size s a e (by omega)]; omega
  have e1 : (s.extract a e).get! j = (s.extract a e)[j]'h1 := get_at _ _ h1
  have e2 : s.get! (a + j) = s[a + j]'(by omega) := get_at s (a + j) (by omega)
  rw [e1, e2]
  simp [ByteArray.getElem_extract]

theorem bAt_ext (s : ByteArray) (a e : Nat) (i : Int) (h0 : 0 ≤ i) (h : a ≤ e ∧ e ≤ s.size) : bAt (s.extract a e) i = if i < ((e - a : Nat) : Int) then bAt s (a + i) else -1 := by
  unfold bAt
  rw [ext_size s a e h]
  by_cases hi : i < ((e - a : Nat) : Int)
  · rw [if_pos ⟨h0, hi⟩, if_pos hi, if_pos (by omega), ext_get s a e i.toNat (by omega) h.2, show ((a : Int) + i).toNat = a + i.toNat by omega]
  · rw [if_neg (by omega), if_neg hi]

set_option maxHeartbeats 4000000 in
theorem rune4_cut (a b c d b' c' d' m : Int) (hb : b' = b ∨ b' = -1 ∧ m ≤ 1) (hc : c' = c ∨ c' = -1 ∧ m ≤ 2) (hd : d' = d ∨ d' = -1 ∧ m ≤ 3) (h : (rune4 a b c d).2 ≤ m) : rune4 a b' c' d' = rune4 a b c d := by
  by_cases h1 : a < 128
  · simp only [rune4, if_pos h1]
  · have key : ∀ lo hi : Int, 128 ≤ lo → (¬ (lo ≤ b ∧ b ≤ hi)) → ¬ (lo ≤ b' ∧ b' ≤ hi) := by intro lo hi hl; omega
    revert h
    simp only [rune4, if_neg h1]
    generalize hlo : (if a = 224 then (160 : Int) else if a = 240 then 144 else 128) = lo
    generalize hhi : (if a = 237 then (159 : Int) else if a = 244 then 143 else 191) = hi
    have hl : 128 ≤ lo := by rw [← hlo]; repeat' split
                             all_goals omega
    clear hlo hhi
    by_cases h2 : lo ≤ b ∧ b ≤ hi
    · rw [if_neg (by omega : ¬ ¬ (lo ≤ b ∧ b ≤ hi))]
      by_cases h3 : 194 ≤ a ∧ a ≤ 223
      · rw [if_pos h3]; intro h; simp only [] at h
        have : b' = b := by omega
        rw [this, if_neg (by omega : ¬ ¬ (lo ≤ b ∧ b ≤ hi)), if_pos h3]
      · rw [if_neg h3]
        by_cases h4 : (224 ≤ a ∧ a ≤ 239) ∧ (128 ≤ c ∧ c ≤ 191)
        · rw [if_pos h4]; intro h; simp only [] at h
          have e1 : b' = b := by omega
          have e2 : c' = c := by omega
          rw [e1, e2, if_neg (by omega : ¬ ¬ (lo ≤ b ∧ b ≤ hi)), if_neg h3, if_pos h4]
        · rw [if_neg h4]
          by_cases h5 : ((240 ≤ a ∧ a ≤ 244) ∧ (128 ≤ c ∧ c ≤ 191)) ∧ (128 ≤ d ∧ d ≤ 191)
          · rw [if_pos h5]; intro h; simp only [] at h
            have e1 : b' = b := by omega
            have e2 : c' = c := by omega
            have e3 : d' = d := by omega
            rw [e1, e2, e3, if_neg (by omega : ¬ ¬ (lo ≤ b ∧ b ≤ hi)), if_neg h3, if_neg h4, if_pos h5]
          · rw [if_neg h5]; intro _
            by_cases h6 : ¬ (lo ≤ b' ∧ b' ≤ hi)
            · rw [if_pos h6]
            · rw [if_neg h6, if_neg h3, if_neg (by omega), if_neg (by omega)]
    · rw [if_pos h2]; intro _
      rw [if_pos (key lo hi hl h2)]

theorem decode_head (s : ByteArray) (p pos : Nat) (hp : p ≤ s.size) (hpos : pos < p) (h : pos + (Utf8.decode s pos).2 ≤ p) : Utf8.decode (s.extract 0 p) pos = Utf8.decode s pos := by
  have hz : (s.extract 0 p).size = p := by rw [ext_size s 0 p (by omega)]; omega
  have r1 := rune_decode (s.extract 0 p) pos (by omega)
  have r2 := rune_decode s pos (by omega)
  have hcut : runeI (s.extract 0 p) pos = runeI s pos := by
    unfold runeI
    have e0 : bAt (s.extract 0 p) (pos : Int) = bAt s pos := by rw [bAt_ext s 0 p _ (by omega) (by omega), if_pos (by omega)]; simp
    have ek : ∀ k : Nat, bAt (s.extract 0 p) ((pos : Int) + k) = bAt s ((pos : Int) + k) ∨ bAt (s.extract 0 p) ((pos : Int) + k) = -1 ∧ ((p : Int) - pos) ≤ k := by
      intro k
      rw [bAt_ext s 0 p _ (by omega) (by omega)]
      by_cases hk : ((pos : Int) + k) < ((p - 0 : Nat) : Int)
      · rw [if_pos hk]; exact .inl (by simp)
      · rw [if_neg hk]; exact .inr ⟨rfl, by omega⟩
    rw [e0]
    refine rune4_cut _ _ _ _ _ _ _ ((p : Int) - pos) (ek 1) (ek 2) (ek 3) ?_
    have := congrArg Prod.snd r2
    simp only [runeI] at this
    rw [this]; omega
  rw [r1, r2] at hcut
  simp only [Prod.mk.injEq] at hcut
  exact Prod.ext (by omega) (by omega)

theorem decode_tail (s : ByteArray) (p pos : Nat) (h : p + pos < s.size) : Utf8.decode (s.extract p s.size) pos = Utf8.decode s (p + pos) := by
  have hz : (s.extract p s.size).size = s.size - p := ext_size s p s.size (by omega)
  have r1 := rune_decode (s.extract p s.size) pos (by omega)
  have r2 := rune_decode s (p + pos) h
  have hcut : runeI (s.extract p s.size) pos = runeI s ((p + pos : Nat) : Int) := by
    unfold runeI
    have ek : ∀ k : Int, 0 ≤ k → bAt (s.extract p s.size) ((pos : Int) + k) = bAt s (((p + pos : Nat) : Int) + k) := by
      intro k hk
      rw [bAt_ext s p s.size _ (by omega) (by omega)]
      by_cases hk2 : ((pos : Int) + k) < ((s.size - p : Nat) : Int)
      · rw [if_pos hk2]; congr 1; omega
      · rw [if_neg hk2]; unfold bAt; rw [if_neg (by omega)]
    have e0 := ek 0 (by omega)
    rw [Int.add_zero, Int.add_zero] at e0
    rw [e0, ek 1 (by omega), ek 2 (by omega), ek 3 (by omega)]
  rw [r1, r2] at hcut
  simp only [Prod.mk.injEq] at hcut
  exact Prod.ext (by omega) (by omega)

theorem place_in (s : ByteArray) : ∀ f pos, ∀ x ∈ runesFrom s f pos, pos ≤ x.1 ∧ x.1 < s.size
  | 0, _ => by simp [runesFrom]
  | f + 1, pos => by
    intro x hx
    by_cases h : pos < s.size
    · rw [runesFrom_step s f pos h] at hx
      rcases List.mem_cons.1 hx with rfl | hx
      · exact ⟨Nat.le_refl _, h⟩
      · have := place_in s f _ x hx; omega
    · rw [runesFrom_end s _ pos h] at hx; cases hx

theorem runes_head (s : ByteArray) : ∀ (f pos k : Nat) (h : k < (runesFrom s f pos).length) (f' : Nat), k ≤ f' → runesFrom (s.extract 0 (runesFrom s f pos)[k].1) f' pos = (runesFrom s f pos).take k := by
  intro f
  induction f with
  | zero => intro pos k h; simp [runesFrom] at h
  | succ f ih =>
    intro pos k h f' hf
    have hin := place_in s _ _ _ (List.getElem_mem h)
    have hp : pos < s.size := by omega
    have hz : (s.extract 0 (runesFrom s (f + 1) pos)[k].1).size = (runesFrom s (f + 1) pos)[k].1 := by rw [ext_size s 0 _ (by omega)]; omega
    cases k with
    | zero =>
      rw [List.take_zero]
      refine runesFrom_end _ _ _ ?_
      rw [hz]; simp [runesFrom_step s f pos hp]
    | succ k =>
      have hl : k < (runesFrom s f (pos + (Utf8.decode s pos).2)).length := by simpa [runesFrom_step s f pos hp] using h
      have eg : (runesFrom s (f + 1) pos)[k + 1].1 = (runesFrom s f (pos + (Utf8.decode s pos).2))[k].1 := by simp [runesFrom_step s f pos hp]
      have hin2 := place_in s _ _ _ (List.getElem_mem hl)
      have hw := decode_pos s pos hp
      obtain ⟨g, rfl⟩ : ∃ g, f' = g + 1 := ⟨f' - 1, by omega⟩
      have hi := ih (pos + (Utf8.decode s pos).2) k hl g (by omega)
      rw [eg] at hz ⊢
      have hd := decode_head s _ pos (by omega) (by omega) hin2.1
      rw [runesFrom_step _ g pos (by omega), hd, hi, runesFrom_step s f pos hp, List.take_succ_cons]

theorem runes_tail (s : ByteArray) (p : Nat) : ∀ (f q f' : Nat), s.size ≤ p + q + f → s.size ≤ p + q + f' → (runesFrom (s.extract p s.size) f q).map Prod.snd = (runesFrom s f' (p + q)).map Prod.snd := by
  intro f
  induction f with
  | zero =>
    intro q f' h1 h2
    rw [runesFrom_end s f' (p + q) (by omega)]; simp [runesFrom]
  | succ f ih =>
    intro q f' h1 h2
    by_cases h : p + q < s.size
    · have hz : (s.extract p s.size).size = s.size - p := ext_size s p s.size (by omega)
      obtain ⟨g, rfl⟩ : ∃ g, f' = g + 1 := ⟨f' - 1, by omega⟩
      have hw := decode_pos s (p + q) h
      rw [runesFrom_step _ f q (by omega), runesFrom_step s g (p + q) h, decode_tail s p q h, List.map_cons, List.map_cons, ih (q + (Utf8.decode s (p + q)).2) g (by omega) (by omega), Nat.add_assoc]
    · rw [runesFrom_end s f' (p + q) h]
      by_cases hp : p ≤ s.size
      · rw [runesFrom_end _ _ q (by rw [ext_size s p s.size (by omega)]; omega)]
      · rw [runesFrom_end _ _ q (by simp [ByteArray.size_extract]; omega)]

theorem runes_drop (s : ByteArray) : ∀ (f pos k : Nat) (h : k < (runesFrom s f pos).length), (runesFrom s f pos).drop k = runesFrom s (f - k) (runesFrom s f pos)[k].1 := by
  intro f
  induction f with
  | zero => intro pos k h; simp [runesFrom] at h
  | succ f ih =>
    intro pos k h
    have hin := place_in s _ _ _ (List.getElem_mem h)
    have hp : pos < s.size := by omega
    cases k with
    | zero => simp [runesFrom_step s f pos hp]
    | succ k =>
      have hl : k < (runesFrom s f (pos + (Utf8.decode s pos).2)).length := by simpa [runesFrom_step s f pos hp] using h
      have := ih (pos + (Utf8.decode s pos).2) k hl
      simp only [runesFrom_step s f pos hp, List.drop_succ_cons, List.getElem_cons_succ, Nat.add_sub_add_right]
      exact this

theorem place_ge (s : ByteArray) : ∀ (f pos k : Nat) (h : k < (runesFrom s f pos).length), pos + k ≤ (runesFrom s f pos)[k].1 := by
  intro f
  induction f with
  | zero => intro pos k h; simp [runesFrom] at h
  | succ f ih =>
    intro pos k h
    have hin := place_in s _ _ _ (List.getElem_mem h)
    have hp : pos < s.size := by omega
    cases k with
    | zero => simp [runesFrom_step s f pos hp]
    | succ k =>
      have hl : k < (runesFrom s f (pos + (Utf8.decode s pos).2)).length := by simpa [runesFrom_step s f pos hp] using h
      have := ih (pos + (Utf8.decode s pos).2) k hl
      have hw := decode_pos s pos hp
      simp only [runesFrom_step s f pos hp, List.getElem_cons_succ]
      omega

theorem wsum_congr (z : Int) (l m : List (Nat × Nat)) (h : l.map Prod.snd = m.map Prod.snd) : wsum z l = wsum z m := by
  have e : ∀ l : List (Nat × Nat), wsum z l = ((l.map Prod.snd).map fun r : Nat => z * adv (r : Int) / 1000).sum := by
    intro l; simp [wsum, Function.comp_def]
  rw [e, e, h]

/-- a text is as wide as its two parts, wherever it is parted between runes -/
theorem parts (z : Int) (s : ByteArray) (k : Nat) (h : k < (runes s).length) :
    (runes s)[k].1 < s.size ∧ wsum z (runes (s.extract 0 (runes s)[k].1)) + wsum z (runes (s.extract (runes s)[k].1 s.size)) = wsum z (runes s) := by
  have hin := place_in s _ _ _ (List.getElem_mem h)
  refine ⟨hin.2, ?_⟩
  have hge : 0 + k ≤ (runes s)[k].1 := place_ge s _ _ _ h
  have hz : (s.extract 0 (runes s)[k].1).size = (runes s)[k].1 := by rw [ext_size s 0 _ (by omega)]; omega
  have hz2 : (s.extract (runes s)[k].1 s.size).size = s.size - (runes s)[k].1 := ext_size s _ _ (by omega)
  have h1 : runes (s.extract 0 (runes s)[k].1) = (runes s).take k := by
    have := runes_head s s.size 0 k h (s.extract 0 (runes s)[k].1).size (by omega)
    exact this
  have h2 : wsum z (runes (s.extract (runes s)[k].1 s.size)) = wsum z ((runes s).drop k) := by
    refine wsum_congr z _ _ ?_
    have hd : (runes s).drop k = runesFrom s (s.size - k) (runes s)[k].1 := runes_drop s s.size 0 k h
    rw [hd]
    exact runes_tail s (runes s)[k].1 _ 0 _ (by omega) (by omega)
  rw [h1, h2, ← wsum_append, List.take_append_drop]
end Go.Proofs.Ytpembplhhgimeaa
