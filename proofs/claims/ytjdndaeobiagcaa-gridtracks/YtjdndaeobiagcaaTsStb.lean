/- slices' SortStableFunc, at needs: sixty at most. -/
import Derived.Test.YtjdndaeobiagcaaTsSymC
namespace Go.Proofs.Ytjdndaeobiagcaa
open Go.RowKit
set_option linter.unusedVariables false      -- bounds that are for the walk

/-- nothing goes past place c -/
def TgC (n c : Nat) (t : Tg) : Prop := ∀ i, i < n → (i < c ↔ t i < c)
theorem TgC.prm {n c a b : Nat} {t t' : Tg} (h : TgC n c t) (p : Prm a b t t') (hb : b ≤ n) (hc : b ≤ c ∨ c ≤ a) : TgC n c t' := by
  intro i hi
  by_cases e : a ≤ i ∧ i < b
  · obtain ⟨j, j1, j2, j3⟩ := p.fro i e.1 e.2
    rw [j3]
    have := h j (by omega)
    omega
  · rw [p.out i (by omega)]
    exact h i hi
/-- the first k blocks of twenty are sorted -/
structure FB (key : Nat → Int) (n k : Nat) (t : Tg) : Prop where
  s1 : 1 ≤ k → Srt key t 0 20
  s2 : 2 ≤ k → Srt key t 20 40
  s3 : 3 ≤ k → Srt key t 40 60
  un : ∀ i, 20 * k ≤ i → t i = i
  t20 : TgC n 20 t
  t40 : TgC n 40 t
  prm : Prm 0 n (fun i => i) t
theorem FB.start (key : Nat → Int) (n : Nat) : FB key n 0 (fun i => i) :=
  ⟨fun h => by omega, fun h => by omega, fun h => by omega, fun _ _ => rfl, fun _ _ => Iff.rfl, fun _ _ => Iff.rfl, Prm.refl _ _ _⟩
theorem FB.step {key : Nat → Int} {n k : Nat} {t t' : Tg} (h : FB key n k t) (hk : 20 * k + 20 ≤ n) (hn : n ≤ 60) (hs : Srt key t' (20 * k) (20 * k + 20)) (p : Prm (20 * k) (20 * k + 20) t t') : FB key n (k + 1) t' := by
  refine ⟨fun e => ?_, fun e => ?_, fun e => ?_, fun i hi => by rw [p.out i (.inr (by omega))]; exact h.un i (by omega), h.t20.prm p hk (by omega), h.t40.prm p hk (by omega), h.prm.trans (p.mono (by omega) hk)⟩
  · by_cases e2 : k = 0
    · subst e2; exact hs
    · exact (h.s1 (by omega)).congr (fun i e1 e3 => p.out i (.inl (by omega)))
  · by_cases e2 : k = 1
    · subst e2; exact hs
    · exact (h.s2 (by omega)).congr (fun i e1 e3 => p.out i (.inl (by omega)))
  · by_cases e2 : k = 2
    · subst e2; exact hs
    · omega
/-- blocks of a size are sorted -/
structure Run (key : Nat → Int) (n B : Nat) (t : Tg) : Prop where
  b : B = 20 ∨ B = 40 ∨ B = 80
  r20 : B = 20 → (Srt key t 0 (min 20 n) ∧ Srt key t 20 (min 40 n) ∧ Srt key t 40 n ∧ TgC n 20 t ∧ TgC n 40 t)
  r40 : B = 40 → (Srt key t 0 (min 40 n) ∧ Srt key t 40 n ∧ TgC n 40 t)
  r80 : B = 80 → Srt key t 0 n
  prm : Prm 0 n (fun i => i) t
theorem FB.run {key : Nat → Int} {n k : Nat} {t t' : Tg} (h : FB key n k t) (hk : 20 * k ≤ n) (hk2 : n < 20 * k + 20) (hn : n ≤ 60) (hs : Srt key t' (20 * k) n) (p : Prm (20 * k) n t t') : Run key n 20 t' := by
  refine ⟨.inl rfl, fun _ => ⟨?_, ?_, ?_, h.t20.prm p (Nat.le_refl _) (by omega), h.t40.prm p (Nat.le_refl _) (by omega)⟩, fun e => by omega, fun e => by omega, h.prm.trans (p.mono (by omega) (Nat.le_refl _))⟩
  · by_cases e : k = 0
    · subst e; exact hs.mono (by omega) (by omega)
    · exact ((h.s1 (by omega)).congr (fun i e1 e3 => p.out i (.inl (by omega)))).mono (Nat.le_refl _) (by omega)
  · by_cases e : k = 1
    · subst e; exact hs.mono (by omega) (by omega)
    · by_cases e2 : k = 0
      · intro i j e1 e2 e3; omega
      · exact ((h.s2 (by omega)).congr (fun i e1 e3 => p.out i (.inl (by omega)))).mono (Nat.le_refl _) (by omega)
  · by_cases e : k = 2
    · subst e; exact hs
    · by_cases e2 : k = 3
      · subst e2
        exact ((h.s3 (by omega)).congr (fun i e1 e3 => p.out i (.inl (by omega)))).mono (Nat.le_refl _) (by omega)
      · intro i j e1 e2 e3; omega
theorem Run.sym20 {key : Nat → Int} {n m : Nat} {t : Tg} (h : Run key n 20 t) (h1 : 20 < m) (h2 : m ≤ min 40 n) : Sym key t 0 20 m := by
  obtain ⟨s1, s2, s3, c1, c2⟩ := h.r20 rfl
  refine ⟨by omega, h1, s1.mono (Nat.le_refl _) (by omega), s2.mono (Nat.le_refl _) h2, fun i j e1 e2 e3 e4 => ?_⟩
  have := c1 i (by omega); have := c1 j (by omega)
  omega
theorem Run.next20 {key : Nat → Int} {n m : Nat} {t t' : Tg} (h : Run key n 20 t) (h1 : 20 < m) (h2 : m = min 40 n) (hs : Srt key t' 0 m) (p : Prm 0 m t t') : Run key n 40 t' := by
  obtain ⟨s1, s2, s3, c1, c2⟩ := h.r20 rfl
  refine ⟨.inr (.inl rfl), fun e => by omega, fun _ => ⟨by rw [← h2]; exact hs, s3.congr (fun i e1 e3 => p.out i (.inr (by omega))), c2.prm p (by omega) (by omega)⟩, fun e => by omega, h.prm.trans (p.mono (Nat.le_refl _) (by omega))⟩
theorem Run.sym40 {key : Nat → Int} {n : Nat} {t : Tg} (h : Run key n 40 t) (h1 : 40 < n) : Sym key t 0 40 n := by
  obtain ⟨s1, s3, c2⟩ := h.r40 rfl
  refine ⟨by omega, h1, s1.mono (Nat.le_refl _) (by omega), s3, fun i j e1 e2 e3 e4 => ?_⟩
  have := c2 i (by omega); have := c2 j (by omega)
  omega
theorem Run.next40 {key : Nat → Int} {n : Nat} {t t' : Tg} (h : Run key n 40 t) (hs : Srt key t' 0 n) (p : Prm 0 n t t') : Run key n 80 t' :=
  ⟨.inr (.inr rfl), fun e => by omega, fun e => by omega, fun _ => hs, h.prm.trans p⟩
theorem Run.done {key : Nat → Int} {n B : Nat} {t : Tg} (h : Run key n B t) (hB : n ≤ B) (hn : n ≤ 60) : Srt key t 0 n := by
  rcases h.b with e | e | e
  · subst e
    exact (h.r20 rfl).1.mono (Nat.le_refl _) (by omega)
  · subst e
    exact (h.r40 rfl).1.mono (Nat.le_refl _) (by omega)
  · subst e
    exact h.r80 rfl

/-- while blocks of twenty are merged -/
def InB (key : Nat → Int) (n x y : Nat) (s : Tg) : Prop := (x = 0 ∧ y = 40 ∧ Run key n 20 s) ∨ (x = 40 ∧ y = 80 ∧ 40 ≤ n ∧ Run key n 40 s)

set_option maxHeartbeats 4000000 in
set_option maxRecDepth 100000 in
theorem stable_any {w : World} {g n cap : Nat} {D : Nat → Nd3} (h : SoAt w w g n D (fun i => i)) (hn : n ≤ 60) :
    Calls Try.prog 89 #[.slice (some ⟨g, 0, none⟩) n cap, .int .i64 (n : Int), needF] w fun e w' => e = .returned (.tuple #[]) ∧ ∃ t', SoAt w w' g n D t' ∧ Srt (keyD D) t' 0 n ∧ Prm 0 n (fun i => i) t' := by
  have H0 := hidF h
  have IS := hidF (fun (W : World) (s : Tg) (hs : SoAt W W g n D s) (a b : Nat) (e1 : a ≤ b) (e2 : b ≤ n) (e3 : ∀ p q, a ≤ p → p < q → q < b → s p < s q) => insertion_any (cap := cap) hs (by omega) e1 e2 e3)
  have SM := hidF (fun (W : World) (s : Tg) (a m b : Nat) (hs : SoAt W W g n D s) (hy : Sym (keyD D) s a m b) (e2 : b ≤ n) => symMerge_any (cap := cap) (by omega) (b - a + 1) W s a m b hs hy e2 (by omega))
  clear h
  unfold needF at *
  go_enter Try.func89, Try.ntmps89
  go_wp2_with fail
  go_loopw [7, 8] (fun av bv wr => ∃ (k : Nat) (s : Tg) (x y : Nat), av = .int .i64 (x : Int) ∧ bv = .int .i64 (y : Int) ∧ x = 20 * k ∧ y = 20 * k + 20 ∧ x ≤ n ∧ Hid (SoAt w wr g n D s ∧ FB (keyD D) n k s)) (fun av _ _ => n + 1 - (intV av).toNat)
  case atStart => exact ⟨0, _, 0, 20, rfl, rfl, rfl, rfl, Nat.zero_le _, H0.out, FB.start _ _⟩
  case round =>
    obtain ⟨k, s, x, y, rfl, rfl, hx, hy, hxn, HZ⟩ := hrel
    have HXY := hidF (And.intro hx hy)
    have hyx : y ≤ x + 20 := by omega
    have hk60 : k ≤ 3 := by omega
    clear hx hy
    by_cases hle : y ≤ n
    · have hle' : (y : Int) ≤ (n : Int) := by omega
      have W1 : IntKind.i64.wrap ((y : Int) + 20) = ((y + 20 : Nat) : Int) := by rw [wrapT (by omega) (by omega)]; omega
      have IC := hidF (IS.out wr s HZ.out.1.refl x y (by have := HXY.out; omega) hle (fun p q e1 e2 e3 => by have := HXY.out; rw [HZ.out.2.un p (by omega), HZ.out.2.un q (by omega)]; exact e2))
      go_wp2_with fail
      refine IC.out.mono ?_
      rintro e w1 ⟨rfl, s', hw1, q1, q2⟩
      have H1 : Hid (SoAt w w1 g n D s' ∧ FB (keyD D) n (k + 1) s') := ⟨HZ.out.1.trans hw1, HZ.out.2.step (by have := HXY.out; omega) hn (by rw [← HXY.out.1, show x + 20 = y by have := HXY.out; omega]; exact q1) (by rw [← HXY.out.1, show x + 20 = y by have := HXY.out; omega]; exact q2)⟩
      clear hw1 q1 q2
      go_wp2_with fail
      go_roundw
      case rel => go_light; exact ⟨k + 1, s', y, y + 20, rfl, by go_num, by have := HXY.out; omega, by have := HXY.out; omega, by omega, H1.out.1, H1.out.2⟩
      case measure => simp [intV]; have := HXY.out; omega
    · have hle' : ¬ (y : Int) ≤ (n : Int) := by omega
      have IC := hidF (IS.out wr s HZ.out.1.refl x n hxn (Nat.le_refl _) (fun p q e1 e2 e3 => by have := HXY.out; rw [HZ.out.2.un p (by omega), HZ.out.2.un q (by omega)]; exact e2))
      go_wp2_with fail
      refine IC.out.mono ?_
      rintro e w1 ⟨rfl, s', hw1, q1, q2⟩
      have H1 : Hid (SoAt w w1 g n D s' ∧ Run (keyD D) n 20 s') := ⟨HZ.out.1.trans hw1, HZ.out.2.run (by have := HXY.out; omega) (by have := HXY.out; omega) hn (by rw [← HXY.out.1]; exact q1) (by rw [← HXY.out.1]; exact q2)⟩
      clear hw1 q1 q2 HZ IC
      go_wp2_with fail
      go_loopw [6] (fun bv wr => ∃ (B : Nat) (s : Tg), bv = .int .i64 (B : Int) ∧ (B = 20 ∨ B = 40 ∨ B = 80) ∧ Hid (SoAt w wr g n D s ∧ Run (keyD D) n B s)) (fun bv _ => 100 - (intV bv).toNat)
      case atStart => exact ⟨20, s', rfl, .inl rfl, H1.out.1, H1.out.2⟩
      case round =>
        obtain ⟨B, s, rfl, hB, HZ⟩ := hrel
        by_cases hlt : B < n
        · have hlt' : (B : Int) < (n : Int) := by omega
          obtain ⟨w5, hw5⟩ : ∃ w5, w5 = wr := ⟨_, rfl⟩
          subst hw5
          rcases hB with rfl | rfl | rfl
          · rw [show ((20 : Nat) : Int) = 20 from rfl]
            have h20' : (20 : Int) < (n : Int) := by omega
            go_wp2_with fail
            go_loopw [7, 8] (fun av bv wr => ∃ (x y : Nat) (s1 : Tg), av = .int .i64 (x : Int) ∧ bv = .int .i64 (y : Int) ∧ Hid (SoAt w wr g n D s1 ∧ InB (keyD D) n x y s1)) (fun av _ _ => 100 - (intV av).toNat)
            case atStart => exact ⟨0, 40, s, rfl, rfl, HZ.out.1, .inl ⟨rfl, rfl, HZ.out.2⟩⟩
            case round =>
              obtain ⟨x, y, s1, rfl, rfl, HY0⟩ := hrel
              obtain ⟨hso, hxy⟩ := HY0.out
              clear HY0
              rcases hxy with ⟨rfl, rfl, hR⟩ | ⟨rfl, rfl, h40, hR⟩
              · have HY := hidF (And.intro hso hR)
                clear hso hR
                by_cases h40 : 40 ≤ n
                · have h40' : (40 : Int) ≤ (n : Int) := by omega
                  have SC := hidF (SM.out wr s1 0 20 40 HY.out.1.refl (HY.out.2.sym20 (by omega) (by omega)) h40)
                  go_wp2_with fail
                  refine SC.out.mono ?_
                  rintro e w1 ⟨rfl, s2, hw1, q1, q2⟩
                  have H2 : Hid (SoAt w w1 g n D s2 ∧ Run (keyD D) n 40 s2) := ⟨HY.out.1.trans hw1, HY.out.2.next20 (m := 40) (by omega) (by omega) q1 q2⟩
                  clear hw1 q1 q2
                  go_wp2_with fail
                  go_roundw
                  case rel => go_light; exact ⟨40, 80, s2, rfl, rfl, H2.out.1, .inr ⟨rfl, rfl, h40, H2.out.2⟩⟩
                  case measure => simp [intV]
                · have h40' : ¬ (40 : Int) ≤ (n : Int) := by omega
                  have SC := hidF (SM.out wr s1 0 20 n HY.out.1.refl (HY.out.2.sym20 (by omega) (by omega)) (Nat.le_refl _))
                  go_wp2_with fail
                  refine SC.out.mono ?_
                  rintro e w1 ⟨rfl, s2, hw1, q1, q2⟩
                  have H2 : Hid (SoAt w w1 g n D s2 ∧ Run (keyD D) n 40 s2) := ⟨HY.out.1.trans hw1, HY.out.2.next20 (m := n) (by omega) (by omega) q1 q2⟩
                  clear hw1 q1 q2
                  go_wp2_with fail
                  go_roundw
                  case rel => go_light; exact ⟨40, s2, rfl, .inr (.inl rfl), H2.out.1, H2.out.2⟩
                  case measure => simp [intV]
              · have h80' : ¬ (80 : Int) ≤ (n : Int) := by omega
                have h60' : ¬ (60 : Int) < (n : Int) := by omega
                have HY := hidF (And.intro hso hR)
                clear hso hR
                go_wp2_with fail
                go_roundw
                case rel => go_light; exact ⟨40, s1, rfl, .inr (.inl rfl), HY.out.1, HY.out.2⟩
                case measure => simp [intV]
          · have h80' : ¬ (80 : Int) ≤ (n : Int) := by omega
            have h40' : (40 : Int) < (n : Int) := by omega
            have SC := hidF (SM.out w5 s 0 40 n HZ.out.1.refl (HZ.out.2.sym40 hlt) (Nat.le_refl _))
            go_wp2_with fail
            go_loopw [7, 8] (fun av bv wr => av = .int .i64 0 ∧ bv = .int .i64 80 ∧ wr = w5) (fun _ _ _ => 0)
            case atStart => exact ⟨rfl, rfl, rfl⟩
            case round =>
              obtain ⟨rfl, rfl, hwr⟩ := hrel
              have hwy := hwr.symm
              clear hwr
              subst hwy
              go_wp2_with fail
              refine SC.out.mono ?_
              rintro e w1 ⟨rfl, s2, hw1, q1, q2⟩
              have H2 : Hid (SoAt w w1 g n D s2 ∧ Run (keyD D) n 80 s2) := ⟨HZ.out.1.trans hw1, HZ.out.2.next40 q1 q2⟩
              clear hw1 q1 q2
              go_wp2_with fail
              go_roundw
              case rel => go_light; exact ⟨80, s2, rfl, .inr (.inr rfl), H2.out.1, H2.out.2⟩
              case measure => simp [intV]
          · omega
        · have hlt' : ¬ (B : Int) < (n : Int) := by omega
          have HD := hidF (HZ.out.2.done (by omega) hn)
          go_wp2_with fail
          go_returns
          exact ⟨rfl, s, HZ.out.1, HD.out, HZ.out.2.prm⟩

set_option maxHeartbeats 1000000 in
theorem sortStable_any {w : World} {g n cap : Nat} {D : Nat → Nd3} (h : NdB w g n D) (hn : n ≤ 60) :
    Calls Try.prog 77 #[.slice (some ⟨g, 0, none⟩) n cap, needF] w fun e w' => e = .returned (.tuple #[]) ∧ ∃ t', SoAt w w' g n D t' ∧ Srt (keyD D) t' 0 n ∧ Prm 0 n (fun i => i) t' := by
  have ST := hidF (stable_any (cap := cap) (D := D) ⟨h, KeepM.refl w g⟩ hn)
  clear h
  unfold needF at *
  go_enter Try.func77, Try.ntmps77
  go_wp2_with fail
  refine ST.out.mono ?_
  rintro e w1 ⟨rfl, s, h1, h2, h3⟩
  go_wp2_with fail
  go_returns
  exact ⟨rfl, s, h1, h2, h3⟩
end Go.Proofs.Ytjdndaeobiagcaa
