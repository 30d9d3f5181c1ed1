/- slices' SortStableFunc, at numbers: sixty at most. -/
import Derived.Test.YtlfepdecgfcifaaGreatDoorM16
import Derived.Test.YtlfepdecgfcifaaGreatDoorM12
namespace Go.Proofs.YtlfepdecgfcifaaGreatDoor
open Go.RowKit
set_option linter.unusedVariables false      -- bounds that are for the walk
set_option linter.unusedSectionVars false
variable [OX : OrdX]

/-- nothing goes past place c -/
def TgC (n c : Nat) (t : Tg) : Prop := ∀ i, i < n → (i < c ↔ t i < c)
theorem TgC.prm {n c a b : Nat} {t t' : Tg} (h : TgC n c t) (p : Prm a b t t') (hb : b ≤ n) (hc : b ≤ c ∨ c ≤ a) : TgC n c t' := by
  intro i hi
  by_cases e : a ≤ i ∧ i < b
  · obtain ⟨j, j1, j2, j3⟩ := p.fro i e.1 e.2
    rw [j3]
    have := h j (by omega)
    omega
  · rw [p.out i (by omega)]
    exact h i hi
/-- the first k blocks of twenty are sorted -/
structure FB (key : Nat → Int) (n k : Nat) (t : Tg) : Prop where
  s1 : 1 ≤ k → Srt key t 0 20
  s2 : 2 ≤ k → Srt key t 20 40
  s3 : 3 ≤ k → Srt key t 40 60
  un : ∀ i, 20 * k ≤ i → t i = i
  t20 : TgC n 20 t
  t40 : TgC n 40 t
  prm : Prm 0 n (fun i => i) t
theorem FB.start (key : Nat → Int) (n : Nat) : FB key n 0 (fun i => i) :=
  ⟨fun h => by omega, fun h => by omega, fun h => by omega, fun _ _ => rfl, fun _ _ => Iff.rfl, fun _ _ => Iff.rfl, Prm.refl _ _ _⟩
theorem FB.step {key : Nat → Int} {n k : Nat} {t t' : Tg} (h : FB key n k t) (hk : 20 * k + 20 ≤ n) (hn : n ≤ 60) (hs : Srt key t' (20 * k) (20 * k + 20)) (p : Prm (20 * k) (20 * k + 20) t t') : FB key n (k + 1) t' := by
  refine ⟨fun e => ?_, fun e => ?_, fun e => ?_, fun i hi => by rw [p.out i (.inr (by omega))]; exact h.un i (by omega), h.t20.prm p hk (by omega), h.t40.prm p hk (by omega), h.prm.trans (p.mono (by omega) hk)⟩
  · by_cases e2 : k = 0
    · subst e2; exact hs
    · exact (h.s1 (by omega)).congr (fun i e1 e3 => p.out i (.inl (by omega)))
  · by_cases e2 : k = 1
    · subst e2; exact hs
    · exact (h.s2 (by omega)).congr (fun i e1 e3 => p.out i (.inl (by omega)))
  · by_cases e2 : k = 2
    · subst e2; exact hs
    · omega
/-- blocks of a size are sorted -/
structure Run (key : Nat → Int) (n B : Nat) (t : Tg) : Prop where
  b : B = 20 ∨ B = 40 ∨ B = 80
  r20 : B = 20 → (Srt key t 0 (min 20 n) ∧ Srt key t 20 (min 40 n) ∧ Srt key t 40 n ∧ TgC n 20 t ∧ TgC n 40 t)
  r40 : B = 40 → (Srt key t 0 (min 40 n) ∧ Srt key t 40 n ∧ TgC n 40 t)
  r80 : B = 80 → Srt key t 0 n
  prm : Prm 0 n (fun i => i) t
theorem FB.run {key : Nat → Int} {n k : Nat} {t t' : Tg} (h : FB key n k t) (hk : 20 * k ≤ n) (hk2 : n < 20 * k + 20) (hn : n ≤ 60) (hs : Srt key t' (20 * k) n) (p : Prm (20 * k) n t t') : Run key n 20 t' := by
  refine ⟨.inl rfl, fun _ => ⟨?_, ?_, ?_, h.t20.prm p (Nat.le_refl _) (by omega), h.t40.prm p (Nat.le_refl _) (by omega)⟩, fun e => by omega, fun e => by omega, h.prm.trans (p.mono (by omega) (Nat.le_refl _))⟩
  · by_cases e : k = 0
    · subst e; exact hs.mono (by omega) (by omega)
    · exact ((h.s1 (by omega)).congr (fun i e1 e3 => p.out i (.inl (by omega)))).mono (Nat.le_refl _) (by omega)
  · by_cases e : k = 1
    · subst e; exact hs.mono (by omega) (by omega)
    · by_cases e2 : k = 0
      · intro i j e1 e2 e3; omega
      · exact ((h.s2 (by omega)).congr (fun i e1 e3 => p.out i (.inl (by omega)))).mono (Nat.le_refl _) (by omega)
  · by_cases e : k = 2
    · subst e; exact hs
    · by_cases e2 : k = 3
      · subst e2
        exact ((h.s3 (by omega)).congr (fun i e1 e3 => p.out i (.inl (by omega)))).mono (Nat.le_refl _) (by omega)
      · intro i j e1 e2 e3; omega
theorem Run.sym20 {key : Nat → Int} {n m : Nat} {t : Tg} (h : Run key n 20 t) (h1 : 20 < m) (h2 : m ≤ min 40 n) : Sym key t 0 20 m := by
  obtain ⟨s1, s2, s3, c1, c2⟩ := h.r20 rfl
  refine ⟨by omega, h1, s1.mono (Nat.le_refl _) (by omega), s2.mono (Nat.le_refl _) h2, fun i j e1 e2 e3 e4 => ?_⟩
  have := c1 i (by omega); have := c1 j (by omega)
  omega
theorem Run.next20 {key : Nat → Int} {n m : Nat} {t t' : Tg} (h : Run key n 20 t) (h1 : 20 < m) (h2 : m = min 40 n) (hs : Srt key t' 0 m) (p : Prm 0 m t t') : Run key n 40 t' := by
  obtain ⟨s1, s2, s3, c1, c2⟩ := h.r20 rfl
  refine ⟨.inr (.inl rfl), fun e => by omega, fun _ => ⟨by rw [← h2]; exact hs, s3.congr (fun i e1 e3 => p.out i (.inr (by omega))), c2.prm p (by omega) (by omega)⟩, fun e => by omega, h.prm.trans (p.mono (Nat.le_refl _) (by omega))⟩
theorem Run.sym40 {key : Nat → Int} {n : Nat} {t : Tg} (h : Run key n 40 t) (h1 : 40 < n) : Sym key t 0 40 n := by
  obtain ⟨s1, s3, c2⟩ := h.r40 rfl
  refine ⟨by omega, h1, s1.mono (Nat.le_refl _) (by omega), s3, fun i j e1 e2 e3 e4 => ?_⟩
  have := c2 i (by omega); have := c2 j (by omega)
  omega
theorem Run.next40 {key : Nat → Int} {n : Nat} {t t' : Tg} (h : Run key n 40 t) (hs : Srt key t' 0 n) (p : Prm 0 n t t') : Run key n 80 t' :=
  ⟨.inr (.inr rfl), fun e => by omega, fun e => by omega, fun _ => hs, h.prm.trans p⟩
theorem Run.done {key : Nat → Int} {n B : Nat} {t : Tg} (h : Run key n B t) (hB : n ≤ B) (hn : n ≤ 60) : Srt key t 0 n := by
  rcases h.b with e | e | e
  · subst e
    exact (h.r20 rfl).1.mono (Nat.le_refl _) (by omega)
  · subst e
    exact (h.r40 rfl).1.mono (Nat.le_refl _) (by omega)
  · subst e
    exact h.r80 rfl

/-- while blocks of twenty are merged -/
def InB (key : Nat → Int) (n x y : Nat) (s : Tg) : Prop := (x = 0 ∧ y = 40 ∧ Run key n 20 s) ∨ (x = 40 ∧ y = 80 ∧ 40 ≤ n ∧ Run key n 40 s)

set_option maxHeartbeats 4000000 in
set_option maxRecDepth 100000 in
theorem stable_any {w : World} {g n cap : Nat} {D : Nat → Int} (h : SoAt w w g n D (fun i => i)) (hn : n ≤ 60) :
    Calls Tryz.prog 68 #[.slice (some ⟨g, 0, none⟩) n cap, .int .i64 (n : Int), ordF] w fun e w' => e = .returned (.tuple #[]) ∧ ∃ t', SoAt w w' g n D t' ∧ Srt (keyD D) t' 0 n ∧ Prm 0 n (fun i => i) t' := by
  have H0 := hidF h
  have IS := hidF (fun (W : World) (s : Tg) (hs : SoAt W W g n D s) (a b : Nat) (e1 : a ≤ b) (e2 : b ≤ n) (e3 : ∀ p q, a ≤ p → p < q → q < b → s p < s q) => insertion_any (cap := cap) hs (by omega) e1 e2 e3)
  have SM := hidF (fun (W : World) (s : Tg) (a m b : Nat) (hs : SoAt W W g n D s) (hy : Sym (keyD D) s a m b) (e2 : b ≤ n) => symMerge_any (cap := cap) (by omega) (b - a + 1) W s a m b hs hy e2 (by omega))
  clear h
  unfold ordF at *
  go_enter Tryz.func68, Tryz.ntmps68
  go_wp2_with fail
  go_loopw [7, 8] (fun av bv wr => ∃ (k : Nat) (s : Tg) (x y : Nat), av = .int .i64 (x : Int) ∧ bv = .int .i64 (y : Int) ∧ x = 20 * k ∧ y = 20 * k + 20 ∧ x ≤ n ∧ Hid (SoAt w wr g n D s ∧ FB (keyD D) n k s)) (fun av _ _ => n + 1 - (intOf av).toNat)
  case atStart => exact ⟨0, _, 0, 20, rfl, rfl, rfl, rfl, Nat.zero_le _, H0.out, FB.start _ _⟩
  case round =>
    obtain ⟨k, s, x, y, rfl, rfl, hx, hy, hxn, HZ⟩ := hrel
    have HXY := hidF (And.intro hx hy)
    have hyx : y ≤ x + 20 := by omega
    have hk60 : k ≤ 3 := by omega
    clear hx hy
    by_cases hle : y ≤ n
    · have hle' : (y : Int) ≤ (n : Int) := by omega
      have W1 : IntKind.i64.wrap ((y : Int) + 20) = ((y + 20 : Nat) : Int) := by rw [wrapT (by omega) (by omega)]; omega
      have IC := hidF (IS.out wr s HZ.out.1.refl x y (by have := HXY.out; omega) hle (fun p q e1 e2 e3 => by have := HXY.out; rw [HZ.out.2.un p (by omega), HZ.out.2.un q (by omega)]; exact e2))
      go_wp2_with fail
      refine IC.out.mono ?_
      rintro e w1 ⟨rfl, s', hw1, q1, q2⟩
      have H1 : Hid (SoAt w w1 g n D s' ∧ FB (keyD D) n (k + 1) s') := ⟨HZ.out.1.trans hw1, HZ.out.2.step (by have := HXY.out; omega) hn (by rw [← HXY.out.1, show x + 20 = y by have := HXY.out; omega]; exact q1) (by rw [← HXY.out.1, show x + 20 = y by have := HXY.out; omega]; exact q2)⟩
      clear hw1 q1 q2
      go_wp2_with fail
      go_roundw
      case rel => go_light; exact ⟨k + 1, s', y, y + 20, rfl, by go_num, by have := HXY.out; omega, by have := HXY.out; omega, by omega, H1.out.1, H1.out.2⟩
      case measure => simp [intOf]; have := HXY.out; omega
    · have hle' : ¬ (y : Int) ≤ (n : Int) := by omega
      have IC := hidF (IS.out wr s HZ.out.1.refl x n hxn (Nat.le_refl _) (fun p q e1 e2 e3 => by have := HXY.out; rw [HZ.out.2.un p (by omega), HZ.out.2.un q (by omega)]; exact e2))
      go_wp2_with fail
      refine IC.out.mono ?_
      rintro e w1 ⟨rfl, s', hw1, q1, q2⟩
      have H1 : Hid (SoAt w w1 g n D s' ∧ Run (keyD D) n 20 s') := ⟨HZ.out.1.trans hw1, HZ.out.2.run (by have := HXY.out; omega) (by have := HXY.out; omega) hn (by rw [← HXY.out.1]; exact q1) (by rw [← HXY.out.1]; exact q2)⟩
      clear hw1 q1 q2 HZ IC
      go_wp2_with fail
      go_loopw [6] (fun bv wr => ∃ (B : Nat) (s : Tg), bv = .int .i64 (B : Int) ∧ (B = 20 ∨ B = 40 ∨ B = 80) ∧ Hid (SoAt w wr g n D s ∧ Run (keyD D) n B s)) (fun bv _ => 100 - (intOf bv).toNat)
      case atStart => exact ⟨20, s', rfl, .inl rfl, H1.out.1, H1.out.2⟩
      case round =>
        obtain ⟨B, s, rfl, hB, HZ⟩ := hrel
        by_cases hlt : B < n
        · have hlt' : (B : Int) < (n : Int) := by omega
          obtain ⟨w5, hw5⟩ : ∃ w5, w5 = wr := ⟨_, rfl⟩
          subst hw5
          rcases hB with rfl | rfl | rfl
          · rw [show ((20 : Nat) : Int) = 20 from rfl]
            have h20' : (20 : Int) < (n : Int) := by omega
            go_wp2_with fail
            go_loopw [7, 8] (fun av bv wr => ∃ (x y : Nat) (s1 : Tg), av = .int .i64 (x : Int) ∧ bv = .int .i64 (y : Int) ∧ Hid (SoAt w wr g n D s1 ∧ InB (keyD D) n x y s1)) (fun av _ _ => 100 - (intOf av).toNat)
            case atStart => exact ⟨0, 40, s, rfl, rfl, HZ.out.1, .inl ⟨rfl, rfl, HZ.out.2⟩⟩
            case round =>
              obtain ⟨x, y, s1, rfl, rfl, HY0⟩ := hrel
              obtain ⟨hso, hxy⟩ := HY0.out
              clear HY0
              rcases hxy with ⟨rfl, rfl, hR⟩ | ⟨rfl, rfl, h40, hR⟩
              · have HY := hidF (And.intro hso hR)
                clear hso hR
                by_cases h40 : 40 ≤ n
                · have h40' : (40 : Int) ≤ (n : Int) := by omega
                  have SC := hidF (SM.out wr s1 0 20 40 HY.out.1.refl (HY.out.2.sym20 (by omega) (by omega)) h40)
                  go_wp2_with fail
                  refine SC.out.mono ?_
                  rintro e w1 ⟨rfl, s2, hw1, q1, q2⟩
                  have H2 : Hid (SoAt w w1 g n D s2 ∧ Run (keyD D) n 40 s2) := ⟨HY.out.1.trans hw1, HY.out.2.next20 (m := 40) (by omega) (by omega) q1 q2⟩
                  clear hw1 q1 q2
                  go_wp2_with fail
                  go_roundw
                  case rel => go_light; exact ⟨40, 80, s2, rfl, rfl, H2.out.1, .inr ⟨rfl, rfl, h40, H2.out.2⟩⟩
                  case measure => simp [intOf]
                · have h40' : ¬ (40 : Int) ≤ (n : Int) := by omega
                  have SC := hidF (SM.out wr s1 0 20 n HY.out.1.refl (HY.out.2.sym20 (by omega) (by omega)) (Nat.le_refl _))
                  go_wp2_with fail
                  refine SC.out.mono ?_
                  rintro e w1 ⟨rfl, s2, hw1, q1, q2⟩
                  have H2 : Hid (SoAt w w1 g n D s2 ∧ Run (keyD D) n 40 s2) := ⟨HY.out.1.trans hw1, HY.out.2.next20 (m := n) (by omega) (by omega) q1 q2⟩
                  clear hw1 q1 q2
                  go_wp2_with fail
                  go_roundw
                  case rel => go_light; exact ⟨40, s2, rfl, .inr (.inl rfl), H2.out.1, H2.out.2⟩
                  case measure => simp [intOf]
              · have h80' : ¬ (80 : Int) ≤ (n : Int) := by omega
                have h60' : ¬ (60 : Int) < (n : Int) := by omega
                have HY := hidF (And.intro hso hR)
                clear hso hR
                go_wp2_with fail
                go_roundw
                case rel => go_light; exact ⟨40, s1, rfl, .inr (.inl rfl), HY.out.1, HY.out.2⟩
                case measure => simp [intOf]
          · have h80' : ¬ (80 : Int) ≤ (n : Int) := by omega
            have h40' : (40 : Int) < (n : Int) := by omega
            have SC := hidF (SM.out w5 s 0 40 n HZ.out.1.refl (HZ.out.2.sym40 hlt) (Nat.le_refl _))
            go_wp2_with fail
            go_loopw [7, 8] (fun av bv wr => av = .int .i64 0 ∧ bv = .int .i64 80 ∧ wr = w5) (fun _ _ _ => 0)
            case atStart => exact ⟨rfl, rfl, rfl⟩
            case round =>
              obtain ⟨rfl, rfl, hwr⟩ := hrel
              have hwy := hwr.symm
              clear hwr
              subst hwy
              go_wp2_with fail
              refine SC.out.mono ?_
              rintro e w1 ⟨rfl, s2, hw1, q1, q2⟩
              have H2 : Hid (SoAt w w1 g n D s2 ∧ Run (keyD D) n 80 s2) := ⟨HZ.out.1.trans hw1, HZ.out.2.next40 q1 q2⟩
              clear hw1 q1 q2
              go_wp2_with fail
              go_roundw
              case rel => go_light; exact ⟨80, s2, rfl, .inr (.inr rfl), H2.out.1, H2.out.2⟩
              case measure => simp [intOf]
          · omega
        · have hlt' : ¬ (B : Int) < (n : Int) := by omega
          have HD := hidF (HZ.out.2.done (by omega) hn)
          go_wp2_with fail
          go_returns
          exact ⟨rfl, s, HZ.out.1, HD.out, HZ.out.2.prm⟩

set_option maxHeartbeats 1000000 in
theorem sortStable_any {w : World} {g n cap : Nat} {D : Nat → Int} (h : NdB w g n D) (hn : n ≤ 60) (hm : MapK w) (hn1 : OX.mb ≠ g) (hn2 : OX.mo ≠ g) (hd : ∀ k, 0 ≤ D k ∧ D k ≤ 1000000) :
    Calls Tryz.prog 33 #[.slice (some ⟨g, 0, none⟩) n cap, ordF] w fun e w' => e = .returned (.tuple #[]) ∧ ∃ t', SoAt w w' g n D t' ∧ Srt (keyD D) t' 0 n ∧ Prm 0 n (fun i => i) t' := by
  have ST := hidF (stable_any (cap := cap) (D := D) ⟨h, KeepM.refl w g, hm, hn1, hn2, hd⟩ hn)
  clear h hm hd
  unfold ordF at *
  go_enter Tryz.func33, Tryz.ntmps33
  go_wp2_with fail
  refine ST.out.mono ?_
  rintro e w1 ⟨rfl, s, h1, h2, h3⟩
  go_wp2_with fail
  go_returns
  exact ⟨rfl, s, h1, h2, h3⟩
set_option maxHeartbeats 400000 in
theorem insertion_nil (w : World) : Calls Tryz.prog 88 #[.slice none 0 0, .int .i64 0, .int .i64 0, ordF] w fun e w' => e = .returned (.tuple #[]) ∧ w' = w := by
  unfold ordF
  go_enter Tryz.func88, Tryz.ntmps88
  go_wp2_with fail
  go_loopw [8] (fun iv wr => iv = .int .i64 1 ∧ wr = w) (fun _ _ => 0)
  case atStart => exact ⟨rfl, rfl⟩
  case round =>
    obtain ⟨rfl, hw⟩ := hrel
    rw [hw]
    go_wp2_with fail
    go_returns
    exact ⟨rfl, rfl⟩
set_option maxHeartbeats 1000000 in
theorem sortStable_nil (w : World) : Calls Tryz.prog 33 #[.slice none 0 0, ordF] w fun e w' => e = .returned (.tuple #[]) ∧ w' = w := by
  have IN := hidF (fun W => insertion_nil W)
  have ST : Hid (Calls Tryz.prog 68 #[.slice none 0 0, .int .i64 0, ordF] w fun e w' => e = .returned (.tuple #[]) ∧ w' = w) := by
    show Calls _ _ _ _ _
    unfold ordF at *
    go_enter Tryz.func68, Tryz.ntmps68
    go_wp2_with fail
    go_loopw [7, 8] (fun av bv wr => av = .int .i64 0 ∧ bv = .int .i64 20 ∧ wr = w) (fun _ _ _ => 0)
    case atStart => exact ⟨rfl, rfl, rfl⟩
    case round =>
      obtain ⟨rfl, rfl, hw⟩ := hrel
      rw [hw]
      go_wp2_with fail
      refine (IN.out _).mono ?_
      rintro e w1 ⟨rfl, hw1⟩
      rw [hw1]
      go_wp2_with fail
      go_loopw [6] (fun bv wx => bv = .int .i64 20 ∧ wx = w) (fun _ _ => 0)
      case atStart => exact ⟨rfl, rfl⟩
      case round =>
        obtain ⟨rfl, hw⟩ := hrel
        rw [hw]
        go_wp2_with fail
        go_returns
        exact ⟨rfl, rfl⟩
  unfold ordF at *
  go_enter Tryz.func33, Tryz.ntmps33
  go_wp2_with fail
  refine ST.out.mono ?_
  rintro e w1 ⟨rfl, hw1⟩
  rw [hw1]
  go_wp2_with fail
  go_returns
  exact ⟨rfl, rfl⟩

end Go.Proofs.YtlfepdecgfcifaaGreatDoor

/- Stable sorting by keys, as plain mathematics: what slices.SortStableFunc answers. -/
namespace Go.Proofs.YtlfepdecgfcifaaGreatDoor
set_option linter.unusedVariables false

/-- put behind all whose key is no greater -/
def insK {α : Type} (k : α → Int) (x : α) : List α → List α
  | [] => [x]
  | y :: l => if k y ≤ k x then y :: insK k x l else x :: y :: l
def sortK {α : Type} (k : α → Int) (l : List α) : List α := l.foldl (fun acc x => insK k x acc) []
theorem sortK_snoc {α : Type} (k : α → Int) (l : List α) (x : α) : sortK k (l ++ [x]) = insK k x (sortK k l) := by unfold sortK; rw [List.foldl_append]; rfl
theorem insK_mem {α : Type} (k : α → Int) (x : α) : ∀ (l : List α) (y : α), y ∈ insK k x l ↔ y = x ∨ y ∈ l
  | [], y => by simp [insK]
  | z :: l, y => by
    unfold insK
    split
    · rw [List.mem_cons, List.mem_cons, insK_mem k x l y]
      constructor
      · rintro (h | h | h)
        · exact .inr (.inl h)
        · exact .inl h
        · exact .inr (.inr h)
      · rintro (h | h | h)
        · exact .inr (.inl h)
        · exact .inl h
        · exact .inr (.inr h)
    · rw [List.mem_cons]
theorem insK_length {α : Type} (k : α → Int) (x : α) : ∀ (l : List α), (insK k x l).length = l.length + 1
  | [] => rfl
  | z :: l => by
    unfold insK
    split
    · simp [insK_length k x l]
    · rfl
theorem insK_map {α β : Type} (f : α → β) (k : β → Int) (x : α) : ∀ (l : List α), (insK (fun a => k (f a)) x l).map f = insK k (f x) (l.map f)
  | [] => rfl
  | z :: l => by
    simp only [insK, List.map_cons]
    split
    · simp only [List.map_cons]; rw [insK_map f k x l]
    · rfl
theorem sortK_map {α β : Type} (f : α → β) (k : β → Int) (l : List α) : (sortK (fun a => k (f a)) l).map f = sortK k (l.map f) := by
  unfold sortK
  have : ∀ (l acc : List α), (l.foldl (fun acc x => insK (fun a => k (f a)) x acc) acc).map f = (l.map f).foldl (fun acc x => insK k x acc) (acc.map f) := by
    intro l
    induction l with
    | nil => intro acc; rfl
    | cons x l ih => intro acc; simp only [List.foldl_cons, List.map_cons]; rw [ih, insK_map]
  exact this l []
theorem sortK_mem {α : Type} (k : α → Int) (l : List α) : ∀ y, y ∈ sortK k l ↔ y ∈ l := by
  unfold sortK
  have : ∀ (l acc : List α) (y : α), y ∈ l.foldl (fun acc x => insK k x acc) acc ↔ y ∈ l ∨ y ∈ acc := by
    intro l
    induction l with
    | nil => intro acc y; simp
    | cons x l ih =>
      intro acc y
      simp only [List.foldl_cons]
      rw [ih, insK_mem, List.mem_cons]
      constructor
      · rintro (h | h | h)
        · exact .inl (.inr h)
        · exact .inl (.inl h)
        · exact .inr h
      · rintro ((h | h) | h)
        · exact .inr (.inl h)
        · exact .inl h
        · exact .inr (.inr h)
  intro y
  rw [this]
  simp
theorem sortK_length {α : Type} (k : α → Int) (l : List α) : (sortK k l).length = l.length := by
  unfold sortK
  have : ∀ (l acc : List α), (l.foldl (fun acc x => insK k x acc) acc).length = l.length + acc.length := by
    intro l
    induction l with
    | nil => intro acc; simp
    | cons x l ih => intro acc; simp only [List.foldl_cons, List.length_cons]; rw [ih, insK_length]; omega
  simpa using this l []
theorem insK_congr {α : Type} {k k' : α → Int} {x : α} (hx : k x = k' x) : ∀ (l : List α), (∀ y ∈ l, k y = k' y) → insK k x l = insK k' x l
  | [], _ => rfl
  | z :: l, h => by
    unfold insK
    rw [h z (List.mem_cons_self ..), hx, insK_congr hx l (fun y hy => h y (List.mem_cons_of_mem _ hy))]
theorem sortK_congr {α : Type} {k k' : α → Int} (l : List α) (h : ∀ y ∈ l, k y = k' y) : sortK k l = sortK k' l := by
  unfold sortK
  have : ∀ (l acc : List α), (∀ y ∈ l, k y = k' y) → (∀ y ∈ acc, k y = k' y) → l.foldl (fun acc x => insK k x acc) acc = l.foldl (fun acc x => insK k' x acc) acc := by
    intro l
    induction l with
    | nil => intro acc _ _; rfl
    | cons x l ih =>
      intro acc h1 h2
      simp only [List.foldl_cons]
      rw [insK_congr (h1 x (List.mem_cons_self ..)) acc h2]
      refine ih _ (fun y hy => h1 y (List.mem_cons_of_mem _ hy)) (fun y hy => ?_)
      rcases (insK_mem k' x acc y).1 hy with e | e
      · rw [e]; exact h1 x (List.mem_cons_self ..)
      · exact h2 y e
  exact this l [] h (by simp)
theorem insK_pw (key : Nat → Int) (x : Nat) : ∀ (l : List Nat), l.Pairwise (lex key) → (∀ y ∈ l, y < x) → (insK key x l).Pairwise (lex key)
  | [], _, _ => by simp [insK]
  | y :: l, h, hx => by
    rw [List.pairwise_cons] at h
    have hy := hx y (List.mem_cons_self ..)
    unfold insK
    split
    · rename_i hk
      rw [List.pairwise_cons]
      refine ⟨fun z hz => ?_, insK_pw key x l h.2 (fun z hz => hx z (List.mem_cons_of_mem _ hz))⟩
      rcases (insK_mem key x l z).1 hz with e | e
      · subst e
        unfold lex
        omega
      · exact h.1 z e
    · rename_i hk
      rw [List.pairwise_cons]
      refine ⟨fun z hz => ?_, List.pairwise_cons.2 h⟩
      have hxy : lex key x y := .inl (by omega)
      rcases List.mem_cons.1 hz with e | e
      · subst e; exact hxy
      · exact hxy.trans (h.1 z e)
theorem sortK_range (key : Nat → Int) : ∀ n, (sortK key (List.range n)).Pairwise (lex key)
  | 0 => by simp [sortK]
  | n + 1 => by
    rw [List.range_succ, sortK_snoc]
    exact insK_pw key n _ (sortK_range key n) (fun y hy => List.mem_range.1 ((sortK_mem key _ y).1 hy))
theorem sorted_uniqueE {α : Type} {R : α → α → Prop} (irr : ∀ x, ¬ R x x) (tr : ∀ x y z, R x y → R y z → R x z) : ∀ l1 l2 : List α, l1.Pairwise R → l2.Pairwise R → (∀ x, x ∈ l1 ↔ x ∈ l2) → l1 = l2
  | [], [], _, _, _ => rfl
  | [], b :: s, _, _, h => absurd ((h b).2 (List.mem_cons_self ..)) (by simp)
  | a :: r, [], _, _, h => absurd ((h a).1 (List.mem_cons_self ..)) (by simp)
  | a :: r, b :: s, h1, h2, h => by
    rw [List.pairwise_cons] at h1 h2
    have hab : a = b := by
      rcases List.mem_cons.1 ((h a).1 (List.mem_cons_self ..)) with e | e
      · exact e
      · rcases List.mem_cons.1 ((h b).2 (List.mem_cons_self ..)) with e2 | e2
        · exact e2.symm
        · exact absurd (tr _ _ _ (h1.1 b e2) (h2.1 a e)) (irr a)
    subst hab
    congr 1
    refine sorted_uniqueE irr tr r s h1.2 h2.2 (fun x => ⟨fun hx => ?_, fun hx => ?_⟩)
    · rcases List.mem_cons.1 ((h x).1 (List.mem_cons_of_mem _ hx)) with e | e
      · subst e; exact absurd (h1.1 x hx) (irr x)
      · exact e
    · rcases List.mem_cons.1 ((h x).2 (List.mem_cons_of_mem _ hx)) with e | e
      · subst e; exact absurd (h2.1 x hx) (irr x)
      · exact e
/-- what is sorted by tags is what insertion gives -/
theorem tags_sortK {key : Nat → Int} {n : Nat} {t : Tg} (hs : Srt key t 0 n) (hp : Prm 0 n (fun i => i) t) : (List.range n).map t = sortK key (List.range n) := by
  refine sorted_uniqueE (R := lex key) (fun x h => h.irr) (fun x y z h1 h2 => h1.trans h2) _ _ ?_ (sortK_range key n) ?_
  · rw [List.pairwise_iff_getElem]
    intro i j hi hj hij
    simp only [List.length_map, List.length_range] at hi hj
    simp only [List.getElem_map, List.getElem_range]
    exact hs i j (Nat.zero_le _) hij hj
  · intro x
    rw [sortK_mem]
    constructor
    · intro hx
      obtain ⟨i, hi, rfl⟩ := List.mem_map.1 hx
      obtain ⟨j, j1, j2, j3⟩ := hp.fro i (Nat.zero_le _) (List.mem_range.1 hi)
      rw [j3]
      exact List.mem_range.2 j2
    · intro hx
      obtain ⟨j, j1, j2, j3⟩ := hp.toB x (Nat.zero_le _) (List.mem_range.1 hx)
      exact List.mem_map.2 ⟨j, List.mem_range.2 j2, j3.symm⟩
theorem sorted_sortK {D : Nat → Int} {K : Int → Int} {n : Nat} {t : Tg} (hs : Srt (fun i => K (D i)) t 0 n) (hp : Prm 0 n (fun i => i) t) : (List.range n).map (fun i => D (t i)) = sortK K ((List.range n).map D) := by
  have h := congrArg (List.map D) (tags_sortK hs hp)
  rw [List.map_map] at h
  exact h.trans (sortK_map D K _)
end Go.Proofs.YtlfepdecgfcifaaGreatDoor
