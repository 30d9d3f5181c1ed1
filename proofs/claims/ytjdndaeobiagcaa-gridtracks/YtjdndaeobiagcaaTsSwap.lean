/- slices' swapRange and rotate, at needs. -/
import Derived.Test.YtjdndaeobiagcaaGM04
namespace Go.Proofs.Ytjdndaeobiagcaa
open Go.RowKit
set_option linter.unusedVariables false      -- bounds that are for the walk

theorem wrapT {x : Int} (h1 : -9000000000000000000 ≤ x) (h2 : x ≤ 9000000000000000000) : IntKind.i64.wrap x = x := by rw [IntKind.wrap_i64]; omega

set_option maxHeartbeats 4000000 in
set_option maxRecDepth 100000 in
theorem swapRange_any {w : World} {g n cap : Nat} {D : Nat → Nd3} {t : Tg} (h : SoAt w w g n D t) (hn : n ≤ 100000) {x y c : Nat} (h1 : x + c ≤ y) (h2 : y + c ≤ n) (fv : Value) :
    Calls Try.prog 97 #[.slice (some ⟨g, 0, none⟩) n cap, .int .i64 (x : Int), .int .i64 (y : Int), .int .i64 (c : Int), fv] w fun e w' => e = .returned (.tuple #[]) ∧ SoAt w w' g n D (swapR t x y c) := by
  have H0 := hidF h
  clear h
  go_enter Try.func97, Try.ntmps97
  go_wp2_with fail
  go_loopw [10] (fun iv wr => ∃ k : Nat, k ≤ c ∧ iv = .int .i64 k ∧ Hid (SoAt w wr g n D (swapR t x y k))) (fun iv _ => c - (intV iv).toNat)
  case atStart => exact ⟨0, Nat.zero_le _, rfl, by show SoAt _ _ _ _ _ _; rw [swapR_zero]; exact H0.out⟩
  case round =>
    obtain ⟨k, hk, rfl, HZ⟩ := hrel
    by_cases hlt : k < c
    · have hlt' : (k : Int) < (c : Int) := by omega
      have gl := HZ.out.row.lt
      obtain ⟨a1, a2, a3⟩ := HZ.out.row.at (k := x + k) (by omega)
      obtain ⟨b1, b2, b3⟩ := HZ.out.row.at (k := y + k) (by omega)
      have f1 := HZ.out.row.frz ((x + k) * 3)
      have f2 := HZ.out.row.frz ((x + k) * 3 + 1)
      have f3 := HZ.out.row.frz ((x + k) * 3 + 2)
      have f4 := HZ.out.row.frz ((y + k) * 3)
      have f5 := HZ.out.row.frz ((y + k) * 3 + 1)
      have f6 := HZ.out.row.frz ((y + k) * 3 + 2)
      have HN := hidF (HZ.out.swap (x := x + k) (y := y + k) (by omega) (by omega))
      rw [swapR_succ t x y k (by omega)] at HN
      obtain ⟨⟨df, ds, dz⟩, hd⟩ : ∃ d, D (swapR t x y k (x + k)) = d := ⟨_, rfl⟩
      obtain ⟨⟨ef, es, ez⟩, he⟩ : ∃ d, D (swapR t x y k (y + k)) = d := ⟨_, rfl⟩
      rw [hd] at a1 a2 a3 HN
      rw [he] at b1 b2 b3 HN
      simp only at a1 a2 a3 b1 b2 b3 HN
      obtain ⟨p, hp⟩ : ∃ p, x + k = p := ⟨_, rfl⟩
      obtain ⟨q, hq⟩ : ∃ q, y + k = q := ⟨_, rfl⟩
      have W1 : IntKind.i64.wrap ((x : Int) + (k : Int)) = (p : Int) := by rw [wrapT (by omega) (by omega)]; omega
      have W2 : IntKind.i64.wrap ((y : Int) + (k : Int)) = (q : Int) := by rw [wrapT (by omega) (by omega)]; omega
      rw [hp] at a1 a2 a3 f1 f2 f3 HN
      rw [hq] at b1 b2 b3 f4 f5 f6 HN
      have i1 : (0 : Int) ≤ (p : Int) := by omega
      have i2 : (p : Int) < (n : Int) := by omega
      have i3 : (0 : Int) ≤ (q : Int) := by omega
      have i4 : (q : Int) < (n : Int) := by omega
      have n1 : ¬ q = p := by omega
      have n2 : ¬ p = q := by omega
      clear hp hq hd he
      obtain ⟨w5, hw5⟩ : ∃ w5, w5 = wr := ⟨_, rfl⟩
      subst hw5
      go_upto_region 3 with fail
      go_region
      all_goals
        go_wp2_with fail
        go_roundw
        case rel => go_light; exact ⟨k + 1, by omega, by go_num, HN.out.held (Below.refl _ _).drew⟩
        case measure => simp [intV]; omega
    · obtain rfl : k = c := by omega
      have hl2 : ¬ (k : Int) < (k : Int) := by omega
      go_wp2_with fail
      go_returns
      exact ⟨rfl, HZ.out⟩

set_option maxHeartbeats 4000000 in
set_option maxRecDepth 100000 in
theorem rotate_any {w : World} {g n cap : Nat} {D : Nat → Nd3} {t : Tg} (h : SoAt w w g n D t) (hn : n ≤ 100000) {a m b : Nat} (h1 : a < m) (h2 : m < b) (h3 : b ≤ n) (fv : Value) :
    Calls Try.prog 95 #[.slice (some ⟨g, 0, none⟩) n cap, .int .i64 (a : Int), .int .i64 (m : Int), .int .i64 (b : Int), fv] w fun e w' => e = .returned (.tuple #[]) ∧ SoAt w w' g n D (rotF t a m b) := by
  have H0 := hidF h
  have SR := hidF (fun (W : World) (s : Tg) (hs : SoAt W W g n D s) (x y c : Nat) (e1 : x + c ≤ y) (e2 : y + c ≤ n) => swapRange_any (cap := cap) hs hn e1 e2 fv)
  have W1 : IntKind.i64.wrap ((m : Int) - (a : Int)) = ((m - a : Nat) : Int) := by rw [wrapT (by omega) (by omega)]; omega
  have W2 : IntKind.i64.wrap ((b : Int) - (m : Int)) = ((b - m : Nat) : Int) := by rw [wrapT (by omega) (by omega)]; omega
  obtain ⟨i0, hi0⟩ : ∃ i, m - a = i := ⟨_, rfl⟩
  obtain ⟨j0, hj0⟩ : ∃ j, b - m = j := ⟨_, rfl⟩
  rw [hi0] at W1
  rw [hj0] at W2
  have HR : Hid (rotF t (m - i0) m (m + j0) = rotF t a m b) := by show _ = _; rw [← hi0, ← hj0, show m - (m - a) = a by omega, show m + (b - m) = b by omega]
  have i01 : 1 ≤ i0 := by omega
  have i02 : i0 ≤ m := by omega
  have j01 : 1 ≤ j0 := by omega
  have j02 : m + j0 ≤ n := by omega
  clear h hi0 hj0
  go_enter Try.func95, Try.ntmps95
  go_wp2_with fail
  go_loopw [10, 11] (fun iv jv wr => ∃ (i j : Nat) (s : Tg), 1 ≤ i ∧ i ≤ m ∧ 1 ≤ j ∧ m + j ≤ n ∧ iv = .int .i64 i ∧ jv = .int .i64 j ∧ Hid (SoAt w wr g n D s ∧ rotF s (m - i) m (m + j) = rotF t a m b)) (fun iv jv _ => (intV iv).toNat + (intV jv).toNat)
  case atStart => exact ⟨i0, j0, t, i01, i02, j01, j02, rfl, rfl, H0.out, HR.out⟩
  case round =>
    obtain ⟨i, j, s, a1, a2, a3, a4, rfl, rfl, HZ⟩ := hrel
    have W3 : IntKind.i64.wrap ((m : Int) - (i : Int)) = ((m - i : Nat) : Int) := by rw [wrapT (by omega) (by omega)]; omega
    by_cases hij : i = j
    · subst hij
      have SC := hidF (SR.out wr s HZ.out.1.refl (m - i) m i (by omega) a4)
      rw [rot_same s m i a2, HZ.out.2] at SC
      go_wp2_with fail
      refine SC.out.mono ?_
      rintro e w1 ⟨rfl, hw1⟩
      have H1 := hidF (HZ.out.1.trans hw1)
      clear hw1
      go_wp2_with fail
      go_returns
      exact ⟨rfl, H1.out⟩
    · have hne : ((i : Int) == (j : Int)) = false := by simp; omega
      by_cases hlt : j < i
      · have hlt' : (j : Int) < (i : Int) := by omega
        have SC := hidF (SR.out wr s HZ.out.1.refl (m - i) m j (by omega) a4)
        have W4 : IntKind.i64.wrap ((i : Int) - (j : Int)) = ((i - j : Nat) : Int) := by rw [wrapT (by omega) (by omega)]; omega
        have HE := hidF (rot_left s m i j a2 hlt)
        go_wp2_with fail
        refine SC.out.mono ?_
        rintro e w1 ⟨rfl, hw1⟩
        have H1 := hidF (HZ.out.1.trans hw1)
        clear hw1
        go_wp2_with fail
        go_roundw
        case rel =>
          go_light
          refine ⟨i - j, j, _, by omega, by omega, by omega, by omega, by first | rfl | go_num, rfl, H1.out, ?_⟩
          rw [HE.out, HZ.out.2]
        case measure => simp [intV]; omega
      · have hlt' : ¬ (j : Int) < (i : Int) := by omega
        have W5 : IntKind.i64.wrap ((m : Int) + (j : Int)) = ((m + j : Nat) : Int) := by rw [wrapT (by omega) (by omega)]; omega
        have W6 : IntKind.i64.wrap ((m : Int) + (j : Int) - (i : Int)) = ((m + j - i : Nat) : Int) := by rw [wrapT (by omega) (by omega)]; omega
        have SC := hidF (SR.out wr s HZ.out.1.refl (m - i) (m + j - i) i (by omega) (by omega))
        have W4 : IntKind.i64.wrap ((j : Int) - (i : Int)) = ((j - i : Nat) : Int) := by rw [wrapT (by omega) (by omega)]; omega
        have HE := hidF (rot_right s m i j a2 (by omega))
        go_wp2_with fail
        refine SC.out.mono ?_
        rintro e w1 ⟨rfl, hw1⟩
        have H1 := hidF (HZ.out.1.trans hw1)
        clear hw1
        go_wp2_with fail
        go_roundw
        case rel =>
          go_light
          refine ⟨i, j - i, _, by omega, by omega, by omega, by omega, rfl, by first | rfl | go_num, H1.out, ?_⟩
          rw [HE.out, HZ.out.2]
        case measure => simp [intV]; omega
end Go.Proofs.Ytjdndaeobiagcaa
