/- Div64: 128 bits by 64. -/
import Derived.Test.YtjdndaeobiagcaaGM25
import Derived.Test.YtjdndaeobiagcaaGM00
import Derived.Deep.DeepCutAuto
namespace Go.Proofs.Ytjdndaeobiagcaa
open Go.RowKit
set_option linter.unusedVariables false      -- bounds that are for the walk

theorem ret_uu {a b a' b' : Int} (h1 : a = a') (h2 : b = b') : Ending.returned (.tuple #[.int .u64 a, .int .u64 b]) = .returned (.tuple #[.int .u64 a', .int .u64 b']) := by rw [h1, h2]

set_option maxHeartbeats 1000000 in
set_option maxRecDepth 100000 in
theorem div64_small (lo y : Nat) (h1 : 0 < y) (h2 : y < 9223372036854775808) (h3 : lo < 18446744073709551616) (w : World) :
    Calls Try.prog 91 #[.int .u64 0, .int .u64 lo, .int .u64 y] w fun e w' => e = .returned (.tuple #[.int .u64 ((lo / y : Nat) : Int), .int .u64 ((lo % y : Nat) : Int)]) ∧ Below w.heap.size w w' := by
  have g1 : ((y : Int) == 0) = false := by simp; omega
  have g2 : ¬ (y : Int) ≤ 0 := by omega
  have g3 : ¬ (y : Int) = 0 := by omega
  have hd := wrapU (lo / y) (Nat.lt_of_le_of_lt (Nat.div_le_self lo y) h3)
  rw [Int.natCast_ediv] at hd
  go_enter Try.func91, Try.ntmps91
  go_wp2_with fail
  go_quiet (fail)
  go_wp2_with fail
  refine bodyPost_ret (v := .tuple #[.int .u64 ((lo / y : Nat) : Int), .int .u64 ((lo % y : Nat) : Int)]) ?_ rfl ⟨rfl, belD (Below.refl _ _) _⟩
  simp [results, Try.results91, go_sem]

set_option maxHeartbeats 4000000 in
set_option maxRecDepth 100000 in
theorem div64_great (hi lo y : Nat) (h0 : 0 < hi) (h1 : hi < y) (h2 : y < 9223372036854775808) (h3 : lo < 18446744073709551616) (w : World) :
    Calls Try.prog 91 #[.int .u64 hi, .int .u64 lo, .int .u64 y] w fun e w' => e = .returned (.tuple #[.int .u64 (((hi * 18446744073709551616 + lo) / y : Nat) : Int), .int .u64 (((hi * 18446744073709551616 + lo) % y : Nat) : Int)]) ∧ Below w.heap.size w w' := by
  obtain ⟨s, t, Y, y1, y0, U, V, n1, n0, D⟩ := dv_set hi lo y h1 h2 h3
  have g1 : ((y : Int) == 0) = false := by simp; omega
  have g2 : ¬ (y : Int) ≤ (hi : Int) := by omega
  have g4 : ((hi : Int) == 0) = false := by simp; omega
  have HD := hidF D
  obtain ⟨s1, st, t1, lz, e1, e2, e3, e5, e6, e7, e8, yY, yy, yl, yh, y0h, n1h, n0h, ul, hall⟩ := D
  obtain ⟨d1, d2⟩ := dig_begin (u := U) (n1 := n1) (y1 := y1) (y0 := y0) (by omega) (by omega) y0h n1h (by omega)
  have ws : IntKind.u64.wrap (s : Int) = (s : Int) := wrapU s (by omega)
  have wt : IntKind.u64.wrap (64 - (s : Int)) = (t : Int) := by
    rw [show (64 : Int) - (s : Int) = (t : Int) by omega]; exact wrapU t (by omega)
  have hms : min s 64 = s := by omega
  have hmt : min t 64 = t := by omega
  have y1n : ¬ (y1 : Int) = 0 := by omega
  have y1p : (0 : Int) < (y1 : Int) := by omega
  obtain ⟨q, hq⟩ : ∃ q, U / y1 = q := ⟨_, rfl⟩
  obtain ⟨r, hr⟩ : ∃ r, U - q * y1 = r := ⟨_, rfl⟩
  rw [hq, hr] at d1 d2
  have hql : q ≤ U := by rw [← hq]; exact Nat.div_le_self _ _
  have e9 : IntKind.u64.wrap ((U : Int) / (y1 : Int)) = (q : Int) := by
    rw [← Int.natCast_ediv, hq]; exact wrapU q (by omega)
  have hqy : q * y1 ≤ U := by rw [← hq]; exact Nat.div_mul_le_self _ _
  obtain ⟨Z, hZ⟩ : ∃ Z, q * y1 = Z := ⟨_, rfl⟩
  have e10 : IntKind.u64.wrap ((q : Int) * (y1 : Int)) = (Z : Int) := by rw [wrapMul q y1 (by omega), hZ]
  have e11 : IntKind.u64.wrap ((U : Int) - (Z : Int)) = (r : Int) := by
    rw [show (U : Int) - (Z : Int) = (r : Int) by omega]; exact wrapU r (by omega)
  have D1 := hidF d1
  have LZ := hidF lz
  have y1b : y1 < 4294967296 := by omega
  have rB : r < 4294967296 := by omega
  clear lz yY yy hall hq hr d1 ul hql hqy hZ d2
  go_enter Try.func91, Try.ntmps91
  go_wp2_with fail
  refine (Try.bits_LeadingZeros64 y w (by omega) (by omega)).mono ?_
  rintro e w' ⟨rfl, hw'⟩
  rw [hw', Int.toNat_natCast, LZ.out]
  clear hw' w'
  go_wp2_with fail
  go_loopw [15, 16] (fun a b wr => ∃ (qi ri : Int), a = .int .u64 qi ∧ b = .int .u64 ri ∧ wr = w ∧ Hid (∃ q r : Nat, qi = (q : Int) ∧ ri = (r : Int) ∧ r < 4294967296 ∧ Dig U n1 y1 y0 q r)) (fun a _ _ => (intV a).toNat)
  case atStart => exact ⟨_, _, rfl, rfl, rfl, q, r, rfl, rfl, rB, D1.out⟩
  case round =>
    obtain ⟨qi, ri, rfl, rfl, hww, H0⟩ := hrel
    have hww2 := hww.symm
    clear hww
    subst hww2
    obtain ⟨q9, r9, hqi, hri, rl, H⟩ := H0.out
    clear H0
    have qle := H.le
    by_cases hB : (4294967296 : Int) ≤ qi
    · obtain ⟨_, H2⟩ := H.less (.inl (by omega))
      obtain ⟨q8, hq8⟩ : ∃ q8 : Int, q8 = qi - 1 := ⟨_, rfl⟩
      have k1 : IntKind.u64.wrap (qi - 1) = q8 := by
        rw [← hq8, show q8 = ((q9 - 1 : Nat) : Int) by omega]; exact wrapU _ (by omega)
      obtain ⟨r8, hr8⟩ : ∃ r8 : Int, r8 = ri + (y1 : Int) := ⟨_, rfl⟩
      have k2 : IntKind.u64.wrap (ri + (y1 : Int)) = r8 := by
        rw [← hr8, show r8 = ((r9 + y1 : Nat) : Int) by omega]; exact wrapU _ (by omega)
      have HL : Hid (∃ q r : Nat, q8 = (q : Int) ∧ r8 = (r : Int) ∧ (4294967296 ≤ r ∨ r < 4294967296) ∧ q ≤ 4294967296 ∧ Dig U n1 y1 y0 q r) := ⟨q9 - 1, r9 + y1, by omega, by omega, by omega, by omega, H2⟩
      have hm8 : q8 < qi := by omega
      have hm9 : 0 ≤ q8 := by omega
      clear H2 hq8 hr8 H
      by_cases hF : (4294967296 : Int) ≤ r8
      · obtain ⟨q7, r7, hq7, hr7, _, qb, hd7⟩ := HL.out
        have HQ := hidF (hd7.far qb (by omega))
        have HQ9 := hidF hq7
        clear hq7 hr7 hd7 HL hqi hri rl qle
        have HA : Hid (q8 = (((U * 4294967296 + n1) / Y : Nat) : Int)) := by
          show _ = _
          rw [HQ9.out, HQ.out, ← HD.out.yy]
        obtain ⟨A, A2, A3, u, m1, m2, m3, m4, hu⟩ := dv_mid (by have := HD.out.yl; omega) HD.out.yh HA.out
        have HU := hidF hu
        have uY : u < Y := by rw [hu]; exact Nat.mod_lt _ (by have := HD.out.yl; omega)
        obtain ⟨q2, r2, Z2, m5, m6, m7, r2b, d2⟩ := dv_dig (u := u) (n := n0) (y1 := y1) (y0 := y0) (by have := HD.out.yy; have := HD.out.yl; omega) y1b y0h n0h (by have := HD.out.yy; omega) (by have := HD.out.yh; omega)
        have D2 := hidF d2
        clear hu d2 uY HQ HQ9 D1
        go_wp2_with fail
        go_loopw [18, 16] (fun a b wr => ∃ (qi ri : Int), a = .int .u64 qi ∧ b = .int .u64 ri ∧ wr = w ∧ Hid (∃ q r : Nat, qi = (q : Int) ∧ ri = (r : Int) ∧ r < 4294967296 ∧ Dig u n0 y1 y0 q r)) (fun a _ _ => (intV a).toNat)
        case atStart => exact ⟨_, _, rfl, rfl, rfl, q2, r2, rfl, rfl, r2b, D2.out⟩
        case round =>
          obtain ⟨qi, ri, rfl, rfl, hww, H0⟩ := hrel
          have hww2 := hww.symm
          clear hww
          subst hww2
          obtain ⟨q9, r9, hqi, hri, rl, H⟩ := H0.out
          clear H0
          have qle := H.le
          by_cases hB : (4294967296 : Int) ≤ qi
          · obtain ⟨_, H2⟩ := H.less (.inl (by omega))
            obtain ⟨q8, hq8⟩ : ∃ q8 : Int, q8 = qi - 1 := ⟨_, rfl⟩
            have k1 : IntKind.u64.wrap (qi - 1) = q8 := by
              rw [← hq8, show q8 = ((q9 - 1 : Nat) : Int) by omega]; exact wrapU _ (by omega)
            obtain ⟨r8, hr8⟩ : ∃ r8 : Int, r8 = ri + (y1 : Int) := ⟨_, rfl⟩
            have k2 : IntKind.u64.wrap (ri + (y1 : Int)) = r8 := by
              rw [← hr8, show r8 = ((r9 + y1 : Nat) : Int) by omega]; exact wrapU _ (by omega)
            have HL : Hid (∃ q r : Nat, q8 = (q : Int) ∧ r8 = (r : Int) ∧ (4294967296 ≤ r ∨ r < 4294967296) ∧ q ≤ 4294967296 ∧ Dig u n0 y1 y0 q r) := ⟨q9 - 1, r9 + y1, by omega, by omega, by omega, by omega, H2⟩
            have hm8 : q8 < qi := by omega
            have hm9 : 0 ≤ q8 := by omega
            clear H2 hq8 hr8 H
            by_cases hF : (4294967296 : Int) ≤ r8
            · obtain ⟨q7, r7, hq7, hr7, _, qb, hd7⟩ := HL.out
              have HQ := hidF (hd7.far qb (by omega))
              have HQ9 := hidF hq7
              clear hq7 hr7 hd7 HL hqi hri rl qle
              obtain ⟨B1, B3, B4, B5, rm, p1, p2, p3, p4, p5, p6, p7⟩ := dv_end HD.out h1 h3 HA.out HU.out (show q8 = _ by rw [HQ9.out, HQ.out, ← HD.out.yy])
              clear HQ HQ9
              go_wp2_with fail
              refine bodyPost_ret (v := .tuple #[.int .u64 (((hi * 18446744073709551616 + lo) / y : Nat) : Int), .int .u64 (((hi * 18446744073709551616 + lo) % y : Nat) : Int)]) ?_ rfl ⟨rfl, Below.refl _ _⟩
              simp [results, Try.results91, go_sem]
            · have HN2 : Hid (∃ q r : Nat, q8 = (q : Int) ∧ r8 = (r : Int) ∧ r < 4294967296 ∧ Dig u n0 y1 y0 q r) := by
                obtain ⟨q7, r7, hq7, hr7, _, qb, hd7⟩ := HL.out
                exact ⟨q7, r7, hq7, hr7, by omega, hd7⟩
              clear HL hqi hri rl qle
              go_wp2_with fail
              go_roundw
              case rel => go_light; exact ⟨q8, r8, rfl, rfl, by trivial, HN2.out⟩
              case measure => simp [intV]; omega
          · have hm : q9 * y0 ≤ 4294967295 * 4294967295 := Nat.mul_le_mul (by omega) (by omega)
            obtain ⟨P, hP⟩ : ∃ P : Int, P = ((q9 * y0 : Nat) : Int) := ⟨_, rfl⟩
            have f1 : IntKind.u64.wrap (qi * (y0 : Int)) = P := by rw [hqi, wrapMul q9 y0 (by omega), hP]
            obtain ⟨R, hR⟩ : ∃ R : Int, R = 4294967296 * ri := ⟨_, rfl⟩
            have f2 : IntKind.u64.wrap (4294967296 * ri) = R := by
              rw [← hR, show R = ((4294967296 * r9 : Nat) : Int) by omega]; exact wrapU _ (by omega)
            obtain ⟨S, hS⟩ : ∃ S : Int, S = R + (n0 : Int) := ⟨_, rfl⟩
            have f3 : IntKind.u64.wrap (R + (n0 : Int)) = S := by
              rw [← hS, show S = ((4294967296 * r9 + n0 : Nat) : Int) by omega]; exact wrapU _ (by omega)
            by_cases hT : S < P
            · obtain ⟨hq0, H2⟩ := H.less (.inr (by omega))
              clear hP hR hS hm
              obtain ⟨q8, hq8⟩ : ∃ q8 : Int, q8 = qi - 1 := ⟨_, rfl⟩
              have k1 : IntKind.u64.wrap (qi - 1) = q8 := by
                rw [← hq8, show q8 = ((q9 - 1 : Nat) : Int) by omega]; exact wrapU _ (by omega)
              obtain ⟨r8, hr8⟩ : ∃ r8 : Int, r8 = ri + (y1 : Int) := ⟨_, rfl⟩
              have k2 : IntKind.u64.wrap (ri + (y1 : Int)) = r8 := by
                rw [← hr8, show r8 = ((r9 + y1 : Nat) : Int) by omega]; exact wrapU _ (by omega)
              have HL : Hid (∃ q r : Nat, q8 = (q : Int) ∧ r8 = (r : Int) ∧ (4294967296 ≤ r ∨ r < 4294967296) ∧ q ≤ 4294967296 ∧ Dig u n0 y1 y0 q r) := ⟨q9 - 1, r9 + y1, by omega, by omega, by omega, by omega, H2⟩
              have hm8 : q8 < qi := by omega
              have hm9 : 0 ≤ q8 := by omega
              clear H2 hq8 hr8 H
              by_cases hF : (4294967296 : Int) ≤ r8
              · obtain ⟨q7, r7, hq7, hr7, _, qb, hd7⟩ := HL.out
                have HQ := hidF (hd7.far qb (by omega))
                have HQ9 := hidF hq7
                clear hq7 hr7 hd7 HL hqi hri rl qle
                obtain ⟨B1, B3, B4, B5, rm, p1, p2, p3, p4, p5, p6, p7⟩ := dv_end HD.out h1 h3 HA.out HU.out (show q8 = _ by rw [HQ9.out, HQ.out, ← HD.out.yy])
                clear HQ HQ9
                go_wp2_with fail
                refine bodyPost_ret (v := .tuple #[.int .u64 (((hi * 18446744073709551616 + lo) / y : Nat) : Int), .int .u64 (((hi * 18446744073709551616 + lo) % y : Nat) : Int)]) ?_ rfl ⟨rfl, Below.refl _ _⟩
                simp [results, Try.results91, go_sem]
              · have HN2 : Hid (∃ q r : Nat, q8 = (q : Int) ∧ r8 = (r : Int) ∧ r < 4294967296 ∧ Dig u n0 y1 y0 q r) := by
                  obtain ⟨q7, r7, hq7, hr7, _, qb, hd7⟩ := HL.out
                  exact ⟨q7, r7, hq7, hr7, by omega, hd7⟩
                clear HL hqi hri rl qle
                go_wp2_with fail
                go_roundw
                case rel => go_light; exact ⟨q8, r8, rfl, rfl, by trivial, HN2.out⟩
                case measure => simp [intV]; omega
            · have HQ := hidF (H.done (by omega))
              have HQ9 := hidF hqi
              clear hP hR hS hm hqi hri H rl qle
              obtain ⟨B1, B3, B4, B5, rm, p1, p2, p3, p4, p5, p6, p7⟩ := dv_end HD.out h1 h3 HA.out HU.out (show qi = _ by rw [HQ9.out, HQ.out, ← HD.out.yy])
              clear HQ HQ9
              go_wp2_with fail
              refine bodyPost_ret (v := .tuple #[.int .u64 (((hi * 18446744073709551616 + lo) / y : Nat) : Int), .int .u64 (((hi * 18446744073709551616 + lo) % y : Nat) : Int)]) ?_ rfl ⟨rfl, Below.refl _ _⟩
              simp [results, Try.results91, go_sem]
      · have HN2 : Hid (∃ q r : Nat, q8 = (q : Int) ∧ r8 = (r : Int) ∧ r < 4294967296 ∧ Dig U n1 y1 y0 q r) := by
          obtain ⟨q7, r7, hq7, hr7, _, qb, hd7⟩ := HL.out
          exact ⟨q7, r7, hq7, hr7, by omega, hd7⟩
        clear HL hqi hri rl qle
        go_wp2_with fail
        go_roundw
        case rel => go_light; exact ⟨q8, r8, rfl, rfl, by trivial, HN2.out⟩
        case measure => simp [intV]; omega
    · have hm : q9 * y0 ≤ 4294967295 * 4294967295 := Nat.mul_le_mul (by omega) (by omega)
      obtain ⟨P, hP⟩ : ∃ P : Int, P = ((q9 * y0 : Nat) : Int) := ⟨_, rfl⟩
      have f1 : IntKind.u64.wrap (qi * (y0 : Int)) = P := by rw [hqi, wrapMul q9 y0 (by omega), hP]
      obtain ⟨R, hR⟩ : ∃ R : Int, R = 4294967296 * ri := ⟨_, rfl⟩
      have f2 : IntKind.u64.wrap (4294967296 * ri) = R := by
        rw [← hR, show R = ((4294967296 * r9 : Nat) : Int) by omega]; exact wrapU _ (by omega)
      obtain ⟨S, hS⟩ : ∃ S : Int, S = R + (n1 : Int) := ⟨_, rfl⟩
      have f3 : IntKind.u64.wrap (R + (n1 : Int)) = S := by
        rw [← hS, show S = ((4294967296 * r9 + n1 : Nat) : Int) by omega]; exact wrapU _ (by omega)
      by_cases hT : S < P
      · obtain ⟨hq0, H2⟩ := H.less (.inr (by omega))
        clear hP hR hS hm
        obtain ⟨q8, hq8⟩ : ∃ q8 : Int, q8 = qi - 1 := ⟨_, rfl⟩
        have k1 : IntKind.u64.wrap (qi - 1) = q8 := by
          rw [← hq8, show q8 = ((q9 - 1 : Nat) : Int) by omega]; exact wrapU _ (by omega)
        obtain ⟨r8, hr8⟩ : ∃ r8 : Int, r8 = ri + (y1 : Int) := ⟨_, rfl⟩
        have k2 : IntKind.u64.wrap (ri + (y1 : Int)) = r8 := by
          rw [← hr8, show r8 = ((r9 + y1 : Nat) : Int) by omega]; exact wrapU _ (by omega)
        have HL : Hid (∃ q r : Nat, q8 = (q : Int) ∧ r8 = (r : Int) ∧ (4294967296 ≤ r ∨ r < 4294967296) ∧ q ≤ 4294967296 ∧ Dig U n1 y1 y0 q r) := ⟨q9 - 1, r9 + y1, by omega, by omega, by omega, by omega, H2⟩
        have hm8 : q8 < qi := by omega
        have hm9 : 0 ≤ q8 := by omega
        clear H2 hq8 hr8 H
        by_cases hF : (4294967296 : Int) ≤ r8
        · obtain ⟨q7, r7, hq7, hr7, _, qb, hd7⟩ := HL.out
          have HQ := hidF (hd7.far qb (by omega))
          have HQ9 := hidF hq7
          clear hq7 hr7 hd7 HL hqi hri rl qle
          have HA : Hid (q8 = (((U * 4294967296 + n1) / Y : Nat) : Int)) := by
            show _ = _
            rw [HQ9.out, HQ.out, ← HD.out.yy]
          obtain ⟨A, A2, A3, u, m1, m2, m3, m4, hu⟩ := dv_mid (by have := HD.out.yl; omega) HD.out.yh HA.out
          have HU := hidF hu
          have uY : u < Y := by rw [hu]; exact Nat.mod_lt _ (by have := HD.out.yl; omega)
          obtain ⟨q2, r2, Z2, m5, m6, m7, r2b, d2⟩ := dv_dig (u := u) (n := n0) (y1 := y1) (y0 := y0) (by have := HD.out.yy; have := HD.out.yl; omega) y1b y0h n0h (by have := HD.out.yy; omega) (by have := HD.out.yh; omega)
          have D2 := hidF d2
          clear hu d2 uY HQ HQ9 D1
          go_wp2_with fail
          go_loopw [18, 16] (fun a b wr => ∃ (qi ri : Int), a = .int .u64 qi ∧ b = .int .u64 ri ∧ wr = w ∧ Hid (∃ q r : Nat, qi = (q : Int) ∧ ri = (r : Int) ∧ r < 4294967296 ∧ Dig u n0 y1 y0 q r)) (fun a _ _ => (intV a).toNat)
          case atStart => exact ⟨_, _, rfl, rfl, rfl, q2, r2, rfl, rfl, r2b, D2.out⟩
          case round =>
            obtain ⟨qi, ri, rfl, rfl, hww, H0⟩ := hrel
            have hww2 := hww.symm
            clear hww
            subst hww2
            obtain ⟨q9, r9, hqi, hri, rl, H⟩ := H0.out
            clear H0
            have qle := H.le
            by_cases hB : (4294967296 : Int) ≤ qi
            · obtain ⟨_, H2⟩ := H.less (.inl (by omega))
              obtain ⟨q8, hq8⟩ : ∃ q8 : Int, q8 = qi - 1 := ⟨_, rfl⟩
              have k1 : IntKind.u64.wrap (qi - 1) = q8 := by
                rw [← hq8, show q8 = ((q9 - 1 : Nat) : Int) by omega]; exact wrapU _ (by omega)
              obtain ⟨r8, hr8⟩ : ∃ r8 : Int, r8 = ri + (y1 : Int) := ⟨_, rfl⟩
              have k2 : IntKind.u64.wrap (ri + (y1 : Int)) = r8 := by
                rw [← hr8, show r8 = ((r9 + y1 : Nat) : Int) by omega]; exact wrapU _ (by omega)
              have HL : Hid (∃ q r : Nat, q8 = (q : Int) ∧ r8 = (r : Int) ∧ (4294967296 ≤ r ∨ r < 4294967296) ∧ q ≤ 4294967296 ∧ Dig u n0 y1 y0 q r) := ⟨q9 - 1, r9 + y1, by omega, by omega, by omega, by omega, H2⟩
              have hm8 : q8 < qi := by omega
              have hm9 : 0 ≤ q8 := by omega
              clear H2 hq8 hr8 H
              by_cases hF : (4294967296 : Int) ≤ r8
              · obtain ⟨q7, r7, hq7, hr7, _, qb, hd7⟩ := HL.out
                have HQ := hidF (hd7.far qb (by omega))
                have HQ9 := hidF hq7
                clear hq7 hr7 hd7 HL hqi hri rl qle
                obtain ⟨B1, B3, B4, B5, rm, p1, p2, p3, p4, p5, p6, p7⟩ := dv_end HD.out h1 h3 HA.out HU.out (show q8 = _ by rw [HQ9.out, HQ.out, ← HD.out.yy])
                clear HQ HQ9
                go_wp2_with fail
                refine bodyPost_ret (v := .tuple #[.int .u64 (((hi * 18446744073709551616 + lo) / y : Nat) : Int), .int .u64 (((hi * 18446744073709551616 + lo) % y : Nat) : Int)]) ?_ rfl ⟨rfl, Below.refl _ _⟩
                simp [results, Try.results91, go_sem]
              · have HN2 : Hid (∃ q r : Nat, q8 = (q : Int) ∧ r8 = (r : Int) ∧ r < 4294967296 ∧ Dig u n0 y1 y0 q r) := by
                  obtain ⟨q7, r7, hq7, hr7, _, qb, hd7⟩ := HL.out
                  exact ⟨q7, r7, hq7, hr7, by omega, hd7⟩
                clear HL hqi hri rl qle
                go_wp2_with fail
                go_roundw
                case rel => go_light; exact ⟨q8, r8, rfl, rfl, by trivial, HN2.out⟩
                case measure => simp [intV]; omega
            · have hm : q9 * y0 ≤ 4294967295 * 4294967295 := Nat.mul_le_mul (by omega) (by omega)
              obtain ⟨P, hP⟩ : ∃ P : Int, P = ((q9 * y0 : Nat) : Int) := ⟨_, rfl⟩
              have f1 : IntKind.u64.wrap (qi * (y0 : Int)) = P := by rw [hqi, wrapMul q9 y0 (by omega), hP]
              obtain ⟨R, hR⟩ : ∃ R : Int, R = 4294967296 * ri := ⟨_, rfl⟩
              have f2 : IntKind.u64.wrap (4294967296 * ri) = R := by
                rw [← hR, show R = ((4294967296 * r9 : Nat) : Int) by omega]; exact wrapU _ (by omega)
              obtain ⟨S, hS⟩ : ∃ S : Int, S = R + (n0 : Int) := ⟨_, rfl⟩
              have f3 : IntKind.u64.wrap (R + (n0 : Int)) = S := by
                rw [← hS, show S = ((4294967296 * r9 + n0 : Nat) : Int) by omega]; exact wrapU _ (by omega)
              by_cases hT : S < P
              · obtain ⟨hq0, H2⟩ := H.less (.inr (by omega))
                clear hP hR hS hm
                obtain ⟨q8, hq8⟩ : ∃ q8 : Int, q8 = qi - 1 := ⟨_, rfl⟩
                have k1 : IntKind.u64.wrap (qi - 1) = q8 := by
                  rw [← hq8, show q8 = ((q9 - 1 : Nat) : Int) by omega]; exact wrapU _ (by omega)
                obtain ⟨r8, hr8⟩ : ∃ r8 : Int, r8 = ri + (y1 : Int) := ⟨_, rfl⟩
                have k2 : IntKind.u64.wrap (ri + (y1 : Int)) = r8 := by
                  rw [← hr8, show r8 = ((r9 + y1 : Nat) : Int) by omega]; exact wrapU _ (by omega)
                have HL : Hid (∃ q r : Nat, q8 = (q : Int) ∧ r8 = (r : Int) ∧ (4294967296 ≤ r ∨ r < 4294967296) ∧ q ≤ 4294967296 ∧ Dig u n0 y1 y0 q r) := ⟨q9 - 1, r9 + y1, by omega, by omega, by omega, by omega, H2⟩
                have hm8 : q8 < qi := by omega
                have hm9 : 0 ≤ q8 := by omega
                clear H2 hq8 hr8 H
                by_cases hF : (4294967296 : Int) ≤ r8
                · obtain ⟨q7, r7, hq7, hr7, _, qb, hd7⟩ := HL.out
                  have HQ := hidF (hd7.far qb (by omega))
                  have HQ9 := hidF hq7
                  clear hq7 hr7 hd7 HL hqi hri rl qle
                  obtain ⟨B1, B3, B4, B5, rm, p1, p2, p3, p4, p5, p6, p7⟩ := dv_end HD.out h1 h3 HA.out HU.out (show q8 = _ by rw [HQ9.out, HQ.out, ← HD.out.yy])
                  clear HQ HQ9
                  go_wp2_with fail
                  refine bodyPost_ret (v := .tuple #[.int .u64 (((hi * 18446744073709551616 + lo) / y : Nat) : Int), .int .u64 (((hi * 18446744073709551616 + lo) % y : Nat) : Int)]) ?_ rfl ⟨rfl, Below.refl _ _⟩
                  simp [results, Try.results91, go_sem]
                · have HN2 : Hid (∃ q r : Nat, q8 = (q : Int) ∧ r8 = (r : Int) ∧ r < 4294967296 ∧ Dig u n0 y1 y0 q r) := by
                    obtain ⟨q7, r7, hq7, hr7, _, qb, hd7⟩ := HL.out
                    exact ⟨q7, r7, hq7, hr7, by omega, hd7⟩
                  clear HL hqi hri rl qle
                  go_wp2_with fail
                  go_roundw
                  case rel => go_light; exact ⟨q8, r8, rfl, rfl, by trivial, HN2.out⟩
                  case measure => simp [intV]; omega
              · have HQ := hidF (H.done (by omega))
                have HQ9 := hidF hqi
                clear hP hR hS hm hqi hri H rl qle
                obtain ⟨B1, B3, B4, B5, rm, p1, p2, p3, p4, p5, p6, p7⟩ := dv_end HD.out h1 h3 HA.out HU.out (show qi = _ by rw [HQ9.out, HQ.out, ← HD.out.yy])
                clear HQ HQ9
                go_wp2_with fail
                refine bodyPost_ret (v := .tuple #[.int .u64 (((hi * 18446744073709551616 + lo) / y : Nat) : Int), .int .u64 (((hi * 18446744073709551616 + lo) % y : Nat) : Int)]) ?_ rfl ⟨rfl, Below.refl _ _⟩
                simp [results, Try.results91, go_sem]
        · have HN2 : Hid (∃ q r : Nat, q8 = (q : Int) ∧ r8 = (r : Int) ∧ r < 4294967296 ∧ Dig U n1 y1 y0 q r) := by
            obtain ⟨q7, r7, hq7, hr7, _, qb, hd7⟩ := HL.out
            exact ⟨q7, r7, hq7, hr7, by omega, hd7⟩
          clear HL hqi hri rl qle
          go_wp2_with fail
          go_roundw
          case rel => go_light; exact ⟨q8, r8, rfl, rfl, by trivial, HN2.out⟩
          case measure => simp [intV]; omega
      · have HQ := hidF (H.done (by omega))
        have HQ9 := hidF hqi
        clear hP hR hS hm hqi hri H rl qle
        have HA : Hid (qi = (((U * 4294967296 + n1) / Y : Nat) : Int)) := by
          show _ = _
          rw [HQ9.out, HQ.out, ← HD.out.yy]
        obtain ⟨A, A2, A3, u, m1, m2, m3, m4, hu⟩ := dv_mid (by have := HD.out.yl; omega) HD.out.yh HA.out
        have HU := hidF hu
        have uY : u < Y := by rw [hu]; exact Nat.mod_lt _ (by have := HD.out.yl; omega)
        obtain ⟨q2, r2, Z2, m5, m6, m7, r2b, d2⟩ := dv_dig (u := u) (n := n0) (y1 := y1) (y0 := y0) (by have := HD.out.yy; have := HD.out.yl; omega) y1b y0h n0h (by have := HD.out.yy; omega) (by have := HD.out.yh; omega)
        have D2 := hidF d2
        clear hu d2 uY HQ HQ9 D1
        go_wp2_with fail
        go_loopw [18, 16] (fun a b wr => ∃ (qi ri : Int), a = .int .u64 qi ∧ b = .int .u64 ri ∧ wr = w ∧ Hid (∃ q r : Nat, qi = (q : Int) ∧ ri = (r : Int) ∧ r < 4294967296 ∧ Dig u n0 y1 y0 q r)) (fun a _ _ => (intV a).toNat)
        case atStart => exact ⟨_, _, rfl, rfl, rfl, q2, r2, rfl, rfl, r2b, D2.out⟩
        case round =>
          obtain ⟨qi, ri, rfl, rfl, hww, H0⟩ := hrel
          have hww2 := hww.symm
          clear hww
          subst hww2
          obtain ⟨q9, r9, hqi, hri, rl, H⟩ := H0.out
          clear H0
          have qle := H.le
          by_cases hB : (4294967296 : Int) ≤ qi
          · obtain ⟨_, H2⟩ := H.less (.inl (by omega))
            obtain ⟨q8, hq8⟩ : ∃ q8 : Int, q8 = qi - 1 := ⟨_, rfl⟩
            have k1 : IntKind.u64.wrap (qi - 1) = q8 := by
              rw [← hq8, show q8 = ((q9 - 1 : Nat) : Int) by omega]; exact wrapU _ (by omega)
            obtain ⟨r8, hr8⟩ : ∃ r8 : Int, r8 = ri + (y1 : Int) := ⟨_, rfl⟩
            have k2 : IntKind.u64.wrap (ri + (y1 : Int)) = r8 := by
              rw [← hr8, show r8 = ((r9 + y1 : Nat) : Int) by omega]; exact wrapU _ (by omega)
            have HL : Hid (∃ q r : Nat, q8 = (q : Int) ∧ r8 = (r : Int) ∧ (4294967296 ≤ r ∨ r < 4294967296) ∧ q ≤ 4294967296 ∧ Dig u n0 y1 y0 q r) := ⟨q9 - 1, r9 + y1, by omega, by omega, by omega, by omega, H2⟩
            have hm8 : q8 < qi := by omega
            have hm9 : 0 ≤ q8 := by omega
            clear H2 hq8 hr8 H
            by_cases hF : (4294967296 : Int) ≤ r8
            · obtain ⟨q7, r7, hq7, hr7, _, qb, hd7⟩ := HL.out
              have HQ := hidF (hd7.far qb (by omega))
              have HQ9 := hidF hq7
              clear hq7 hr7 hd7 HL hqi hri rl qle
              obtain ⟨B1, B3, B4, B5, rm, p1, p2, p3, p4, p5, p6, p7⟩ := dv_end HD.out h1 h3 HA.out HU.out (show q8 = _ by rw [HQ9.out, HQ.out, ← HD.out.yy])
              clear HQ HQ9
              go_wp2_with fail
              refine bodyPost_ret (v := .tuple #[.int .u64 (((hi * 18446744073709551616 + lo) / y : Nat) : Int), .int .u64 (((hi * 18446744073709551616 + lo) % y : Nat) : Int)]) ?_ rfl ⟨rfl, Below.refl _ _⟩
              simp [results, Try.results91, go_sem]
            · have HN2 : Hid (∃ q r : Nat, q8 = (q : Int) ∧ r8 = (r : Int) ∧ r < 4294967296 ∧ Dig u n0 y1 y0 q r) := by
                obtain ⟨q7, r7, hq7, hr7, _, qb, hd7⟩ := HL.out
                exact ⟨q7, r7, hq7, hr7, by omega, hd7⟩
              clear HL hqi hri rl qle
              go_wp2_with fail
              go_roundw
              case rel => go_light; exact ⟨q8, r8, rfl, rfl, by trivial, HN2.out⟩
              case measure => simp [intV]; omega
          · have hm : q9 * y0 ≤ 4294967295 * 4294967295 := Nat.mul_le_mul (by omega) (by omega)
            obtain ⟨P, hP⟩ : ∃ P : Int, P = ((q9 * y0 : Nat) : Int) := ⟨_, rfl⟩
            have f1 : IntKind.u64.wrap (qi * (y0 : Int)) = P := by rw [hqi, wrapMul q9 y0 (by omega), hP]
            obtain ⟨R, hR⟩ : ∃ R : Int, R = 4294967296 * ri := ⟨_, rfl⟩
            have f2 : IntKind.u64.wrap (4294967296 * ri) = R := by
              rw [← hR, show R = ((4294967296 * r9 : Nat) : Int) by omega]; exact wrapU _ (by omega)
            obtain ⟨S, hS⟩ : ∃ S : Int, S = R + (n0 : Int) := ⟨_, rfl⟩
            have f3 : IntKind.u64.wrap (R + (n0 : Int)) = S := by
              rw [← hS, show S = ((4294967296 * r9 + n0 : Nat) : Int) by omega]; exact wrapU _ (by omega)
            by_cases hT : S < P
            · obtain ⟨hq0, H2⟩ := H.less (.inr (by omega))
              clear hP hR hS hm
              obtain ⟨q8, hq8⟩ : ∃ q8 : Int, q8 = qi - 1 := ⟨_, rfl⟩
              have k1 : IntKind.u64.wrap (qi - 1) = q8 := by
                rw [← hq8, show q8 = ((q9 - 1 : Nat) : Int) by omega]; exact wrapU _ (by omega)
              obtain ⟨r8, hr8⟩ : ∃ r8 : Int, r8 = ri + (y1 : Int) := ⟨_, rfl⟩
              have k2 : IntKind.u64.wrap (ri + (y1 : Int)) = r8 := by
                rw [← hr8, show r8 = ((r9 + y1 : Nat) : Int) by omega]; exact wrapU _ (by omega)
              have HL : Hid (∃ q r : Nat, q8 = (q : Int) ∧ r8 = (r : Int) ∧ (4294967296 ≤ r ∨ r < 4294967296) ∧ q ≤ 4294967296 ∧ Dig u n0 y1 y0 q r) := ⟨q9 - 1, r9 + y1, by omega, by omega, by omega, by omega, H2⟩
              have hm8 : q8 < qi := by omega
              have hm9 : 0 ≤ q8 := by omega
              clear H2 hq8 hr8 H
              by_cases hF : (4294967296 : Int) ≤ r8
              · obtain ⟨q7, r7, hq7, hr7, _, qb, hd7⟩ := HL.out
                have HQ := hidF (hd7.far qb (by omega))
                have HQ9 := hidF hq7
                clear hq7 hr7 hd7 HL hqi hri rl qle
                obtain ⟨B1, B3, B4, B5, rm, p1, p2, p3, p4, p5, p6, p7⟩ := dv_end HD.out h1 h3 HA.out HU.out (show q8 = _ by rw [HQ9.out, HQ.out, ← HD.out.yy])
                clear HQ HQ9
                go_wp2_with fail
                refine bodyPost_ret (v := .tuple #[.int .u64 (((hi * 18446744073709551616 + lo) / y : Nat) : Int), .int .u64 (((hi * 18446744073709551616 + lo) % y : Nat) : Int)]) ?_ rfl ⟨rfl, Below.refl _ _⟩
                simp [results, Try.results91, go_sem]
              · have HN2 : Hid (∃ q r : Nat, q8 = (q : Int) ∧ r8 = (r : Int) ∧ r < 4294967296 ∧ Dig u n0 y1 y0 q r) := by
                  obtain ⟨q7, r7, hq7, hr7, _, qb, hd7⟩ := HL.out
                  exact ⟨q7, r7, hq7, hr7, by omega, hd7⟩
                clear HL hqi hri rl qle
                go_wp2_with fail
                go_roundw
                case rel => go_light; exact ⟨q8, r8, rfl, rfl, by trivial, HN2.out⟩
                case measure => simp [intV]; omega
            · have HQ := hidF (H.done (by omega))
              have HQ9 := hidF hqi
              clear hP hR hS hm hqi hri H rl qle
              obtain ⟨B1, B3, B4, B5, rm, p1, p2, p3, p4, p5, p6, p7⟩ := dv_end HD.out h1 h3 HA.out HU.out (show qi = _ by rw [HQ9.out, HQ.out, ← HD.out.yy])
              clear HQ HQ9
              go_wp2_with fail
              refine bodyPost_ret (v := .tuple #[.int .u64 (((hi * 18446744073709551616 + lo) / y : Nat) : Int), .int .u64 (((hi * 18446744073709551616 + lo) % y : Nat) : Int)]) ?_ rfl ⟨rfl, Below.refl _ _⟩
              simp [results, Try.results91, go_sem]
end Go.Proofs.Ytjdndaeobiagcaa
