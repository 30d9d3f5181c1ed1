/- The document's Portion: bit by bit. -/
import Derived.Test.YtjdndaeobiagcaaGM27
import Derived.Test.YtjdndaeobiagcaaGM35
namespace Go.Proofs.Ytjdndaeobiagcaa
open Go.RowKit
set_option linter.unusedVariables false      -- bounds that are for the walk

theorem half_pow (a j : Nat) : a / 2 ^ j = 2 * (a / 2 ^ (j + 1)) + a / 2 ^ j % 2 := by
  rw [Nat.pow_succ, ← Nat.div_div_eq_div_mul]
  omega
/-- one bit more: twice what there was, and the bit's own -/
theorem bit_step {a b c j q r : Nat} (h : a / 2 ^ (j + 1) * b = q * c + r) (hr : r < c) (hb : b ≤ c) :
    ∃ q1 r1, (q1 = 2 * q ∧ r1 = 2 * r ∧ 2 * r < c ∨ q1 = 2 * q + 1 ∧ r1 = 2 * r - c ∧ c ≤ 2 * r) ∧ r1 < c ∧
      (a / 2 ^ j % 2 = 0 → a / 2 ^ j * b = q1 * c + r1) ∧
      (a / 2 ^ j % 2 = 1 → (r1 + b < c → a / 2 ^ j * b = q1 * c + (r1 + b)) ∧ (c ≤ r1 + b → a / 2 ^ j * b = (q1 + 1) * c + (r1 + b - c) ∧ r1 + b - c < c)) := by
  have e := half_pow a j
  generalize a / 2 ^ (j + 1) = P at *
  generalize a / 2 ^ j = N at *
  have key : ∀ q1 r1, 2 * (q * c + r) = q1 * c + r1 → (N % 2 = 0 → N * b = q1 * c + r1) ∧ (N % 2 = 1 → (r1 + b < c → N * b = q1 * c + (r1 + b)) ∧ (c ≤ r1 + b → N * b = (q1 + 1) * c + (r1 + b - c))) := by
    intro q1 r1 h1
    have e2 : N * b = 2 * (P * b) + N % 2 * b := by
      have := congrArg (· * b) e
      simp only [Nat.add_mul, Nat.mul_assoc] at this
      exact this
    refine ⟨fun h0 => by rw [e2, h0, h, h1]; simp, fun h0 => ⟨fun _ => by rw [e2, h0, h, h1, Nat.one_mul]; omega, fun hc => ?_⟩⟩
    rw [e2, h0, h, h1, Nat.add_mul, Nat.one_mul, Nat.one_mul]
    omega
  by_cases hc : 2 * r < c
  · obtain ⟨k1, k2⟩ := key (2 * q) (2 * r) (by rw [Nat.mul_add, ← Nat.mul_assoc])
    exact ⟨2 * q, 2 * r, .inl ⟨rfl, rfl, hc⟩, hc, k1, fun h0 => ⟨(k2 h0).1, fun h1 => ⟨(k2 h0).2 h1, by omega⟩⟩⟩
  · obtain ⟨k1, k2⟩ := key (2 * q + 1) (2 * r - c) (by rw [Nat.mul_add, ← Nat.mul_assoc, Nat.add_mul]; omega)
    exact ⟨2 * q + 1, 2 * r - c, .inr ⟨rfl, rfl, by omega⟩, by omega, k1, fun h0 => ⟨(k2 h0).1, fun h1 => ⟨(k2 h0).2 h1, by omega⟩⟩⟩

theorem neg_floor2 {m c q r : Nat} (h : m = q * c + r) (hr : r < c) : (m : Int) / (c : Int) = q ∧ (-(m : Int)) / (c : Int) = if r = 0 then -(q : Int) else -(q : Int) - 1 := by
  have hq : m / c = q := by rw [h, Nat.mul_comm, Nat.mul_add_div (by omega)]; rw [Nat.div_eq_of_lt hr]; rfl
  have hm : m % c = r := by rw [h, Nat.mul_comm, Nat.mul_add_mod]; exact Nat.mod_eq_of_lt hr
  refine ⟨by rw [← Int.natCast_ediv, hq], ?_⟩
  rw [neg_floor m c (by omega), hm, hq]
  split
  · rfl
  · omega

/-- what is left of the loop -/
structure BitAt (a b c j q r : Nat) : Prop where
  eq : a / 2 ^ j * b = q * c + r
  lt : r < c
theorem BitAt.q_le {a b c j q r : Nat} (h : BitAt a b c j q r) (hb : b ≤ c) : q ≤ a := by
  have h1 : q * c ≤ a / 2 ^ j * c := Nat.le_trans (by have := h.eq; omega) (Nat.mul_le_mul_left _ hb)
  exact Nat.le_trans (Nat.le_of_mul_le_mul_right h1 (by have := h.lt; omega)) (Nat.div_le_self _ _)

set_option maxHeartbeats 4000000 in
set_option maxRecDepth 100000 in
theorem qportion_any (a : Int) (b c : Nat) (a1 : -200000000000 ≤ a) (a2 : a ≤ 200000000000) (hb : b ≤ c) (hc : 0 < c) (hc2 : c < 4000000000000000000) (w : World) :
    Calls Try.prog 36 #[.int .i64 a, .int .i64 (b : Int), .int .i64 (c : Int)] w fun e w' => e = .returned (.int .i64 (a * b / c)) ∧ w' = w := by
  obtain ⟨m, hm⟩ : ∃ m, a.natAbs = m := ⟨_, rfl⟩
  obtain ⟨mi, hmi⟩ : ∃ x : Int, x = (m : Int) := ⟨_, rfl⟩
  have mb : mi ≤ 200000000000 := by omega
  have m0 : 0 ≤ mi := by omega
  obtain ⟨res, hres⟩ : ∃ x, a * (b : Int) / (c : Int) = x := ⟨_, rfl⟩
  have FIN : Hid (∀ q r : Nat, m * b = q * c + r → r < c → res = if 0 ≤ a then (q : Int) else if r = 0 then -(q : Int) else -(q : Int) - 1) := by
    intro q r h1 h2
    obtain ⟨n1, n2⟩ := neg_floor2 h1 h2
    rw [← hres]
    split
    · rw [show a = (m : Int) by omega, ← Int.natCast_mul, n1]
    · rw [show a = -(m : Int) by omega, Int.neg_mul, ← Int.natCast_mul, n2]
  rw [hres]
  have HM := hidF hmi
  have HA := hidF hm
  clear hres hm hmi
  by_cases h0 : a < 0
  · have hmn : -a = mi := by have := HM.out; have := HA.out; omega
    go_enter Try.func36, Try.ntmps36
    go_wp2_with fail
    go_loopw [10] (fun bv wr => ∃ bi : Int, bv = .int .i64 bi ∧ 1 ≤ bi ∧ bi ≤ 200000000000 ∧ wr = w ∧ Hid (∃ k : Nat, bi = ((2 ^ k : Nat) : Int))) (fun bv _ => (mi + 1 - intV bv).toNat)
    case atStart => exact ⟨1, rfl, by omega, by omega, rfl, 0, rfl⟩
    case round =>
      obtain ⟨bi, rfl, b1, b2, hww, HK⟩ := hrel
      have hww2 := hww.symm
      clear hww
      subst hww2
      by_cases hle : bi ≤ mi / 2
      · have HK2 : Hid (∃ k : Nat, bi * 2 = ((2 ^ k : Nat) : Int)) := by
          obtain ⟨k, hk⟩ := HK.out
          exact ⟨k + 1, by rw [hk, Nat.pow_succ]; omega⟩
        go_wp2_with fail
        go_roundw
        case rel => go_light; exact ⟨_, rfl, by omega, by omega, by trivial, HK2.out⟩
        case measure => simp [intV]; omega
      · have S0 : Hid (∃ j : Nat, bi = (if j = 0 then 0 else ((2 ^ (j - 1) : Nat) : Int)) ∧ BitAt m b c j 0 0) := by
          obtain ⟨k, hk⟩ := HK.out
          refine ⟨k + 1, by rw [if_neg (by omega)]; simpa using hk, ?_, by omega⟩
          have : m / 2 ^ (k + 1) = 0 := by
            apply Nat.div_eq_of_lt
            rw [Nat.pow_succ]
            have := HM.out
            omega
          rw [this]; simp
        clear HK
        go_wp2_with fail
        go_loopw [8, 9, 10] (fun qv rv bv wr => ∃ qi ri bi : Int, qv = .int .i64 qi ∧ rv = .int .i64 ri ∧ bv = .int .i64 bi ∧ 0 ≤ qi ∧ qi ≤ 200000000000 ∧ 0 ≤ ri ∧ ri < (c : Int) ∧ 0 ≤ bi ∧ bi ≤ 200000000000 ∧ wr = w ∧ Hid (∃ j q r : Nat, qi = q ∧ ri = r ∧ bi = (if j = 0 then 0 else ((2 ^ (j - 1) : Nat) : Int)) ∧ BitAt m b c j q r)) (fun _ _ bv _ => (intV bv).toNat)
        case atStart =>
          obtain ⟨j, hj, hb9⟩ := S0.out
          exact ⟨0, 0, bi, rfl, rfl, rfl, by omega, by omega, by omega, by omega, by omega, b2, rfl, j, 0, 0, rfl, rfl, hj, hb9⟩
        case round =>
          obtain ⟨qi, ri, b9, rfl, rfl, rfl, x1, x2, x3, x4, x5, x6, hww, HZ⟩ := hrel
          have hww2 := hww.symm
          clear hww S0
          subst hww2
          obtain ⟨j0, q, r, hq, hr, hb9, hat⟩ := HZ.out
          by_cases hgo : 0 < b9 ∧ 0 < mi
          · obtain ⟨y1, y2⟩ := hgo
            have hj0 : j0 ≠ 0 := by
              intro e
              rw [if_pos e] at hb9
              omega
            obtain ⟨j, rfl⟩ : ∃ j, j0 = j + 1 := ⟨j0 - 1, by omega⟩
            have hbj : b9 = ((2 ^ j : Nat) : Int) := by rw [hb9, if_neg (by omega)]; rfl
            obtain ⟨q1, r1, hcase, hr1, hz0, hz1⟩ := bit_step hat.eq hat.lt hb
            have hdv : mi / b9 = ((m / 2 ^ j : Nat) : Int) := by rw [HM.out, hbj, Int.natCast_ediv]
            have hdm : mi / b9 % 2 = ((m / 2 ^ j % 2 : Nat) : Int) := by rw [hdv]; omega
            have hbn : ¬ b9 = 0 := by omega
            have NX : Hid (∀ q' r' : Nat, m / 2 ^ j * b = q' * c + r' → r' < c → (q' ≤ m ∧ ∃ j' : Nat, b9 / 2 = (if j' = 0 then 0 else ((2 ^ (j' - 1) : Nat) : Int)) ∧ BitAt m b c j' q' r')) := by
              intro q' r' h1 h2
              have hb8 : BitAt m b c j q' r' := ⟨h1, h2⟩
              refine ⟨hb8.q_le hb, j, ?_, hb8⟩
              rw [hbj]
              rcases Nat.eq_zero_or_pos j with e | e
              · subst e; simp
              · rw [if_neg (by omega)]
                obtain ⟨i, rfl⟩ : ∃ i, j = i + 1 := ⟨j - 1, by omega⟩
                rw [Nat.add_sub_cancel, Nat.pow_succ]; omega
            have hbh : b9 / 2 < b9 := by omega
            have mo := HM.out
            obtain ⟨dv, hdv2⟩ : ∃ d, mi / b9 = d := ⟨_, rfl⟩
            have td : mi.tdiv b9 = dv := by rw [Int.tdiv_eq_ediv_of_nonneg m0]; exact hdv2
            have dv0 : 0 ≤ dv := by rw [← hdv2]; exact Int.ediv_nonneg m0 (by omega)
            have dv1 : dv ≤ 200000000000 := by rw [← hdv2]; exact Int.le_trans (Int.ediv_le_self _ m0) mb
            have dm : dv % 2 = ((m / 2 ^ j % 2 : Nat) : Int) := by rw [← hdv2]; exact hdm
            clear hdm hdv hb9 hbj HZ
            rcases hcase with ⟨e1, e2, hlt⟩ | ⟨e1, e2, hge⟩
            · have hr2 : ¬ ri * 2 ≥ (c : Int) := by omega
              rcases Nat.mod_two_eq_zero_or_one (m / 2 ^ j) with hbit | hbit
              · have FEQ := hz0 hbit
                have FLT := hr1
                have dm0 : dv % 2 = 0 := by rw [dm, hbit]; rfl
                have tm : dv.tmod 2 = 0 := by rw [Int.tmod_eq_emod_of_nonneg dv0]; exact dm0
                have HREL : Hid (0 ≤ qi * 2 ∧ qi * 2 ≤ 200000000000 ∧ 0 ≤ ri * 2 ∧ ri * 2 < (c : Int) ∧ (∃ j q r : Nat, qi * 2 = q ∧ ri * 2 = r ∧ b9 / 2 = (if j = 0 then 0 else ((2 ^ (j - 1) : Nat) : Int)) ∧ BitAt m b c j q r)) := by
                  obtain ⟨f1, j', f2, f3⟩ := NX.out (q1) (r1) FEQ FLT
                  exact ⟨by omega, by omega, by omega, by omega, j', _, _, by omega, by omega, f2, f3⟩
                clear NX FEQ FLT hz0 hz1 dm hat hbit mo hr1
                clear hq hr
                clear e1 e2
                go_wp2_with fail
                go_roundw
                case rel =>
                  go_light
                  obtain ⟨g1, g2, g3, g4, g5⟩ := HREL.out
                  exact ⟨_, _, _, rfl, rfl, rfl, g1, g2, g3, g4, by omega, by omega, by trivial, g5⟩
                case measure => simp [intV]; omega
              · have dm0 : dv % 2 = 1 := by rw [dm, hbit]; rfl
                have tm : dv.tmod 2 = 1 := by rw [Int.tmod_eq_emod_of_nonneg dv0]; exact dm0
                by_cases hcy : r1 + b < c
                · have FEQ := (hz1 hbit).1 hcy
                  have FLT := hcy
                  have hr3 : ¬ ri * 2 + (b : Int) ≥ (c : Int) := by omega
                  have HREL : Hid (0 ≤ qi * 2 ∧ qi * 2 ≤ 200000000000 ∧ 0 ≤ ri * 2 + (b : Int) ∧ ri * 2 + (b : Int) < (c : Int) ∧ (∃ j q r : Nat, qi * 2 = q ∧ ri * 2 + (b : Int) = r ∧ b9 / 2 = (if j = 0 then 0 else ((2 ^ (j - 1) : Nat) : Int)) ∧ BitAt m b c j q r)) := by
                    obtain ⟨f1, j', f2, f3⟩ := NX.out (q1) (r1 + b) FEQ FLT
                    exact ⟨by omega, by omega, by omega, by omega, j', _, _, by omega, by omega, f2, f3⟩
                  clear NX FEQ FLT hz0 hz1 dm hat hbit mo hr1
                  clear hq hr
                  clear e1 e2
                  go_wp2_with fail
                  go_roundw
                  case rel =>
                    go_light
                    obtain ⟨g1, g2, g3, g4, g5⟩ := HREL.out
                    exact ⟨_, _, _, rfl, rfl, rfl, g1, g2, g3, g4, by omega, by omega, by trivial, g5⟩
                  case measure => simp [intV]; omega
                · have FEQ := ((hz1 hbit).2 (by omega)).1
                  have FLT := ((hz1 hbit).2 (by omega)).2
                  have hr3 : ri * 2 + (b : Int) ≥ (c : Int) := by omega
                  have HREL : Hid (0 ≤ qi * 2 + 1 ∧ qi * 2 + 1 ≤ 200000000000 ∧ 0 ≤ ri * 2 + (b : Int) - (c : Int) ∧ ri * 2 + (b : Int) - (c : Int) < (c : Int) ∧ (∃ j q r : Nat, qi * 2 + 1 = q ∧ ri * 2 + (b : Int) - (c : Int) = r ∧ b9 / 2 = (if j = 0 then 0 else ((2 ^ (j - 1) : Nat) : Int)) ∧ BitAt m b c j q r)) := by
                    obtain ⟨f1, j', f2, f3⟩ := NX.out (q1 + 1) (r1 + b - c) FEQ FLT
                    exact ⟨by omega, by omega, by omega, by omega, j', _, _, by omega, by omega, f2, f3⟩
                  clear NX FEQ FLT hz0 hz1 dm hat hbit mo hr1
                  clear hq hr
                  clear e1 e2
                  go_wp2_with fail
                  go_roundw
                  case rel =>
                    go_light
                    obtain ⟨g1, g2, g3, g4, g5⟩ := HREL.out
                    exact ⟨_, _, _, rfl, rfl, rfl, g1, g2, g3, g4, by omega, by omega, by trivial, g5⟩
                  case measure => simp [intV]; omega
            · have hr2 : ri * 2 ≥ (c : Int) := by omega
              rcases Nat.mod_two_eq_zero_or_one (m / 2 ^ j) with hbit | hbit
              · have FEQ := hz0 hbit
                have FLT := hr1
                have dm0 : dv % 2 = 0 := by rw [dm, hbit]; rfl
                have tm : dv.tmod 2 = 0 := by rw [Int.tmod_eq_emod_of_nonneg dv0]; exact dm0
                have HREL : Hid (0 ≤ qi * 2 + 1 ∧ qi * 2 + 1 ≤ 200000000000 ∧ 0 ≤ ri * 2 - (c : Int) ∧ ri * 2 - (c : Int) < (c : Int) ∧ (∃ j q r : Nat, qi * 2 + 1 = q ∧ ri * 2 - (c : Int) = r ∧ b9 / 2 = (if j = 0 then 0 else ((2 ^ (j - 1) : Nat) : Int)) ∧ BitAt m b c j q r)) := by
                  obtain ⟨f1, j', f2, f3⟩ := NX.out (q1) (r1) FEQ FLT
                  exact ⟨by omega, by omega, by omega, by omega, j', _, _, by omega, by omega, f2, f3⟩
                clear NX FEQ FLT hz0 hz1 dm hat hbit mo hr1
                clear hq hr
                clear e1 e2
                go_wp2_with fail
                go_roundw
                case rel =>
                  go_light
                  obtain ⟨g1, g2, g3, g4, g5⟩ := HREL.out
                  exact ⟨_, _, _, rfl, rfl, rfl, g1, g2, g3, g4, by omega, by omega, by trivial, g5⟩
                case measure => simp [intV]; omega
              · have dm0 : dv % 2 = 1 := by rw [dm, hbit]; rfl
                have tm : dv.tmod 2 = 1 := by rw [Int.tmod_eq_emod_of_nonneg dv0]; exact dm0
                by_cases hcy : r1 + b < c
                · have FEQ := (hz1 hbit).1 hcy
                  have FLT := hcy
                  have hr3 : ¬ ri * 2 - (c : Int) + (b : Int) ≥ (c : Int) := by omega
                  have HREL : Hid (0 ≤ qi * 2 + 1 ∧ qi * 2 + 1 ≤ 200000000000 ∧ 0 ≤ ri * 2 - (c : Int) + (b : Int) ∧ ri * 2 - (c : Int) + (b : Int) < (c : Int) ∧ (∃ j q r : Nat, qi * 2 + 1 = q ∧ ri * 2 - (c : Int) + (b : Int) = r ∧ b9 / 2 = (if j = 0 then 0 else ((2 ^ (j - 1) : Nat) : Int)) ∧ BitAt m b c j q r)) := by
                    obtain ⟨f1, j', f2, f3⟩ := NX.out (q1) (r1 + b) FEQ FLT
                    exact ⟨by omega, by omega, by omega, by omega, j', _, _, by omega, by omega, f2, f3⟩
                  clear NX FEQ FLT hz0 hz1 dm hat hbit mo hr1
                  clear hq hr
                  clear e1 e2
                  go_wp2_with fail
                  go_roundw
                  case rel =>
                    go_light
                    obtain ⟨g1, g2, g3, g4, g5⟩ := HREL.out
                    exact ⟨_, _, _, rfl, rfl, rfl, g1, g2, g3, g4, by omega, by omega, by trivial, g5⟩
                  case measure => simp [intV]; omega
                · have FEQ := ((hz1 hbit).2 (by omega)).1
                  have FLT := ((hz1 hbit).2 (by omega)).2
                  have hr3 : ri * 2 - (c : Int) + (b : Int) ≥ (c : Int) := by omega
                  have HREL : Hid (0 ≤ qi * 2 + 1 + 1 ∧ qi * 2 + 1 + 1 ≤ 200000000000 ∧ 0 ≤ ri * 2 - (c : Int) + (b : Int) - (c : Int) ∧ ri * 2 - (c : Int) + (b : Int) - (c : Int) < (c : Int) ∧ (∃ j q r : Nat, qi * 2 + 1 + 1 = q ∧ ri * 2 - (c : Int) + (b : Int) - (c : Int) = r ∧ b9 / 2 = (if j = 0 then 0 else ((2 ^ (j - 1) : Nat) : Int)) ∧ BitAt m b c j q r)) := by
                    obtain ⟨f1, j', f2, f3⟩ := NX.out (q1 + 1) (r1 + b - c) FEQ FLT
                    exact ⟨by omega, by omega, by omega, by omega, j', _, _, by omega, by omega, f2, f3⟩
                  clear NX FEQ FLT hz0 hz1 dm hat hbit mo hr1
                  clear hq hr
                  clear e1 e2
                  go_wp2_with fail
                  go_roundw
                  case rel =>
                    go_light
                    obtain ⟨g1, g2, g3, g4, g5⟩ := HREL.out
                    exact ⟨_, _, _, rfl, rfl, rfl, g1, g2, g3, g4, by omega, by omega, by trivial, g5⟩
                  case measure => simp [intV]; omega
          · skip
            have hend : m * b = q * c + r := by
              by_cases e : j0 = 0
              · have := hat.eq; rw [e] at this; simpa using this
              · have hm0 : m = 0 := by
                  have hp : 0 < 2 ^ (j0 - 1) := Nat.pow_pos (by omega)
                  rw [if_neg e] at hb9
                  have := HM.out
                  omega
                have := hat.eq; rw [hm0] at this ⊢; simpa using this
            have hre := FIN.out q r hend hat.lt
            clear HZ hend hat hb9
            have HQR := hidF (And.intro hq hr)
            rw [if_neg (by omega)] at hre
            by_cases hr0 : r = 0
            · rw [if_pos hr0] at hre
              have hri : ¬ ri > 0 := by omega
              have HRE := hidF (show -qi = res by omega)
              clear hre hq hr hr0
              rcases Int.lt_or_le 0 b9 with hb8 | hb8
              · have hm8 : ¬ 0 < mi := fun e => hgo ⟨hb8, e⟩
                go_wp2_with fail
                go_returns
                exact ⟨ret_i HRE.out, rfl⟩
              · have hb7 : ¬ 0 < b9 := by omega
                go_wp2_with fail
                go_returns
                exact ⟨ret_i HRE.out, rfl⟩
            · rw [if_neg hr0] at hre
              have hri : ri > 0 := by omega
              have HRE := hidF (show -qi - 1 = res by omega)
              clear hre hq hr hr0
              rcases Int.lt_or_le 0 b9 with hb8 | hb8
              · have hm8 : ¬ 0 < mi := fun e => hgo ⟨hb8, e⟩
                go_wp2_with fail
                go_returns
                exact ⟨ret_i HRE.out, rfl⟩
              · have hb7 : ¬ 0 < b9 := by omega
                go_wp2_with fail
                go_returns
                exact ⟨ret_i HRE.out, rfl⟩
  · have hmn : a = mi := by have := HM.out; have := HA.out; omega
    subst hmn
    go_enter Try.func36, Try.ntmps36
    go_wp2_with fail
    go_loopw [10] (fun bv wr => ∃ bi : Int, bv = .int .i64 bi ∧ 1 ≤ bi ∧ bi ≤ 200000000000 ∧ wr = w ∧ Hid (∃ k : Nat, bi = ((2 ^ k : Nat) : Int))) (fun bv _ => (a + 1 - intV bv).toNat)
    case atStart => exact ⟨1, rfl, by omega, by omega, rfl, 0, rfl⟩
    case round =>
      obtain ⟨bi, rfl, b1, b2, hww, HK⟩ := hrel
      have hww2 := hww.symm
      clear hww
      subst hww2
      by_cases hle : bi ≤ a / 2
      · have HK2 : Hid (∃ k : Nat, bi * 2 = ((2 ^ k : Nat) : Int)) := by
          obtain ⟨k, hk⟩ := HK.out
          exact ⟨k + 1, by rw [hk, Nat.pow_succ]; omega⟩
        go_wp2_with fail
        go_roundw
        case rel => go_light; exact ⟨_, rfl, by omega, by omega, by trivial, HK2.out⟩
        case measure => simp [intV]; omega
      · have S0 : Hid (∃ j : Nat, bi = (if j = 0 then 0 else ((2 ^ (j - 1) : Nat) : Int)) ∧ BitAt m b c j 0 0) := by
          obtain ⟨k, hk⟩ := HK.out
          refine ⟨k + 1, by rw [if_neg (by omega)]; simpa using hk, ?_, by omega⟩
          have : m / 2 ^ (k + 1) = 0 := by
            apply Nat.div_eq_of_lt
            rw [Nat.pow_succ]
            have := HM.out
            omega
          rw [this]; simp
        clear HK
        go_wp2_with fail
        go_loopw [8, 9, 10] (fun qv rv bv wr => ∃ qi ri bi : Int, qv = .int .i64 qi ∧ rv = .int .i64 ri ∧ bv = .int .i64 bi ∧ 0 ≤ qi ∧ qi ≤ 200000000000 ∧ 0 ≤ ri ∧ ri < (c : Int) ∧ 0 ≤ bi ∧ bi ≤ 200000000000 ∧ wr = w ∧ Hid (∃ j q r : Nat, qi = q ∧ ri = r ∧ bi = (if j = 0 then 0 else ((2 ^ (j - 1) : Nat) : Int)) ∧ BitAt m b c j q r)) (fun _ _ bv _ => (intV bv).toNat)
        case atStart =>
          obtain ⟨j, hj, hb9⟩ := S0.out
          exact ⟨0, 0, bi, rfl, rfl, rfl, by omega, by omega, by omega, by omega, by omega, b2, rfl, j, 0, 0, rfl, rfl, hj, hb9⟩
        case round =>
          obtain ⟨qi, ri, b9, rfl, rfl, rfl, x1, x2, x3, x4, x5, x6, hww, HZ⟩ := hrel
          have hww2 := hww.symm
          clear hww S0
          subst hww2
          obtain ⟨j0, q, r, hq, hr, hb9, hat⟩ := HZ.out
          by_cases hgo : 0 < b9 ∧ 0 < a
          · obtain ⟨y1, y2⟩ := hgo
            have hj0 : j0 ≠ 0 := by
              intro e
              rw [if_pos e] at hb9
              omega
            obtain ⟨j, rfl⟩ : ∃ j, j0 = j + 1 := ⟨j0 - 1, by omega⟩
            have hbj : b9 = ((2 ^ j : Nat) : Int) := by rw [hb9, if_neg (by omega)]; rfl
            obtain ⟨q1, r1, hcase, hr1, hz0, hz1⟩ := bit_step hat.eq hat.lt hb
            have hdv : a / b9 = ((m / 2 ^ j : Nat) : Int) := by rw [HM.out, hbj, Int.natCast_ediv]
            have hdm : a / b9 % 2 = ((m / 2 ^ j % 2 : Nat) : Int) := by rw [hdv]; omega
            have hbn : ¬ b9 = 0 := by omega
            have NX : Hid (∀ q' r' : Nat, m / 2 ^ j * b = q' * c + r' → r' < c → (q' ≤ m ∧ ∃ j' : Nat, b9 / 2 = (if j' = 0 then 0 else ((2 ^ (j' - 1) : Nat) : Int)) ∧ BitAt m b c j' q' r')) := by
              intro q' r' h1 h2
              have hb8 : BitAt m b c j q' r' := ⟨h1, h2⟩
              refine ⟨hb8.q_le hb, j, ?_, hb8⟩
              rw [hbj]
              rcases Nat.eq_zero_or_pos j with e | e
              · subst e; simp
              · rw [if_neg (by omega)]
                obtain ⟨i, rfl⟩ : ∃ i, j = i + 1 := ⟨j - 1, by omega⟩
                rw [Nat.add_sub_cancel, Nat.pow_succ]; omega
            have hbh : b9 / 2 < b9 := by omega
            have mo := HM.out
            obtain ⟨dv, hdv2⟩ : ∃ d, a / b9 = d := ⟨_, rfl⟩
            have td : a.tdiv b9 = dv := by rw [Int.tdiv_eq_ediv_of_nonneg m0]; exact hdv2
            have dv0 : 0 ≤ dv := by rw [← hdv2]; exact Int.ediv_nonneg m0 (by omega)
            have dv1 : dv ≤ 200000000000 := by rw [← hdv2]; exact Int.le_trans (Int.ediv_le_self _ m0) mb
            have dm : dv % 2 = ((m / 2 ^ j % 2 : Nat) : Int) := by rw [← hdv2]; exact hdm
            clear hdm hdv hb9 hbj HZ
            rcases hcase with ⟨e1, e2, hlt⟩ | ⟨e1, e2, hge⟩
            · have hr2 : ¬ ri * 2 ≥ (c : Int) := by omega
              rcases Nat.mod_two_eq_zero_or_one (m / 2 ^ j) with hbit | hbit
              · have FEQ := hz0 hbit
                have FLT := hr1
                have dm0 : dv % 2 = 0 := by rw [dm, hbit]; rfl
                have tm : dv.tmod 2 = 0 := by rw [Int.tmod_eq_emod_of_nonneg dv0]; exact dm0
                have HREL : Hid (0 ≤ qi * 2 ∧ qi * 2 ≤ 200000000000 ∧ 0 ≤ ri * 2 ∧ ri * 2 < (c : Int) ∧ (∃ j q r : Nat, qi * 2 = q ∧ ri * 2 = r ∧ b9 / 2 = (if j = 0 then 0 else ((2 ^ (j - 1) : Nat) : Int)) ∧ BitAt m b c j q r)) := by
                  obtain ⟨f1, j', f2, f3⟩ := NX.out (q1) (r1) FEQ FLT
                  exact ⟨by omega, by omega, by omega, by omega, j', _, _, by omega, by omega, f2, f3⟩
                clear NX FEQ FLT hz0 hz1 dm hat hbit mo hr1
                clear hq hr
                clear e1 e2
                go_wp2_with fail
                go_roundw
                case rel =>
                  go_light
                  obtain ⟨g1, g2, g3, g4, g5⟩ := HREL.out
                  exact ⟨_, _, _, rfl, rfl, rfl, g1, g2, g3, g4, by omega, by omega, by trivial, g5⟩
                case measure => simp [intV]; omega
              · have dm0 : dv % 2 = 1 := by rw [dm, hbit]; rfl
                have tm : dv.tmod 2 = 1 := by rw [Int.tmod_eq_emod_of_nonneg dv0]; exact dm0
                by_cases hcy : r1 + b < c
                · have FEQ := (hz1 hbit).1 hcy
                  have FLT := hcy
                  have hr3 : ¬ ri * 2 + (b : Int) ≥ (c : Int) := by omega
                  have HREL : Hid (0 ≤ qi * 2 ∧ qi * 2 ≤ 200000000000 ∧ 0 ≤ ri * 2 + (b : Int) ∧ ri * 2 + (b : Int) < (c : Int) ∧ (∃ j q r : Nat, qi * 2 = q ∧ ri * 2 + (b : Int) = r ∧ b9 / 2 = (if j = 0 then 0 else ((2 ^ (j - 1) : Nat) : Int)) ∧ BitAt m b c j q r)) := by
                    obtain ⟨f1, j', f2, f3⟩ := NX.out (q1) (r1 + b) FEQ FLT
                    exact ⟨by omega, by omega, by omega, by omega, j', _, _, by omega, by omega, f2, f3⟩
                  clear NX FEQ FLT hz0 hz1 dm hat hbit mo hr1
                  clear hq hr
                  clear e1 e2
                  go_wp2_with fail
                  go_roundw
                  case rel =>
                    go_light
                    obtain ⟨g1, g2, g3, g4, g5⟩ := HREL.out
                    exact ⟨_, _, _, rfl, rfl, rfl, g1, g2, g3, g4, by omega, by omega, by trivial, g5⟩
                  case measure => simp [intV]; omega
                · have FEQ := ((hz1 hbit).2 (by omega)).1
                  have FLT := ((hz1 hbit).2 (by omega)).2
                  have hr3 : ri * 2 + (b : Int) ≥ (c : Int) := by omega
                  have HREL : Hid (0 ≤ qi * 2 + 1 ∧ qi * 2 + 1 ≤ 200000000000 ∧ 0 ≤ ri * 2 + (b : Int) - (c : Int) ∧ ri * 2 + (b : Int) - (c : Int) < (c : Int) ∧ (∃ j q r : Nat, qi * 2 + 1 = q ∧ ri * 2 + (b : Int) - (c : Int) = r ∧ b9 / 2 = (if j = 0 then 0 else ((2 ^ (j - 1) : Nat) : Int)) ∧ BitAt m b c j q r)) := by
                    obtain ⟨f1, j', f2, f3⟩ := NX.out (q1 + 1) (r1 + b - c) FEQ FLT
                    exact ⟨by omega, by omega, by omega, by omega, j', _, _, by omega, by omega, f2, f3⟩
                  clear NX FEQ FLT hz0 hz1 dm hat hbit mo hr1
                  clear hq hr
                  clear e1 e2
                  go_wp2_with fail
                  go_roundw
                  case rel =>
                    go_light
                    obtain ⟨g1, g2, g3, g4, g5⟩ := HREL.out
                    exact ⟨_, _, _, rfl, rfl, rfl, g1, g2, g3, g4, by omega, by omega, by trivial, g5⟩
                  case measure => simp [intV]; omega
            · have hr2 : ri * 2 ≥ (c : Int) := by omega
              rcases Nat.mod_two_eq_zero_or_one (m / 2 ^ j) with hbit | hbit
              · have FEQ := hz0 hbit
                have FLT := hr1
                have dm0 : dv % 2 = 0 := by rw [dm, hbit]; rfl
                have tm : dv.tmod 2 = 0 := by rw [Int.tmod_eq_emod_of_nonneg dv0]; exact dm0
                have HREL : Hid (0 ≤ qi * 2 + 1 ∧ qi * 2 + 1 ≤ 200000000000 ∧ 0 ≤ ri * 2 - (c : Int) ∧ ri * 2 - (c : Int) < (c : Int) ∧ (∃ j q r : Nat, qi * 2 + 1 = q ∧ ri * 2 - (c : Int) = r ∧ b9 / 2 = (if j = 0 then 0 else ((2 ^ (j - 1) : Nat) : Int)) ∧ BitAt m b c j q r)) := by
                  obtain ⟨f1, j', f2, f3⟩ := NX.out (q1) (r1) FEQ FLT
                  exact ⟨by omega, by omega, by omega, by omega, j', _, _, by omega, by omega, f2, f3⟩
                clear NX FEQ FLT hz0 hz1 dm hat hbit mo hr1
                clear hq hr
                clear e1 e2
                go_wp2_with fail
                go_roundw
                case rel =>
                  go_light
                  obtain ⟨g1, g2, g3, g4, g5⟩ := HREL.out
                  exact ⟨_, _, _, rfl, rfl, rfl, g1, g2, g3, g4, by omega, by omega, by trivial, g5⟩
                case measure => simp [intV]; omega
              · have dm0 : dv % 2 = 1 := by rw [dm, hbit]; rfl
                have tm : dv.tmod 2 = 1 := by rw [Int.tmod_eq_emod_of_nonneg dv0]; exact dm0
                by_cases hcy : r1 + b < c
                · have FEQ := (hz1 hbit).1 hcy
                  have FLT := hcy
                  have hr3 : ¬ ri * 2 - (c : Int) + (b : Int) ≥ (c : Int) := by omega
                  have HREL : Hid (0 ≤ qi * 2 + 1 ∧ qi * 2 + 1 ≤ 200000000000 ∧ 0 ≤ ri * 2 - (c : Int) + (b : Int) ∧ ri * 2 - (c : Int) + (b : Int) < (c : Int) ∧ (∃ j q r : Nat, qi * 2 + 1 = q ∧ ri * 2 - (c : Int) + (b : Int) = r ∧ b9 / 2 = (if j = 0 then 0 else ((2 ^ (j - 1) : Nat) : Int)) ∧ BitAt m b c j q r)) := by
                    obtain ⟨f1, j', f2, f3⟩ := NX.out (q1) (r1 + b) FEQ FLT
                    exact ⟨by omega, by omega, by omega, by omega, j', _, _, by omega, by omega, f2, f3⟩
                  clear NX FEQ FLT hz0 hz1 dm hat hbit mo hr1
                  clear hq hr
                  clear e1 e2
                  go_wp2_with fail
                  go_roundw
                  case rel =>
                    go_light
                    obtain ⟨g1, g2, g3, g4, g5⟩ := HREL.out
                    exact ⟨_, _, _, rfl, rfl, rfl, g1, g2, g3, g4, by omega, by omega, by trivial, g5⟩
                  case measure => simp [intV]; omega
                · have FEQ := ((hz1 hbit).2 (by omega)).1
                  have FLT := ((hz1 hbit).2 (by omega)).2
                  have hr3 : ri * 2 - (c : Int) + (b : Int) ≥ (c : Int) := by omega
                  have HREL : Hid (0 ≤ qi * 2 + 1 + 1 ∧ qi * 2 + 1 + 1 ≤ 200000000000 ∧ 0 ≤ ri * 2 - (c : Int) + (b : Int) - (c : Int) ∧ ri * 2 - (c : Int) + (b : Int) - (c : Int) < (c : Int) ∧ (∃ j q r : Nat, qi * 2 + 1 + 1 = q ∧ ri * 2 - (c : Int) + (b : Int) - (c : Int) = r ∧ b9 / 2 = (if j = 0 then 0 else ((2 ^ (j - 1) : Nat) : Int)) ∧ BitAt m b c j q r)) := by
                    obtain ⟨f1, j', f2, f3⟩ := NX.out (q1 + 1) (r1 + b - c) FEQ FLT
                    exact ⟨by omega, by omega, by omega, by omega, j', _, _, by omega, by omega, f2, f3⟩
                  clear NX FEQ FLT hz0 hz1 dm hat hbit mo hr1
                  clear hq hr
                  clear e1 e2
                  go_wp2_with fail
                  go_roundw
                  case rel =>
                    go_light
                    obtain ⟨g1, g2, g3, g4, g5⟩ := HREL.out
                    exact ⟨_, _, _, rfl, rfl, rfl, g1, g2, g3, g4, by omega, by omega, by trivial, g5⟩
                  case measure => simp [intV]; omega
          · skip
            have hend : m * b = q * c + r := by
              by_cases e : j0 = 0
              · have := hat.eq; rw [e] at this; simpa using this
              · have hm0 : m = 0 := by
                  have hp : 0 < 2 ^ (j0 - 1) := Nat.pow_pos (by omega)
                  rw [if_neg e] at hb9
                  have := HM.out
                  omega
                have := hat.eq; rw [hm0] at this ⊢; simpa using this
            have hre := FIN.out q r hend hat.lt
            clear HZ hend hat hb9
            have HQR := hidF (And.intro hq hr)
            rw [if_pos (by omega)] at hre
            have HRE := hidF (show qi = res by omega)
            clear hre hq hr
            rcases Int.lt_or_le 0 b9 with hb8 | hb8
            · have hm8 : ¬ 0 < a := fun e => hgo ⟨hb8, e⟩
              go_wp2_with fail
              go_returns
              exact ⟨ret_i HRE.out, rfl⟩
            · have hb7 : ¬ 0 < b9 := by omega
              go_wp2_with fail
              go_returns
              exact ⟨ret_i HRE.out, rfl⟩
end Go.Proofs.Ytjdndaeobiagcaa
