/- The document reckons what lies at a place (fff). -/
import Derived.Test.YtpbnijmnplfgmaaFXPure
import Derived.Deep.DeepCutAuto
import Derived.Deep.Light
namespace Go.Proofs.Ytpbnijmnplfgmaa
open Go.RowKit
set_option linter.unusedVariables false      -- one form for all eight

set_option maxHeartbeats 4000000 in
set_option maxRecDepth 100000 in
theorem solveFixedV_ffftf (Rm Fr To L I T A Fi Mn Mx At Rmh Frh Toh Lh Ih Th Ah Fih Mnh Mxh Ath : Int) (eRm : Hid (heldN Rm = Rmh)) (bRm1 : -16777216 ≤ Rmh) (bRm2 : Rmh ≤ 16777216) (eFr : Hid (heldN Fr = Frh)) (bFr1 : -16777216 ≤ Frh) (bFr2 : Frh ≤ 16777216) (eTo : Hid (heldN To = Toh)) (bTo1 : -16777216 ≤ Toh) (bTo2 : Toh ≤ 16777216) (eL : Hid (heldN L = Lh)) (bL1 : -16777216 ≤ Lh) (bL2 : Lh ≤ 16777216) (eI : Hid (heldN I = Ih)) (bI1 : -16777216 ≤ Ih) (bI2 : Ih ≤ 16777216) (eT : Hid (heldN T = Th)) (bT1 : -16777216 ≤ Th) (bT2 : Th ≤ 16777216) (eA : Hid (heldN A = Ah)) (bA1 : -16777216 ≤ Ah) (bA2 : Ah ≤ 16777216) (eFi : Hid (heldN Fi = Fih)) (bFi1 : -16777216 ≤ Fih) (bFi2 : Fih ≤ 16777216) (eMn : Hid (heldN Mn = Mnh)) (bMn1 : -16777216 ≤ Mnh) (bMn2 : Mnh ≤ 16777216) (eMx : Hid (heldN Mx = Mxh)) (bMx1 : -16777216 ≤ Mxh) (bMx2 : Mxh ≤ 16777216) (eAt : Hid (heldN At = Ath)) (bAt1 : -16777216 ≤ Ath) (bAt2 : Ath ≤ 16777216) (w : World) :
    Calls Try.prog 26 #[.agg #[.int .i64 Rm, .int .i64 Fr, .int .i64 To, .int .i64 L, .int .i64 I, .int .i64 T, .int .i64 A, .int .i64 Fi, .int .i64 Mn, .int .i64 Mx, .int .i64 At, .bool false, .bool false, .bool true, .bool false, .bool false]] w
      fun e w' => e = .returned (.tuple #[.int .i64 (fixedN Rmh Frh Toh Lh Ih Th Ah Fih Mnh Mxh Ath false false true false false).1, .int .i64 (fixedN Rmh Frh Toh Lh Ih Th Ah Fih Mnh Mxh Ath false false true false false).2.1, .int .i64 (fixedN Rmh Frh Toh Lh Ih Th Ah Fih Mnh Mxh Ath false false true false false).2.2.1, .int .i64 (fixedN Rmh Frh Toh Lh Ih Th Ah Fih Mnh Mxh Ath false false true false false).2.2.2]) ∧ Below w.heap.size w w' := by
  go_enter Try.func26, Try.ntmps26
  go_upto_if 59 with (first | (go_at_call 11; refine (held_any _ _).mono ?_; rintro e w' ⟨rfl, rfl⟩) | (go_at_call 37; refine (most_any _ _ _).mono ?_; rintro e w' ⟨rfl, rfl⟩) | (go_at_call 45; refine (down2_any _ (by omega) (by omega) _).mono ?_; rintro e w' ⟨rfl, rfl⟩))
  simp only [eRm.out, eFr.out, eTo.out, eL.out, eI.out, eT.out, eA.out, eFi.out, eMn.out, eMx.out, eAt.out]
  obtain ⟨x1, hx1⟩ : ∃ x, x = z true Lh := ⟨_, rfl⟩
  obtain ⟨x2, hx2⟩ : ∃ x, x = z false Th := ⟨_, rfl⟩
  have HX1 : Hid (x1 = z true Lh) := hx1
  have HX2 : Hid (x2 = z false Th) := hx2
  have k1 : -16777216 ≤ x1 := by rw [hx1]; unfold z; split <;> omega
  have k2 : x1 ≤ 16777216 := by rw [hx1]; unfold z; split <;> omega
  have k3 : -16777216 ≤ x2 := by rw [hx2]; unfold z; split <;> omega
  have k4 : x2 ≤ 16777216 := by rw [hx2]; unfold z; split <;> omega
  obtain ⟨i0, hi0⟩ : ∃ x, x = i0N Ih Fih (Rmh - Ah - x1 - x2 - Frh - Toh) false true := ⟨_, rfl⟩
  have E0 : Hid (i0 = Ih) := by show _ = _; rw [hi0, i0N_f]
  have m1 : -200000000 ≤ i0 := by have := E0.out; omega
  have m2 : i0 ≤ 200000000 := by have := E0.out; omega
  obtain ⟨i1, hi1⟩ : ∃ x, x = bnd1 i0 Mxh := ⟨_, rfl⟩
  have m3 : -200000000 ≤ i1 := by rw [hi1]; unfold bnd1; split <;> omega
  have m4 : i1 ≤ 200000000 := by rw [hi1]; unfold bnd1; split <;> omega
  obtain ⟨i2, hi2⟩ : ∃ x, x = max i1 (max Mnh 0) := ⟨_, rfl⟩
  have m5 : -200000000 ≤ i2 := by omega
  have m6 : i2 ≤ 200000000 := by omega
  have HI1 : Hid (i1 = bnd1 i0 Mxh) := hi1
  have HI2 : Hid (i2 = max i1 (max Mnh 0)) := hi2
  obtain ⟨an, han⟩ : ∃ b : Bool, b = decide (0 ≤ Mxh ∧ Mxh < i0) := ⟨_, rfl⟩
  have HA1 : Hid (an = decide (0 ≤ Mxh ∧ Mxh < i0)) := han
  obtain ⟨bn, hbn⟩ : ∃ b : Bool, b = (an || decide (i1 < max Mnh 0)) := ⟨_, rfl⟩
  have HB1 : Hid (bn = (an || decide (i1 < max Mnh 0))) := hbn
  obtain ⟨a1, ha1⟩ : ∃ b : Bool, b = (false && !an) := ⟨_, rfl⟩
  have HA2 : Hid (a1 = (false && !an)) := ha1
  obtain ⟨a2, ha2⟩ : ∃ b : Bool, b = (false && !bn) := ⟨_, rfl⟩
  have HA3 : Hid (a2 = (false && !bn)) := ha2
  obtain ⟨p, hp⟩ : ∃ p, p = if true && !a2 then takeN x1 x2 (Rmh - Ah - x1 - x2 - Frh - Toh - i2) true false else (x1, x2) := ⟨_, rfl⟩
  have HP : Hid (p = if true && !a2 then takeN x1 x2 (Rmh - Ah - x1 - x2 - Frh - Toh - i2) true false else (x1, x2)) := hp
  obtain ⟨p1, p2⟩ := p
  have HF : Hid ((fixedN Rmh Frh Toh Lh Ih Th Ah Fih Mnh Mxh Ath false false true false false) = (beginN Frh Toh Ath (Rmh - Ah - x1 - x2 - i2) false false, p1, i2, p2)) := by
    show _ = _
    rw [fixedN_is, ← hx1, ← hx2]
    rw [show (!false && !false) = true from rfl, ← hi0, ← hi1, ← hi2, ← han, ← hbn, ← ha2, ← hp]
  clear hx1 hx2 hi0 hi1 hi2 han hbn ha1 ha2 hp
  have E1 : Hid (x1 = 0) := by show _ = _; rw [HX1.out, z_t]
  have E2 : Hid (x2 = Th) := by show _ = _; rw [HX2.out, z_f]
  go_upto_if 62 with fail
  go_cut [] (fun wx => wx = w.alloc (.cells #[.int .i64 Rmh, .int .i64 Frh, .int .i64 Toh, .int .i64 x1, .int .i64 Ih, .int .i64 x2, .int .i64 Ah, .int .i64 Fih, .int .i64 (max Mnh 0), .int .i64 Mxh, .int .i64 Ath, .bool false, .bool false, .bool true, .bool false, .bool false] 64))
  case first =>
    go_wp2
    go_meet
    case rel => go_light; rw [E1.out, E2.out]
  case rest =>
  obtain rfl := hcut
  clear E1 E2
  go_upto_region 23 with (first | (go_at_call 11; refine (held_any _ _).mono ?_; rintro e w' ⟨rfl, rfl⟩) | (go_at_call 37; refine (most_any _ _ _).mono ?_; rintro e w' ⟨rfl, rfl⟩) | (go_at_call 45; refine (down2_any _ (by omega) (by omega) _).mono ?_; rintro e w' ⟨rfl, rfl⟩))
  go_cut [7, 109] (fun s7 s109 wx => s7 = .int .i64 i0 ∧ s109 = .bool an ∧ wx = w.alloc (.cells #[.int .i64 Rmh, .int .i64 Frh, .int .i64 Toh, .int .i64 x1, .int .i64 Ih, .int .i64 x2, .int .i64 Ah, .int .i64 Fih, .int .i64 (max Mnh 0), .int .i64 Mxh, .int .i64 Ath, .bool false, .bool false, .bool true, .bool false, .bool false] 64))
  case first =>
    by_cases c1 : 0 ≤ Mxh
    · by_cases c2 : Mxh < Ih
      · have E1 : Hid (an = true) := by show _ = _; rw [HA1.out, E0.out]; exact decide_eq_true ⟨c1, c2⟩
        go_wp2
        go_meet
        case rel => go_light; rw [E1.out, E0.out]; exact ⟨rfl, rfl, rfl⟩
      · have E1 : Hid (an = false) := by show _ = _; rw [HA1.out, E0.out]; exact decide_eq_false (fun h => c2 h.2)
        go_wp2
        go_meet
        case rel => go_light; rw [E1.out, E0.out]; exact ⟨rfl, rfl, rfl⟩
    · have E1 : Hid (an = false) := by show _ = _; rw [HA1.out]; exact decide_eq_false (fun h => c1 h.1)
      go_wp2
      go_meet
      case rel => go_light; rw [E1.out, E0.out]; exact ⟨rfl, rfl, rfl⟩
  case rest =>
  obtain ⟨rfl, rfl, rfl⟩ := hcut
  go_upto_if 109 with fail
  go_cut [7, 8] (fun s7 s8 wx => s7 = .int .i64 i1 ∧ s8 = .bool a1 ∧ wx = w.alloc (.cells #[.int .i64 Rmh, .int .i64 Frh, .int .i64 Toh, .int .i64 x1, .int .i64 Ih, .int .i64 x2, .int .i64 Ah, .int .i64 Fih, .int .i64 (max Mnh 0), .int .i64 Mxh, .int .i64 Ath, .bool false, .bool false, .bool true, .bool false, .bool false] 64))
  case first =>
    cases an
    · have E1 : Hid (i1 = i0) := by show _ = _; rw [HI1.out, bnd1, if_neg (of_decide_eq_false HA1.out.symm)]
      go_wp2
      go_meet
      case rel => go_light; rw [E1.out, HA2.out]; exact ⟨rfl, rfl, rfl⟩
    · have E1 : Hid (i1 = Mxh) := by show _ = _; rw [HI1.out, bnd1, if_pos (of_decide_eq_true HA1.out.symm)]
      go_wp2
      go_meet
      case rel => go_light; rw [E1.out, HA2.out]; exact ⟨rfl, rfl, rfl⟩
  case rest =>
  obtain ⟨rfl, rfl, rfl⟩ := hcut
  go_upto_if 115 with fail
  go_cut [7, 8] (fun s7 s8 wx => s7 = .int .i64 i2 ∧ s8 = .bool a2 ∧ wx = w.alloc (.cells #[.int .i64 Rmh, .int .i64 Frh, .int .i64 Toh, .int .i64 x1, .int .i64 Ih, .int .i64 x2, .int .i64 Ah, .int .i64 Fih, .int .i64 (max Mnh 0), .int .i64 Mxh, .int .i64 Ath, .bool false, .bool false, .bool true, .bool false, .bool false] 64))
  case first =>
    by_cases c : i1 < max Mnh 0
    · have E1 : Hid (i2 = max Mnh 0) := by show _ = _; rw [HI2.out]; omega
      have E2 : Hid (a2 = false) := by show _ = _; rw [HA3.out, HB1.out, decide_eq_true c, Bool.or_true]; rfl
      go_wp2
      go_meet
      case rel => go_light; rw [E1.out, E2.out]; exact ⟨rfl, rfl, rfl⟩
    · have E1 : Hid (i2 = i1) := by show _ = _; rw [HI2.out]; omega
      have E2 : Hid (a2 = a1) := by show _ = _; rw [HA3.out, HA2.out, HB1.out, decide_eq_false c, Bool.or_false]
      go_wp2
      go_meet
      case rel => go_light; rw [E1.out, E2.out]; exact ⟨rfl, rfl, rfl⟩
  case rest =>
  obtain ⟨rfl, rfl, rfl⟩ := hcut
  go_upto_region 32 with fail
  go_cut [143] (fun s143 wx => s143 = .bool !a2 ∧ wx = w.alloc (.cells #[.int .i64 Rmh, .int .i64 Frh, .int .i64 Toh, .int .i64 x1, .int .i64 Ih, .int .i64 x2, .int .i64 Ah, .int .i64 Fih, .int .i64 (max Mnh 0), .int .i64 Mxh, .int .i64 Ath, .bool false, .bool false, .bool true, .bool false, .bool false] 64))
  case first =>
    go_wp2
    go_meet
    case rel => go_light; exact ⟨rfl, rfl⟩
  case rest =>
  obtain ⟨rfl, rfl⟩ := hcut
  go_upto_if 143 with fail
  go_cut [9, 10] (fun s9 s10 wx => s9 = .int .i64 p1 ∧ s10 = .int .i64 p2 ∧ wx = w.alloc (.cells #[.int .i64 Rmh, .int .i64 Frh, .int .i64 Toh, .int .i64 x1, .int .i64 Ih, .int .i64 x2, .int .i64 Ah, .int .i64 Fih, .int .i64 (max Mnh 0), .int .i64 Mxh, .int .i64 Ath, .bool false, .bool false, .bool true, .bool false, .bool false] 64))
  case first =>
    cases a2
    · have EP := HP.out.trans (if_pos rfl)
      rw [takeN_tf] at EP
      have E1 : Hid (p1 = Rmh - Frh - Toh - x1 - x2 - Ah - i2) := by have := (Prod.mk.inj EP).1; show _ = _; omega
      have E2 : Hid (p2 = x2) := (Prod.mk.inj EP).2
      clear EP
      go_wp2
      go_meet
      case rel => go_light; rw [E1.out, E2.out]; exact ⟨rfl, rfl, rfl⟩
    · exact absurd HA3.out (by simp)
  case rest =>
  obtain ⟨rfl, rfl, rfl⟩ := hcut
  go_wp2
  go_returns
  rw [HF.out]
  exact ⟨rfl, by go_grown⟩

theorem solveFixed_ffftf (Rm Fr To L I T A Fi Mn Mx At : Int) (w : World) :
    Calls Try.prog 26 #[.agg #[.int .i64 Rm, .int .i64 Fr, .int .i64 To, .int .i64 L, .int .i64 I, .int .i64 T, .int .i64 A, .int .i64 Fi, .int .i64 Mn, .int .i64 Mx, .int .i64 At, .bool false, .bool false, .bool true, .bool false, .bool false]] w
      fun e w' => e = .returned (.tuple #[.int .i64 (fixedN (heldN Rm) (heldN Fr) (heldN To) (heldN L) (heldN I) (heldN T) (heldN A) (heldN Fi) (heldN Mn) (heldN Mx) (heldN At) false false true false false).1, .int .i64 (fixedN (heldN Rm) (heldN Fr) (heldN To) (heldN L) (heldN I) (heldN T) (heldN A) (heldN Fi) (heldN Mn) (heldN Mx) (heldN At) false false true false false).2.1, .int .i64 (fixedN (heldN Rm) (heldN Fr) (heldN To) (heldN L) (heldN I) (heldN T) (heldN A) (heldN Fi) (heldN Mn) (heldN Mx) (heldN At) false false true false false).2.2.1, .int .i64 (fixedN (heldN Rm) (heldN Fr) (heldN To) (heldN L) (heldN I) (heldN T) (heldN A) (heldN Fi) (heldN Mn) (heldN Mx) (heldN At) false false true false false).2.2.2]) ∧ Below w.heap.size w w' :=
  solveFixedV_ffftf Rm Fr To L I T A Fi Mn Mx At _ _ _ _ _ _ _ _ _ _ _ (hidI rfl) (heldN_bd _).1 (heldN_bd _).2 (hidI rfl) (heldN_bd _).1 (heldN_bd _).2 (hidI rfl) (heldN_bd _).1 (heldN_bd _).2 (hidI rfl) (heldN_bd _).1 (heldN_bd _).2 (hidI rfl) (heldN_bd _).1 (heldN_bd _).2 (hidI rfl) (heldN_bd _).1 (heldN_bd _).2 (hidI rfl) (heldN_bd _).1 (heldN_bd _).2 (hidI rfl) (heldN_bd _).1 (heldN_bd _).2 (hidI rfl) (heldN_bd _).1 (heldN_bd _).2 (hidI rfl) (heldN_bd _).1 (heldN_bd _).2 (hidI rfl) (heldN_bd _).1 (heldN_bd _).2 w

set_option maxHeartbeats 4000000 in
set_option maxRecDepth 100000 in
theorem solveFixedV_ffftt (Rm Fr To L I T A Fi Mn Mx At Rmh Frh Toh Lh Ih Th Ah Fih Mnh Mxh Ath : Int) (eRm : Hid (heldN Rm = Rmh)) (bRm1 : -16777216 ≤ Rmh) (bRm2 : Rmh ≤ 16777216) (eFr : Hid (heldN Fr = Frh)) (bFr1 : -16777216 ≤ Frh) (bFr2 : Frh ≤ 16777216) (eTo : Hid (heldN To = Toh)) (bTo1 : -16777216 ≤ Toh) (bTo2 : Toh ≤ 16777216) (eL : Hid (heldN L = Lh)) (bL1 : -16777216 ≤ Lh) (bL2 : Lh ≤ 16777216) (eI : Hid (heldN I = Ih)) (bI1 : -16777216 ≤ Ih) (bI2 : Ih ≤ 16777216) (eT : Hid (heldN T = Th)) (bT1 : -16777216 ≤ Th) (bT2 : Th ≤ 16777216) (eA : Hid (heldN A = Ah)) (bA1 : -16777216 ≤ Ah) (bA2 : Ah ≤ 16777216) (eFi : Hid (heldN Fi = Fih)) (bFi1 : -16777216 ≤ Fih) (bFi2 : Fih ≤ 16777216) (eMn : Hid (heldN Mn = Mnh)) (bMn1 : -16777216 ≤ Mnh) (bMn2 : Mnh ≤ 16777216) (eMx : Hid (heldN Mx = Mxh)) (bMx1 : -16777216 ≤ Mxh) (bMx2 : Mxh ≤ 16777216) (eAt : Hid (heldN At = Ath)) (bAt1 : -16777216 ≤ Ath) (bAt2 : Ath ≤ 16777216) (w : World) :
    Calls Try.prog 26 #[.agg #[.int .i64 Rm, .int .i64 Fr, .int .i64 To, .int .i64 L, .int .i64 I, .int .i64 T, .int .i64 A, .int .i64 Fi, .int .i64 Mn, .int .i64 Mx, .int .i64 At, .bool false, .bool false, .bool true, .bool false, .bool true]] w
      fun e w' => e = .returned (.tuple #[.int .i64 (fixedN Rmh Frh Toh Lh Ih Th Ah Fih Mnh Mxh Ath false false true false true).1, .int .i64 (fixedN Rmh Frh Toh Lh Ih Th Ah Fih Mnh Mxh Ath false false true false true).2.1, .int .i64 (fixedN Rmh Frh Toh Lh Ih Th Ah Fih Mnh Mxh Ath false false true false true).2.2.1, .int .i64 (fixedN Rmh Frh Toh Lh Ih Th Ah Fih Mnh Mxh Ath false false true false true).2.2.2]) ∧ Below w.heap.size w w' := by
  go_enter Try.func26, Try.ntmps26
  go_upto_if 59 with (first | (go_at_call 11; refine (held_any _ _).mono ?_; rintro e w' ⟨rfl, rfl⟩) | (go_at_call 37; refine (most_any _ _ _).mono ?_; rintro e w' ⟨rfl, rfl⟩) | (go_at_call 45; refine (down2_any _ (by omega) (by omega) _).mono ?_; rintro e w' ⟨rfl, rfl⟩))
  simp only [eRm.out, eFr.out, eTo.out, eL.out, eI.out, eT.out, eA.out, eFi.out, eMn.out, eMx.out, eAt.out]
  obtain ⟨x1, hx1⟩ : ∃ x, x = z true Lh := ⟨_, rfl⟩
  obtain ⟨x2, hx2⟩ : ∃ x, x = z true Th := ⟨_, rfl⟩
  have HX1 : Hid (x1 = z true Lh) := hx1
  have HX2 : Hid (x2 = z true Th) := hx2
  have k1 : -16777216 ≤ x1 := by rw [hx1]; unfold z; split <;> omega
  have k2 : x1 ≤ 16777216 := by rw [hx1]; unfold z; split <;> omega
  have k3 : -16777216 ≤ x2 := by rw [hx2]; unfold z; split <;> omega
  have k4 : x2 ≤ 16777216 := by rw [hx2]; unfold z; split <;> omega
  obtain ⟨i0, hi0⟩ : ∃ x, x = i0N Ih Fih (Rmh - Ah - x1 - x2 - Frh - Toh) false true := ⟨_, rfl⟩
  have E0 : Hid (i0 = Ih) := by show _ = _; rw [hi0, i0N_f]
  have m1 : -200000000 ≤ i0 := by have := E0.out; omega
  have m2 : i0 ≤ 200000000 := by have := E0.out; omega
  obtain ⟨i1, hi1⟩ : ∃ x, x = bnd1 i0 Mxh := ⟨_, rfl⟩
  have m3 : -200000000 ≤ i1 := by rw [hi1]; unfold bnd1; split <;> omega
  have m4 : i1 ≤ 200000000 := by rw [hi1]; unfold bnd1; split <;> omega
  obtain ⟨i2, hi2⟩ : ∃ x, x = max i1 (max Mnh 0) := ⟨_, rfl⟩
  have m5 : -200000000 ≤ i2 := by omega
  have m6 : i2 ≤ 200000000 := by omega
  have HI1 : Hid (i1 = bnd1 i0 Mxh) := hi1
  have HI2 : Hid (i2 = max i1 (max Mnh 0)) := hi2
  obtain ⟨an, han⟩ : ∃ b : Bool, b = decide (0 ≤ Mxh ∧ Mxh < i0) := ⟨_, rfl⟩
  have HA1 : Hid (an = decide (0 ≤ Mxh ∧ Mxh < i0)) := han
  obtain ⟨bn, hbn⟩ : ∃ b : Bool, b = (an || decide (i1 < max Mnh 0)) := ⟨_, rfl⟩
  have HB1 : Hid (bn = (an || decide (i1 < max Mnh 0))) := hbn
  obtain ⟨a1, ha1⟩ : ∃ b : Bool, b = (false && !an) := ⟨_, rfl⟩
  have HA2 : Hid (a1 = (false && !an)) := ha1
  obtain ⟨a2, ha2⟩ : ∃ b : Bool, b = (false && !bn) := ⟨_, rfl⟩
  have HA3 : Hid (a2 = (false && !bn)) := ha2
  obtain ⟨p, hp⟩ : ∃ p, p = if true && !a2 then takeN x1 x2 (Rmh - Ah - x1 - x2 - Frh - Toh - i2) true true else (x1, x2) := ⟨_, rfl⟩
  have HP : Hid (p = if true && !a2 then takeN x1 x2 (Rmh - Ah - x1 - x2 - Frh - Toh - i2) true true else (x1, x2)) := hp
  obtain ⟨p1, p2⟩ := p
  have HF : Hid ((fixedN Rmh Frh Toh Lh Ih Th Ah Fih Mnh Mxh Ath false false true false true) = (beginN Frh Toh Ath (Rmh - Ah - x1 - x2 - i2) false false, p1, i2, p2)) := by
    show _ = _
    rw [fixedN_is, ← hx1, ← hx2]
    rw [show (!false && !false) = true from rfl, ← hi0, ← hi1, ← hi2, ← han, ← hbn, ← ha2, ← hp]
  clear hx1 hx2 hi0 hi1 hi2 han hbn ha1 ha2 hp
  have E1 : Hid (x1 = 0) := by show _ = _; rw [HX1.out, z_t]
  have E2 : Hid (x2 = 0) := by show _ = _; rw [HX2.out, z_t]
  go_upto_if 62 with fail
  go_cut [] (fun wx => wx = w.alloc (.cells #[.int .i64 Rmh, .int .i64 Frh, .int .i64 Toh, .int .i64 x1, .int .i64 Ih, .int .i64 x2, .int .i64 Ah, .int .i64 Fih, .int .i64 (max Mnh 0), .int .i64 Mxh, .int .i64 Ath, .bool false, .bool false, .bool true, .bool false, .bool true] 64))
  case first =>
    go_wp2
    go_meet
    case rel => go_light; rw [E1.out, E2.out]
  case rest =>
  obtain rfl := hcut
  clear E1 E2
  go_upto_region 23 with (first | (go_at_call 11; refine (held_any _ _).mono ?_; rintro e w' ⟨rfl, rfl⟩) | (go_at_call 37; refine (most_any _ _ _).mono ?_; rintro e w' ⟨rfl, rfl⟩) | (go_at_call 45; refine (down2_any _ (by omega) (by omega) _).mono ?_; rintro e w' ⟨rfl, rfl⟩))
  go_cut [7, 109] (fun s7 s109 wx => s7 = .int .i64 i0 ∧ s109 = .bool an ∧ wx = w.alloc (.cells #[.int .i64 Rmh, .int .i64 Frh, .int .i64 Toh, .int .i64 x1, .int .i64 Ih, .int .i64 x2, .int .i64 Ah, .int .i64 Fih, .int .i64 (max Mnh 0), .int .i64 Mxh, .int .i64 Ath, .bool false, .bool false, .bool true, .bool false, .bool true] 64))
  case first =>
    by_cases c1 : 0 ≤ Mxh
    · by_cases c2 : Mxh < Ih
      · have E1 : Hid (an = true) := by show _ = _; rw [HA1.out, E0.out]; exact decide_eq_true ⟨c1, c2⟩
        go_wp2
        go_meet
        case rel => go_light; rw [E1.out, E0.out]; exact ⟨rfl, rfl, rfl⟩
      · have E1 : Hid (an = false) := by show _ = _; rw [HA1.out, E0.out]; exact decide_eq_false (fun h => c2 h.2)
        go_wp2
        go_meet
        case rel => go_light; rw [E1.out, E0.out]; exact ⟨rfl, rfl, rfl⟩
    · have E1 : Hid (an = false) := by show _ = _; rw [HA1.out]; exact decide_eq_false (fun h => c1 h.1)
      go_wp2
      go_meet
      case rel => go_light; rw [E1.out, E0.out]; exact ⟨rfl, rfl, rfl⟩
  case rest =>
  obtain ⟨rfl, rfl, rfl⟩ := hcut
  go_upto_if 109 with fail
  go_cut [7, 8] (fun s7 s8 wx => s7 = .int .i64 i1 ∧ s8 = .bool a1 ∧ wx = w.alloc (.cells #[.int .i64 Rmh, .int .i64 Frh, .int .i64 Toh, .int .i64 x1, .int .i64 Ih, .int .i64 x2, .int .i64 Ah, .int .i64 Fih, .int .i64 (max Mnh 0), .int .i64 Mxh, .int .i64 Ath, .bool false, .bool false, .bool true, .bool false, .bool true] 64))
  case first =>
    cases an
    · have E1 : Hid (i1 = i0) := by show _ = _; rw [HI1.out, bnd1, if_neg (of_decide_eq_false HA1.out.symm)]
      go_wp2
      go_meet
      case rel => go_light; rw [E1.out, HA2.out]; exact ⟨rfl, rfl, rfl⟩
    · have E1 : Hid (i1 = Mxh) := by show _ = _; rw [HI1.out, bnd1, if_pos (of_decide_eq_true HA1.out.symm)]
      go_wp2
      go_meet
      case rel => go_light; rw [E1.out, HA2.out]; exact ⟨rfl, rfl, rfl⟩
  case rest =>
  obtain ⟨rfl, rfl, rfl⟩ := hcut
  go_upto_if 115 with fail
  go_cut [7, 8] (fun s7 s8 wx => s7 = .int .i64 i2 ∧ s8 = .bool a2 ∧ wx = w.alloc (.cells #[.int .i64 Rmh, .int .i64 Frh, .int .i64 Toh, .int .i64 x1, .int .i64 Ih, .int .i64 x2, .int .i64 Ah, .int .i64 Fih, .int .i64 (max Mnh 0), .int .i64 Mxh, .int .i64 Ath, .bool false, .bool false, .bool true, .bool false, .bool true] 64))
  case first =>
    by_cases c : i1 < max Mnh 0
    · have E1 : Hid (i2 = max Mnh 0) := by show _ = _; rw [HI2.out]; omega
      have E2 : Hid (a2 = false) := by show _ = _; rw [HA3.out, HB1.out, decide_eq_true c, Bool.or_true]; rfl
      go_wp2
      go_meet
      case rel => go_light; rw [E1.out, E2.out]; exact ⟨rfl, rfl, rfl⟩
    · have E1 : Hid (i2 = i1) := by show _ = _; rw [HI2.out]; omega
      have E2 : Hid (a2 = a1) := by show _ = _; rw [HA3.out, HA2.out, HB1.out, decide_eq_false c, Bool.or_false]
      go_wp2
      go_meet
      case rel => go_light; rw [E1.out, E2.out]; exact ⟨rfl, rfl, rfl⟩
  case rest =>
  obtain ⟨rfl, rfl, rfl⟩ := hcut
  go_upto_region 32 with fail
  go_cut [143] (fun s143 wx => s143 = .bool !a2 ∧ wx = w.alloc (.cells #[.int .i64 Rmh, .int .i64 Frh, .int .i64 Toh, .int .i64 x1, .int .i64 Ih, .int .i64 x2, .int .i64 Ah, .int .i64 Fih, .int .i64 (max Mnh 0), .int .i64 Mxh, .int .i64 Ath, .bool false, .bool false, .bool true, .bool false, .bool true] 64))
  case first =>
    go_wp2
    go_meet
    case rel => go_light; exact ⟨rfl, rfl⟩
  case rest =>
  obtain ⟨rfl, rfl⟩ := hcut
  go_upto_if 143 with fail
  go_cut [9, 10] (fun s9 s10 wx => s9 = .int .i64 p1 ∧ s10 = .int .i64 p2 ∧ wx = w.alloc (.cells #[.int .i64 Rmh, .int .i64 Frh, .int .i64 Toh, .int .i64 x1, .int .i64 Ih, .int .i64 x2, .int .i64 Ah, .int .i64 Fih, .int .i64 (max Mnh 0), .int .i64 Mxh, .int .i64 Ath, .bool false, .bool false, .bool true, .bool false, .bool true] 64))
  case first =>
    cases a2
    · have EP := HP.out.trans (if_pos rfl)
      rw [takeN_tt] at EP
      have er : Rmh - Ah - x1 - x2 - Frh - Toh - i2 = Rmh - Frh - Toh - x1 - x2 - Ah - i2 := by omega
      rw [er] at EP
      have E1 : Hid (p1 = max (Rmh - Frh - Toh - x1 - x2 - Ah - i2) 0 / 2) := (Prod.mk.inj EP).1
      have E2 : Hid (p2 = Rmh - Frh - Toh - x1 - x2 - Ah - i2 - max (Rmh - Frh - Toh - x1 - x2 - Ah - i2) 0 / 2) := (Prod.mk.inj EP).2
      clear er EP
      go_wp2_with (first | (go_at_call 11; refine (held_any _ _).mono ?_; rintro e w' ⟨rfl, rfl⟩) | (go_at_call 37; refine (most_any _ _ _).mono ?_; rintro e w' ⟨rfl, rfl⟩) | (go_at_call 45; refine (down2_any _ (by omega) (by omega) _).mono ?_; rintro e w' ⟨rfl, rfl⟩))
      go_meet
      case rel => go_light; rw [E1.out, E2.out]; exact ⟨rfl, rfl, rfl⟩
    · exact absurd HA3.out (by simp)
  case rest =>
  obtain ⟨rfl, rfl, rfl⟩ := hcut
  go_wp2
  go_returns
  rw [HF.out]
  exact ⟨rfl, by go_grown⟩

theorem solveFixed_ffftt (Rm Fr To L I T A Fi Mn Mx At : Int) (w : World) :
    Calls Try.prog 26 #[.agg #[.int .i64 Rm, .int .i64 Fr, .int .i64 To, .int .i64 L, .int .i64 I, .int .i64 T, .int .i64 A, .int .i64 Fi, .int .i64 Mn, .int .i64 Mx, .int .i64 At, .bool false, .bool false, .bool true, .bool false, .bool true]] w
      fun e w' => e = .returned (.tuple #[.int .i64 (fixedN (heldN Rm) (heldN Fr) (heldN To) (heldN L) (heldN I) (heldN T) (heldN A) (heldN Fi) (heldN Mn) (heldN Mx) (heldN At) false false true false true).1, .int .i64 (fixedN (heldN Rm) (heldN Fr) (heldN To) (heldN L) (heldN I) (heldN T) (heldN A) (heldN Fi) (heldN Mn) (heldN Mx) (heldN At) false false true false true).2.1, .int .i64 (fixedN (heldN Rm) (heldN Fr) (heldN To) (heldN L) (heldN I) (heldN T) (heldN A) (heldN Fi) (heldN Mn) (heldN Mx) (heldN At) false false true false true).2.2.1, .int .i64 (fixedN (heldN Rm) (heldN Fr) (heldN To) (heldN L) (heldN I) (heldN T) (heldN A) (heldN Fi) (heldN Mn) (heldN Mx) (heldN At) false false true false true).2.2.2]) ∧ Below w.heap.size w w' :=
  solveFixedV_ffftt Rm Fr To L I T A Fi Mn Mx At _ _ _ _ _ _ _ _ _ _ _ (hidI rfl) (heldN_bd _).1 (heldN_bd _).2 (hidI rfl) (heldN_bd _).1 (heldN_bd _).2 (hidI rfl) (heldN_bd _).1 (heldN_bd _).2 (hidI rfl) (heldN_bd _).1 (heldN_bd _).2 (hidI rfl) (heldN_bd _).1 (heldN_bd _).2 (hidI rfl) (heldN_bd _).1 (heldN_bd _).2 (hidI rfl) (heldN_bd _).1 (heldN_bd _).2 (hidI rfl) (heldN_bd _).1 (heldN_bd _).2 (hidI rfl) (heldN_bd _).1 (heldN_bd _).2 (hidI rfl) (heldN_bd _).1 (heldN_bd _).2 (hidI rfl) (heldN_bd _).1 (heldN_bd _).2 w

end Go.Proofs.Ytpbnijmnplfgmaa
