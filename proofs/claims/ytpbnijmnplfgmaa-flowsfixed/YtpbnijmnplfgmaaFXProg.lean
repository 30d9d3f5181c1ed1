/- Fixed.Solve: what lies at a place, as the program reckons it. -/
import Derived.Test.YtpbnijmnplfgmaaFXPart
import Derived.Test.YtpbnijmnplfgmaaFLMem
import Derived.Deep.RegionHeld3
import Derived.Deep.DeepCutAuto
import Derived.Deep.Light
namespace Go.Proofs.Ytpbnijmnplfgmaa
open Go.RowKit
set_option linter.unusedVariables false      -- bounds of all numbers alike

/-- what lies there while it is reckoned: what was asked, and both sides -/
structure FxW (w wx : World) (cs : Array Value) (l r : Int) (aL aR : Bool) : Prop where
  below : Below w.heap.size w wx
  f : wx.heap[w.heap.size]? = some (.cells cs 65 (0, 0))
  s : wx.heap[w.heap.size + 1 + 1 + 1]? = some (.cells #[.int .i64 l, .int .i64 r, .bool aL, .bool aR] 96 (0, 0))

theorem FxW.more {w wx wy : World} {cs : Array Value} {l r : Int} {aL aR : Bool} (h : FxW w wx cs l r aL aR) (hb : Below wx.heap.size wx wy) : FxW w wy cs l r aL aR :=
  ⟨h.below.trans (hb.mono h.below.size), (hb.block _ (lt_of_heap h.f)).trans h.f, (hb.block _ (lt_of_heap h.s)).trans h.s⟩
theorem FxW.put {w wx : World} {cs : Array Value} {l r : Int} {aL aR : Bool} (h : FxW w wx cs l r aL aR) (j : Nat) (c : Value) {l' r' : Int} (e : (#[.int .i64 l, .int .i64 r, .bool aL, .bool aR] : Array Value).setIfInBounds j c = #[.int .i64 l', .int .i64 r', .bool aL, .bool aR]) : FxW w (wx.setCell ⟨w.heap.size + 1 + 1 + 1, j, none⟩ c) cs l' r' aL aR :=
  ⟨h.below.setCell (by show w.heap.size ≤ w.heap.size + 1 + 1 + 1; omega) c, (Below.heap_setCell wx _ c _ (by show w.heap.size ≠ w.heap.size + 1 + 1 + 1; omega)).trans h.f, by rw [heap_set wx _ j c _ _ _ h.s, e]⟩

theorem cellAt {w : World} {b : Nat} {cs : Array Value} {t : TypeId} (h : w.heap[b]? = some (.cells cs t (0, 0))) (i : Nat) {v : Value} (e : cs[i]? = some v) : w.cell? ⟨b, i, none⟩ = some v := by
  rw [cell_of_row w b i _ _ _ h, e]
theorem freeAt {w : World} {b : Nat} {cs : Array Value} {t : TypeId} (h : w.heap[b]? = some (.cells cs t (0, 0))) (i : Nat) : w.frozen? ⟨b, i, none⟩ = false := by
  simp [World.frozen?, h]

theorem four_alloc (w : World) (a b c d : Obj) : ((((w.alloc a).alloc b).alloc c).alloc d).heap[w.heap.size]? = some a ∧ ((((w.alloc a).alloc b).alloc c).alloc d).heap[w.heap.size + 1 + 1 + 1]? = some d := by
  constructor
  · show ((((w.heap.push a).push b).push c).push d)[w.heap.size]? = some a
    rw [Array.getElem?_push, if_neg (by simp; omega), Array.getElem?_push, if_neg (by simp; omega), Array.getElem?_push, if_neg (by simp), Array.getElem?_push, if_pos rfl]
  · show ((((w.heap.push a).push b).push c).push d)[w.heap.size + 1 + 1 + 1]? = some d
    rw [Array.getElem?_push, if_pos (by simp)]

set_option maxHeartbeats 4000000 in
set_option maxRecDepth 100000 in
theorem solveF_var (Rm Fr To L I T A Fi Mn Mx At Rmh Frh Toh Lh Ih Th Ah Fih Mnh Mxh Ath : Int) (aF aT aL aI aR : Bool) (eRm : Hid (heldN Rm = Rmh)) (bRm1 : -16777216 ≤ Rmh) (bRm2 : Rmh ≤ 16777216) (eFr : Hid (heldN Fr = Frh)) (bFr1 : -16777216 ≤ Frh) (bFr2 : Frh ≤ 16777216) (eTo : Hid (heldN To = Toh)) (bTo1 : -16777216 ≤ Toh) (bTo2 : Toh ≤ 16777216) (eL : Hid (heldN L = Lh)) (bL1 : -16777216 ≤ Lh) (bL2 : Lh ≤ 16777216) (eI : Hid (heldN I = Ih)) (bI1 : -16777216 ≤ Ih) (bI2 : Ih ≤ 16777216) (eT : Hid (heldN T = Th)) (bT1 : -16777216 ≤ Th) (bT2 : Th ≤ 16777216) (eA : Hid (heldN A = Ah)) (bA1 : -16777216 ≤ Ah) (bA2 : Ah ≤ 16777216) (eFi : Hid (heldN Fi = Fih)) (bFi1 : -16777216 ≤ Fih) (bFi2 : Fih ≤ 16777216) (eMn : Hid (heldN Mn = Mnh)) (bMn1 : -16777216 ≤ Mnh) (bMn2 : Mnh ≤ 16777216) (eMx : Hid (heldN Mx = Mxh)) (bMx1 : -16777216 ≤ Mxh) (bMx2 : Mxh ≤ 16777216) (eAt : Hid (heldN At = Ath)) (bAt1 : -16777216 ≤ Ath) (bAt2 : Ath ≤ 16777216) (w : World) :
    Calls Try.prog 25 #[.agg #[.int .i64 Rm, .int .i64 Fr, .int .i64 To, .int .i64 L, .int .i64 I, .int .i64 T, .int .i64 A, .int .i64 Fi, .int .i64 Mn, .int .i64 Mx, .int .i64 At, .bool aF, .bool aT, .bool aL, .bool aI, .bool aR]] w
      fun e w' => e = .returned (.tuple #[.int .i64 (fixedN Rmh Frh Toh Lh Ih Th Ah Fih Mnh Mxh Ath aF aT aL aI aR).1, .int .i64 (fixedN Rmh Frh Toh Lh Ih Th Ah Fih Mnh Mxh Ath aF aT aL aI aR).2.1, .int .i64 (fixedN Rmh Frh Toh Lh Ih Th Ah Fih Mnh Mxh Ath aF aT aL aI aR).2.2.1, .int .i64 (fixedN Rmh Frh Toh Lh Ih Th Ah Fih Mnh Mxh Ath aF aT aL aI aR).2.2.2]) ∧ Below w.heap.size w w' := by
  go_enter Try.func25, Try.ntmps25
  go_wp2_with fail
  refine (hold_pre [(⟨w.heap.size, 0, none⟩, Rm), (⟨w.heap.size, 1, none⟩, Fr), (⟨w.heap.size, 2, none⟩, To), (⟨w.heap.size, 3, none⟩, L), (⟨w.heap.size, 4, none⟩, I), (⟨w.heap.size, 5, none⟩, T), (⟨w.heap.size, 6, none⟩, A), (⟨w.heap.size, 7, none⟩, Fi), (⟨w.heap.size, 8, none⟩, Mn), (⟨w.heap.size, 9, none⟩, Mx), (⟨w.heap.size, 10, none⟩, At)] _ _ _ _ rfl (by simp) (by simp [HoldPre, go_sem])).mono ?_
  rintro e w' ⟨rfl, rfl⟩
  simp only [holdAll, eRm.out, eFr.out, eTo.out, eL.out, eI.out, eT.out, eA.out, eFi.out, eMn.out, eMx.out, eAt.out]
  go_wp2_with fail
  refine (sidesOf_any _ _ _ _ _).mono ?_
  rintro e w' ⟨rfl, rfl⟩
  obtain ⟨x1, hx1⟩ : ∃ x, x = z aL Lh := ⟨_, rfl⟩
  obtain ⟨x2, hx2⟩ : ∃ x, x = z aR Th := ⟨_, rfl⟩
  rw [← hx1, ← hx2]
  have k1 : -16777216 ≤ x1 := by rw [hx1]; unfold z; split <;> omega
  have k2 : x1 ≤ 16777216 := by rw [hx1]; unfold z; split <;> omega
  have k3 : -16777216 ≤ x2 := by rw [hx2]; unfold z; split <;> omega
  have k4 : x2 ≤ 16777216 := by rw [hx2]; unfold z; split <;> omega
  obtain ⟨bo, hbo⟩ : ∃ b : Bool, b = (!aF && !aT) := ⟨_, rfl⟩
  have HBO : Hid (bo = (!aF && !aT)) := hbo
  obtain ⟨fe, hfe⟩ : ∃ x, x = Rmh - Ah - x1 - x2 := ⟨_, rfl⟩
  have HFE : Hid (fe = Rmh - Ah - x1 - x2) := hfe
  have f1 : -100000000 ≤ fe := by omega
  have f2 : fe ≤ 100000000 := by omega
  obtain ⟨i0, hi0⟩ : ∃ x, x = i0N Ih Fih (Rmh - Ah - x1 - x2 - Frh - Toh) aI bo := ⟨_, rfl⟩
  have HI0 : Hid (i0 = firstN Ih Frh Toh Fih fe aI bo) := by show _ = _; rw [hi0, hfe]; rfl
  have m1 : -200000000 ≤ i0 := by rw [hi0]; unfold i0N; (repeat' split) <;> omega
  have m2 : i0 ≤ 200000000 := by rw [hi0]; unfold i0N; (repeat' split) <;> omega
  obtain ⟨i1, hi1⟩ : ∃ x, x = bnd1 i0 Mxh := ⟨_, rfl⟩
  obtain ⟨i2, hi2⟩ : ∃ x, x = max i1 (max Mnh 0) := ⟨_, rfl⟩
  have m5 : -200000000 ≤ i2 := by omega
  have m6 : i2 ≤ 200000000 := by rw [hi2, hi1]; unfold bnd1; split <;> omega
  have HI2 : Hid (bndV i0 Mnh Mxh = i2) := by show _ = _; rw [hi2, hi1]; rfl
  obtain ⟨an, han⟩ : ∃ b : Bool, b = decide (0 ≤ Mxh ∧ Mxh < i0) := ⟨_, rfl⟩
  obtain ⟨bn, hbn⟩ : ∃ b : Bool, b = (an || decide (i1 < max Mnh 0)) := ⟨_, rfl⟩
  have HB1 : Hid (bndB i0 Mnh Mxh = bn) := by show _ = _; rw [hbn, han, hi1]; rfl
  obtain ⟨a2, ha2⟩ : ∃ b : Bool, b = (aI && !bn) := ⟨_, rfl⟩
  obtain ⟨tk, htk⟩ : ∃ b : Bool, b = (bo && !a2) := ⟨_, rfl⟩
  have HTK : Hid (tk = (bo && !(aI && !bn))) := by show _ = _; rw [htk, ha2]
  obtain ⟨p, hp⟩ : ∃ p, p = if tk then takeN x1 x2 (Rmh - Ah - x1 - x2 - Frh - Toh - i2) aL aR else (x1, x2) := ⟨_, rfl⟩
  have HP : Hid (p = if tk then takeN x1 x2 (fe - Frh - Toh - i2) aL aR else (x1, x2)) := by show _ = _; rw [hp, hfe]
  obtain ⟨p1, p2⟩ := p
  have HF : Hid ((fixedN Rmh Frh Toh Lh Ih Th Ah Fih Mnh Mxh Ath aF aT aL aI aR) = (beginN Frh Toh Ath (fe - i2) aF aT, p1, i2, p2)) := by
    show _ = _
    rw [fixedN_is, ← hx1, ← hx2, ← hbo, ← hi0, ← hi1, ← hi2, ← han, ← hbn, ← ha2, ← htk, ← hp, hfe]
  clear hx1 hx2 hbo hfe hi0 hi1 hi2 han hbn ha2 htk hp
  go_upto_region 4 with fail
  go_cut [7, 8] (fun s7 s8 wx => s7 = .int .i64 fe ∧ s8 = .bool bo ∧ Hid (FxW w wx #[.int .i64 Rmh, .int .i64 Frh, .int .i64 Toh, .int .i64 Lh, .int .i64 Ih, .int .i64 Th, .int .i64 Ah, .int .i64 Fih, .int .i64 Mnh, .int .i64 Mxh, .int .i64 Ath, .bool aF, .bool aT, .bool aL, .bool aI, .bool aR] x1 x2 aL aR))
  case first =>
    cases aF <;> cases aT
    all_goals
      go_wp2
      go_meet
      case rel =>
        go_light
        rw [HBO.out, HFE.out]
        exact ⟨rfl, rfl, ⟨by go_grown, (four_alloc w _ _ _ _).1, (four_alloc w _ _ _ _).2⟩⟩
  case rest =>
  obtain ⟨rfl, rfl, hF⟩ := hcut
  obtain ⟨w5, h5⟩ : ∃ w5, w5 = wc := ⟨_, rfl⟩
  subst h5
  have c0 := cellAt hF.out.f 0 (v := .int .i64 Rmh) rfl
  have c1 := cellAt hF.out.f 1 (v := .int .i64 Frh) rfl
  have c2 := cellAt hF.out.f 2 (v := .int .i64 Toh) rfl
  have c3 := cellAt hF.out.f 3 (v := .int .i64 Lh) rfl
  have c4 := cellAt hF.out.f 4 (v := .int .i64 Ih) rfl
  have c5 := cellAt hF.out.f 5 (v := .int .i64 Th) rfl
  have c6 := cellAt hF.out.f 6 (v := .int .i64 Ah) rfl
  have c7 := cellAt hF.out.f 7 (v := .int .i64 Fih) rfl
  have c8 := cellAt hF.out.f 8 (v := .int .i64 Mnh) rfl
  have c9 := cellAt hF.out.f 9 (v := .int .i64 Mxh) rfl
  have c10 := cellAt hF.out.f 10 (v := .int .i64 Ath) rfl
  have c11 := cellAt hF.out.f 11 (v := .bool aF) rfl
  have c12 := cellAt hF.out.f 12 (v := .bool aT) rfl
  have c13 := cellAt hF.out.f 13 (v := .bool aL) rfl
  have c14 := cellAt hF.out.f 14 (v := .bool aI) rfl
  have c15 := cellAt hF.out.f 15 (v := .bool aR) rfl
  have l0 : w.heap.size < w5.heap.size := lt_of_heap hF.out.f
  go_upto_region 5 with fail
  go_cut [4, 9] (fun s4 s9 wx => s4 = .int .i64 i2 ∧ s9 = .bool bn ∧ Hid (FxW w wx #[.int .i64 Rmh, .int .i64 Frh, .int .i64 Toh, .int .i64 Lh, .int .i64 Ih, .int .i64 Th, .int .i64 Ah, .int .i64 Fih, .int .i64 Mnh, .int .i64 Mxh, .int .i64 Ath, .bool aF, .bool aT, .bool aL, .bool aI, .bool aR] x1 x2 aL aR))
  case first =>
    go_region_held3 (fun wx => wx.cell? ⟨w.heap.size, 0, none⟩ = some (.int .i64 Rmh) ∧ wx.cell? ⟨w.heap.size, 1, none⟩ = some (.int .i64 Frh) ∧ wx.cell? ⟨w.heap.size, 2, none⟩ = some (.int .i64 Toh) ∧ wx.cell? ⟨w.heap.size, 3, none⟩ = some (.int .i64 Lh) ∧ wx.cell? ⟨w.heap.size, 4, none⟩ = some (.int .i64 Ih) ∧ wx.cell? ⟨w.heap.size, 5, none⟩ = some (.int .i64 Th) ∧ wx.cell? ⟨w.heap.size, 6, none⟩ = some (.int .i64 Ah) ∧ wx.cell? ⟨w.heap.size, 7, none⟩ = some (.int .i64 Fih) ∧ wx.cell? ⟨w.heap.size, 8, none⟩ = some (.int .i64 Mnh) ∧ wx.cell? ⟨w.heap.size, 9, none⟩ = some (.int .i64 Mxh) ∧ wx.cell? ⟨w.heap.size, 10, none⟩ = some (.int .i64 Ath) ∧ wx.cell? ⟨w.heap.size, 11, none⟩ = some (.bool aF) ∧ wx.cell? ⟨w.heap.size, 12, none⟩ = some (.bool aT) ∧ wx.cell? ⟨w.heap.size, 13, none⟩ = some (.bool aL) ∧ wx.cell? ⟨w.heap.size, 14, none⟩ = some (.bool aI) ∧ wx.cell? ⟨w.heap.size, 15, none⟩ = some (.bool aR)) (go_keep)
      (first
        | (go_at_call 46; refine (first_any _ _ _ _ _ _ _ _ _ _ _ _ _ _ _ _ _ _ (by omega) (by omega) (by omega) (by omega) (by omega) (by omega) _).mono ?_; rintro e w2 ⟨rfl, rfl⟩)
        | (go_at_call 43; refine (bounded_any _ _ _ _).mono ?_; rintro e w2 ⟨rfl, rfl⟩))
    all_goals
      go_wp2_with fail
      go_meet
      case rel => go_light; exact ⟨by rw [← HI0.out, HI2.out], by rw [← HI0.out, HB1.out], hF.out.more (by go_grown)⟩
  case rest =>
  clear c0 c1 c2 c3 c4 c5 c6 c7 c8 c9 c10 c11 c12 c13 c14 c15 l0
  clear hF
  obtain ⟨rfl, rfl, hF⟩ := hcut
  obtain ⟨w5, h5⟩ : ∃ w5, w5 = wc := ⟨_, rfl⟩
  subst h5
  have c0 := cellAt hF.out.f 0 (v := .int .i64 Rmh) rfl
  have c1 := cellAt hF.out.f 1 (v := .int .i64 Frh) rfl
  have c2 := cellAt hF.out.f 2 (v := .int .i64 Toh) rfl
  have c3 := cellAt hF.out.f 3 (v := .int .i64 Lh) rfl
  have c4 := cellAt hF.out.f 4 (v := .int .i64 Ih) rfl
  have c5 := cellAt hF.out.f 5 (v := .int .i64 Th) rfl
  have c6 := cellAt hF.out.f 6 (v := .int .i64 Ah) rfl
  have c7 := cellAt hF.out.f 7 (v := .int .i64 Fih) rfl
  have c8 := cellAt hF.out.f 8 (v := .int .i64 Mnh) rfl
  have c9 := cellAt hF.out.f 9 (v := .int .i64 Mxh) rfl
  have c10 := cellAt hF.out.f 10 (v := .int .i64 Ath) rfl
  have c11 := cellAt hF.out.f 11 (v := .bool aF) rfl
  have c12 := cellAt hF.out.f 12 (v := .bool aT) rfl
  have c13 := cellAt hF.out.f 13 (v := .bool aL) rfl
  have c14 := cellAt hF.out.f 14 (v := .bool aI) rfl
  have c15 := cellAt hF.out.f 15 (v := .bool aR) rfl
  have d0 := cellAt hF.out.s 0 (v := .int .i64 x1) rfl
  have e0 := freeAt hF.out.s 0
  have d1 := cellAt hF.out.s 1 (v := .int .i64 x2) rfl
  have e1 := freeAt hF.out.s 1
  have d2 := cellAt hF.out.s 2 (v := .bool aL) rfl
  have e2 := freeAt hF.out.s 2
  have d3 := cellAt hF.out.s 3 (v := .bool aR) rfl
  have e3 := freeAt hF.out.s 3
  have l0 : w.heap.size < w5.heap.size := lt_of_heap hF.out.f
  have l1 : w.heap.size + 1 + 1 + 1 < w5.heap.size := lt_of_heap hF.out.s
  go_upto_region 6 with fail
  go_cut [71] (fun s71 wx => s71 = .bool tk ∧ wx = w5)
  case first =>
    cases bo <;> cases aI
    all_goals
      go_wp2
      go_meet
      case rel => go_light; rw [HTK.out]; exact ⟨by cases bn <;> rfl, rfl⟩
  case rest =>
  obtain ⟨rfl, rfl⟩ := hcut
  go_upto_if 71 with fail
  go_cut [] (fun wx => Hid (FxW w wx #[.int .i64 Rmh, .int .i64 Frh, .int .i64 Toh, .int .i64 Lh, .int .i64 Ih, .int .i64 Th, .int .i64 Ah, .int .i64 Fih, .int .i64 Mnh, .int .i64 Mxh, .int .i64 Ath, .bool aF, .bool aT, .bool aL, .bool aI, .bool aR] p1 p2 aL aR))
  case first =>
    cases tk
    · have EP := HP.out.trans (if_neg (by decide))
      have E1 : Hid (p1 = x1) := (Prod.mk.inj EP).1
      have E2 : Hid (p2 = x2) := (Prod.mk.inj EP).2
      clear EP
      go_wp2
      go_meet
      case rel => go_light; rw [E1.out, E2.out]; exact hF
    · have EP := HP.out.trans (if_pos rfl)
      cases aL <;> cases aR
      · rw [takeN_ff] at EP
        have E1 : Hid (p1 = x1) := (Prod.mk.inj EP).1
        have E2 : Hid (p2 = x2) := (Prod.mk.inj EP).2
        clear EP
        go_wp2
        go_meet
        case rel => go_light; rw [E1.out, E2.out]; exact hF
      · rw [takeN_ft] at EP
        have E1 : Hid (p1 = x1) := (Prod.mk.inj EP).1
        have E2 : Hid (p2 = fe - Frh - Toh - i2) := (Prod.mk.inj EP).2
        clear EP
        go_wp2
        go_meet
        case rel => go_light; rw [E1.out, E2.out]; exact hF.out.put 1 _ rfl
      · rw [takeN_tf] at EP
        have E1 : Hid (p1 = fe - Frh - Toh - i2) := (Prod.mk.inj EP).1
        have E2 : Hid (p2 = x2) := (Prod.mk.inj EP).2
        clear EP
        go_wp2
        go_meet
        case rel => go_light; rw [E1.out, E2.out]; exact hF.out.put 0 _ rfl
      · rw [takeN_tt] at EP
        by_cases hs : 0 ≤ fe - Frh - Toh - i2
        · have E1 : Hid (p1 = (fe - Frh - Toh - i2) / 2) := by have := (Prod.mk.inj EP).1; show _ = _; omega
          have E2 : Hid (p2 = fe - Frh - Toh - i2 - (fe - Frh - Toh - i2) / 2) := by have := (Prod.mk.inj EP).2; show _ = _; omega
          clear EP
          go_wp2
          all_goals
            go_meet
            case rel => go_light; first | (exfalso; omega) | (rw [E1.out, E2.out]; exact (hF.out.put 0 _ rfl).put 1 _ rfl)
        · have E1 : Hid (p1 = 0) := by have := (Prod.mk.inj EP).1; show _ = _; omega
          have E2 : Hid (p2 = fe - Frh - Toh - i2) := by have := (Prod.mk.inj EP).2; show _ = _; omega
          clear EP
          go_wp2
          all_goals
            go_meet
            case rel => go_light; first | (exfalso; omega) | (rw [E1.out, E2.out]; exact (hF.out.put 0 _ rfl).put 1 _ rfl)
  case rest =>
  clear c0 c1 c2 c3 c4 c5 c6 c7 c8 c9 c10 c11 c12 c13 c14 c15 d0 d1 d2 d3 e0 e1 e2 e3 l0 l1
  clear hF
  have hF := hcut
  clear hcut
  obtain ⟨w6, h6⟩ : ∃ w6, w6 = wc := ⟨_, rfl⟩
  subst h6
  have c0 := cellAt hF.out.f 0 (v := .int .i64 Rmh) rfl
  have c1 := cellAt hF.out.f 1 (v := .int .i64 Frh) rfl
  have c2 := cellAt hF.out.f 2 (v := .int .i64 Toh) rfl
  have c3 := cellAt hF.out.f 3 (v := .int .i64 Lh) rfl
  have c4 := cellAt hF.out.f 4 (v := .int .i64 Ih) rfl
  have c5 := cellAt hF.out.f 5 (v := .int .i64 Th) rfl
  have c6 := cellAt hF.out.f 6 (v := .int .i64 Ah) rfl
  have c7 := cellAt hF.out.f 7 (v := .int .i64 Fih) rfl
  have c8 := cellAt hF.out.f 8 (v := .int .i64 Mnh) rfl
  have c9 := cellAt hF.out.f 9 (v := .int .i64 Mxh) rfl
  have c10 := cellAt hF.out.f 10 (v := .int .i64 Ath) rfl
  have c11 := cellAt hF.out.f 11 (v := .bool aF) rfl
  have c12 := cellAt hF.out.f 12 (v := .bool aT) rfl
  have c13 := cellAt hF.out.f 13 (v := .bool aL) rfl
  have c14 := cellAt hF.out.f 14 (v := .bool aI) rfl
  have c15 := cellAt hF.out.f 15 (v := .bool aR) rfl
  have d0 := cellAt hF.out.s 0 (v := .int .i64 p1) rfl
  have d1 := cellAt hF.out.s 1 (v := .int .i64 p2) rfl
  have d2 := cellAt hF.out.s 2 (v := .bool aL) rfl
  have d3 := cellAt hF.out.s 3 (v := .bool aR) rfl
  have l0 : w.heap.size < w6.heap.size := lt_of_heap hF.out.f
  have l1 : w.heap.size + 1 + 1 + 1 < w6.heap.size := lt_of_heap hF.out.s
  obtain ⟨fi, hfi⟩ : ∃ x, x = fe - i2 := ⟨_, rfl⟩
  have z1 : -400000000 ≤ fi := by omega
  have z2 : fi ≤ 400000000 := by omega
  have hw : IntKind.i64.wrap (fe - i2) = fi := by rw [hfi, IntKind.wrap_i64]; omega
  rw [← hfi] at HF
  clear hfi
  go_upto_region 8 with fail
  go_region_held3 (fun wx => wx.cell? ⟨w.heap.size, 0, none⟩ = some (.int .i64 Rmh) ∧ wx.cell? ⟨w.heap.size, 1, none⟩ = some (.int .i64 Frh) ∧ wx.cell? ⟨w.heap.size, 2, none⟩ = some (.int .i64 Toh) ∧ wx.cell? ⟨w.heap.size, 3, none⟩ = some (.int .i64 Lh) ∧ wx.cell? ⟨w.heap.size, 4, none⟩ = some (.int .i64 Ih) ∧ wx.cell? ⟨w.heap.size, 5, none⟩ = some (.int .i64 Th) ∧ wx.cell? ⟨w.heap.size, 6, none⟩ = some (.int .i64 Ah) ∧ wx.cell? ⟨w.heap.size, 7, none⟩ = some (.int .i64 Fih) ∧ wx.cell? ⟨w.heap.size, 8, none⟩ = some (.int .i64 Mnh) ∧ wx.cell? ⟨w.heap.size, 9, none⟩ = some (.int .i64 Mxh) ∧ wx.cell? ⟨w.heap.size, 10, none⟩ = some (.int .i64 Ath) ∧ wx.cell? ⟨w.heap.size, 11, none⟩ = some (.bool aF) ∧ wx.cell? ⟨w.heap.size, 12, none⟩ = some (.bool aT) ∧ wx.cell? ⟨w.heap.size, 13, none⟩ = some (.bool aL) ∧ wx.cell? ⟨w.heap.size, 14, none⟩ = some (.bool aI) ∧ wx.cell? ⟨w.heap.size, 15, none⟩ = some (.bool aR) ∧ wx.cell? ⟨w.heap.size + 1 + 1 + 1, 0, none⟩ = some (.int .i64 p1) ∧ wx.cell? ⟨w.heap.size + 1 + 1 + 1, 1, none⟩ = some (.int .i64 p2)) (go_keep)
    ((go_at_call 47; refine (begin_any _ _ _ _ _ _ _ _ _ _ _ _ _ _ _ _ _ (by omega) (by omega) (by omega) (by omega) _).mono ?_; rintro e w2 ⟨rfl, rfl⟩))
  all_goals
    go_wp2_with fail
    go_returns
    rw [HF.out]
    exact ⟨rfl, hF.out.below.trans ((show Below _ _ _ from by go_grown).mono hF.out.below.size)⟩

theorem solveF_any (Rm Fr To L I T A Fi Mn Mx At : Int) (aF aT aL aI aR : Bool) (w : World) :
    Calls Try.prog 25 #[.agg #[.int .i64 Rm, .int .i64 Fr, .int .i64 To, .int .i64 L, .int .i64 I, .int .i64 T, .int .i64 A, .int .i64 Fi, .int .i64 Mn, .int .i64 Mx, .int .i64 At, .bool aF, .bool aT, .bool aL, .bool aI, .bool aR]] w
      fun e w' => e = .returned (.tuple #[.int .i64 (fixedN (heldN Rm) (heldN Fr) (heldN To) (heldN L) (heldN I) (heldN T) (heldN A) (heldN Fi) (heldN Mn) (heldN Mx) (heldN At) aF aT aL aI aR).1, .int .i64 (fixedN (heldN Rm) (heldN Fr) (heldN To) (heldN L) (heldN I) (heldN T) (heldN A) (heldN Fi) (heldN Mn) (heldN Mx) (heldN At) aF aT aL aI aR).2.1, .int .i64 (fixedN (heldN Rm) (heldN Fr) (heldN To) (heldN L) (heldN I) (heldN T) (heldN A) (heldN Fi) (heldN Mn) (heldN Mx) (heldN At) aF aT aL aI aR).2.2.1, .int .i64 (fixedN (heldN Rm) (heldN Fr) (heldN To) (heldN L) (heldN I) (heldN T) (heldN A) (heldN Fi) (heldN Mn) (heldN Mx) (heldN At) aF aT aL aI aR).2.2.2]) ∧ Below w.heap.size w w' :=
  solveF_var Rm Fr To L I T A Fi Mn Mx At _ _ _ _ _ _ _ _ _ _ _ aF aT aL aI aR (hidI rfl) (heldN_bd _).1 (heldN_bd _).2 (hidI rfl) (heldN_bd _).1 (heldN_bd _).2 (hidI rfl) (heldN_bd _).1 (heldN_bd _).2 (hidI rfl) (heldN_bd _).1 (heldN_bd _).2 (hidI rfl) (heldN_bd _).1 (heldN_bd _).2 (hidI rfl) (heldN_bd _).1 (heldN_bd _).2 (hidI rfl) (heldN_bd _).1 (heldN_bd _).2 (hidI rfl) (heldN_bd _).1 (heldN_bd _).2 (hidI rfl) (heldN_bd _).1 (heldN_bd _).2 (hidI rfl) (heldN_bd _).1 (heldN_bd _).2 (hidI rfl) (heldN_bd _).1 (heldN_bd _).2 w
end Go.Proofs.Ytpbnijmnplfgmaa
