/- The document's Share: the same as the program's. -/
import Derived.Test.YtdjagdifemhkpaaQShMid
namespace Go.Proofs.Ytdjagdifemhkpaa
open Go.RowKit
set_option linter.unusedVariables false      -- bounds that are for the walk

set_option maxHeartbeats 4000000 in
set_option maxRecDepth 100000 in
theorem qshare_any {w : World} {v : Value} {l : List It} (h : ItemsL w v l) (room gap : Int) :
    Calls Try.prog 14 #[v, .int .i64 room, .int .i64 gap] w fun e w' => ∃ v', e = .returned v' ∧ IntL w' v' (sharedN l room gap) ∧ Below w.heap.size w w' := by
  obtain ⟨r1, r2⟩ := heldN_bd room
  obtain ⟨p1, p2⟩ := heldN_bd gap
  have HSH := hidF (shared_same l room gap)
  rw [show (l.take 200).map qitN = qcount l from rfl] at HSH
  have HO := hidF (qcount_ok l)
  have HM := hidF (qcount_mn l)
  have QW := hidF (qwithin_any h)
  have QH1 := hidF (fun W => qheld_any room W)
  have QH2 := hidF (fun W => qheld_any gap W)
  obtain ⟨rm, hrm⟩ : ∃ r, heldN room = r := ⟨_, rfl⟩
  obtain ⟨gp, hgp⟩ : ∃ r, heldN gap = r := ⟨_, rfl⟩
  rw [hrm] at r1 r2 QH1 HSH
  rw [hgp] at p1 p2 QH2 HSH
  obtain ⟨its, hits⟩ : ∃ x, qcount l = x := ⟨_, rfl⟩
  rw [show (l.take 200).map qitN = its from hits] at QW
  rw [hits] at HO HM HSH
  obtain ⟨n, hn⟩ : ∃ n, its.length = n := ⟨_, rfl⟩
  have hn2 : n ≤ 200 := by rw [← hn]; exact HO.out.len
  have HN := hidF hn
  clear hrm hgp hits hn h
  go_enter Try.func14, Try.ntmps14
  go_wp2_with fail
  refine QW.out.mono ?_
  rintro e w1 ⟨v1, rfl, hi1, hb1⟩
  have HB1 := hidF hb1
  have HI := hidF hi1
  obtain ⟨la, lc, rfl, q1, q2, hl⟩ := hi1
  have HL := hidF hl
  rw [HN.out] at q1 ⊢
  clear hl hb1 QW
  go_wp2_with fail
  refine (QH1.out _).mono ?_
  rintro e w2 ⟨rfl, hw2⟩
  rw [hw2]
  clear hw2 w2 QH1
  go_wp2_with fail
  refine (QH2.out _).mono ?_
  rintro e w2 ⟨rfl, hw2⟩
  rw [hw2]
  clear hw2 w2 QH2
  go_wp2_with fail
  go_loopw [9, 10, 11] (fun us ws i wr => ∃ (k : Nat) (z y : Int), k ≤ n ∧ i = .int .i64 k ∧ us = .int .i64 z ∧ ws = .int .i64 y ∧ Hid (z = arsN its k + gapsN k gp ∧ y = holdsN its k ∧ Below w1.heap.size w1 wr)) (fun _ _ i _ => n - (intV i).toNat)
  case atStart => exact ⟨0, 0, 0, Nat.zero_le _, rfl, rfl, rfl, by rw [gapsN_zero]; simp [arsN], by simp [holdsN], Below.refl _ _⟩
  case round =>
    obtain ⟨k, z, y, hk, rfl, rfl, rfl, HZ⟩ := hrel
    have za := HO.out.ars k
    have zg := gapsN_bd k gp (by omega) p1 p2
    have zh := HO.out.holds k
    rw [← HZ.out.2.1] at zh
    have z1 : -7000000000 ≤ z := by rw [HZ.out.1]; omega
    have z2 : z ≤ 7000000000 := by rw [HZ.out.1]; omega
    obtain ⟨y1, y2⟩ := zh
    clear za zg
    by_cases hlt : k < n
    · obtain ⟨x, hx⟩ : ∃ x, its[k]? = some x := ⟨_, List.getElem?_eq_getElem (by rw [HN.out]; exact hlt)⟩
      obtain ⟨b, o, rfl, hit⟩ := HL.out k x hx
      obtain ⟨x1, x2, x3, x4, x5, x6, x7⟩ := hit.below HZ.out.2.2
      have hok := HO.out.ok x (List.mem_of_getElem? hx)
      have HH := hidF (fun W => qhold_any x x.b (HM.out x (List.mem_of_getElem? hx)) W)
      have bb := bndI_b hok
      obtain ⟨a1, a2⟩ : -16777216 ≤ x.ar ∧ x.ar ≤ 16777216 := ⟨hok.ar0, hok.ar1⟩
      have HA := hidF (arsN_succ hx)
      have HHS := hidF (holdsN_succ hx)
      have HG := hidF (gapsN_succ k gp)
      obtain ⟨bd, hbd⟩ : ∃ t, bndI x x.b = t := ⟨_, rfl⟩
      rw [hbd] at bb HH HHS
      obtain ⟨bb1, bb2⟩ := bb
      have i1 : (0 : Int) ≤ (k : Int) := by omega
      have i2 : (k : Int) < (n : Int) := by omega
      have W9 : IntKind.i64.wrap (y + bd) = y + bd := wrapJ (by omega) (by omega)
      clear hx hit hok hbd
      obtain ⟨xb, xmn, xmx, xar, xgr, xsh⟩ := x
      unfold itV at HH
      simp only at x2 x3 x4 x5 x6 x7 a1 a2 HA HH
      go_upto_region 11 with fail
      go_cut [10] (fun s wx => s = .int .i64 (y + bd) ∧ Hid (Below w1.heap.size w1 wx))
      case first =>
        go_region_held3 (fun wx => wx.cell? ⟨b, o + k * 6, none⟩ = some (.int .i64 xb) ∧ wx.cell? ⟨b, o + k * 6 + 1, none⟩ = some (.int .i64 xmn) ∧ wx.cell? ⟨b, o + k * 6 + 2, none⟩ = some (.int .i64 xmx) ∧ wx.cell? ⟨b, o + k * 6 + 3, none⟩ = some (.int .i64 xar) ∧ wx.cell? ⟨b, o + k * 6 + 4, none⟩ = some (.int .i64 xgr) ∧ wx.cell? ⟨b, o + k * 6 + 5, none⟩ = some (.int .i64 xsh)) (go_keep)
          ((go_at_call 32; refine (HH.out _).mono ?_; rintro e w7 ⟨rfl, hb7⟩
            have m0 := (hb7.cell (p := ⟨b, o + k * 6, none⟩) x1).trans x2
            have m1 := (hb7.cell (p := ⟨b, o + k * 6 + 1, none⟩) x1).trans x3
            have m2 := (hb7.cell (p := ⟨b, o + k * 6 + 2, none⟩) x1).trans x4
            have m3 := (hb7.cell (p := ⟨b, o + k * 6 + 3, none⟩) x1).trans x5
            have m4 := (hb7.cell (p := ⟨b, o + k * 6 + 4, none⟩) x1).trans x6
            have m5 := (hb7.cell (p := ⟨b, o + k * 6 + 5, none⟩) x1).trans x7
            have B7 := hidF (HZ.out.2.2.trans (Below.mono ((Below.refl wr.heap.size wr).drew.trans hb7) HZ.out.2.2.size))
            clear hb7))
        all_goals
          go_wp2_with fail
          go_meet
          case rel => go_light; exact ⟨rfl, B7.out⟩
      case rest =>
      obtain ⟨rfl, B7⟩ := hcut
      by_cases hk0 : 0 < k
      · have hk1 : (0 : Int) < (k : Int) := by omega
        go_wp2_with fail
        go_roundw
        case rel =>
          go_light
          refine ⟨k + 1, _, _, by omega, by go_num, rfl, rfl, ?_, ?_, B7.out⟩
          · rw [HA.out, HG.out, if_pos hk0, HZ.out.1]; omega
          · rw [HHS.out, HZ.out.2.1]
        case measure => simp [intV]; omega
      · have hk1 : ¬ (0 : Int) < (k : Int) := by omega
        go_wp2_with fail
        go_roundw
        case rel =>
          go_light
          refine ⟨k + 1, _, _, by omega, by go_num, rfl, rfl, ?_, ?_, B7.out⟩
          · rw [HA.out, HG.out, if_neg hk0, HZ.out.1]; omega
          · rw [HHS.out, HZ.out.2.1]
        case measure => simp [intV]; omega
    · obtain rfl : k = n := by omega
      obtain ⟨wl, hwl⟩ : ∃ w9, w9 = wr := ⟨_, rfl⟩
      subst hwl
      obtain ⟨gw, hgw⟩ : ∃ g, growN its rm gp = g := ⟨_, rfl⟩
      have HGW : Hid (decide (z + y < rm) = gw) := by
        show _ = _
        rw [← hgw]
        unfold growN
        rw [HN.out, wants_holds, HZ.out.1, HZ.out.2.1]
        congr 1
        apply propext
        constructor <;> intro <;> omega
      have HRO : Hid (rm - z = roomN its rm gp) := by
        show _ = _
        unfold roomN
        rw [HN.out, HZ.out.1]; omega
      have HFIN : Hid (sharedQ its rm gp = (shareL gw (rm - z) (freeN (rm - z) (its.map (mkQ gw)) k) k (its.map (mkQ gw))).map Pr.size) := by
        show _ = _
        unfold sharedQ partsQ
        rw [hgw, HRO.out, HN.out]
      have HB2 := hidF (HB1.out.trans (HZ.out.2.2.mono HB1.out.size))
      have HI2 := hidF (HI.out.below HZ.out.2.2)
      have HL2 : Hid (∀ (j : Nat) (x : It), its[j]? = some x → ∃ b o, la = some ⟨b, o, none⟩ ∧ ItAt wl b (o + j * 6) x) := fun j x hj => by
        obtain ⟨b, o, e1, e2⟩ := HL.out j x hj
        exact ⟨b, o, e1, e2.below HZ.out.2.2⟩
      obtain ⟨wa, mk1, ba, bwa⟩ := make_intsB wl k (by omega)
      obtain ⟨wb, mk2, bb, bwb⟩ := make_boolsB wa k (by omega)
      obtain ⟨wd, mk3, bc, bwc⟩ := make_intsB wb k (by omega)
      have ST : Hid (QSt wl wd wl.heap.size wa.heap.size wb.heap.size k (fun _ => 0) (fun _ => false) (fun _ => 0)) := by
        refine QSt.start ((ba.held bwb).held bwc) (bb.held bwc) bc (bwa.trans ((bwb.trans (bwc.mono bwb.size)).mono bwa.size)) (Nat.le_refl _) ba.lt bb.lt
      have hl2 : ¬ (k : Int) < (k : Int) := by omega
      have Z1 : IntKind.i64.wrap (z + y) = z + y := wrapJ (by omega) (by omega)
      have Z2 : IntKind.i64.wrap (rm - z) = rm - z := wrapJ (by omega) (by omega)
      clear hgw ba bb bc bwa bwb bwc HZ HL HI HB1 hlt hk
      go_upto_region 14 with fail
      go_cut [12] (fun s wx => s = .bool gw ∧ wx = wl)
      case first =>
        go_wp2_with fail
        go_meet
        case rel => go_light; exact ⟨by rw [HGW.out], rfl⟩
      case rest =>
      obtain ⟨rfl, hwx⟩ := hcut
      have hwy := hwx.symm
      clear hwx
      subst hwy
      go_upto_region 17 with fail
      go_cut [15] (fun s wx => s = .slice (some ⟨wb.heap.size, 0, none⟩) k k ∧ wx = wd)
      case first =>
        go_wp2_with fail
        go_meet
        case rel => go_light; exact ⟨rfl, rfl⟩
      case rest =>
      obtain ⟨rfl, hwx⟩ := hcut
      have hwy := hwx.symm
      clear hwx
      subst hwy
      refine (by assumption : ∀ (a : Act) (w : World), Code.wp _ _ _ a w → _) _ _ ?_
      refine wp_mono (qshare_mid (w := w) (wl := wl) (w5 := wd) (its := its) (la := la) (lc := lc) (n := k) (g1 := wl.heap.size) (g2 := wa.heap.size) (g3 := wb.heap.size) (gw := gw) (rm := rm) (z := z) (qs := its.map (mkQ gw)) HO.out HM.out HN.out HB2.out (by have := HI2.out; rw [HN.out] at this; exact this) r1 r2 z1 z2 rfl ST.out _ _ _ _ _ _ _ _ _ _ _ _ _ _ _ _ _ _ _ _ _ _ _ _ _ _ _ _ _ _ _ _ _ _ _ _ _ _ _ _ _ _ _ _ _ _ _ _ _ _ _ _ _ _ _ _ _ _ _ _ _ _ _ _ _ _ _ _ _ _ _ _ _ _ _ _ _ _ _ _ _ _ _ _ _ _ _ _ _ _ _ _ _ _ _ _ _ _ _ _ _ _ _ _ _ _ _ _ _ _ _ _ _ _ _ _ _ _ _ _ _ _ _ _ _ _ _ _ _ _ _ _ _ _ _ _ _ _ _ _ _ _ _ _ _ _ _ _ _ _ _ _ _ _ _ _ _ _ _ _ _ _ _ _ _ _ _ _ _ _ _ _ _ _ _ _ _ _ _ _ _ _ _ _ _ _ _ _ _ _ _ _ _ _ _ _ _ _ _ _ _ _ _ _ _ _ _ _ _ _ _ _ _ _ _ _ _ _ _ _ _ _ _ _ _ _ _ _ _ _ _ _ _ _ _ _ _ _ _ _ _ _ _ _ _ _ _ _ _ _ _ _ _ _ _ _ _ _ _ _ _ _ _ _ _ _ _ _ _ _ _ _ _ _ _ _ _ _ _ _ _ _ _ _ _ _ _ _ _ _ _ _ _ _ _ _ _ _ _ _ _ _ _ _) ?_
      rw [← HFIN.out, HSH.out]
      exact fun e a w h => h
end Go.Proofs.Ytdjagdifemhkpaa
