/- slices' symMerge, at numbers: in general. -/
import Derived.Test.YtlfepdecgfcifaaGreatDoorM15
namespace Go.Proofs.YtlfepdecgfcifaaGreatDoor
open Go.RowKit
set_option linter.unusedVariables false      -- bounds that are for the walk
set_option linter.unusedSectionVars false
variable [OX : OrdX]

set_option maxHeartbeats 8000000 in
set_option maxRecDepth 100000 in
theorem sym_gen {w : World} {g n cap : Nat} {D : Nat → Int} {t : Tg} (h : SoAt w w g n D t) (hn : n ≤ 100000) {a m b : Nat} (hs : Sym (keyD D) t a m b) (h2 : b ≤ n) (ham : a + 1 < m) (hmb : m + 1 < b)
    (ih : ∀ (W : World) (s : Tg) (a' m' b' : Nat), SoAt W W g n D s → Sym (keyD D) s a' m' b' → b' ≤ n → b' - a' < b - a → Calls Tryz.prog 89 #[.slice (some ⟨g, 0, none⟩) n cap, .int .i64 (a' : Int), .int .i64 (m' : Int), .int .i64 (b' : Int), ordF] W fun e w' => e = .returned (.tuple #[]) ∧ ∃ t', SoAt W w' g n D t' ∧ Srt (keyD D) t' a' b' ∧ Prm a' b' s t') :
    Calls Tryz.prog 89 #[.slice (some ⟨g, 0, none⟩) n cap, .int .i64 (a : Int), .int .i64 (m : Int), .int .i64 (b : Int), ordF] w (SyPost w g n D t a b) := by
  have H0 := hidF h
  have HS := hidF hs
  have DM := hidF h.dm
  have NF := hidF (fun (x y : Int) (x0 : 0 ≤ x) (x1 : x ≤ 1000000) (y0 : 0 ≤ y) (y1 : y ≤ 1000000) (W : World) (hm : MapK W) => ordF_any x0 x1 y0 y1 hm)
  have IH := hidF ih
  obtain ⟨ma, hma⟩ : ∃ x, m - a = x := ⟨_, rfl⟩
  obtain ⟨bm, hbm⟩ : ∃ x, b - m = x := ⟨_, rfl⟩
  obtain ⟨mid, hmid⟩ : ∃ x, (a + b) / 2 = x := ⟨_, rfl⟩
  obtain ⟨nn, hnn⟩ : ∃ x, mid + m = x := ⟨_, rfl⟩
  obtain ⟨p, hp⟩ : ∃ x, nn - 1 = x := ⟨_, rfl⟩
  have W0 : IntKind.i64.wrap ((m : Int) - (a : Int)) = (ma : Int) := by rw [wrapT (by omega) (by omega)]; omega
  have N0 : ((ma : Int) == 1) = false := by simp; omega
  have W1 : IntKind.i64.wrap ((b : Int) - (m : Int)) = (bm : Int) := by rw [wrapT (by omega) (by omega)]; omega
  have N1 : ((bm : Int) == 1) = false := by simp; omega
  have V2 : IntKind.i64.wrap ((a : Int) + (b : Int)) = ((a + b : Nat) : Int) := by rw [wrapT (by omega) (by omega)]; omega
  have V3 : IntKind.u64.wrap ((a + b : Nat) : Int) = ((a + b : Nat) : Int) := half_sum (by omega)
  have V4 : ((a : Int) + (b : Int)) / 2 = (mid : Int) := by omega
  have V5 : IntKind.u64.wrap (mid : Int) = (mid : Int) := half_sum (by omega)
  have V6 : IntKind.i64.wrap (mid : Int) = (mid : Int) := wrapT (by omega) (by omega)
  have V7 : IntKind.i64.wrap ((mid : Int) + (m : Int)) = (nn : Int) := by rw [wrapT (by omega) (by omega)]; omega
  have V8 : IntKind.i64.wrap ((nn : Int) - 1) = (p : Int) := by rw [wrapT (by omega) (by omega)]; omega
  have V9 : IntKind.i64.wrap ((nn : Int) - (b : Int)) = ((nn - b : Nat) : Int) ∨ nn < b := by
    rcases Nat.lt_or_ge nn b with e | e
    · exact .inr e
    · left; rw [wrapT (by omega) (by omega)]; omega
  have HV9 := hidF V9
  have HPP := hidF hp
  have HNN := hidF hnn
  have HMD := hidF hmid
  -- where the cut is looked for
  have HB : Hid (∃ lo hi : Nat, CtB a m b mid p lo hi ∧ (mid < m → lo = nn - b ∧ b ≤ nn ∧ hi = mid) ∧ (¬ mid < m → lo = a ∧ hi = m)) := by
    by_cases e : mid < m
    · refine ⟨mid + m - b, mid, ?_, fun _ => ⟨by omega, by omega, rfl⟩, fun e2 => absurd e e2⟩
      have := CtB.great (a := a) (m := m) (b := b) (mid := mid) (by omega) (by omega) hmid.symm e
      rw [show mid + m - 1 = p by omega] at this
      exact this
    · refine ⟨a, m, ?_, fun e2 => absurd e2 e, fun _ => ⟨rfl, rfl⟩⟩
      have := CtB.small (a := a) (m := m) (b := b) (mid := mid) (by omega) (by omega) hmid.symm e
      rw [show mid + m - 1 = p by omega] at this
      exact this
  obtain ⟨lo, hi, hB, hg, hsm⟩ := HB.out
  have HBB := hidF hB
  have HG := hidF (And.intro hg hsm)
  have c1 := hB.alo; have c2 := hB.him; have c3 := hB.lohi; have c4 := hB.pb; have c5 := hB.plo
  have am := hs.am
  have mb := hs.mb
  clear h hs ih hB hg hsm V9 HB
  unfold ordF at *
  go_enter Tryz.func89, Tryz.ntmps89
  go_upto_if 140 with fail
  go_cut [20, 21] (fun sv rv wx => sv = .int .i64 (lo : Int) ∧ rv = .int .i64 (hi : Int) ∧ wx = w)
  case first =>
    by_cases hmm : mid < m
    · have hmm' : (mid : Int) < (m : Int) := by omega
      obtain ⟨e1, e2, e3⟩ := HG.out.1 hmm
      have W9 : IntKind.i64.wrap ((nn : Int) - (b : Int)) = (lo : Int) := by rw [wrapT (by omega) (by omega)]; omega
      have E3 := hidF e3
      clear e1 e3
      go_wp2_with fail
      go_meet
      case rel => go_light; exact ⟨rfl, by rw [E3.out], rfl⟩
    · have hmm' : ¬ (mid : Int) < (m : Int) := by omega
      obtain ⟨e1, e2⟩ := HG.out.2 hmm
      have E := hidF (And.intro e1 e2)
      clear e1 e2
      go_wp2_with fail
      go_meet
      case rel => go_light; exact ⟨by rw [E.out.1], by rw [E.out.2], rfl⟩
  case rest =>
  obtain ⟨rfl, rfl, hwx⟩ := hcut
  have hwy := hwx.symm
  clear hwx
  subst hwy
  go_wp2_with fail
  go_loopw [20, 21] (fun iv jv wr => ∃ (i j : Nat), iv = .int .i64 i ∧ jv = .int .i64 j ∧ lo ≤ i ∧ i ≤ j ∧ j ≤ hi ∧ Hid (SoAt w wr g n D t ∧ Cts (keyD D) t p lo hi i j)) (fun iv jv _ => (intOf jv).toNat - (intOf iv).toNat)
  case atStart => exact ⟨lo, hi, rfl, rfl, Nat.le_refl _, c3, Nat.le_refl _, H0.out, ⟨Nat.le_refl _, c3, Nat.le_refl _, (fun c e1 e2 => by omega), (fun c e1 e2 => by omega)⟩⟩
  case round =>
    obtain ⟨i, j, rfl, rfl, i1, i2, i3, HZ⟩ := hrel
    by_cases hlt : i < j
    · have hlt' : (i : Int) < (j : Int) := by omega
      obtain ⟨x, hx⟩ : ∃ x, (i + j) / 2 = x := ⟨_, rfl⟩
      have W2 : IntKind.i64.wrap ((i : Int) + (j : Int)) = ((i + j : Nat) : Int) := by rw [wrapT (by omega) (by omega)]; omega
      have W3 : IntKind.u64.wrap ((i + j : Nat) : Int) = ((i + j : Nat) : Int) := half_sum (by omega)
      have x1 : i ≤ x := by omega
      have x2 : x < j := by omega
      have W4 : ((i : Int) + (j : Int)) / 2 = (x : Int) := by omega
      have W5 : IntKind.u64.wrap (x : Int) = (x : Int) := half_sum (by omega)
      have W6 : IntKind.i64.wrap (x : Int) = (x : Int) := wrapT (by omega) (by omega)
      obtain ⟨y, hy⟩ : ∃ y, p - x = y := ⟨_, rfl⟩
      have W7 : IntKind.i64.wrap ((p : Int) - (x : Int)) = (y : Int) := by rw [wrapT (by omega) (by omega)]; omega
      have HY := hidF hy
      have yb : y < b := by omega
      have k1 : (0 : Int) ≤ (x : Int) := by omega
      have k2 : (x : Int) < (n : Int) := by omega
      have k3 : (0 : Int) ≤ (y : Int) := by omega
      have k4 : (y : Int) < (n : Int) := by omega
      have gl := HZ.out.1.row.lt
      have a1 := HZ.out.1.row.at (k := y) (by omega)
      have b1 := HZ.out.1.row.at (k := x) (by omega)
      have HKE : Hid (keyD D (t y) = OX.key (D (t y)) ∧ keyD D (t x) = OX.key (D (t x))) := ⟨rfl, rfl⟩
      obtain ⟨ds, hd⟩ : ∃ d, D (t y) = d := ⟨_, rfl⟩
      obtain ⟨es, he⟩ : ∃ d, D (t x) = d := ⟨_, rfl⟩
      rw [hd] at a1 HKE
      rw [he] at b1 HKE
      have NC := hidF (NF.out ds es (by rw [← hd]; exact (DM.out _).1) (by rw [← hd]; exact (DM.out _).2) (by rw [← he]; exact (DM.out _).1) (by rw [← he]; exact (DM.out _).2))
      have HDE := hidF (And.intro hd he)
      obtain ⟨cv, hcv⟩ : ∃ c, cmpN (OX.key ds) (OX.key es) = c := ⟨_, rfl⟩
      rw [hcv] at NC
      obtain ⟨w5, hw5⟩ : ∃ w5, w5 = wr := ⟨_, rfl⟩
      subst hw5
      by_cases hc : OX.key ds < OX.key es
      · have hc' : cv < 0 := by rw [← hcv]; exact cmpN_neg.2 hc
        have HLT : Hid (keyD D (t y) < keyD D (t x)) := by show _ < _; rw [HKE.out.1, HKE.out.2]; exact hc
        clear hd he hcv hc
        go_upto_region 35 with fail
        go_cut [171] (fun v wx => v = .bool false ∧ Hid (SoAt w wx g n D t))
        case first =>
          go_region_held3 (fun wx => wx.cell? ⟨g, y, none⟩ = some (.int .i64 ds) ∧ wx.cell? ⟨g, x, none⟩ = some (.int .i64 es)) (go_keep)
            ((refine step_callFc _ (by kernel_rfl) (.tmp 158) [.tmp 164, .tmp 168] #[3, 3] (by rfl) 34 #[.pointer (some ⟨OX.mb, 0, none⟩)] (by simp [Act.eval]) Tryz.func34 (by kernel_rfl) rfl [.int .i64 ds, .int .i64 es] (by simp [Act.eval]) (.int .i64 cv) (NC.out _ (HZ.out.1.held (W := w5.drew) (Below.refl _ _).drew).mp) ?_; intro w7 hb7; have HX := hidF ((HZ.out.1.held (W := w5.drew) (Below.refl _ _).drew).held hb7); have m1 := HX.out.row.at (k := y) (by omega); have m4 := HX.out.row.at (k := x) (by omega); rw [HDE.out.1] at m1; rw [HDE.out.2] at m4; clear hb7))
          all_goals
            go_wp2_with fail
            go_meet
            case rel => go_light; exact ⟨by first | rfl | simp [hc'], HX.out⟩
        case rest =>
        obtain ⟨rfl, HX⟩ := hcut
        clear a1 b1 NC gl
        go_wp2_with fail
        go_roundw
        case rel =>
          go_light
          refine ⟨i, x, rfl, rfl, i1, x1, by omega, HX.out, HZ.out.2.right HS.out HBB.out x1 x2 ?_⟩
          rw [HY.out]
          exact HLT.out
        case measure => simp [intOf]; omega
      · have hc' : ¬ cv < 0 := by rw [← hcv]; exact fun e => hc (cmpN_neg.1 e)
        have HLT : Hid (¬ keyD D (t y) < keyD D (t x)) := by show ¬ _ < _; rw [HKE.out.1, HKE.out.2]; exact hc
        clear hd he hcv hc
        go_upto_region 35 with fail
        go_cut [171] (fun v wx => v = .bool true ∧ Hid (SoAt w wx g n D t))
        case first =>
          go_region_held3 (fun wx => wx.cell? ⟨g, y, none⟩ = some (.int .i64 ds) ∧ wx.cell? ⟨g, x, none⟩ = some (.int .i64 es)) (go_keep)
            ((refine step_callFc _ (by kernel_rfl) (.tmp 158) [.tmp 164, .tmp 168] #[3, 3] (by rfl) 34 #[.pointer (some ⟨OX.mb, 0, none⟩)] (by simp [Act.eval]) Tryz.func34 (by kernel_rfl) rfl [.int .i64 ds, .int .i64 es] (by simp [Act.eval]) (.int .i64 cv) (NC.out _ (HZ.out.1.held (W := w5.drew) (Below.refl _ _).drew).mp) ?_; intro w7 hb7; have HX := hidF ((HZ.out.1.held (W := w5.drew) (Below.refl _ _).drew).held hb7); have m1 := HX.out.row.at (k := y) (by omega); have m4 := HX.out.row.at (k := x) (by omega); rw [HDE.out.1] at m1; rw [HDE.out.2] at m4; clear hb7))
          all_goals
            go_wp2_with fail
            go_meet
            case rel => go_light; exact ⟨by first | rfl | simp [hc'], HX.out⟩
        case rest =>
        obtain ⟨rfl, HX⟩ := hcut
        clear a1 b1 NC gl
        go_wp2_with fail
        go_roundw
        case rel =>
          go_light
          refine ⟨x + 1, j, by go_num, rfl, by omega, by omega, i3, HX.out, HZ.out.2.left HS.out HBB.out x1 x2 ?_⟩
          rw [HY.out]
          exact HLT.out
        case measure => simp [intOf]; omega
    · obtain rfl : i = j := by omega
      have hlt' : ¬ (i : Int) < (i : Int) := by omega
      have HCU := hidF (HZ.out.2.cut HS.out HMD.out.symm HBB.out)
      obtain ⟨e, he⟩ : ∃ e, mid + m - i = e := ⟨_, rfl⟩
      rw [he] at HCU
      have d1 := HCU.out.sm; have d2 := HCU.out.lea; have d3 := HCU.out.smid; have d4 := HCU.out.me; have d5 := HCU.out.eb; have d6 := HCU.out.mide
      have W9 : IntKind.i64.wrap ((nn : Int) - (i : Int)) = (e : Int) := by rw [wrapT (by omega) (by omega)]; omega
      have HST := hidF HZ.out.1
      have hmid1 : a < mid := by omega
      have hmid2 : mid < b := by omega
      clear HZ
      obtain ⟨w5, hw5⟩ : ∃ w5, w5 = wr := ⟨_, rfl⟩
      subst hw5
      go_upto_region 38 with fail
      go_cut [24] (fun v wx => v = .int .i64 (e : Int) ∧ wx = w5)
      case first =>
        go_wp2_with fail
        go_meet
        case rel => go_light; exact ⟨rfl, rfl⟩
      case rest =>
      obtain ⟨rfl, hwx⟩ := hcut
      have hwy := hwx.symm
      clear hwx
      subst hwy
      refine (by assumption : ∀ (a : Act) (w : World), Code.wp _ _ _ a w → _) _ _ ?_
      exact sym_tail HST.out hn HS.out h2 HCU.out hmid1 hmid2 IH.out _ _ _ _ _ _ _ _ _ _ _ _ _ _ _ _ _ _ _ _ _ _ _ _ _ _ _ _ _ _ _ _ _ _ _ _ _ _ _ _ _ _ _ _ _ _ _ _ _ _ _ _ _ _ _ _ _ _ _ _ _ _ _ _ _ _ _ _ _ _ _ _ _ _ _ _ _ _ _ _ _ _ _ _ _ _ _ _ _ _ _ _ _ _ _ _ _ _ _ _ _ _ _ _ _ _ _ _ _ _ _ _ _ _ _ _ _ _ _ _ _ _ _ _ _ _ _ _ _ _ _ _ _ _ _ _ _ _ _ _ _ _ _ _ _ _ _ _ _ _ _ _ _ _ _ _ _ _ _ _ _ _ _ _ _ _ _ _ _ _ _ _ _ _ _ _ _ _ _ _ _ _ _ _ _ _ _ _ _ _ _ _ _ _ _ _ _ _ _ _ _ _ _ _ _ _ _ _ _ _ _ _

theorem symMerge_any {g n cap : Nat} {D : Nat → Int} (hn : n ≤ 100000) : ∀ (L : Nat) (w : World) (t : Tg) (a m b : Nat), SoAt w w g n D t → Sym (keyD D) t a m b → b ≤ n → b - a < L → Calls Tryz.prog 89 #[.slice (some ⟨g, 0, none⟩) n cap, .int .i64 (a : Int), .int .i64 (m : Int), .int .i64 (b : Int), ordF] w fun e w' => e = .returned (.tuple #[]) ∧ ∃ t', SoAt w w' g n D t' ∧ Srt (keyD D) t' a b ∧ Prm a b t t' := by
  intro L
  induction L with
  | zero => intro w t a m b _ _ _ h; omega
  | succ L ih =>
    intro w t a m b h hs hb hL
    by_cases e1 : m = a + 1
    · subst e1
      exact sym_one h hn hs hb
    · by_cases e2 : b = m + 1
      · subst e2
        exact sym_last h hn hs hb (by have := hs.am; omega)
      · exact sym_gen h hn hs hb (by have := hs.am; omega) (by have := hs.mb; omega) (fun W s a' m' b' h1 h2 h3 h4 => ih W s a' m' b' h1 h2 h3 (by omega))
end Go.Proofs.YtlfepdecgfcifaaGreatDoor
