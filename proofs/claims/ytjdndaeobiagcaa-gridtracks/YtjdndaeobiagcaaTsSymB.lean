/- slices' symMerge, at needs: the second block of one element. -/
import Derived.Test.YtjdndaeobiagcaaTsSymA
namespace Go.Proofs.Ytjdndaeobiagcaa
open Go.RowKit
set_option linter.unusedVariables false      -- bounds that are for the walk

set_option maxHeartbeats 4000000 in
set_option maxRecDepth 100000 in
theorem sym_last {w : World} {g n cap : Nat} {D : Nat → Nd3} {t : Tg} (h : SoAt w w g n D t) (hn : n ≤ 100000) {a m : Nat} (hs : Sym (keyD D) t a m (m + 1)) (h2 : m + 1 ≤ n) (ham : a + 1 < m) :
    Calls Try.prog 93 #[.slice (some ⟨g, 0, none⟩) n cap, .int .i64 (a : Int), .int .i64 (m : Int), .int .i64 ((m + 1 : Nat) : Int), needF] w fun e w' => e = .returned (.tuple #[]) ∧ ∃ t', SoAt w w' g n D t' ∧ Srt (keyD D) t' a (m + 1) ∧ Prm a (m + 1) t t' := by
  have H0 := hidF h
  have HS := hidF hs
  have NF := hidF (fun (x y : Nd3) (W : World) => needF_any x y W)
  obtain ⟨b, hm⟩ : ∃ b, m + 1 = b := ⟨_, rfl⟩
  have HM := hidF hm
  rw [hm] at h2 HS ⊢
  have W0 : IntKind.i64.wrap ((m : Int) - (a : Int)) = ((m - a : Nat) : Int) := by rw [wrapT (by omega) (by omega)]; omega
  obtain ⟨ma, hma⟩ : ∃ x, m - a = x := ⟨_, rfl⟩
  rw [hma] at W0
  have N0 : ((ma : Int) == 1) = false := by simp; omega
  have W1 : IntKind.i64.wrap ((b : Int) - (m : Int)) = 1 := by rw [wrapT (by omega) (by omega)]; omega
  clear h hs
  unfold needF
  go_enter Try.func93, Try.ntmps93
  go_wp2_with fail
  go_loopw [14, 15] (fun iv jv wr => ∃ (i j : Nat), a ≤ i ∧ i ≤ j ∧ j ≤ m ∧ iv = .int .i64 i ∧ jv = .int .i64 j ∧ Hid (SoAt w wr g n D t ∧ (∀ q, a ≤ q → q < i → ¬ keyD D (t m) < keyD D (t q)) ∧ (∀ q, j ≤ q → q < m → keyD D (t m) < keyD D (t q)))) (fun iv jv _ => (intV jv).toNat - (intV iv).toNat)
  case atStart => exact ⟨a, m, Nat.le_refl _, by omega, Nat.le_refl _, rfl, rfl, H0.out, (fun q e1 e2 => by omega), (fun q e1 e2 => by omega)⟩
  case round =>
    obtain ⟨i, j, i1, i2, i3, rfl, rfl, HZ⟩ := hrel
    by_cases hlt : i < j
    · have hlt' : (i : Int) < (j : Int) := by omega
      obtain ⟨x, hx⟩ : ∃ x, (i + j) / 2 = x := ⟨_, rfl⟩
      have W2 : IntKind.i64.wrap ((i : Int) + (j : Int)) = ((i + j : Nat) : Int) := by rw [wrapT (by omega) (by omega)]; omega
      have W3 : IntKind.u64.wrap ((i + j : Nat) : Int) = ((i + j : Nat) : Int) := half_sum (by omega)
      have x1 : i ≤ x := by omega
      have x2 : x < j := by omega
      have W4 : ((i : Int) + (j : Int)) / 2 = (x : Int) := by omega
      have W5 : IntKind.u64.wrap (x : Int) = (x : Int) := half_sum (by omega)
      have W6 : IntKind.i64.wrap (x : Int) = (x : Int) := wrapT (by omega) (by omega)
      have k1 : (0 : Int) ≤ (x : Int) := by omega
      have k2 : (x : Int) < (n : Int) := by omega
      have k3 : (0 : Int) ≤ (m : Int) := by omega
      have k4 : (m : Int) < (n : Int) := by omega
      have gl := HZ.out.1.row.lt
      obtain ⟨a1, a2, a3⟩ := HZ.out.1.row.at (k := m) (by omega)
      obtain ⟨b1, b2, b3⟩ := HZ.out.1.row.at (k := x) (by omega)
      have HKE : Hid (keyD D (t m) = (D (t m)).s ∧ keyD D (t x) = (D (t x)).s) := ⟨rfl, rfl⟩
      obtain ⟨⟨df, ds, dz⟩, hd⟩ : ∃ d, D (t m) = d := ⟨_, rfl⟩
      obtain ⟨⟨ef, es, ez⟩, he⟩ : ∃ d, D (t x) = d := ⟨_, rfl⟩
      rw [hd] at a1 a2 a3 HKE
      rw [he] at b1 b2 b3 HKE
      simp only at a1 a2 a3 b1 b2 b3 HKE
      have NC := hidF (NF.out ⟨df, ds, dz⟩ ⟨ef, es, ez⟩)
      unfold ndV at NC
      simp only at NC
      have HDE := hidF (And.intro hd he)
      obtain ⟨cv, hcv⟩ : ∃ c, cmpI ds es = c := ⟨_, rfl⟩
      rw [hcv] at NC
      obtain ⟨w5, hw5⟩ : ∃ w5, w5 = wr := ⟨_, rfl⟩
      subst hw5
      by_cases hc : ds < es
      · have hc' : cv < 0 := by rw [← hcv]; exact cmpI_neg.2 hc
        have HLT : Hid (keyD D (t m) < keyD D (t x)) := by show _ < _; rw [HKE.out.1, HKE.out.2]; exact hc
        clear hd he hcv hc
        go_upto_region 17 with fail
        go_cut [103] (fun v wx => v = .bool false ∧ Hid (SoAt w wx g n D t))
        case first =>
          go_region_held3 (fun wx => wx.cell? ⟨g, m * 3, none⟩ = some (.int .i64 df) ∧ wx.cell? ⟨g, m * 3 + 1, none⟩ = some (.int .i64 ds) ∧ wx.cell? ⟨g, m * 3 + 2, none⟩ = some (.int .i64 dz) ∧ wx.cell? ⟨g, x * 3, none⟩ = some (.int .i64 ef) ∧ wx.cell? ⟨g, x * 3 + 1, none⟩ = some (.int .i64 es) ∧ wx.cell? ⟨g, x * 3 + 2, none⟩ = some (.int .i64 ez)) (go_keep)
            ((refine step_callF _ (by kernel_rfl) (.tmp 92) [.tmp 96, .tmp 100] #[60, 60] (by rfl) 78 (by simp [Act.eval]) Try.func78 (by kernel_rfl) rfl [.agg #[.int .i64 df, .int .i64 ds, .int .i64 dz], .agg #[.int .i64 ef, .int .i64 es, .int .i64 ez]] (by simp [Act.eval]) (.int .i64 cv) (NC.out _) ?_; intro w7 hb7; have HX := hidF ((HZ.out.1.held (W := w5.drew) (Below.refl _ _).drew).held hb7); obtain ⟨m1, m2, m3⟩ := HX.out.row.at (k := m) (by omega); obtain ⟨m4, m5, m6⟩ := HX.out.row.at (k := x) (by omega); rw [HDE.out.1] at m1 m2 m3; rw [HDE.out.2] at m4 m5 m6; clear hb7))
          all_goals
            go_wp2_with fail
            go_meet
            case rel => go_light; exact ⟨by first | rfl | simp [hc'], HX.out⟩
        case rest =>
        obtain ⟨rfl, HX⟩ := hcut
        clear a1 a2 a3 b1 b2 b3 NC gl
        go_wp2_with fail
        go_roundw
        case rel =>
          go_light
          refine ⟨i, x, i1, x1, by omega, rfl, rfl, HX.out, HZ.out.2.1, fun q e1 e2 => ?_⟩
          have := HS.out.s1.le (i := x) (j := q) (by omega) e1 e2
          have := HLT.out
          omega
        case measure => simp [intV]; omega
      · have hc' : ¬ cv < 0 := by rw [← hcv]; exact fun e => hc (cmpI_neg.1 e)
        have HLT : Hid (¬ keyD D (t m) < keyD D (t x)) := by show ¬ _ < _; rw [HKE.out.1, HKE.out.2]; exact hc
        clear hd he hcv hc
        go_upto_region 17 with fail
        go_cut [103] (fun v wx => v = .bool true ∧ Hid (SoAt w wx g n D t))
        case first =>
          go_region_held3 (fun wx => wx.cell? ⟨g, m * 3, none⟩ = some (.int .i64 df) ∧ wx.cell? ⟨g, m * 3 + 1, none⟩ = some (.int .i64 ds) ∧ wx.cell? ⟨g, m * 3 + 2, none⟩ = some (.int .i64 dz) ∧ wx.cell? ⟨g, x * 3, none⟩ = some (.int .i64 ef) ∧ wx.cell? ⟨g, x * 3 + 1, none⟩ = some (.int .i64 es) ∧ wx.cell? ⟨g, x * 3 + 2, none⟩ = some (.int .i64 ez)) (go_keep)
            ((refine step_callF _ (by kernel_rfl) (.tmp 92) [.tmp 96, .tmp 100] #[60, 60] (by rfl) 78 (by simp [Act.eval]) Try.func78 (by kernel_rfl) rfl [.agg #[.int .i64 df, .int .i64 ds, .int .i64 dz], .agg #[.int .i64 ef, .int .i64 es, .int .i64 ez]] (by simp [Act.eval]) (.int .i64 cv) (NC.out _) ?_; intro w7 hb7; have HX := hidF ((HZ.out.1.held (W := w5.drew) (Below.refl _ _).drew).held hb7); obtain ⟨m1, m2, m3⟩ := HX.out.row.at (k := m) (by omega); obtain ⟨m4, m5, m6⟩ := HX.out.row.at (k := x) (by omega); rw [HDE.out.1] at m1 m2 m3; rw [HDE.out.2] at m4 m5 m6; clear hb7))
          all_goals
            go_wp2_with fail
            go_meet
            case rel => go_light; exact ⟨by first | rfl | simp [hc'], HX.out⟩
        case rest =>
        obtain ⟨rfl, HX⟩ := hcut
        clear a1 a2 a3 b1 b2 b3 NC gl
        go_wp2_with fail
        go_roundw
        case rel =>
          go_light
          refine ⟨x + 1, j, by omega, by omega, i3, by go_num, rfl, HX.out, fun q e1 e2 => ?_, HZ.out.2.2⟩
          have := HS.out.s1.le (i := q) (j := x) e1 (by omega) (by omega)
          have := HLT.out
          omega
        case measure => simp [intV]; omega
    · obtain rfl : i = j := by omega
      have hlt' : ¬ (i : Int) < (i : Int) := by omega
      have HFIN : Hid (Srt (keyD D) (shR t i m) a b ∧ Prm a b t (shR t i m)) := by
        have := merge_last (key := keyD D) (t := t) (a := a) (m := m) (i := i) HS.out.s1 (fun q e1 e2 => HS.out.tag q m e1 e2 (Nat.le_refl _) (by omega)) i1 i3 HZ.out.2.1 HZ.out.2.2
        rw [HM.out] at this
        exact this
      have HST := hidF HZ.out.1
      clear HZ
      go_wp2_with fail
      go_loopw [17] (fun kv wr => ∃ k : Nat, i ≤ k ∧ k ≤ m ∧ kv = .int .i64 k ∧ Hid (SoAt w wr g n D (shR t k m))) (fun kv _ => (intV kv).toNat)
      case atStart => exact ⟨m, i3, Nat.le_refl _, rfl, by show SoAt _ _ _ _ _ _; rw [shR_start]; exact HST.out⟩
      case round =>
        obtain ⟨k, k1, k2, rfl, HY⟩ := hrel
        by_cases hke : i < k
        · have hke' : (i : Int) < (k : Int) := by omega
          obtain ⟨q, hq⟩ : ∃ q, k - 1 = q := ⟨_, rfl⟩
          have W8 : IntKind.i64.wrap ((k : Int) - 1) = (q : Int) := by rw [wrapT (by omega) (by omega)]; omega
          have HSH := hidF (shR_step t k m (by omega) k2)
          rw [hq] at HSH
          have v1 : (0 : Int) ≤ (k : Int) := by omega
          have v2 : (k : Int) < (n : Int) := by omega
          have v3 : (0 : Int) ≤ (q : Int) := by omega
          have v4 : (q : Int) < (n : Int) := by omega
          have gl := HY.out.row.lt
          obtain ⟨a1, a2, a3⟩ := HY.out.row.at (k := k) (by omega)
          obtain ⟨b1, b2, b3⟩ := HY.out.row.at (k := q) (by omega)
          have HN := hidF (HY.out.swap (x := k) (y := q) (by omega) (by omega))
          obtain ⟨⟨df, ds, dz⟩, hd⟩ : ∃ d, D (shR t k m k) = d := ⟨_, rfl⟩
          obtain ⟨⟨ef, es, ez⟩, he⟩ : ∃ d, D (shR t k m q) = d := ⟨_, rfl⟩
          rw [hd] at a1 a2 a3 HN
          rw [he] at b1 b2 b3 HN
          simp only at a1 a2 a3 b1 b2 b3 HN
          have f1 := HY.out.row.frz (k * 3)
          have f2 := HY.out.row.frz (k * 3 + 1)
          have f3 := HY.out.row.frz (k * 3 + 2)
          have f4 := HY.out.row.frz (q * 3)
          have f5 := HY.out.row.frz (q * 3 + 1)
          have f6 := HY.out.row.frz (q * 3 + 2)
          have n1 : ¬ q = k := by omega
          have n2 : ¬ k = q := by omega
          clear hd he
          obtain ⟨w5, hw5⟩ : ∃ w5, w5 = wr := ⟨_, rfl⟩
          subst hw5
          go_upto_region 23 with fail
          go_region
          all_goals
            go_wp2_with fail
            go_roundw
            case rel =>
              go_light
              refine ⟨q, by omega, by omega, by first | rfl | go_num, ?_⟩
              have := HN.out
              rw [HSH.out] at this
              exact this.held (Below.refl _ _).drew
            case measure => simp [intV]; omega
        · obtain rfl : i = k := by omega
          have hke' : ¬ (i : Int) < (i : Int) := by omega
          go_wp2_with fail
          go_returns
          exact ⟨rfl, _, HY.out, HFIN.out.1, HFIN.out.2⟩
end Go.Proofs.Ytjdndaeobiagcaa
