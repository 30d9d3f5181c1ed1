/- slices' symMerge, at numbers: the first block of one element. -/
import Derived.Test.YtlfepdecgfcifaaGreatDoorM19
namespace Go.Proofs.YtlfepdecgfcifaaGreatDoor
open Go.RowKit
set_option linter.unusedVariables false      -- bounds that are for the walk
set_option linter.unusedSectionVars false
variable [OX : OrdX]

/-- half of a sum, as the program reckons it -/
theorem half_sum {x : Nat} (h : x ≤ 1000000) : IntKind.u64.wrap (x : Int) = (x : Int) := by rw [IntKind.wrap_u64]; omega

set_option maxHeartbeats 4000000 in
set_option maxRecDepth 100000 in
theorem sym_one {w : World} {g n cap : Nat} {D : Nat → Int} {t : Tg} (h : SoAt w w g n D t) (hn : n ≤ 100000) {a b : Nat} (hs : Sym (keyD D) t a (a + 1) b) (h2 : b ≤ n) :
    Calls Tryz.prog 89 #[.slice (some ⟨g, 0, none⟩) n cap, .int .i64 (a : Int), .int .i64 ((a + 1 : Nat) : Int), .int .i64 (b : Int), ordF] w fun e w' => e = .returned (.tuple #[]) ∧ ∃ t', SoAt w w' g n D t' ∧ Srt (keyD D) t' a b ∧ Prm a b t t' := by
  have H0 := hidF h
  have HS := hidF hs
  have DM := hidF h.dm
  have NF := hidF (fun (x y : Int) (x0 : 0 ≤ x) (x1 : x ≤ 1000000) (y0 : 0 ≤ y) (y1 : y ≤ 1000000) (W : World) (hm : MapK W) => ordF_any x0 x1 y0 y1 hm)
  have hmb := hs.mb
  obtain ⟨m, hm⟩ : ∃ m, a + 1 = m := ⟨_, rfl⟩
  have HM := hidF hm
  rw [hm] at hmb HS ⊢
  have W1 : IntKind.i64.wrap ((m : Int) - (a : Int)) = 1 := by rw [wrapT (by omega) (by omega)]; omega
  clear h hs
  unfold ordF
  go_enter Tryz.func89, Tryz.ntmps89
  go_wp2_with fail
  go_loopw [10, 11] (fun iv jv wr => ∃ (i j : Nat), m ≤ i ∧ i ≤ j ∧ j ≤ b ∧ iv = .int .i64 i ∧ jv = .int .i64 j ∧ Hid (SoAt w wr g n D t ∧ (∀ q, a < q → q < i → keyD D (t q) < keyD D (t a)) ∧ (∀ q, j ≤ q → q < b → ¬ keyD D (t q) < keyD D (t a)))) (fun iv jv _ => (intOf jv).toNat - (intOf iv).toNat)
  case atStart => exact ⟨m, b, Nat.le_refl _, by omega, Nat.le_refl _, rfl, rfl, H0.out, (fun q e1 e2 => by omega), (fun q e1 e2 => by omega)⟩
  case round =>
    obtain ⟨i, j, i1, i2, i3, rfl, rfl, HZ⟩ := hrel
    by_cases hlt : i < j
    · have hlt' : (i : Int) < (j : Int) := by omega
      obtain ⟨x, hx⟩ : ∃ x, (i + j) / 2 = x := ⟨_, rfl⟩
      have W2 : IntKind.i64.wrap ((i : Int) + (j : Int)) = ((i + j : Nat) : Int) := by rw [wrapT (by omega) (by omega)]; omega
      have W3 : IntKind.u64.wrap ((i + j : Nat) : Int) = ((i + j : Nat) : Int) := half_sum (by omega)
      have x1 : i ≤ x := by omega
      have x2 : x < j := by omega
      have W4 : ((i : Int) + (j : Int)) / 2 = (x : Int) := by omega
      have W5 : IntKind.u64.wrap (x : Int) = (x : Int) := half_sum (by omega)
      have W6 : IntKind.i64.wrap (x : Int) = (x : Int) := wrapT (by omega) (by omega)
      have k1 : (0 : Int) ≤ (x : Int) := by omega
      have k2 : (x : Int) < (n : Int) := by omega
      have k3 : (0 : Int) ≤ (a : Int) := by omega
      have k4 : (a : Int) < (n : Int) := by omega
      have gl := HZ.out.1.row.lt
      have a1 := HZ.out.1.row.at (k := x) (by omega)
      have b1 := HZ.out.1.row.at (k := a) (by omega)
      have HKE : Hid (keyD D (t x) = OX.key (D (t x)) ∧ keyD D (t a) = OX.key (D (t a))) := ⟨rfl, rfl⟩
      obtain ⟨ds, hd⟩ : ∃ d, D (t x) = d := ⟨_, rfl⟩
      obtain ⟨es, he⟩ : ∃ d, D (t a) = d := ⟨_, rfl⟩
      rw [hd] at a1 HKE
      rw [he] at b1 HKE
      have NC := hidF (NF.out ds es (by rw [← hd]; exact (DM.out _).1) (by rw [← hd]; exact (DM.out _).2) (by rw [← he]; exact (DM.out _).1) (by rw [← he]; exact (DM.out _).2))
      have HDE := hidF (And.intro hd he)
      obtain ⟨cv, hcv⟩ : ∃ c, cmpN (OX.key ds) (OX.key es) = c := ⟨_, rfl⟩
      rw [hcv] at NC
      obtain ⟨w5, hw5⟩ : ∃ w5, w5 = wr := ⟨_, rfl⟩
      subst hw5
      by_cases hc : OX.key ds < OX.key es
      · have hc' : cv < 0 := by rw [← hcv]; exact cmpN_neg.2 hc
        have HLT : Hid (keyD D (t x) < keyD D (t a)) := by show _ < _; rw [HKE.out.1, HKE.out.2]; exact hc
        clear hd he hcv hc
        go_upto_region 5 with fail
        go_cut [50] (fun v wx => v = .bool true ∧ Hid (SoAt w wx g n D t))
        case first =>
          go_region_held3 (fun wx => wx.cell? ⟨g, x, none⟩ = some (.int .i64 ds) ∧ wx.cell? ⟨g, a, none⟩ = some (.int .i64 es)) (go_keep)
            ((refine step_callFc _ (by kernel_rfl) (.tmp 40) [.tmp 44, .tmp 48] #[3, 3] (by rfl) 34 #[.pointer (some ⟨OX.mb, 0, none⟩)] (by simp [Act.eval]) Tryz.func34 (by kernel_rfl) rfl [.int .i64 ds, .int .i64 es] (by simp [Act.eval]) (.int .i64 cv) (NC.out _ (HZ.out.1.held (W := w5.drew) (Below.refl _ _).drew).mp) ?_; intro w7 hb7; have HX := hidF ((HZ.out.1.held (W := w5.drew) (Below.refl _ _).drew).held hb7); have m1 := HX.out.row.at (k := x) (by omega); have m4 := HX.out.row.at (k := a) (by omega); rw [HDE.out.1] at m1; rw [HDE.out.2] at m4; clear hb7))
          all_goals
            go_wp2_with fail
            go_meet
            case rel => go_light; exact ⟨by first | rfl | simp [hc'], HX.out⟩
        case rest =>
        obtain ⟨rfl, HX⟩ := hcut
        clear a1 b1 NC gl
        go_wp2_with fail
        go_roundw
        case rel =>
          go_light
          refine ⟨x + 1, j, by omega, by omega, i3, by go_num, rfl, HX.out, fun q e1 e2 => ?_, HZ.out.2.2⟩
          have := HS.out.s2.le (i := q) (j := x) (by omega) (by omega) (by omega)
          have := HLT.out
          omega
        case measure => simp [intOf]; omega
      · have hc' : ¬ cv < 0 := by rw [← hcv]; exact fun e => hc (cmpN_neg.1 e)
        have HLT : Hid (¬ keyD D (t x) < keyD D (t a)) := by show ¬ _ < _; rw [HKE.out.1, HKE.out.2]; exact hc
        clear hd he hcv hc
        go_upto_region 5 with fail
        go_cut [50] (fun v wx => v = .bool false ∧ Hid (SoAt w wx g n D t))
        case first =>
          go_region_held3 (fun wx => wx.cell? ⟨g, x, none⟩ = some (.int .i64 ds) ∧ wx.cell? ⟨g, a, none⟩ = some (.int .i64 es)) (go_keep)
            ((refine step_callFc _ (by kernel_rfl) (.tmp 40) [.tmp 44, .tmp 48] #[3, 3] (by rfl) 34 #[.pointer (some ⟨OX.mb, 0, none⟩)] (by simp [Act.eval]) Tryz.func34 (by kernel_rfl) rfl [.int .i64 ds, .int .i64 es] (by simp [Act.eval]) (.int .i64 cv) (NC.out _ (HZ.out.1.held (W := w5.drew) (Below.refl _ _).drew).mp) ?_; intro w7 hb7; have HX := hidF ((HZ.out.1.held (W := w5.drew) (Below.refl _ _).drew).held hb7); have m1 := HX.out.row.at (k := x) (by omega); have m4 := HX.out.row.at (k := a) (by omega); rw [HDE.out.1] at m1; rw [HDE.out.2] at m4; clear hb7))
          all_goals
            go_wp2_with fail
            go_meet
            case rel => go_light; exact ⟨by first | rfl | simp [hc'], HX.out⟩
        case rest =>
        obtain ⟨rfl, HX⟩ := hcut
        clear a1 b1 NC gl
        go_wp2_with fail
        go_roundw
        case rel =>
          go_light
          refine ⟨i, x, i1, x1, by omega, rfl, rfl, HX.out, HZ.out.2.1, fun q e1 e2 => ?_⟩
          have := HS.out.s2.le (i := x) (j := q) (by omega) e1 e2
          have := HLT.out
          omega
        case measure => simp [intOf]; omega
    · obtain rfl : i = j := by omega
      have hlt' : ¬ (i : Int) < (i : Int) := by omega
      have HFIN : Hid (Srt (keyD D) (shL t a i) a b ∧ Prm a b t (shL t a i)) := merge_one (by rw [HM.out]; exact HS.out.s2) (fun q e1 e2 => HS.out.tag a q (Nat.le_refl _) (by omega) (by omega) e2) (by omega) i3 HZ.out.2.1 HZ.out.2.2
      have HST := hidF HZ.out.1
      have W9 : IntKind.i64.wrap ((i : Int) - 1) = ((i - 1 : Nat) : Int) := by rw [wrapT (by omega) (by omega)]; omega
      obtain ⟨e, he⟩ : ∃ e, i - 1 = e := ⟨_, rfl⟩
      rw [he] at W9
      clear HZ
      go_wp2_with fail
      go_loopw [13] (fun kv wr => ∃ k : Nat, a ≤ k ∧ k ≤ e ∧ kv = .int .i64 k ∧ Hid (SoAt w wr g n D (shL t a (k + 1)))) (fun kv _ => e - (intOf kv).toNat)
      case atStart => exact ⟨a, Nat.le_refl _, by omega, rfl, by show SoAt _ _ _ _ _ _; rw [shL_start]; exact HST.out⟩
      case round =>
        obtain ⟨k, k1, k2, rfl, HY⟩ := hrel
        by_cases hke : k < e
        · have hke' : (k : Int) < (e : Int) := by omega
          obtain ⟨q, hq⟩ : ∃ q, k + 1 = q := ⟨_, rfl⟩
          have W8 : IntKind.i64.wrap ((k : Int) + 1) = (q : Int) := by rw [wrapT (by omega) (by omega)]; omega
          have HSH := hidF (shL_step t a k k1)
          rw [hq] at HSH HY
          have v1 : (0 : Int) ≤ (k : Int) := by omega
          have v2 : (k : Int) < (n : Int) := by omega
          have v3 : (0 : Int) ≤ (q : Int) := by omega
          have v4 : (q : Int) < (n : Int) := by omega
          have gl := HY.out.row.lt
          have a1 := HY.out.row.at (k := k) (by omega)
          have b1 := HY.out.row.at (k := q) (by omega)
          have HN := hidF (HY.out.swap (x := k) (y := q) (by omega) (by omega))
          obtain ⟨ds, hd⟩ : ∃ d, D (shL t a q k) = d := ⟨_, rfl⟩
          obtain ⟨es, he⟩ : ∃ d, D (shL t a q q) = d := ⟨_, rfl⟩
          rw [hd] at a1 HN
          rw [he] at b1 HN
          have f1 := HY.out.row.frz k
          have f4 := HY.out.row.frz q
          have n1 : ¬ q = k := by omega
          have n2 : ¬ k = q := by omega
          clear hd he
          obtain ⟨w5, hw5⟩ : ∃ w5, w5 = wr := ⟨_, rfl⟩
          subst hw5
          go_upto_region 11 with fail
          go_region
          all_goals
            go_wp2_with fail
            go_roundw
            case rel =>
              go_light
              refine ⟨q, by omega, by omega, by first | rfl | go_num, ?_⟩
              have := HN.out
              rw [HSH.out] at this
              exact this.held (Below.refl _ _).drew
            case measure => simp [intOf]; omega
        · obtain rfl : k = e := by omega
          have hke' : ¬ (k : Int) < (k : Int) := by omega
          have HE : Hid (k + 1 = i) := by show _ = _; omega
          rw [HE.out] at HY
          go_wp2_with fail
          go_returns
          exact ⟨rfl, _, HY.out, HFIN.out.1, HFIN.out.2⟩
end Go.Proofs.YtlfepdecgfcifaaGreatDoor

/- slices' symMerge, at numbers: the second block of one element. -/
namespace Go.Proofs.YtlfepdecgfcifaaGreatDoor
open Go.RowKit
set_option linter.unusedVariables false      -- bounds that are for the walk
set_option linter.unusedSectionVars false
variable [OX : OrdX]

set_option maxHeartbeats 4000000 in
set_option maxRecDepth 100000 in
theorem sym_last {w : World} {g n cap : Nat} {D : Nat → Int} {t : Tg} (h : SoAt w w g n D t) (hn : n ≤ 100000) {a m : Nat} (hs : Sym (keyD D) t a m (m + 1)) (h2 : m + 1 ≤ n) (ham : a + 1 < m) :
    Calls Tryz.prog 89 #[.slice (some ⟨g, 0, none⟩) n cap, .int .i64 (a : Int), .int .i64 (m : Int), .int .i64 ((m + 1 : Nat) : Int), ordF] w fun e w' => e = .returned (.tuple #[]) ∧ ∃ t', SoAt w w' g n D t' ∧ Srt (keyD D) t' a (m + 1) ∧ Prm a (m + 1) t t' := by
  have H0 := hidF h
  have HS := hidF hs
  have DM := hidF h.dm
  have NF := hidF (fun (x y : Int) (x0 : 0 ≤ x) (x1 : x ≤ 1000000) (y0 : 0 ≤ y) (y1 : y ≤ 1000000) (W : World) (hm : MapK W) => ordF_any x0 x1 y0 y1 hm)
  obtain ⟨b, hm⟩ : ∃ b, m + 1 = b := ⟨_, rfl⟩
  have HM := hidF hm
  rw [hm] at h2 HS ⊢
  have W0 : IntKind.i64.wrap ((m : Int) - (a : Int)) = ((m - a : Nat) : Int) := by rw [wrapT (by omega) (by omega)]; omega
  obtain ⟨ma, hma⟩ : ∃ x, m - a = x := ⟨_, rfl⟩
  rw [hma] at W0
  have N0 : ((ma : Int) == 1) = false := by simp; omega
  have W1 : IntKind.i64.wrap ((b : Int) - (m : Int)) = 1 := by rw [wrapT (by omega) (by omega)]; omega
  clear h hs
  unfold ordF
  go_enter Tryz.func89, Tryz.ntmps89
  go_wp2_with fail
  go_loopw [14, 15] (fun iv jv wr => ∃ (i j : Nat), a ≤ i ∧ i ≤ j ∧ j ≤ m ∧ iv = .int .i64 i ∧ jv = .int .i64 j ∧ Hid (SoAt w wr g n D t ∧ (∀ q, a ≤ q → q < i → ¬ keyD D (t m) < keyD D (t q)) ∧ (∀ q, j ≤ q → q < m → keyD D (t m) < keyD D (t q)))) (fun iv jv _ => (intOf jv).toNat - (intOf iv).toNat)
  case atStart => exact ⟨a, m, Nat.le_refl _, by omega, Nat.le_refl _, rfl, rfl, H0.out, (fun q e1 e2 => by omega), (fun q e1 e2 => by omega)⟩
  case round =>
    obtain ⟨i, j, i1, i2, i3, rfl, rfl, HZ⟩ := hrel
    by_cases hlt : i < j
    · have hlt' : (i : Int) < (j : Int) := by omega
      obtain ⟨x, hx⟩ : ∃ x, (i + j) / 2 = x := ⟨_, rfl⟩
      have W2 : IntKind.i64.wrap ((i : Int) + (j : Int)) = ((i + j : Nat) : Int) := by rw [wrapT (by omega) (by omega)]; omega
      have W3 : IntKind.u64.wrap ((i + j : Nat) : Int) = ((i + j : Nat) : Int) := half_sum (by omega)
      have x1 : i ≤ x := by omega
      have x2 : x < j := by omega
      have W4 : ((i : Int) + (j : Int)) / 2 = (x : Int) := by omega
      have W5 : IntKind.u64.wrap (x : Int) = (x : Int) := half_sum (by omega)
      have W6 : IntKind.i64.wrap (x : Int) = (x : Int) := wrapT (by omega) (by omega)
      have k1 : (0 : Int) ≤ (x : Int) := by omega
      have k2 : (x : Int) < (n : Int) := by omega
      have k3 : (0 : Int) ≤ (m : Int) := by omega
      have k4 : (m : Int) < (n : Int) := by omega
      have gl := HZ.out.1.row.lt
      have a1 := HZ.out.1.row.at (k := m) (by omega)
      have b1 := HZ.out.1.row.at (k := x) (by omega)
      have HKE : Hid (keyD D (t m) = OX.key (D (t m)) ∧ keyD D (t x) = OX.key (D (t x))) := ⟨rfl, rfl⟩
      obtain ⟨ds, hd⟩ : ∃ d, D (t m) = d := ⟨_, rfl⟩
      obtain ⟨es, he⟩ : ∃ d, D (t x) = d := ⟨_, rfl⟩
      rw [hd] at a1 HKE
      rw [he] at b1 HKE
      have NC := hidF (NF.out ds es (by rw [← hd]; exact (DM.out _).1) (by rw [← hd]; exact (DM.out _).2) (by rw [← he]; exact (DM.out _).1) (by rw [← he]; exact (DM.out _).2))
      have HDE := hidF (And.intro hd he)
      obtain ⟨cv, hcv⟩ : ∃ c, cmpN (OX.key ds) (OX.key es) = c := ⟨_, rfl⟩
      rw [hcv] at NC
      obtain ⟨w5, hw5⟩ : ∃ w5, w5 = wr := ⟨_, rfl⟩
      subst hw5
      by_cases hc : OX.key ds < OX.key es
      · have hc' : cv < 0 := by rw [← hcv]; exact cmpN_neg.2 hc
        have HLT : Hid (keyD D (t m) < keyD D (t x)) := by show _ < _; rw [HKE.out.1, HKE.out.2]; exact hc
        clear hd he hcv hc
        go_upto_region 17 with fail
        go_cut [103] (fun v wx => v = .bool false ∧ Hid (SoAt w wx g n D t))
        case first =>
          go_region_held3 (fun wx => wx.cell? ⟨g, m, none⟩ = some (.int .i64 ds) ∧ wx.cell? ⟨g, x, none⟩ = some (.int .i64 es)) (go_keep)
            ((refine step_callFc _ (by kernel_rfl) (.tmp 92) [.tmp 96, .tmp 100] #[3, 3] (by rfl) 34 #[.pointer (some ⟨OX.mb, 0, none⟩)] (by simp [Act.eval]) Tryz.func34 (by kernel_rfl) rfl [.int .i64 ds, .int .i64 es] (by simp [Act.eval]) (.int .i64 cv) (NC.out _ (HZ.out.1.held (W := w5.drew) (Below.refl _ _).drew).mp) ?_; intro w7 hb7; have HX := hidF ((HZ.out.1.held (W := w5.drew) (Below.refl _ _).drew).held hb7); have m1 := HX.out.row.at (k := m) (by omega); have m4 := HX.out.row.at (k := x) (by omega); rw [HDE.out.1] at m1; rw [HDE.out.2] at m4; clear hb7))
          all_goals
            go_wp2_with fail
            go_meet
            case rel => go_light; exact ⟨by first | rfl | simp [hc'], HX.out⟩
        case rest =>
        obtain ⟨rfl, HX⟩ := hcut
        clear a1 b1 NC gl
        go_wp2_with fail
        go_roundw
        case rel =>
          go_light
          refine ⟨i, x, i1, x1, by omega, rfl, rfl, HX.out, HZ.out.2.1, fun q e1 e2 => ?_⟩
          have := HS.out.s1.le (i := x) (j := q) (by omega) e1 e2
          have := HLT.out
          omega
        case measure => simp [intOf]; omega
      · have hc' : ¬ cv < 0 := by rw [← hcv]; exact fun e => hc (cmpN_neg.1 e)
        have HLT : Hid (¬ keyD D (t m) < keyD D (t x)) := by show ¬ _ < _; rw [HKE.out.1, HKE.out.2]; exact hc
        clear hd he hcv hc
        go_upto_region 17 with fail
        go_cut [103] (fun v wx => v = .bool true ∧ Hid (SoAt w wx g n D t))
        case first =>
          go_region_held3 (fun wx => wx.cell? ⟨g, m, none⟩ = some (.int .i64 ds) ∧ wx.cell? ⟨g, x, none⟩ = some (.int .i64 es)) (go_keep)
            ((refine step_callFc _ (by kernel_rfl) (.tmp 92) [.tmp 96, .tmp 100] #[3, 3] (by rfl) 34 #[.pointer (some ⟨OX.mb, 0, none⟩)] (by simp [Act.eval]) Tryz.func34 (by kernel_rfl) rfl [.int .i64 ds, .int .i64 es] (by simp [Act.eval]) (.int .i64 cv) (NC.out _ (HZ.out.1.held (W := w5.drew) (Below.refl _ _).drew).mp) ?_; intro w7 hb7; have HX := hidF ((HZ.out.1.held (W := w5.drew) (Below.refl _ _).drew).held hb7); have m1 := HX.out.row.at (k := m) (by omega); have m4 := HX.out.row.at (k := x) (by omega); rw [HDE.out.1] at m1; rw [HDE.out.2] at m4; clear hb7))
          all_goals
            go_wp2_with fail
            go_meet
            case rel => go_light; exact ⟨by first | rfl | simp [hc'], HX.out⟩
        case rest =>
        obtain ⟨rfl, HX⟩ := hcut
        clear a1 b1 NC gl
        go_wp2_with fail
        go_roundw
        case rel =>
          go_light
          refine ⟨x + 1, j, by omega, by omega, i3, by go_num, rfl, HX.out, fun q e1 e2 => ?_, HZ.out.2.2⟩
          have := HS.out.s1.le (i := q) (j := x) e1 (by omega) (by omega)
          have := HLT.out
          omega
        case measure => simp [intOf]; omega
    · obtain rfl : i = j := by omega
      have hlt' : ¬ (i : Int) < (i : Int) := by omega
      have HFIN : Hid (Srt (keyD D) (shR t i m) a b ∧ Prm a b t (shR t i m)) := by
        have := merge_last (key := keyD D) (t := t) (a := a) (m := m) (i := i) HS.out.s1 (fun q e1 e2 => HS.out.tag q m e1 e2 (Nat.le_refl _) (by omega)) i1 i3 HZ.out.2.1 HZ.out.2.2
        rw [HM.out] at this
        exact this
      have HST := hidF HZ.out.1
      clear HZ
      go_wp2_with fail
      go_loopw [17] (fun kv wr => ∃ k : Nat, i ≤ k ∧ k ≤ m ∧ kv = .int .i64 k ∧ Hid (SoAt w wr g n D (shR t k m))) (fun kv _ => (intOf kv).toNat)
      case atStart => exact ⟨m, i3, Nat.le_refl _, rfl, by show SoAt _ _ _ _ _ _; rw [shR_start]; exact HST.out⟩
      case round =>
        obtain ⟨k, k1, k2, rfl, HY⟩ := hrel
        by_cases hke : i < k
        · have hke' : (i : Int) < (k : Int) := by omega
          obtain ⟨q, hq⟩ : ∃ q, k - 1 = q := ⟨_, rfl⟩
          have W8 : IntKind.i64.wrap ((k : Int) - 1) = (q : Int) := by rw [wrapT (by omega) (by omega)]; omega
          have HSH := hidF (shR_step t k m (by omega) k2)
          rw [hq] at HSH
          have v1 : (0 : Int) ≤ (k : Int) := by omega
          have v2 : (k : Int) < (n : Int) := by omega
          have v3 : (0 : Int) ≤ (q : Int) := by omega
          have v4 : (q : Int) < (n : Int) := by omega
          have gl := HY.out.row.lt
          have a1 := HY.out.row.at (k := k) (by omega)
          have b1 := HY.out.row.at (k := q) (by omega)
          have HN := hidF (HY.out.swap (x := k) (y := q) (by omega) (by omega))
          obtain ⟨ds, hd⟩ : ∃ d, D (shR t k m k) = d := ⟨_, rfl⟩
          obtain ⟨es, he⟩ : ∃ d, D (shR t k m q) = d := ⟨_, rfl⟩
          rw [hd] at a1 HN
          rw [he] at b1 HN
          have f1 := HY.out.row.frz k
          have f4 := HY.out.row.frz q
          have n1 : ¬ q = k := by omega
          have n2 : ¬ k = q := by omega
          clear hd he
          obtain ⟨w5, hw5⟩ : ∃ w5, w5 = wr := ⟨_, rfl⟩
          subst hw5
          go_upto_region 23 with fail
          go_region
          all_goals
            go_wp2_with fail
            go_roundw
            case rel =>
              go_light
              refine ⟨q, by omega, by omega, by first | rfl | go_num, ?_⟩
              have := HN.out
              rw [HSH.out] at this
              exact this.held (Below.refl _ _).drew
            case measure => simp [intOf]; omega
        · obtain rfl : i = k := by omega
          have hke' : ¬ (i : Int) < (i : Int) := by omega
          go_wp2_with fail
          go_returns
          exact ⟨rfl, _, HY.out, HFIN.out.1, HFIN.out.2⟩
end Go.Proofs.YtlfepdecgfcifaaGreatDoor
