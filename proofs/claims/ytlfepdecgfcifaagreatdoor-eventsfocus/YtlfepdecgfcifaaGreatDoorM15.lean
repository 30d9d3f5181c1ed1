/- slices' symMerge, at numbers: the second block of one element. -/
import Derived.Test.YtlfepdecgfcifaaGreatDoorM14
namespace Go.Proofs.YtlfepdecgfcifaaGreatDoor
open Go.RowKit
set_option linter.unusedVariables false      -- bounds that are for the walk
set_option linter.unusedSectionVars false
variable [OX : OrdX]

set_option maxHeartbeats 4000000 in
set_option maxRecDepth 100000 in
theorem sym_last {w : World} {g n cap : Nat} {D : Nat → Int} {t : Tg} (h : SoAt w w g n D t) (hn : n ≤ 100000) {a m : Nat} (hs : Sym (keyD D) t a m (m + 1)) (h2 : m + 1 ≤ n) (ham : a + 1 < m) :
    Calls Tryz.prog 89 #[.slice (some ⟨g, 0, none⟩) n cap, .int .i64 (a : Int), .int .i64 (m : Int), .int .i64 ((m + 1 : Nat) : Int), ordF] w fun e w' => e = .returned (.tuple #[]) ∧ ∃ t', SoAt w w' g n D t' ∧ Srt (keyD D) t' a (m + 1) ∧ Prm a (m + 1) t t' := by
  have H0 := hidF h
  have HS := hidF hs
  have DM := hidF h.dm
  have NF := hidF (fun (x y : Int) (x0 : 0 ≤ x) (x1 : x ≤ 1000000) (y0 : 0 ≤ y) (y1 : y ≤ 1000000) (W : World) (hm : MapK W) => ordF_any x0 x1 y0 y1 hm)
  obtain ⟨b, hm⟩ : ∃ b, m + 1 = b := ⟨_, rfl⟩
  have HM := hidF hm
  rw [hm] at h2 HS ⊢
  have W0 : IntKind.i64.wrap ((m : Int) - (a : Int)) = ((m - a : Nat) : Int) := by rw [wrapT (by omega) (by omega)]; omega
  obtain ⟨ma, hma⟩ : ∃ x, m - a = x := ⟨_, rfl⟩
  rw [hma] at W0
  have N0 : ((ma : Int) == 1) = false := by simp; omega
  have W1 : IntKind.i64.wrap ((b : Int) - (m : Int)) = 1 := by rw [wrapT (by omega) (by omega)]; omega
  clear h hs
  unfold ordF
  go_enter Tryz.func89, Tryz.ntmps89
  go_wp2_with fail
  go_loopw [14, 15] (fun iv jv wr => ∃ (i j : Nat), a ≤ i ∧ i ≤ j ∧ j ≤ m ∧ iv = .int .i64 i ∧ jv = .int .i64 j ∧ Hid (SoAt w wr g n D t ∧ (∀ q, a ≤ q → q < i → ¬ keyD D (t m) < keyD D (t q)) ∧ (∀ q, j ≤ q → q < m → keyD D (t m) < keyD D (t q)))) (fun iv jv _ => (intOf jv).toNat - (intOf iv).toNat)
  case atStart => exact ⟨a, m, Nat.le_refl _, by omega, Nat.le_refl _, rfl, rfl, H0.out, (fun q e1 e2 => by omega), (fun q e1 e2 => by omega)⟩
  case round =>
    obtain ⟨i, j, i1, i2, i3, rfl, rfl, HZ⟩ := hrel
    by_cases hlt : i < j
    · have hlt' : (i : Int) < (j : Int) := by omega
      obtain ⟨x, hx⟩ : ∃ x, (i + j) / 2 = x := ⟨_, rfl⟩
      have W2 : IntKind.i64.wrap ((i : Int) + (j : Int)) = ((i + j : Nat) : Int) := by rw [wrapT (by omega) (by omega)]; omega
      have W3 : IntKind.u64.wrap ((i + j : Nat) : Int) = ((i + j : Nat) : Int) := half_sum (by omega)
      have x1 : i ≤ x := by omega
      have x2 : x < j := by omega
      have W4 : ((i : Int) + (j : Int)) / 2 = (x : Int) := by omega
      have W5 : IntKind.u64.wrap (x : Int) = (x : Int) := half_sum (by omega)
      have W6 : IntKind.i64.wrap (x : Int) = (x : Int) := wrapT (by omega) (by omega)
      have k1 : (0 : Int) ≤ (x : Int) := by omega
      have k2 : (x : Int) < (n : Int) := by omega
      have k3 : (0 : Int) ≤ (m : Int) := by omega
      have k4 : (m : Int) < (n : Int) := by omega
      have gl := HZ.out.1.row.lt
      have a1 := HZ.out.1.row.at (k := m) (by omega)
      have b1 := HZ.out.1.row.at (k := x) (by omega)
      have HKE : Hid (keyD D (t m) = OX.key (D (t m)) ∧ keyD D (t x) = OX.key (D (t x))) := ⟨rfl, rfl⟩
      obtain ⟨ds, hd⟩ : ∃ d, D (t m) = d := ⟨_, rfl⟩
      obtain ⟨es, he⟩ : ∃ d, D (t x) = d := ⟨_, rfl⟩
      rw [hd] at a1 HKE
      rw [he] at b1 HKE
      have NC := hidF (NF.out ds es (by rw [← hd]; exact (DM.out _).1) (by rw [← hd]; exact (DM.out _).2) (by rw [← he]; exact (DM.out _).1) (by rw [← he]; exact (DM.out _).2))
      have HDE := hidF (And.intro hd he)
      obtain ⟨cv, hcv⟩ : ∃ c, cmpN (OX.key ds) (OX.key es) = c := ⟨_, rfl⟩
      rw [hcv] at NC
      obtain ⟨w5, hw5⟩ : ∃ w5, w5 = wr := ⟨_, rfl⟩
      subst hw5
      by_cases hc : OX.key ds < OX.key es
      · have hc' : cv < 0 := by rw [← hcv]; exact cmpN_neg.2 hc
        have HLT : Hid (keyD D (t m) < keyD D (t x)) := by show _ < _; rw [HKE.out.1, HKE.out.2]; exact hc
        clear hd he hcv hc
        go_upto_region 17 with fail
        go_cut [103] (fun v wx => v = .bool false ∧ Hid (SoAt w wx g n D t))
        case first =>
          go_region_held3 (fun wx => wx.cell? ⟨g, m, none⟩ = some (.int .i64 ds) ∧ wx.cell? ⟨g, x, none⟩ = some (.int .i64 es)) (go_keep)
            ((refine step_callFc _ (by kernel_rfl) (.tmp 92) [.tmp 96, .tmp 100] #[3, 3] (by rfl) 34 #[.pointer (some ⟨OX.mb, 0, none⟩)] (by simp [Act.eval]) Tryz.func34 (by kernel_rfl) rfl [.int .i64 ds, .int .i64 es] (by simp [Act.eval]) (.int .i64 cv) (NC.out _ (HZ.out.1.held (W := w5.drew) (Below.refl _ _).drew).mp) ?_; intro w7 hb7; have HX := hidF ((HZ.out.1.held (W := w5.drew) (Below.refl _ _).drew).held hb7); have m1 := HX.out.row.at (k := m) (by omega); have m4 := HX.out.row.at (k := x) (by omega); rw [HDE.out.1] at m1; rw [HDE.out.2] at m4; clear hb7))
          all_goals
            go_wp2_with fail
            go_meet
            case rel => go_light; exact ⟨by first | rfl | simp [hc'], HX.out⟩
        case rest =>
        obtain ⟨rfl, HX⟩ := hcut
        clear a1 b1 NC gl
        go_wp2_with fail
        go_roundw
        case rel =>
          go_light
          refine ⟨i, x, i1, x1, by omega, rfl, rfl, HX.out, HZ.out.2.1, fun q e1 e2 => ?_⟩
          have := HS.out.s1.le (i := x) (j := q) (by omega) e1 e2
          have := HLT.out
          omega
        case measure => simp [intOf]; omega
      · have hc' : ¬ cv < 0 := by rw [← hcv]; exact fun e => hc (cmpN_neg.1 e)
        have HLT : Hid (¬ keyD D (t m) < keyD D (t x)) := by show ¬ _ < _; rw [HKE.out.1, HKE.out.2]; exact hc
        clear hd he hcv hc
        go_upto_region 17 with fail
        go_cut [103] (fun v wx => v = .bool true ∧ Hid (SoAt w wx g n D t))
        case first =>
          go_region_held3 (fun wx => wx.cell? ⟨g, m, none⟩ = some (.int .i64 ds) ∧ wx.cell? ⟨g, x, none⟩ = some (.int .i64 es)) (go_keep)
            ((refine step_callFc _ (by kernel_rfl) (.tmp 92) [.tmp 96, .tmp 100] #[3, 3] (by rfl) 34 #[.pointer (some ⟨OX.mb, 0, none⟩)] (by simp [Act.eval]) Tryz.func34 (by kernel_rfl) rfl [.int .i64 ds, .int .i64 es] (by simp [Act.eval]) (.int .i64 cv) (NC.out _ (HZ.out.1.held (W := w5.drew) (Below.refl _ _).drew).mp) ?_; intro w7 hb7; have HX := hidF ((HZ.out.1.held (W := w5.drew) (Below.refl _ _).drew).held hb7); have m1 := HX.out.row.at (k := m) (by omega); have m4 := HX.out.row.at (k := x) (by omega); rw [HDE.out.1] at m1; rw [HDE.out.2] at m4; clear hb7))
          all_goals
            go_wp2_with fail
            go_meet
            case rel => go_light; exact ⟨by first | rfl | simp [hc'], HX.out⟩
        case rest =>
        obtain ⟨rfl, HX⟩ := hcut
        clear a1 b1 NC gl
        go_wp2_with fail
        go_roundw
        case rel =>
          go_light
          refine ⟨x + 1, j, by omega, by omega, i3, by go_num, rfl, HX.out, fun q e1 e2 => ?_, HZ.out.2.2⟩
          have := HS.out.s1.le (i := q) (j := x) e1 (by omega) (by omega)
          have := HLT.out
          omega
        case measure => simp [intOf]; omega
    · obtain rfl : i = j := by omega
      have hlt' : ¬ (i : Int) < (i : Int) := by omega
      have HFIN : Hid (Srt (keyD D) (shR t i m) a b ∧ Prm a b t (shR t i m)) := by
        have := merge_last (key := keyD D) (t := t) (a := a) (m := m) (i := i) HS.out.s1 (fun q e1 e2 => HS.out.tag q m e1 e2 (Nat.le_refl _) (by omega)) i1 i3 HZ.out.2.1 HZ.out.2.2
        rw [HM.out] at this
        exact this
      have HST := hidF HZ.out.1
      clear HZ
      go_wp2_with fail
      go_loopw [17] (fun kv wr => ∃ k : Nat, i ≤ k ∧ k ≤ m ∧ kv = .int .i64 k ∧ Hid (SoAt w wr g n D (shR t k m))) (fun kv _ => (intOf kv).toNat)
      case atStart => exact ⟨m, i3, Nat.le_refl _, rfl, by show SoAt _ _ _ _ _ _; rw [shR_start]; exact HST.out⟩
      case round =>
        obtain ⟨k, k1, k2, rfl, HY⟩ := hrel
        by_cases hke : i < k
        · have hke' : (i : Int) < (k : Int) := by omega
          obtain ⟨q, hq⟩ : ∃ q, k - 1 = q := ⟨_, rfl⟩
          have W8 : IntKind.i64.wrap ((k : Int) - 1) = (q : Int) := by rw [wrapT (by omega) (by omega)]; omega
          have HSH := hidF (shR_step t k m (by omega) k2)
          rw [hq] at HSH
          have v1 : (0 : Int) ≤ (k : Int) := by omega
          have v2 : (k : Int) < (n : Int) := by omega
          have v3 : (0 : Int) ≤ (q : Int) := by omega
          have v4 : (q : Int) < (n : Int) := by omega
          have gl := HY.out.row.lt
          have a1 := HY.out.row.at (k := k) (by omega)
          have b1 := HY.out.row.at (k := q) (by omega)
          have HN := hidF (HY.out.swap (x := k) (y := q) (by omega) (by omega))
          obtain ⟨ds, hd⟩ : ∃ d, D (shR t k m k) = d := ⟨_, rfl⟩
          obtain ⟨es, he⟩ : ∃ d, D (shR t k m q) = d := ⟨_, rfl⟩
          rw [hd] at a1 HN
          rw [he] at b1 HN
          have f1 := HY.out.row.frz k
          have f4 := HY.out.row.frz q
          have n1 : ¬ q = k := by omega
          have n2 : ¬ k = q := by omega
          clear hd he
          obtain ⟨w5, hw5⟩ : ∃ w5, w5 = wr := ⟨_, rfl⟩
          subst hw5
          go_upto_region 23 with fail
          go_region
          all_goals
            go_wp2_with fail
            go_roundw
            case rel =>
              go_light
              refine ⟨q, by omega, by omega, by first | rfl | go_num, ?_⟩
              have := HN.out
              rw [HSH.out] at this
              exact this.held (Below.refl _ _).drew
            case measure => simp [intOf]; omega
        · obtain rfl : i = k := by omega
          have hke' : ¬ (i : Int) < (i : Int) := by omega
          go_wp2_with fail
          go_returns
          exact ⟨rfl, _, HY.out, HFIN.out.1, HFIN.out.2⟩
end Go.Proofs.YtlfepdecgfcifaaGreatDoor

/- slices' symMerge, at numbers: behind the search. -/
namespace Go.Proofs.YtlfepdecgfcifaaGreatDoor
open Go.RowKit
set_option linter.unusedVariables false      -- bounds that are for the walk
set_option linter.unusedSectionVars false
variable [OX : OrdX]

/-- what symMerge does -/
def SyPost (w : World) (g n : Nat) (D : Nat → Int) (t : Tg) (a b : Nat) (e : Ending) (w' : World) : Prop := e = .returned (.tuple #[]) ∧ ∃ t', SoAt w w' g n D t' ∧ Srt (keyD D) t' a b ∧ Prm a b t t'
def restT : Nat → Code → Code
  | 0, c => c
  | n + 1, .seq _ c => restT n c
  | _, c => c
def bodyT (f : Func) : Code := match f.body with | some c => c | none => .skip

set_option maxHeartbeats 8000000 in
set_option maxRecDepth 100000 in
theorem sym_tail {w w5 : World} {g n cap : Nat} {D : Nat → Int} {t : Tg} (h : SoAt w w5 g n D t) (hn : n ≤ 100000) {a m b mid i e : Nat} (hs : Sym (keyD D) t a m b) (h2 : b ≤ n) (hcu : Cut (keyD D) t a m b mid i e) (hmid1 : a < mid) (hmid2 : mid < b)
    (ih : ∀ (W : World) (s : Tg) (a' m' b' : Nat), SoAt W W g n D s → Sym (keyD D) s a' m' b' → b' ≤ n → b' - a' < b - a → Calls Tryz.prog 89 #[.slice (some ⟨g, 0, none⟩) n cap, .int .i64 (a' : Int), .int .i64 (m' : Int), .int .i64 (b' : Int), ordF] W fun e w' => e = .returned (.tuple #[]) ∧ ∃ t', SoAt W w' g n D t' ∧ Srt (keyD D) t' a' b' ∧ Prm a' b' s t')
    (u5 u6 u7 u8 u9 u10 u11 u12 u13 u14 u15 u16 u17 u19 u21 u22 u23 u25 u26 u27 u28 u29 u30 u31 u32 u33 u34 u35 u36 u37 u38 u39 u40 u41 u42 u43 u44 u45 u46 u47 u48 u49 u50 u51 u52 u53 u54 u55 u56 u57 u58 u59 u60 u61 u62 u63 u64 u65 u66 u67 u68 u69 u70 u71 u72 u73 u74 u75 u76 u77 u78 u79 u80 u81 u82 u83 u84 u85 u86 u87 u88 u89 u90 u91 u92 u93 u94 u95 u96 u97 u98 u99 u100 u101 u102 u103 u104 u105 u106 u107 u108 u109 u110 u111 u112 u113 u114 u115 u116 u117 u118 u119 u120 u121 u122 u123 u124 u125 u126 u127 u128 u129 u130 u131 u132 u133 u134 u135 u136 u137 u138 u139 u140 u141 u142 u143 u144 u145 u146 u147 u148 u149 u150 u151 u152 u153 u154 u155 u156 u157 u158 u159 u160 u161 u162 u163 u164 u165 u166 u167 u168 u169 u170 u171 u172 u173 u174 u175 u176 u177 u178 u179 u180 u181 u182 u183 u184 u185 u186 u187 u188 u189 u190 u191 u192 u193 u194 u195 u196 u197 u198 u199 u200 u201 u202 u203 u204 u205 u206 u207 u208 u209 u210 u211 u212 u213 u214 u215 u216 u217 u218 u219 : Value) :
    Code.wp Tryz.prog (restT 9 (bodyT Tryz.f89)) (bodyPost Tryz.prog Tryz.f89 (SyPost w g n D t a b)) { tmps := #[.slice (some ⟨g, 0, none⟩) n cap, .int .i64 (a : Int), .int .i64 (m : Int), .int .i64 (b : Int), .func (.func 34) #[] #[.pointer (some ⟨OX.mb, 0, none⟩)], u5, u6, u7, u8, u9, u10, u11, u12, u13, u14, u15, u16, u17, .int .i64 (mid : Int), u19, .int .i64 (i : Int), u21, u22, u23, .int .i64 (e : Int), u25, u26, u27, u28, u29, u30, u31, u32, u33, u34, u35, u36, u37, u38, u39, u40, u41, u42, u43, u44, u45, u46, u47, u48, u49, u50, u51, u52, u53, u54, u55, u56, u57, u58, u59, u60, u61, u62, u63, u64, u65, u66, u67, u68, u69, u70, u71, u72, u73, u74, u75, u76, u77, u78, u79, u80, u81, u82, u83, u84, u85, u86, u87, u88, u89, u90, u91, u92, u93, u94, u95, u96, u97, u98, u99, u100, u101, u102, u103, u104, u105, u106, u107, u108, u109, u110, u111, u112, u113, u114, u115, u116, u117, u118, u119, u120, u121, u122, u123, u124, u125, u126, u127, u128, u129, u130, u131, u132, u133, u134, u135, u136, u137, u138, u139, u140, u141, u142, u143, u144, u145, u146, u147, u148, u149, u150, u151, u152, u153, u154, u155, u156, u157, u158, u159, u160, u161, u162, u163, u164, u165, u166, u167, u168, u169, u170, u171, u172, u173, u174, u175, u176, u177, u178, u179, u180, u181, u182, u183, u184, u185, u186, u187, u188, u189, u190, u191, u192, u193, u194, u195, u196, u197, u198, u199, u200, u201, u202, u203, u204, u205, u206, u207, u208, u209, u210, u211, u212, u213, u214, u215, u216, u217, u218, u219], defers := [] } w5 := by
  have HST := hidF h
  have HS := hidF hs
  have HCU := hidF hcu
  have RT := hidF (fun (W : World) (s : Tg) (hs : SoAt W W g n D s) (x y z : Nat) (e1 : x < y) (e2 : y < z) (e3 : z ≤ n) => rotate_any (cap := cap) hs hn e1 e2 e3 ordF)
  have IH := hidF ih
  have d1 := hcu.sm; have d2 := hcu.lea; have d3 := hcu.smid; have d4 := hcu.me; have d5 := hcu.eb; have d6 := hcu.mide
  have HONE := hidF (hcu.one hs)
  have HTWO := hidF (hcu.two hs)
  clear h hs hcu ih
  unfold ordF at *
  conv => arg 2; dsimp only [restT, bodyT, Tryz.f89]
  conv => arg 4; dsimp only
  obtain ⟨rc, hrc⟩ : ∃ x, decide (i < m ∧ m < e) = x := ⟨_, rfl⟩
  have HRC := hidF hrc
  clear hrc
  go_upto_region 39 with fail
  go_cut [185] (fun v wx => v = .bool rc ∧ wx = w5)
  case first =>
    by_cases r1 : i < m
    · have r1' : (i : Int) < (m : Int) := by omega
      by_cases r2 : m < e
      · have r2' : (m : Int) < (e : Int) := by omega
        have E := hidF (show true = rc by rw [← HRC.out]; simp [r1, r2])
        go_wp2_with fail
        go_meet
        case rel => go_light; exact ⟨by rw [E.out], rfl⟩
      · have r2' : ¬ (m : Int) < (e : Int) := by omega
        have E := hidF (show false = rc by rw [← HRC.out]; simp [r2])
        go_wp2_with fail
        go_meet
        case rel => go_light; exact ⟨by rw [E.out], rfl⟩
    · have r1' : ¬ (i : Int) < (m : Int) := by omega
      have E := hidF (show false = rc by rw [← HRC.out]; simp [r1])
      go_wp2_with fail
      go_meet
      case rel => go_light; exact ⟨by rw [E.out], rfl⟩
  case rest =>
  obtain ⟨rfl, hwx⟩ := hcut
  have hwy := hwx.symm
  clear hwx
  subst hwy
  go_upto_if 185 with fail
  go_cut [] (fun wx => Hid (SoAt w wx g n D (rotF t i m e)))
  case first =>
    cases rc with
    | true =>
        have hr := of_decide_eq_true HRC.out
        obtain ⟨r1, r2⟩ := hr
        have RC := hidF (RT.out w5 t HST.out.refl i m e r1 r2 (by omega))
        go_wp2_with fail
        refine RC.out.mono ?_
        rintro e1 w6 ⟨rfl, hw6⟩
        have H6 := hidF (HST.out.trans hw6)
        clear hw6
        go_wp2_with fail
        go_meet
        case rel => go_light; exact H6.out
    | false =>
        have HI := hidF (HCU.out.rot_id (of_decide_eq_false HRC.out))
        go_wp2_with fail
        go_meet
        case rel => go_light; rw [HI.out]; exact HST.out
  case rest =>
  have H6 := hidF hcut.out
  clear hcut
  obtain ⟨w6, hw6⟩ : ∃ w6, w6 = wc := ⟨_, rfl⟩
  subst hw6
  obtain ⟨rd, hrd⟩ : ∃ x, decide (a < i ∧ i < mid) = x := ⟨_, rfl⟩
  have HRD := hidF hrd
  clear hrd
  go_upto_region 41 with fail
  go_cut [199] (fun v wx => v = .bool rd ∧ wx = w6)
  case first =>
    by_cases r1 : a < i
    · have r1' : (a : Int) < (i : Int) := by omega
      by_cases r2 : i < mid
      · have r2' : (i : Int) < (mid : Int) := by omega
        have E := hidF (show true = rd by rw [← HRD.out]; simp [r1, r2])
        go_wp2_with fail
        go_meet
        case rel => go_light; exact ⟨by rw [E.out], rfl⟩
      · have r2' : ¬ (i : Int) < (mid : Int) := by omega
        have E := hidF (show false = rd by rw [← HRD.out]; simp [r2])
        go_wp2_with fail
        go_meet
        case rel => go_light; exact ⟨by rw [E.out], rfl⟩
    · have r1' : ¬ (a : Int) < (i : Int) := by omega
      have E := hidF (show false = rd by rw [← HRD.out]; simp [r1])
      go_wp2_with fail
      go_meet
      case rel => go_light; exact ⟨by rw [E.out], rfl⟩
  case rest =>
  obtain ⟨rfl, hwx⟩ := hcut
  have hwy := hwx.symm
  clear hwx
  subst hwy
  go_upto_if 199 with fail
  go_cut [] (fun wx => Hid (∃ t2, SoAt w wx g n D t2 ∧ Srt (keyD D) t2 a mid ∧ Prm a mid (rotF t i m e) t2))
  case first =>
    cases rd with
    | true =>
        have hr := of_decide_eq_true HRD.out
        obtain ⟨r1, r2⟩ := hr
        have RC := hidF (IH.out w6 _ a i mid H6.out.refl ⟨r1, r2, HONE.out.1, HONE.out.2.1, HONE.out.2.2⟩ (by omega) (by omega))
        go_wp2_with fail
        refine RC.out.mono ?_
        rintro e1 w7 ⟨rfl, t2, hw7, q1, q2⟩
        have H7 := hidF (And.intro (H6.out.trans hw7) (And.intro q1 q2))
        clear hw7 q1 q2
        go_wp2_with fail
        go_meet
        case rel => go_light; exact ⟨t2, H7.out.1, H7.out.2.1, H7.out.2.2⟩
    | false =>
        have HQ : Hid (Srt (keyD D) (rotF t i m e) a mid) := by
          have hr := of_decide_eq_false HRD.out
          by_cases r1 : a < i
          · exact HONE.out.1.mono (Nat.le_refl _) (by omega)
          · exact HONE.out.2.1.mono (by omega) (Nat.le_refl _)
        go_wp2_with fail
        go_meet
        case rel => go_light; exact ⟨_, H6.out, HQ.out, Prm.refl _ _ _⟩
  case rest =>
  obtain ⟨t2, hs2, hq2, hp2⟩ := hcut.out
  have H7 := hidF (And.intro hs2 (And.intro hq2 hp2))
  have HS2 : Hid (Srt (keyD D) t2 mid e ∧ Srt (keyD D) t2 e b ∧ (∀ i' j', mid ≤ i' → i' < e → e ≤ j' → j' < b → t2 i' < t2 j')) := by
    refine ⟨HTWO.out.1.congr (fun k e1 e2 => hp2.out k (.inr e1)), HTWO.out.2.1.congr (fun k e1 e2 => hp2.out k (.inr (by omega))), fun i' j' e1 e2 e3 e4 => ?_⟩
    rw [hp2.out i' (.inr e1), hp2.out j' (.inr (by omega))]
    exact HTWO.out.2.2 i' j' e1 e2 e3 e4
  clear hcut hs2 hq2 hp2
  obtain ⟨w7, hw7⟩ : ∃ w7, w7 = wc := ⟨_, rfl⟩
  subst hw7
  by_cases r1 : mid < e
  · have r1' : (mid : Int) < (e : Int) := by omega
    by_cases r2 : e < b
    · have r2' : (e : Int) < (b : Int) := by omega
      have RC := hidF (IH.out w7 _ mid e b H7.out.1.refl ⟨r1, r2, HS2.out.1, HS2.out.2.1, HS2.out.2.2⟩ h2 (by omega))
      go_wp2_with fail
      refine RC.out.mono ?_
      rintro e1 w8 ⟨rfl, t3, hw8, q1, q2⟩
      have H8 := hidF (And.intro (H7.out.1.trans hw8) (HCU.out.fin HS.out H7.out.2.2 H7.out.2.1 q2 q1 (by omega) (by omega)))
      clear hw8 q1 q2
      go_wp2_with fail
      go_returns
      unfold SyPost
      exact ⟨rfl, t3, H8.out.1, H8.out.2.1, H8.out.2.2⟩
    · have r2' : ¬ (e : Int) < (b : Int) := by omega
      have H8 := hidF (HCU.out.fin HS.out H7.out.2.2 H7.out.2.1 (Prm.refl _ _ _) (HS2.out.1.mono (Nat.le_refl _) (by omega)) (by omega) (by omega))
      go_wp2_with fail
      go_returns
      unfold SyPost
      exact ⟨rfl, t2, H7.out.1, H8.out.1, H8.out.2⟩
  · have r1' : ¬ (mid : Int) < (e : Int) := by omega
    have H8 := hidF (HCU.out.fin HS.out H7.out.2.2 H7.out.2.1 (Prm.refl _ _ _) (HS2.out.2.1.mono (by omega) (Nat.le_refl _)) (by omega) (by omega))
    go_wp2_with fail
    go_returns
    unfold SyPost
    exact ⟨rfl, t2, H7.out.1, H8.out.1, H8.out.2⟩
end Go.Proofs.YtlfepdecgfcifaaGreatDoor
