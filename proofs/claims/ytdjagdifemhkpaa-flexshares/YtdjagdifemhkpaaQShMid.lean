/- The document's Share: how it begins. -/
import Derived.Test.YtdjagdifemhkpaaQShLoop
namespace Go.Proofs.Ytdjagdifemhkpaa
open Go.RowKit
set_option linter.unusedVariables false      -- bounds that are for the walk

set_option maxHeartbeats 8000000 in
set_option maxRecDepth 100000 in
theorem qshare_mid {w wl w5 : World} {its : List It} {la : Option Addr} {lc n g1 g2 g3 : Nat} {gw : Bool} {rm z : Int} {qs : List Pr}
    (hO : ItsOk its) (hM : ∀ i ∈ its, 0 ≤ i.mn) (hN : its.length = n) (hB : Below w.heap.size w wl) (hI : ItemsL wl (.slice la n lc) its) (r1 : -16777216 ≤ rm) (r2 : rm ≤ 16777216) (z1 : -7000000000 ≤ z) (z2 : z ≤ 7000000000)
    (hq : qs = its.map (mkQ gw)) (hS : QSt wl w5 g1 g2 g3 n (fun _ => 0) (fun _ => false) (fun _ => 0)) (u0 u2 u3 u4 u5 u6 u10 u11 u16 u17 u18 u19 u20 u21 u22 u23 u24 u25 u26 u27 u28 u29 u30 u31 u32 u33 u34 u35 u36 u37 u38 u39 u40 u41 u42 u43 u44 u45 u46 u47 u48 u49 u50 u51 u52 u53 u54 u55 u56 u57 u58 u59 u60 u61 u62 u63 u64 u65 u66 u67 u68 u69 u70 u71 u72 u73 u74 u75 u76 u77 u78 u79 u80 u81 u82 u83 u84 u85 u86 u87 u88 u89 u90 u91 u92 u93 u94 u95 u96 u97 u98 u99 u100 u101 u102 u103 u104 u105 u106 u107 u108 u109 u110 u111 u112 u113 u114 u115 u116 u117 u118 u119 u120 u121 u122 u123 u124 u125 u126 u127 u128 u129 u130 u131 u132 u133 u134 u135 u136 u137 u138 u139 u140 u141 u142 u143 u144 u145 u146 u147 u148 u149 u150 u151 u152 u153 u154 u155 u156 u157 u158 u159 u160 u161 u162 u163 u164 u165 u166 u167 u168 u169 u170 u171 u172 u173 u174 u175 u176 u177 u178 u179 u180 u181 u182 u183 u184 u185 u186 u187 u188 u189 u190 u191 u192 u193 u194 u195 u196 u197 u198 u199 u200 u201 u202 u203 u204 u205 u206 u207 u208 u209 u210 u211 u212 u213 u214 u215 u216 u217 u218 u219 u220 u221 u222 u223 u224 u225 u226 u227 u228 u229 u230 u231 u232 u233 u234 u235 u236 u237 u238 u239 u240 u241 u242 u243 u244 u245 u246 u247 u248 u249 u250 u251 u252 u253 u254 u255 u256 u257 u258 u259 u260 u261 u262 u263 u264 u265 u266 u267 u268 u269 u270 u271 u272 u273 u274 u275 u276 u277 u278 u279 u280 u281 u282 u283 u284 u285 u286 u287 u288 u289 u290 u291 u292 u293 u294 u295 u296 u297 u298 u299 u300 u301 u302 u303 u304 u305 u306 u307 u308 u309 u310 u311 : Value) :
    Code.wp Try.prog (restOf 12 (bodyOf Try.f14)) (bodyPost Try.prog Try.f14 (fun e w' => ∃ v', e = .returned v' ∧ IntL w' v' ((shareL gw (rm - z) (freeN (rm - z) qs n) n qs).map Pr.size) ∧ Below w.heap.size w w')) { tmps := #[u0, .int .i64 rm, u2, u3, u4, u5, u6, .slice la n lc, .int .i64 (n : Int), .int .i64 z, u10, u11, .bool gw, .slice (some ⟨g1, 0, none⟩) n n, .slice (some ⟨g2, 0, none⟩) n n, .slice (some ⟨g3, 0, none⟩) n n, u16, u17, u18, u19, u20, u21, u22, u23, u24, u25, u26, u27, u28, u29, u30, u31, u32, u33, u34, u35, u36, u37, u38, u39, u40, u41, u42, u43, u44, u45, u46, u47, u48, u49, u50, u51, u52, u53, u54, u55, u56, u57, u58, u59, u60, u61, u62, u63, u64, u65, u66, u67, u68, u69, u70, u71, u72, u73, u74, u75, u76, u77, u78, u79, u80, u81, u82, u83, u84, u85, u86, u87, u88, u89, u90, u91, u92, u93, u94, u95, u96, u97, u98, u99, u100, u101, u102, u103, u104, u105, u106, u107, u108, u109, u110, u111, u112, u113, u114, u115, u116, u117, u118, u119, u120, u121, u122, u123, u124, u125, u126, u127, u128, u129, u130, u131, u132, u133, u134, u135, u136, u137, u138, u139, u140, u141, u142, u143, u144, u145, u146, u147, u148, u149, u150, u151, u152, u153, u154, u155, u156, u157, u158, u159, u160, u161, u162, u163, u164, u165, u166, u167, u168, u169, u170, u171, u172, u173, u174, u175, u176, u177, u178, u179, u180, u181, u182, u183, u184, u185, u186, u187, u188, u189, u190, u191, u192, u193, u194, u195, u196, u197, u198, u199, u200, u201, u202, u203, u204, u205, u206, u207, u208, u209, u210, u211, u212, u213, u214, u215, u216, u217, u218, u219, u220, u221, u222, u223, u224, u225, u226, u227, u228, u229, u230, u231, u232, u233, u234, u235, u236, u237, u238, u239, u240, u241, u242, u243, u244, u245, u246, u247, u248, u249, u250, u251, u252, u253, u254, u255, u256, u257, u258, u259, u260, u261, u262, u263, u264, u265, u266, u267, u268, u269, u270, u271, u272, u273, u274, u275, u276, u277, u278, u279, u280, u281, u282, u283, u284, u285, u286, u287, u288, u289, u290, u291, u292, u293, u294, u295, u296, u297, u298, u299, u300, u301, u302, u303, u304, u305, u306, u307, u308, u309, u310, u311], defers := [] } w5 := by
  have HO := hidF hO
  have HM := hidF hM
  have HN := hidF hN
  have HB := hidF hB
  have HI := hidF hI
  have HS : Hid (QSt wl w5 g1 g2 g3 n (fun _ => 0) (fun _ => false) (fun _ => 0)) := hS
  have hn2 : n ≤ 200 := by rw [← hN]; exact hO.len
  have HL : Hid (∀ (j : Nat) (x : It), its[j]? = some x → ∃ b o, la = some ⟨b, o, none⟩ ∧ ItAt wl b (o + j * 6) x) := by
    obtain ⟨la', lc', e, _, _, hl⟩ := hI
    cases e
    exact hl
  have Z2 : IntKind.i64.wrap (rm - z) = rm - z := wrapJ (by omega) (by omega)
  have HQ : Hid (∀ j i, its[j]? = some i → qs[j]? = some (mkQ gw i)) := fun j i hj => by rw [hq, List.getElem?_map, hj]; rfl
  have HQL : Hid (qs.length = n) := by show _ = _; rw [hq, List.length_map, hN]
  have HQI : Hid (qs.map Pr.i = its) := by
    show _ = _
    rw [hq, List.map_map]
    exact List.map_id' its
  have HQO : Hid (RowOk qs) := by
    refine ⟨by rw [HQL.out]; omega, fun p hp => ?_, fun p hp hs => ?_⟩
    · have : p.i ∈ qs.map Pr.i := List.mem_map_of_mem hp
      rw [HQI.out] at this
      exact HO.out.ok _ this
    · rw [hq] at hp
      obtain ⟨i, hi, rfl⟩ := List.mem_map.1 hp
      have := bndI_b (HO.out.ok i hi)
      simp only [mkQ] at hs ⊢
      rw [if_pos hs]
      exact this
  clear hO hM hN hB hI hS hq
  conv => arg 2; dsimp only [restOf, bodyOf, Try.f14]
  conv => arg 4; dsimp only
  go_wp2_with fail
  go_loopw [16] (fun i wr => ∃ (m : Nat), m ≤ n ∧ i = .int .i64 m ∧ Hid (QSt wl wr g1 g2 g3 n (fun j => if j < m then atF Pr.size qs j else 0) (fun j => if j < m then setB qs j else false) (fun j => if j < m then atF (facP gw) qs j else 0))) (fun i _ => n - (intV i).toNat)
  case atStart => exact ⟨0, Nat.zero_le _, rfl, HS.out.congr (fun _ _ => by simp) (fun _ _ => by simp) (fun _ _ => by simp)⟩
  case round =>
    obtain ⟨m, hm, rfl, HZ⟩ := hrel
    by_cases hlt : m < n
    · obtain ⟨x, hx⟩ : ∃ x, its[m]? = some x := ⟨_, List.getElem?_eq_getElem (by rw [HN.out]; exact hlt)⟩
      have hp := HQ.out m x hx
      obtain ⟨b, o, rfl, hit⟩ := HL.out m x hx
      have bl := hit.lt
      obtain ⟨x1, x2, x3, x4, x5, x6, x7⟩ := hit.below HZ.out.below
      have hok := HO.out.ok x (List.mem_of_getElem? hx)
      have HH := hidF (fun W => qhold_any x x.b (HM.out x (List.mem_of_getElem? hx)) W)
      have bb := bndI_b hok
      have hb0 := hok.b0
      have hb1 := hok.b1
      have fcb := facG_bd gw hok
      have HSZ : Hid (atF Pr.size qs m = if (awayN gw x || decide (facG gw x = 0)) = true then bndI x x.b else 0) := by show _ = _; rw [atF_at hp]; rfl
      have HST : Hid (setB qs m = (awayN gw x || decide (facG gw x = 0))) := by show _ = _; rw [setB_at hp]; rfl
      have HFC : Hid (atF (facP gw) qs m = facG gw x) := by show _ = _; rw [atF_at hp]; rfl
      have f1 := HZ.out.f.cell hlt
      have f2 := HZ.out.f.lt
      have f3 := HZ.out.f.frz m
      have l3 := HZ.out.lo3
      have nb3 : ¬ b = g3 := by omega
      have i1 : (0 : Int) ≤ (m : Int) := by omega
      have i2 : (m : Int) < (n : Int) := by omega
      obtain ⟨bd, hbd⟩ : ∃ t, bndI x x.b = t := ⟨_, rfl⟩
      have HAW : Hid (awayN gw x = ((gw && decide (bd < x.b)) || (!gw && decide (x.b < bd)))) := by show _ = _; unfold awayN; rw [hbd]
      rw [hbd] at bb HH HSZ
      obtain ⟨bb1, bb2⟩ := bb
      obtain ⟨fc, hfc⟩ : ∃ t, facG gw x = t := ⟨_, rfl⟩
      have HFD := hidF hfc
      rw [hfc] at HSZ HST HFC fcb
      rw [HAW.out] at HSZ HST
      obtain ⟨fcb1, fcb2⟩ := fcb
      have HIT := hidF hit
      clear hx hp hit hok hbd hfc
      obtain ⟨xb, xmn, xmx, xar, xgr, xsh⟩ := x
      unfold itV at HH
      unfold facG at HFD
      simp only at x2 x3 x4 x5 x6 x7 HH HSZ HST HFD hb0 hb1 HAW
      obtain ⟨w0, hw0⟩ : ∃ w9, w9 = wr := ⟨_, rfl⟩
      subst hw0
      have HF1 : Hid (QSt wl (w0.setCell ⟨g3, m, none⟩ (.int .i64 fc)) g1 g2 g3 n (fun j => if j < m then atF Pr.size qs j else 0) (fun j => if j < m then setB qs j else false) (fun j => if j < m + 1 then atF (facP gw) qs j else 0)) := by
        refine (HZ.out.setF m fc).congr (fun _ _ => rfl) (fun _ _ => rfl) (fun j hj => ?_)
        by_cases e1 : j = m
        · subst e1; rw [if_pos rfl, if_pos (by omega), HFC.out]
        · rw [if_neg e1]
          by_cases e2 : j < m
          · rw [if_pos e2, if_pos (by omega)]
          · rw [if_neg e2, if_neg (by omega)]
      have HF2 : Hid (∀ y : Int, QSt wl ((w0.setCell ⟨g3, m, none⟩ (.int .i64 y)).setCell ⟨g3, m, none⟩ (.int .i64 fc)) g1 g2 g3 n (fun j => if j < m then atF Pr.size qs j else 0) (fun j => if j < m then setB qs j else false) (fun j => if j < m + 1 then atF (facP gw) qs j else 0)) := by
        intro y
        refine ((HZ.out.setF m y).setF m fc).congr (fun _ _ => rfl) (fun _ _ => rfl) (fun j hj => ?_)
        by_cases e1 : j = m
        · subst e1; rw [if_pos rfl, if_pos (by omega), HFC.out]
        · rw [if_neg e1, if_neg e1]
          by_cases e2 : j < m
          · rw [if_pos e2, if_pos (by omega)]
          · rw [if_neg e2, if_neg (by omega)]
      have x6' : (w0.setCell ⟨g3, m, none⟩ (.int .i64 xsh)).cell? ⟨b, o + m * 6 + 4, none⟩ = some (.int .i64 xgr) := (World.cell?_of_block (a := ⟨b, o + m * 6 + 4, none⟩) (heap_setCell_other w0 ⟨g3, m, none⟩ b _ nb3)).trans x6
      have f4 := (HZ.out.setF m xsh).f.cell hlt
      have f5 := (HZ.out.setF m xsh).f.frz m
      go_upto_if 94 with fail
      go_cut [] (fun wx => Hid (QSt wl wx g1 g2 g3 n (fun j => if j < m then atF Pr.size qs j else 0) (fun j => if j < m then setB qs j else false) (fun j => if j < m + 1 then atF (facP gw) qs j else 0)))
      case first =>
        cases gw
        · simp only [Bool.false_eq_true, if_false] at HFD
          obtain rfl : xsh = fc := HFD.out
          go_wp2_with fail
          go_meet
          case rel => go_light; exact HF1.out
        · simp only [if_true] at HFD
          obtain rfl : xgr = fc := HFD.out
          go_wp2_with fail
          go_meet
          case rel => go_light; exact HF2.out xsh
      case rest =>
      have HC1 := hidF hcut.out
      clear hcut x2 x3 x4 x5 x6 x7 x6' f1 f4 f5 HF1 HF2 HZ
      obtain ⟨x1, x2, x3, x4, x5, x6, x7⟩ := HIT.out.below HC1.out.below
      simp only at x2 x3 x4 x5 x6 x7
      obtain ⟨w1, hw1⟩ : ∃ w9, w9 = wc := ⟨_, rfl⟩
      subst hw1
      go_upto_region 24 with fail
      go_cut [17] (fun s wx => s = .int .i64 bd ∧ Hid (QSt wl wx g1 g2 g3 n (fun j => if j < m then atF Pr.size qs j else 0) (fun j => if j < m then setB qs j else false) (fun j => if j < m + 1 then atF (facP gw) qs j else 0)))
      case first =>
        go_region_held3 (fun wx => wx.cell? ⟨b, o + m * 6, none⟩ = some (.int .i64 xb) ∧ wx.cell? ⟨b, o + m * 6 + 1, none⟩ = some (.int .i64 xmn) ∧ wx.cell? ⟨b, o + m * 6 + 2, none⟩ = some (.int .i64 xmx) ∧ wx.cell? ⟨b, o + m * 6 + 3, none⟩ = some (.int .i64 xar) ∧ wx.cell? ⟨b, o + m * 6 + 4, none⟩ = some (.int .i64 xgr) ∧ wx.cell? ⟨b, o + m * 6 + 5, none⟩ = some (.int .i64 xsh)) (go_keep)
          ((go_at_call 32; refine (HH.out _).mono ?_; rintro e w7 ⟨rfl, hb7⟩
            have m0 := (hb7.cell (p := ⟨b, o + m * 6, none⟩) x1).trans x2
            have m1 := (hb7.cell (p := ⟨b, o + m * 6 + 1, none⟩) x1).trans x3
            have m2 := (hb7.cell (p := ⟨b, o + m * 6 + 2, none⟩) x1).trans x4
            have m3 := (hb7.cell (p := ⟨b, o + m * 6 + 3, none⟩) x1).trans x5
            have m4 := (hb7.cell (p := ⟨b, o + m * 6 + 4, none⟩) x1).trans x6
            have m5 := (hb7.cell (p := ⟨b, o + m * 6 + 5, none⟩) x1).trans x7
            have B7 := hidF (HC1.out.held ((Below.refl w1.heap.size w1).drew.trans hb7))
            clear hb7))
        all_goals
          go_wp2_with fail
          go_meet
          case rel => go_light; exact ⟨rfl, B7.out⟩
      case rest =>
      obtain ⟨rfl, HC2⟩ := hcut
      clear x2 x3 x4 x5 x6 x7
      obtain ⟨y1, y2, _, _, _, _, _⟩ := HIT.out.below HC2.out.below
      simp only at y2
      have f6 := HC2.out.f.cell hlt
      have f7 := HC2.out.f.lt
      simp only [show m < m + 1 by omega, if_true, HFC.out] at f6
      have o1 := HC2.out.o.cell hlt
      have o2 := HC2.out.o.lt
      have o3 := HC2.out.o.frz m
      have o4 := (HC2.out.setO m bd).d.cell hlt
      have o5 := HC2.out.d.lt
      have o6 := (HC2.out.setO m bd).d.frz m
      have HYES : Hid (((gw && decide (bd < xb)) || (!gw && decide (xb < bd)) || decide (fc = 0)) = true → QSt wl ((wc.setCell ⟨g1, m, none⟩ (.int .i64 bd)).setCell ⟨g2, m, none⟩ (.bool true)) g1 g2 g3 n (fun j => if j < m + 1 then atF Pr.size qs j else 0) (fun j => if j < m + 1 then setB qs j else false) (fun j => if j < m + 1 then atF (facP gw) qs j else 0)) := by
        intro hf
        refine ((HC2.out.setO m bd).setD m true).congr (fun j hj => ?_) (fun j hj => ?_) (fun _ _ => rfl)
        · by_cases e1 : j = m
          · subst e1; rw [if_pos rfl, if_pos (by omega), HSZ.out, if_pos hf]
          · rw [if_neg e1]
            by_cases e2 : j < m
            · rw [if_pos e2, if_pos (by omega)]
            · rw [if_neg e2, if_neg (by omega)]
        · by_cases e1 : j = m
          · subst e1; rw [if_pos rfl, if_pos (by omega), HST.out, hf]
          · rw [if_neg e1]
            by_cases e2 : j < m
            · rw [if_pos e2, if_pos (by omega)]
            · rw [if_neg e2, if_neg (by omega)]
      have HNO : Hid (((gw && decide (bd < xb)) || (!gw && decide (xb < bd)) || decide (fc = 0)) = false → QSt wl wc g1 g2 g3 n (fun j => if j < m + 1 then atF Pr.size qs j else 0) (fun j => if j < m + 1 then setB qs j else false) (fun j => if j < m + 1 then atF (facP gw) qs j else 0)) := by
        intro hf
        refine HC2.out.congr (fun j hj => ?_) (fun j hj => ?_) (fun _ _ => rfl)
        · by_cases e1 : j = m
          · subst e1; rw [if_neg (by omega), if_pos (by omega), HSZ.out, hf]; simp
          · by_cases e2 : j < m
            · rw [if_pos e2, if_pos (by omega)]
            · rw [if_neg e2, if_neg (by omega)]
        · by_cases e1 : j = m
          · subst e1; rw [if_neg (by omega), if_pos (by omega), HST.out, hf]
          · by_cases e2 : j < m
            · rw [if_pos e2, if_pos (by omega)]
            · rw [if_neg e2, if_neg (by omega)]
      clear HC1 HC2 HSZ HST HFC HAW HFD HIT
      by_cases hf0 : fc = 0
      · have hf1 : (fc == 0) = true := by simpa using hf0
        have HX := hidF (HYES.out (by rw [hf0]; simp))
        clear hf0 HYES HNO
        go_wp2_with fail
        go_roundw
        case rel => go_light; exact ⟨m + 1, by omega, by go_num, HX.out⟩
        case measure => simp [intV]; omega
      · have hf1 : (fc == 0) = false := by simpa using hf0
        cases gw
        · by_cases hc : xb < bd
          · have HX := hidF (HYES.out (by simp [hc]))
            clear hf0 HYES HNO
            go_wp2_with fail
            go_roundw
            case rel => go_light; exact ⟨m + 1, by omega, by go_num, HX.out⟩
            case measure => simp [intV]; omega
          · have HX := hidF (HNO.out (by simp [hc, hf0]))
            clear hf0 HYES HNO
            go_wp2_with fail
            go_roundw
            case rel => go_light; exact ⟨m + 1, by omega, by go_num, HX.out⟩
            case measure => simp [intV]; omega
        · by_cases hc : bd < xb
          · have HX := hidF (HYES.out (by simp [hc]))
            clear hf0 HYES HNO
            go_wp2_with fail
            go_roundw
            case rel => go_light; exact ⟨m + 1, by omega, by go_num, HX.out⟩
            case measure => simp [intV]; omega
          · have HX := hidF (HNO.out (by simp [hc, hf0]))
            clear hf0 HYES HNO
            go_wp2_with fail
            go_roundw
            case rel => go_light; exact ⟨m + 1, by omega, by go_num, HX.out⟩
            case measure => simp [intV]; omega
    · obtain rfl : m = n := by omega
      have hl2 : ¬ (m : Int) < (m : Int) := by omega
      have hq : QSt wl wr g1 g2 g3 m (atF Pr.size qs) (setB qs) (atF (facP gw) qs) := HZ.out.congr (fun j hj => by simp [hj]) (fun j hj => by simp [hj]) (fun j hj => by simp [hj])
      have QLF := hidF (qleftS_any (w := wr) (lv := .slice la m lc) (ov := .slice (some ⟨g1, 0, none⟩) m m) (dv := .slice (some ⟨g2, 0, none⟩) m m) (ps := qs) (by rw [HQI.out]; exact HI.out.below hq.below) (hq.o.ints (by omega) (map_atF _ _ HQL.out)) (hq.d.bools (by omega) (map_setB _ HQL.out)) HQO.out.st (rm - z) (by omega) (by omega))
      have frb := HQO.out.free (rm - z) m
      rw [HQL.out] at QLF
      have HINV : Hid (QInv wl wr g1 g2 g3 m gw (rm - z) (freeN (rm - z) qs m) its (shareL gw (rm - z) (freeN (rm - z) qs m) m qs)) :=
        ⟨qs, hq, HQI.out, HQO.out.st, m, by have := openL_le qs; rw [HQL.out] at this; exact this, rfl⟩
      clear hq
      go_upto_region 28 with fail
      go_wp2_with fail
      refine QLF.out.mono ?_
      rintro e w6 ⟨rfl, hw6⟩
      rw [hw6]
      clear hw6 w6 QLF
      go_wp2_with fail
      exact qshare_loop (w := w) (wl := wl) (w5 := wr) (its := its) (la := la) (lc := lc) (n := m) (g1 := g1) (g2 := g2) (g3 := g3) (gw := gw) (rm := rm) (z := z) (st := freeN (rm - z) qs m) (fin := shareL gw (rm - z) (freeN (rm - z) qs m) m qs) HO.out HM.out HN.out HB.out HI.out r1 r2 z1 z2 (by omega) (by omega) HINV.out _ _ _ _ _ _ _ _ _ _ _ _ _ _ _ _ _ _ _ _ _ _ _ _ _ _ _ _ _ _ _ _ _ _ _ _ _ _ _ _ _ _ _ _ _ _ _ _ _ _ _ _ _ _ _ _ _ _ _ _ _ _ _ _ _ _ _ _ _ _ _ _ _ _ _ _ _ _ _ _ _ _ _ _ _ _ _ _ _ _ _ _ _ _ _ _ _ _ _ _ _ _ _ _ _ _ _ _ _ _ _ _ _ _ _ _ _ _ _ _ _ _ _ _ _ _ _ _ _ _ _ _ _ _ _ _ _ _ _ _ _ _ _ _ _ _ _ _ _ _ _ _ _ _ _ _ _ _ _ _ _ _ _ _ _ _ _ _ _ _ _ _ _ _ _ _ _ _ _ _ _ _ _ _ _ _ _ _ _ _ _ _ _ _ _ _ _ _ _ _ _ _ _ _ _ _ _ _ _ _ _ _ _ _ _ _ _ _ _ _ _ _ _ _ _ _ _ _ _ _ _ _ _ _ _ _ _ _ _ _ _ _ _ _ _ _ _ _ _ _ _ _ _ _ _ _ _ _ _ _ _ _ _ _ _ _ _ _ _ _ _ _ _ _ _ _ _ _ _ _ _ _ _ _ _ _ _ _ _ _ _ _ _ _ _ _ _ _ _ _ _ _ _
end Go.Proofs.Ytdjagdifemhkpaa
