/- The document's Share: what is open, and how much it weighs. -/
import Derived.Test.YtdjagdifemhkpaaQShMem
namespace Go.Proofs.Ytdjagdifemhkpaa
open Go.RowKit
set_option linter.unusedVariables false      -- bounds that are for the walk

set_option maxRecDepth 100000 in
def QxFour (Q : Exit → Act → World → Prop) (w0 : World) (qs : List Pr) (la : Option Addr) (lc n g1 g2 g3 : Nat) (gw : Bool) (rm z st fr : Int) (u0 u2 u3 u4 u5 u10 u11 u16 u17 u33 u34 u35 u36 u37 u38 u39 u40 u41 u42 u43 u44 u45 u46 u47 u48 u49 u50 u51 u52 u53 u54 u55 u56 u57 u58 u59 u60 u61 u62 u63 u64 u65 u66 u67 u68 u69 u70 u71 u72 u73 u74 u75 u76 u77 u78 u79 u80 u81 u82 u83 u84 u85 u86 u87 u88 u89 u90 u91 u92 u93 u94 u95 u96 u97 u98 u99 u100 u101 u102 u103 u104 u105 u106 u107 u108 u109 u110 u111 u112 u113 u114 u115 u116 u117 u118 u119 u120 u121 u122 u123 u124 u125 u126 u127 u128 u129 u130 u131 u132 u133 u134 u135 u136 u137 u138 u139 u140 u141 u142 u143 u144 u145 u146 u147 u148 u149 u150 u151 u152 u153 u154 u155 u156 : Value) : Prop := ∀ (u6 u23 u24 u25 u26 u27 u28 u29 u30 u31 u32 u157 u158 u159 u160 u161 u162 u163 u164 u165 u166 u167 u168 u169 u170 u171 u172 u173 u174 u175 u176 u177 u178 u179 u180 u181 u182 u183 u184 u185 u186 u187 u188 u189 u190 u191 u192 u193 u194 u195 u196 u197 u198 u199 u200 u201 u202 u203 u204 u205 u206 u207 u208 u209 u210 u211 u212 u213 u214 u215 u216 u217 u218 u219 u220 u221 u222 u223 u224 u225 u226 u227 u228 u229 u230 u231 u232 u233 u234 u235 u236 u237 u238 u239 u240 u241 u242 u243 u244 u245 u246 u247 u248 u249 u250 u251 u252 u253 u254 u255 u256 u257 u258 u259 u260 u261 u262 u263 u264 u265 u266 u267 u268 u269 u270 u271 u272 u273 u274 u275 u276 u277 u278 u279 u280 u281 u282 u283 u284 u285 u286 u287 u288 u289 u290 u291 u292 u293 u294 u295 u296 u297 u298 u299 u300 u301 u302 u303 u304 u305 u306 u307 u308 u309 u310 u311 : Value) (wx : World) (fa wt c : Int), fa = sumO (facP gw) qs n → wt = sumO (wtP gw) qs n → c = sumO (fun _ => 1) qs n → Below w0.heap.size w0 wx → Q (.exit 6) { tmps := #[u0, .int .i64 rm, u2, u3, u4, u5, u6, .slice la n lc, .int .i64 (n : Int), .int .i64 z, u10, u11, .bool gw, .slice (some ⟨g1, 0, none⟩) n n, .slice (some ⟨g2, 0, none⟩) n n, .slice (some ⟨g3, 0, none⟩) n n, u16, u17, .int .i64 st, .int .i64 fr, .int .i64 fa, .int .i64 wt, .int .i64 c, u23, u24, u25, u26, u27, u28, u29, u30, u31, u32, u33, u34, u35, u36, u37, u38, u39, u40, u41, u42, u43, u44, u45, u46, u47, u48, u49, u50, u51, u52, u53, u54, u55, u56, u57, u58, u59, u60, u61, u62, u63, u64, u65, u66, u67, u68, u69, u70, u71, u72, u73, u74, u75, u76, u77, u78, u79, u80, u81, u82, u83, u84, u85, u86, u87, u88, u89, u90, u91, u92, u93, u94, u95, u96, u97, u98, u99, u100, u101, u102, u103, u104, u105, u106, u107, u108, u109, u110, u111, u112, u113, u114, u115, u116, u117, u118, u119, u120, u121, u122, u123, u124, u125, u126, u127, u128, u129, u130, u131, u132, u133, u134, u135, u136, u137, u138, u139, u140, u141, u142, u143, u144, u145, u146, u147, u148, u149, u150, u151, u152, u153, u154, u155, u156, u157, u158, u159, u160, u161, u162, u163, u164, u165, u166, u167, u168, u169, u170, u171, u172, u173, u174, u175, u176, u177, u178, u179, u180, u181, u182, u183, u184, u185, u186, u187, u188, u189, u190, u191, u192, u193, u194, u195, u196, u197, u198, u199, u200, u201, u202, u203, u204, u205, u206, u207, u208, u209, u210, u211, u212, u213, u214, u215, u216, u217, u218, u219, u220, u221, u222, u223, u224, u225, u226, u227, u228, u229, u230, u231, u232, u233, u234, u235, u236, u237, u238, u239, u240, u241, u242, u243, u244, u245, u246, u247, u248, u249, u250, u251, u252, u253, u254, u255, u256, u257, u258, u259, u260, u261, u262, u263, u264, u265, u266, u267, u268, u269, u270, u271, u272, u273, u274, u275, u276, u277, u278, u279, u280, u281, u282, u283, u284, u285, u286, u287, u288, u289, u290, u291, u292, u293, u294, u295, u296, u297, u298, u299, u300, u301, u302, u303, u304, u305, u306, u307, u308, u309, u310, u311], defers := [] } wx

set_option maxHeartbeats 8000000 in
set_option maxRecDepth 100000 in
theorem qsh_four {wl w0 : World} {its : List It} {qs : List Pr} {la : Option Addr} {lc n g1 g2 g3 : Nat} {gw : Bool} {rm z st fr : Int} {Q : Exit → Act → World → Prop}
    (hN : its.length = n) (hM : ∀ i ∈ its, 0 ≤ i.mn) (hql : qs.length = n) (hqi : qs.map Pr.i = its) (hqo : StOk qs) (hI : ItemsL wl (.slice la n lc) its)
    (hQ : QSt wl w0 g1 g2 g3 n (atF Pr.size qs) (setB qs) (atF (facP gw) qs))
    (u0 u2 u3 u4 u5 u6 u10 u11 u16 u17 u24 u25 u26 u27 u28 u29 u30 u31 u32 u33 u34 u35 u36 u37 u38 u39 u40 u41 u42 u43 u44 u45 u46 u47 u48 u49 u50 u51 u52 u53 u54 u55 u56 u57 u58 u59 u60 u61 u62 u63 u64 u65 u66 u67 u68 u69 u70 u71 u72 u73 u74 u75 u76 u77 u78 u79 u80 u81 u82 u83 u84 u85 u86 u87 u88 u89 u90 u91 u92 u93 u94 u95 u96 u97 u98 u99 u100 u101 u102 u103 u104 u105 u106 u107 u108 u109 u110 u111 u112 u113 u114 u115 u116 u117 u118 u119 u120 u121 u122 u123 u124 u125 u126 u127 u128 u129 u130 u131 u132 u133 u134 u135 u136 u137 u138 u139 u140 u141 u142 u143 u144 u145 u146 u147 u148 u149 u150 u151 u152 u153 u154 u155 u156 u157 u158 u159 u160 u161 u162 u163 u164 u165 u166 u167 u168 u169 u170 u171 u172 u173 u174 u175 u176 u177 u178 u179 u180 u181 u182 u183 u184 u185 u186 u187 u188 u189 u190 u191 u192 u193 u194 u195 u196 u197 u198 u199 u200 u201 u202 u203 u204 u205 u206 u207 u208 u209 u210 u211 u212 u213 u214 u215 u216 u217 u218 u219 u220 u221 u222 u223 u224 u225 u226 u227 u228 u229 u230 u231 u232 u233 u234 u235 u236 u237 u238 u239 u240 u241 u242 u243 u244 u245 u246 u247 u248 u249 u250 u251 u252 u253 u254 u255 u256 u257 u258 u259 u260 u261 u262 u263 u264 u265 u266 u267 u268 u269 u270 u271 u272 u273 u274 u275 u276 u277 u278 u279 u280 u281 u282 u283 u284 u285 u286 u287 u288 u289 u290 u291 u292 u293 u294 u295 u296 u297 u298 u299 u300 u301 u302 u303 u304 u305 u306 u307 u308 u309 u310 u311 : Value) (hexit : QxFour Q w0 qs la lc n g1 g2 g3 gw rm z st fr u0 u2 u3 u4 u5 u10 u11 u16 u17 u33 u34 u35 u36 u37 u38 u39 u40 u41 u42 u43 u44 u45 u46 u47 u48 u49 u50 u51 u52 u53 u54 u55 u56 u57 u58 u59 u60 u61 u62 u63 u64 u65 u66 u67 u68 u69 u70 u71 u72 u73 u74 u75 u76 u77 u78 u79 u80 u81 u82 u83 u84 u85 u86 u87 u88 u89 u90 u91 u92 u93 u94 u95 u96 u97 u98 u99 u100 u101 u102 u103 u104 u105 u106 u107 u108 u109 u110 u111 u112 u113 u114 u115 u116 u117 u118 u119 u120 u121 u122 u123 u124 u125 u126 u127 u128 u129 u130 u131 u132 u133 u134 u135 u136 u137 u138 u139 u140 u141 u142 u143 u144 u145 u146 u147 u148 u149 u150 u151 u152 u153 u154 u155 u156) :
    Code.wp Try.prog (inB (restOf 1 (fstOf (restOf 4 (roundS Try.f14))))) Q { tmps := #[u0, .int .i64 rm, u2, u3, u4, u5, u6, .slice la n lc, .int .i64 (n : Int), .int .i64 z, u10, u11, .bool gw, .slice (some ⟨g1, 0, none⟩) n n, .slice (some ⟨g2, 0, none⟩) n n, .slice (some ⟨g3, 0, none⟩) n n, u16, u17, .int .i64 st, .int .i64 fr, .int .i64 0, .int .i64 0, .int .i64 0, .int .i64 0, u24, u25, u26, u27, u28, u29, u30, u31, u32, u33, u34, u35, u36, u37, u38, u39, u40, u41, u42, u43, u44, u45, u46, u47, u48, u49, u50, u51, u52, u53, u54, u55, u56, u57, u58, u59, u60, u61, u62, u63, u64, u65, u66, u67, u68, u69, u70, u71, u72, u73, u74, u75, u76, u77, u78, u79, u80, u81, u82, u83, u84, u85, u86, u87, u88, u89, u90, u91, u92, u93, u94, u95, u96, u97, u98, u99, u100, u101, u102, u103, u104, u105, u106, u107, u108, u109, u110, u111, u112, u113, u114, u115, u116, u117, u118, u119, u120, u121, u122, u123, u124, u125, u126, u127, u128, u129, u130, u131, u132, u133, u134, u135, u136, u137, u138, u139, u140, u141, u142, u143, u144, u145, u146, u147, u148, u149, u150, u151, u152, u153, u154, u155, u156, u157, u158, u159, u160, u161, u162, u163, u164, u165, u166, u167, u168, u169, u170, u171, u172, u173, u174, u175, u176, u177, u178, u179, u180, u181, u182, u183, u184, u185, u186, u187, u188, u189, u190, u191, u192, u193, u194, u195, u196, u197, u198, u199, u200, u201, u202, u203, u204, u205, u206, u207, u208, u209, u210, u211, u212, u213, u214, u215, u216, u217, u218, u219, u220, u221, u222, u223, u224, u225, u226, u227, u228, u229, u230, u231, u232, u233, u234, u235, u236, u237, u238, u239, u240, u241, u242, u243, u244, u245, u246, u247, u248, u249, u250, u251, u252, u253, u254, u255, u256, u257, u258, u259, u260, u261, u262, u263, u264, u265, u266, u267, u268, u269, u270, u271, u272, u273, u274, u275, u276, u277, u278, u279, u280, u281, u282, u283, u284, u285, u286, u287, u288, u289, u290, u291, u292, u293, u294, u295, u296, u297, u298, u299, u300, u301, u302, u303, u304, u305, u306, u307, u308, u309, u310, u311], defers := [] } w0 := by
  have HN := hidF hN
  have HM := hidF hM
  have HQL := hidF hql
  have HQI := hidF hqi
  have HQO := hidF hqo
  have hn2 : n ≤ 200 := by rw [← hql]; exact hqo.len
  have HIT : Hid (∀ (j : Nat) (p : Pr), qs[j]? = some p → ∃ b o, la = some ⟨b, o, none⟩ ∧ ItAt wl b (o + j * 6) p.i) := by
    obtain ⟨la', lc', e, _, _, hl⟩ := hI
    cases e
    exact fun j p hj => hl j p.i (by rw [← hqi, List.getElem?_map, hj]; rfl)
  clear hN hM hql hqi hqo hI
  refine wp_mono (Q := fun e a w => e = Exit.exit 6 ∧ Q (Exit.exit 6) a w) ?_ (fun e a w h => by obtain ⟨rfl, h⟩ := h; exact h)
  let QD : (Ending → World → Prop) → Exit → Act → World → Prop := bodyPost Try.prog Try.f14
  have HQ := hidF hQ
  have HX := hidF hexit
  clear hQ hexit
  conv => arg 2; dsimp only [inB, inLp, fstOf, roundS, restOf, bodyOf, Try.f14]
  conv => arg 4; dsimp only
  go_loopw [20, 21, 22, 23] (fun s20 s21 s22 i wr => ∃ (m : Nat) (fa wt c : Int), m ≤ n ∧ i = .int .i64 m ∧ s20 = .int .i64 fa ∧ s21 = .int .i64 wt ∧ s22 = .int .i64 c ∧ Hid (fa = sumO (facP gw) qs m ∧ wt = sumO (wtP gw) qs m ∧ c = sumO (fun _ => 1) qs m ∧ Below w0.heap.size w0 wr)) (fun _ _ _ i _ => n - (intV i).toNat)
  case atStart => exact ⟨0, 0, 0, 0, Nat.zero_le _, rfl, rfl, rfl, rfl, by simp [sumO], by simp [sumO], by simp [sumO], Below.refl _ _⟩
  case round =>
    obtain ⟨m, fa, wt, c, hm, rfl, rfl, rfl, rfl, HZ⟩ := hrel
    have b1 := HQO.out.fac gw m (by rw [HQL.out]; exact hm)
    have b2 := HQO.out.wt gw m (by rw [HQL.out]; exact hm)
    have b3 := sumO_bd (f := fun _ => 1) (ps := qs) (B := 1) (fun _ _ => by omega) (by omega) m
    rw [← HZ.out.1] at b1
    rw [← HZ.out.2.1] at b2
    rw [← HZ.out.2.2.1] at b3
    obtain ⟨b1, b1'⟩ := b1
    obtain ⟨b2, b2'⟩ := b2
    obtain ⟨b3, b3'⟩ := b3
    by_cases hlt : m < n
    · obtain ⟨p, hp⟩ : ∃ p, qs[m]? = some p := ⟨_, List.getElem?_eq_getElem (by rw [HQL.out]; exact hlt)⟩
      obtain ⟨b, o, rfl, hit⟩ := HIT.out m p hp
      obtain ⟨x1, x2, x3, x4, x5, x6, x7⟩ := hit.below (HQ.out.below.trans (HZ.out.2.2.2.mono HQ.out.below.size))
      have hok := HQO.out.ok p (List.mem_of_getElem? hp)
      have FW := hidF (fun W => qweight_any hok gw W)
      have d1 := (HQ.out.held HZ.out.2.2.2).d.cell hlt
      have d2 := (HQ.out.held HZ.out.2.2.2).d.lt
      have e1 := (HQ.out.held HZ.out.2.2.2).f.cell hlt
      have e2 := (HQ.out.held HZ.out.2.2.2).f.lt
      rw [setB_at hp] at d1
      rw [atF_at hp] at e1
      have S1 : Hid (sumO (facP gw) qs (m + 1) = sumO (facP gw) qs m + if p.settled = true then 0 else facG gw p.i) := sumO_succ (f := facP gw) hp
      have S2 : Hid (sumO (wtP gw) qs (m + 1) = sumO (wtP gw) qs m + if p.settled = true then 0 else wtG gw p.i) := sumO_succ (f := wtP gw) hp
      have S3 := hidF (sumO_succ (f := fun _ => 1) hp)
      have w1 := wtG_bd gw hok
      have w2 := facG_bd gw hok
      rw [show facP gw p = facG gw p.i from rfl] at e1
      obtain ⟨fc, hfc⟩ : ∃ t, facG gw p.i = t := ⟨_, rfl⟩
      obtain ⟨wg, hwg⟩ : ∃ t, wtG gw p.i = t := ⟨_, rfl⟩
      rw [hfc] at S1 w2 FW e1
      rw [hwg] at S2 w1 FW
      obtain ⟨w1, w1'⟩ := w1
      obtain ⟨w2, w2'⟩ := w2
      have i1 : (0 : Int) ≤ (m : Int) := by omega
      have i2 : (m : Int) < (n : Int) := by omega
      have Y1 : IntKind.i64.wrap (wt + wg) = wt + wg := wrapJ (by omega) (by omega)
      clear hp hit hok hfc hwg
      obtain ⟨⟨xb, xmn, xmx, xar, xgr, xsh⟩, sz, mv, ss⟩ := p
      unfold itV at FW
      simp only at x2 x3 x4 x5 x6 x7 d1 FW S1 S2 S3
      cases ss
      · simp only [Bool.false_eq_true, if_false] at S1 S2 S3
        go_upto_region 39 with fail
        go_region_held3 (fun wx => wx.cell? ⟨b, o + m * 6, none⟩ = some (.int .i64 xb) ∧ wx.cell? ⟨b, o + m * 6 + 1, none⟩ = some (.int .i64 xmn) ∧ wx.cell? ⟨b, o + m * 6 + 2, none⟩ = some (.int .i64 xmx) ∧ wx.cell? ⟨b, o + m * 6 + 3, none⟩ = some (.int .i64 xar) ∧ wx.cell? ⟨b, o + m * 6 + 4, none⟩ = some (.int .i64 xgr) ∧ wx.cell? ⟨b, o + m * 6 + 5, none⟩ = some (.int .i64 xsh) ∧ wx.cell? ⟨g3, m, none⟩ = some (.int .i64 fc)) (go_keep)
          ((go_at_call 34; refine (FW.out _).mono ?_; rintro e w7 ⟨rfl, hb7⟩
            have m0 := (hb7.cell (p := ⟨b, o + m * 6, none⟩) x1).trans x2
            have m1 := (hb7.cell (p := ⟨b, o + m * 6 + 1, none⟩) x1).trans x3
            have m2 := (hb7.cell (p := ⟨b, o + m * 6 + 2, none⟩) x1).trans x4
            have m3 := (hb7.cell (p := ⟨b, o + m * 6 + 3, none⟩) x1).trans x5
            have m4 := (hb7.cell (p := ⟨b, o + m * 6 + 4, none⟩) x1).trans x6
            have m5 := (hb7.cell (p := ⟨b, o + m * 6 + 5, none⟩) x1).trans x7
            have m6 := (hb7.cell (p := ⟨g3, m, none⟩) e2).trans e1
            have B7 := hidF (HZ.out.2.2.2.trans (Below.mono ((Below.refl wr.heap.size wr).drew.trans hb7) HZ.out.2.2.2.size))
            clear hb7))
        all_goals
          go_wp2_with fail
          go_roundw
          case rel =>
            go_light
            refine ⟨m + 1, _, _, _, by omega, by go_num, rfl, rfl, rfl, by rw [S1.out, HZ.out.1], by rw [S2.out, HZ.out.2.1], by rw [S3.out, HZ.out.2.2.1], B7.out⟩
          case measure => simp [intV]; omega
      · simp only [if_true, Int.add_zero] at S1 S2 S3
        go_wp2_with fail
        go_roundw
        case rel =>
          go_light
          refine ⟨m + 1, _, _, _, by omega, by go_num, rfl, rfl, rfl, by rw [S1.out, HZ.out.1], by rw [S2.out, HZ.out.2.1], by rw [S3.out, HZ.out.2.2.1], HZ.out.2.2.2⟩
        case measure => simp [intV]; omega
    · obtain rfl : m = n := by omega
      have hl2 : ¬ (m : Int) < (m : Int) := by omega
      go_wp2_with fail

      exact HX.out _ _ _ _ _ _ _ _ _ _ _ _ _ _ _ _ _ _ _ _ _ _ _ _ _ _ _ _ _ _ _ _ _ _ _ _ _ _ _ _ _ _ _ _ _ _ _ _ _ _ _ _ _ _ _ _ _ _ _ _ _ _ _ _ _ _ _ _ _ _ _ _ _ _ _ _ _ _ _ _ _ _ _ _ _ _ _ _ _ _ _ _ _ _ _ _ _ _ _ _ _ _ _ _ _ _ _ _ _ _ _ _ _ _ _ _ _ _ _ _ _ _ _ _ _ _ _ _ _ _ _ _ _ _ _ _ _ _ _ _ _ _ _ _ _ _ _ _ _ _ _ _ _ _ _ _ _ _ _ _ _ _ _ _ _ _ _ _ _ _ HZ.out.1 HZ.out.2.1 HZ.out.2.2.1 HZ.out.2.2.2
end Go.Proofs.Ytdjagdifemhkpaa
