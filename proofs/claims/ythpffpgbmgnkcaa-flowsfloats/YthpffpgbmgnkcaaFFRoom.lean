/- FlowsFloats: the room in which one is added. -/
import Derived.Test.YthpffpgbmgnkcaaFFMore
namespace Go.Proofs.Ythpffpgbmgnkcaa
open Go.RowKit
set_option linter.unusedVariables false      -- bounds that are for the walk

set_option maxRecDepth 100000 in
def QxRoom (Q : Exit → Act → World → Prop) (w : World) (M : Nat → Lab) (sv lv : Value) (fs : List Fl) (pa : Option Addr) (n pc k : Nat) (y h wd : Int) (fb lb rb : Nat) (pi : Bool) (u0 u4 u5 u6 u7 u12 u13 u25 u26 u27 u28 u29 u30 u31 u32 u33 u34 u35 u36 u37 u38 u39 u40 u41 u42 u43 u44 u45 u46 u47 u48 u49 u50 u51 u52 u53 u54 u55 u56 u57 u58 u59 u60 u61 u62 u63 u64 u65 u216 u217 u218 u219 u220 u221 u222 u223 u224 u225 u226 u227 u228 u229 u230 u231 u232 u233 u234 u235 u236 u237 u238 u239 u240 u241 u242 u243 u244 u245 u246 u247 u248 u249 u250 u251 u252 u253 u254 u255 u256 u257 u258 u259 u260 u261 u262 u263 u264 u265 u266 u267 u268 u269 u270 u271 u272 u273 u274 u275 u276 u277 u278 u279 u280 u281 u282 u283 u284 u285 u286 u287 u288 u289 u290 u291 u292 u293 u294 u295 u296 u297 u298 u299 u300 u301 u302 u303 u304 u305 u306 u307 u308 u309 u310 u311 u312 u313 u314 u315 u316 u317 u318 u319 u320 u321 u322 u323 : Value) : Prop := ∀ (u8 u16 u17 u18 u19 u20 u21 u22 u23 u24 u66 u67 u68 u69 u70 u71 u72 u73 u74 u75 u76 u77 u78 u79 u80 u81 u82 u83 u84 u85 u86 u87 u88 u89 u90 u91 u92 u93 u94 u95 u96 u97 u98 u99 u100 u101 u102 u103 u104 u105 u106 u107 u108 u109 u110 u111 u112 u113 u114 u115 u116 u117 u118 u119 u120 u121 u122 u123 u124 u125 u126 u127 u128 u129 u130 u131 u132 u133 u134 u135 u136 u137 u138 u139 u140 u141 u142 u143 u144 u145 u146 u147 u148 u149 u150 u151 u152 u153 u154 u155 u156 u157 u158 u159 u160 u161 u162 u163 u164 u165 u166 u167 u168 u169 u170 u171 u172 u173 u174 u175 u176 u177 u178 u179 u180 u181 u182 u183 u184 u185 u186 u187 u188 u189 u190 u191 u192 u193 u194 u195 u196 u197 u198 u199 u200 u201 u202 u203 u204 u205 u206 u207 u208 u209 u210 u211 u212 u213 u214 u215 : Value) (wx : World) (s15 : Value), CutG w wx M fb lb rb sv lv wd fs s15 → Q .normal { tmps := #[u0, .slice pa n pc, .int .i64 y, .int .i64 h, u4, u5, u6, u7, u8, .pointer (some ⟨fb, 0, none⟩), .int .i64 wd, .pointer (some ⟨rb, 0, none⟩), u12, u13, .int .i64 (k : Int), s15, u16, u17, u18, u19, u20, u21, u22, u23, u24, u25, u26, u27, u28, u29, u30, u31, u32, u33, u34, u35, u36, u37, u38, u39, u40, u41, u42, u43, u44, u45, u46, u47, u48, u49, u50, u51, u52, u53, u54, u55, u56, u57, u58, u59, u60, u61, u62, u63, u64, u65, u66, u67, u68, u69, u70, u71, u72, u73, u74, u75, u76, u77, u78, u79, u80, u81, u82, u83, u84, u85, u86, u87, u88, u89, u90, u91, u92, u93, u94, u95, u96, u97, u98, u99, u100, u101, u102, u103, u104, u105, u106, u107, u108, u109, u110, u111, u112, u113, u114, u115, u116, u117, u118, u119, u120, u121, u122, u123, u124, u125, u126, u127, u128, u129, u130, u131, u132, u133, u134, u135, u136, u137, u138, u139, u140, u141, u142, u143, u144, u145, u146, u147, u148, u149, u150, u151, u152, u153, u154, u155, u156, u157, u158, u159, u160, u161, u162, u163, u164, u165, u166, u167, u168, u169, u170, u171, u172, u173, u174, u175, u176, u177, u178, u179, u180, u181, u182, u183, u184, u185, u186, u187, u188, u189, u190, u191, u192, u193, u194, u195, u196, u197, u198, u199, u200, u201, u202, u203, u204, u205, u206, u207, u208, u209, u210, u211, u212, u213, u214, u215, u216, u217, u218, u219, u220, u221, u222, u223, u224, u225, u226, u227, u228, u229, u230, u231, u232, u233, u234, u235, u236, u237, u238, u239, u240, u241, u242, u243, u244, u245, u246, u247, u248, u249, u250, u251, u252, u253, u254, u255, u256, u257, u258, u259, u260, u261, u262, u263, u264, u265, u266, u267, u268, u269, u270, u271, u272, u273, u274, u275, u276, u277, u278, u279, u280, u281, u282, u283, u284, u285, u286, u287, u288, u289, u290, u291, u292, u293, u294, u295, u296, u297, u298, u299, u300, u301, u302, u303, u304, u305, u306, u307, u308, u309, u310, u311, u312, u313, u314, u315, u316, u317, u318, u319, u320, u321, u322, u323], defers := [] } wx

set_option maxHeartbeats 8000000 in
set_option maxRecDepth 100000 in
theorem floats_room {w w3 : World} {M : Nat → Lab} {sv lv : Value} {fs : List Fl} {n pc fb lb rb pb po k : Nat} {y h wd plo phi : Int} {pi : Bool} {Q : Exit → Act → World → Prop}
    (hB : Bo w w3 M fb lb rb sv lv wd fs fs 0 wd) (hbd : Bd fs) (hfl : fs.length ≤ 200) (wd1 : 0 ≤ wd) (wd2 : wd ≤ 16777216) (hc1 : n ≤ pc) (hc2 : pc ≤ 9223372036854775807) (hlt : k < n) (hn2 : n ≤ 240) (hpb : pb < w.heap.size) (hq5 : w.cell? ⟨pb, po + k * 7 + 5, none⟩ = some (.int .i64 plo)) (hq6 : w.cell? ⟨pb, po + k * 7 + 6, none⟩ = some (.int .i64 phi))
    (u0 u4 u5 u6 u7 u8 u12 u13 u16 u17 u18 u19 u20 u21 u22 u23 u24 u25 u26 u27 u28 u29 u30 u31 u32 u33 u34 u35 u36 u37 u38 u39 u40 u41 u42 u43 u44 u45 u46 u47 u48 u49 u50 u51 u52 u53 u54 u55 u56 u57 u58 u59 u60 u61 u62 u63 u64 u65 u66 u67 u68 u69 u70 u71 u72 u73 u74 u75 u76 u77 u78 u79 u80 u81 u82 u83 u85 u86 u87 u88 u89 u90 u91 u92 u93 u94 u95 u96 u97 u98 u99 u100 u101 u102 u103 u104 u105 u106 u107 u108 u109 u110 u111 u112 u113 u114 u115 u116 u117 u118 u119 u120 u121 u122 u123 u124 u125 u126 u127 u128 u129 u130 u131 u132 u133 u134 u135 u136 u137 u138 u139 u140 u141 u142 u143 u144 u145 u146 u147 u148 u149 u150 u151 u152 u153 u154 u155 u156 u157 u158 u159 u160 u161 u162 u163 u164 u165 u166 u167 u168 u169 u170 u171 u172 u173 u174 u175 u176 u177 u178 u179 u180 u181 u182 u183 u184 u185 u186 u187 u188 u189 u190 u191 u192 u193 u194 u195 u196 u197 u198 u199 u200 u201 u202 u203 u204 u205 u206 u207 u208 u209 u210 u211 u212 u213 u214 u215 u216 u217 u218 u219 u220 u221 u222 u223 u224 u225 u226 u227 u228 u229 u230 u231 u232 u233 u234 u235 u236 u237 u238 u239 u240 u241 u242 u243 u244 u245 u246 u247 u248 u249 u250 u251 u252 u253 u254 u255 u256 u257 u258 u259 u260 u261 u262 u263 u264 u265 u266 u267 u268 u269 u270 u271 u272 u273 u274 u275 u276 u277 u278 u279 u280 u281 u282 u283 u284 u285 u286 u287 u288 u289 u290 u291 u292 u293 u294 u295 u296 u297 u298 u299 u300 u301 u302 u303 u304 u305 u306 u307 u308 u309 u310 u311 u312 u313 u314 u315 u316 u317 u318 u319 u320 u321 u322 u323 : Value) (hexit : QxRoom Q w M sv lv fs (some ⟨pb, po, none⟩) n pc k y h wd fb lb rb pi u0 u4 u5 u6 u7 u12 u13 u25 u26 u27 u28 u29 u30 u31 u32 u33 u34 u35 u36 u37 u38 u39 u40 u41 u42 u43 u44 u45 u46 u47 u48 u49 u50 u51 u52 u53 u54 u55 u56 u57 u58 u59 u60 u61 u62 u63 u64 u65 u216 u217 u218 u219 u220 u221 u222 u223 u224 u225 u226 u227 u228 u229 u230 u231 u232 u233 u234 u235 u236 u237 u238 u239 u240 u241 u242 u243 u244 u245 u246 u247 u248 u249 u250 u251 u252 u253 u254 u255 u256 u257 u258 u259 u260 u261 u262 u263 u264 u265 u266 u267 u268 u269 u270 u271 u272 u273 u274 u275 u276 u277 u278 u279 u280 u281 u282 u283 u284 u285 u286 u287 u288 u289 u290 u291 u292 u293 u294 u295 u296 u297 u298 u299 u300 u301 u302 u303 u304 u305 u306 u307 u308 u309 u310 u311 u312 u313 u314 u315 u316 u317 u318 u319 u320 u321 u322 u323) :
    Code.wp Try.prog (restOf 1 (fstOf (restOf 3 (eachS Try.f3)))) Q { tmps := #[u0, .slice (some ⟨pb, po, none⟩) n pc, .int .i64 y, .int .i64 h, u4, u5, u6, u7, u8, .pointer (some ⟨fb, 0, none⟩), .int .i64 wd, .pointer (some ⟨rb, 0, none⟩), u12, u13, .int .i64 (k : Int), .pointer (some ⟨fb, 0, none⟩), u16, u17, u18, u19, u20, u21, u22, u23, u24, u25, u26, u27, u28, u29, u30, u31, u32, u33, u34, u35, u36, u37, u38, u39, u40, u41, u42, u43, u44, u45, u46, u47, u48, u49, u50, u51, u52, u53, u54, u55, u56, u57, u58, u59, u60, u61, u62, u63, u64, u65, u66, u67, u68, u69, u70, u71, u72, u73, u74, u75, u76, u77, u78, u79, u80, u81, u82, u83, .bool pi, u85, u86, u87, u88, u89, u90, u91, u92, u93, u94, u95, u96, u97, u98, u99, u100, u101, u102, u103, u104, u105, u106, u107, u108, u109, u110, u111, u112, u113, u114, u115, u116, u117, u118, u119, u120, u121, u122, u123, u124, u125, u126, u127, u128, u129, u130, u131, u132, u133, u134, u135, u136, u137, u138, u139, u140, u141, u142, u143, u144, u145, u146, u147, u148, u149, u150, u151, u152, u153, u154, u155, u156, u157, u158, u159, u160, u161, u162, u163, u164, u165, u166, u167, u168, u169, u170, u171, u172, u173, u174, u175, u176, u177, u178, u179, u180, u181, u182, u183, u184, u185, u186, u187, u188, u189, u190, u191, u192, u193, u194, u195, u196, u197, u198, u199, u200, u201, u202, u203, u204, u205, u206, u207, u208, u209, u210, u211, u212, u213, u214, u215, u216, u217, u218, u219, u220, u221, u222, u223, u224, u225, u226, u227, u228, u229, u230, u231, u232, u233, u234, u235, u236, u237, u238, u239, u240, u241, u242, u243, u244, u245, u246, u247, u248, u249, u250, u251, u252, u253, u254, u255, u256, u257, u258, u259, u260, u261, u262, u263, u264, u265, u266, u267, u268, u269, u270, u271, u272, u273, u274, u275, u276, u277, u278, u279, u280, u281, u282, u283, u284, u285, u286, u287, u288, u289, u290, u291, u292, u293, u294, u295, u296, u297, u298, u299, u300, u301, u302, u303, u304, u305, u306, u307, u308, u309, u310, u311, u312, u313, u314, u315, u316, u317, u318, u319, u320, u321, u322, u323], defers := [] } w3 := by
  have HB2 := hidF hB
  have HBD := hidF hbd
  have HX := hidF hexit
  have QC := hidF (And.intro hq5 hq6)
  have i1 : (0 : Int) ≤ (k : Int) := by omega
  have i2 : (k : Int) < (n : Int) := by omega
  have hpb1 : pb < w3.heap.size := Nat.lt_of_lt_of_le hpb hB.below.size
  refine wp_mono (Q := fun e a w => e = Exit.normal ∧ Q Exit.normal a w) ?_ (fun e a w h => by obtain ⟨rfl, h⟩ := h; exact h)
  let QD : (Ending → World → Prop) → Exit → Act → World → Prop := bodyPost Try.prog Try.f3
  clear hB hbd hexit hq5 hq6
  conv => arg 2; dsimp only [inB, inLp, fstOf, restOf, eachS, bodyOf, Try.f3]
  conv => arg 4; dsimp only
  cases pi
  · go_wp2_with fail
    exact HX.out _ _ _ _ _ _ _ _ _ _ _ _ _ _ _ _ _ _ _ _ _ _ _ _ _ _ _ _ _ _ _ _ _ _ _ _ _ _ _ _ _ _ _ _ _ _ _ _ _ _ _ _ _ _ _ _ _ _ _ _ _ _ _ _ _ _ _ _ _ _ _ _ _ _ _ _ _ _ _ _ _ _ _ _ _ _ _ _ _ _ _ _ _ _ _ _ _ _ _ _ _ _ _ _ _ _ _ _ _ _ _ _ _ _ _ _ _ _ _ _ _ _ _ _ _ _ _ _ _ _ _ _ _ _ _ _ _ _ _ _ _ _ _ _ _ _ _ _ _ _ _ _ _ _ _ _ _ _ _ _ _ _ ⟨fb, 0, wd, rfl, by omega, wd1, wd2, HB2.out, HB2.out.rm⟩
  · obtain ⟨b1, b2⟩ := heldN_bd plo
    obtain ⟨b3, b4⟩ := heldN_bd phi
    have IN := hidF (fun (W : World) (hb : Below w3.heap.size w3 W) => in_any (HB2.out.rm.below hb).head plo phi)
    have q5 := (HB2.out.below.cell (p := ⟨pb, po + k * 7 + 5, none⟩) hpb).trans QC.out.1
    have q6 := (HB2.out.below.cell (p := ⟨pb, po + k * 7 + 6, none⟩) hpb).trans QC.out.2
    have hpb3 : pb < w3.heap.size := Nat.lt_of_lt_of_le hpb HB2.out.below.size
    go_upto_region 18 with fail
    go_cut [15] (fun s wx => Hid (CutIn w wx M fb lb rb sv lv wd fs 0 wd plo phi s))
    case first =>
      go_region_held3 (fun wx => wx.cell? ⟨pb, po + k * 7 + 5, none⟩ = some (.int .i64 plo) ∧ wx.cell? ⟨pb, po + k * 7 + 6, none⟩ = some (.int .i64 phi)) (go_keep)
        ((go_at_call 8; refine (IN.out _ ((Below.refl w3.heap.size w3).drew)).mono ?_; rintro e w7 ⟨nb, rfl, hnb, hh7, hb7⟩
          have m5 := (hb7.cell (p := ⟨pb, po + k * 7 + 5, none⟩) hpb3).trans q5
          have m6 := (hb7.cell (p := ⟨pb, po + k * 7 + 6, none⟩) hpb3).trans q6
          have HC := hidF (show CutIn w w7 M fb lb rb sv lv wd fs 0 wd plo phi (.pointer (some ⟨nb, 0, none⟩)) from ⟨nb, rfl, (by have := HB2.out.cells.1; simp at hnb; omega), HB2.out.held ((Below.refl w3.heap.size w3).drew.trans hb7), ⟨hh7, HB2.out.fl.fresh nb hnb⟩⟩)
          clear hb7 hh7 hnb))
      all_goals
        go_wp2_with fail
        go_meet
        case rel => go_light; exact HC.out
    case rest =>
    obtain ⟨gb, rfl, hgr, hB3, hR3⟩ := hcut.out
    have HB3 := hidF hB3
    have HR3 := hidF hR3
    have QH1 := hidF (fun W => qheld_any plo W)
    have QH2 := hidF (fun W => qheld_any phi W)
    have QH3 := hidF (fun W => qheld_any y W)
    have QH4 := hidF (fun W => qheld_any h W)
    obtain ⟨lo, hlo⟩ : ∃ t, heldN plo = t := ⟨_, rfl⟩
    obtain ⟨hi, hhi⟩ : ∃ t, heldN phi = t := ⟨_, rfl⟩
    rw [hlo] at b1 b2 QH1 HR3
    rw [hhi] at b3 b4 QH2 HR3
    have t5 := (hB3.below.cell (p := ⟨pb, po + k * 7 + 5, none⟩) hpb).trans QC.out.1
    obtain ⟨s0, s1, s2, s3, s4, s5⟩ := hB3.cells
    have hpb4 : pb < wc.heap.size := Nat.lt_of_lt_of_le hpb hB3.below.size
    obtain ⟨w4, hw4⟩ : ∃ w9, w9 = wc := ⟨_, rfl⟩
    subst hw4
    clear hcut hB3 hR3 hlo hhi q5 q6 IN HB2
    go_upto_region 21 with fail
    go_cut [] (fun wx => Hid (Bo w wx M fb lb rb sv lv wd fs fs lo wd ∧ RmAt wx M gb lb lo (max lo hi)))
    case first =>
      go_wp2_with fail
      refine (QH1.out _).mono ?_
      rintro e w9 ⟨rfl, hw9⟩
      rw [hw9]
      clear hw9
      go_wp2_with fail
      go_meet
      case rel => go_light; exact ⟨HB3.out.setLo lo, HR3.out.far (rb := rb) (fun b hb => Below.heap_setCell _ _ _ b hb) hgr⟩
    case rest =>
    have HB5 := hidF hcut.out
    obtain ⟨s0, s1, s2, s3, s4, s5⟩ := HB5.out.1.cells
    have t6 := (HB5.out.1.below.cell (p := ⟨pb, po + k * 7 + 6, none⟩) hpb).trans QC.out.2
    have hpb5 : pb < wc.heap.size := Nat.lt_of_lt_of_le hpb HB5.out.1.below.size
    obtain ⟨w5, hw5⟩ : ∃ w9, w9 = wc := ⟨_, rfl⟩
    subst hw5
    clear hcut t5 HB3 HR3
    go_upto_region 22 with fail
    go_cut [] (fun wx => Hid (Bo w wx M fb lb rb sv lv wd fs fs lo hi ∧ RmAt wx M gb lb lo (max lo hi)))
    case first =>
      go_wp2_with fail
      refine (QH2.out _).mono ?_
      rintro e w9 ⟨rfl, hw9⟩
      rw [hw9]
      clear hw9
      go_wp2_with fail
      go_meet
      case rel => go_light; exact ⟨HB5.out.1.setHi hi, HB5.out.2.far (rb := rb) (fun b hb => Below.heap_setCell _ _ _ b hb) hgr⟩
    case rest =>
    have HB6 := hidF hcut.out
    obtain ⟨s0, s1, s2, s3, s4, s5⟩ := HB6.out.1.cells
    obtain ⟨w6, hw6⟩ : ∃ w9, w9 = wc := ⟨_, rfl⟩
    subst hw6
    clear hcut t6 HB5
    go_upto_region 23 with fail
    go_cut [125] (fun s wx => s = .bool (decide (hi < lo)) ∧ Hid (Bo w wx M fb lb rb sv lv wd fs fs lo hi ∧ RmAt wx M gb lb lo (max lo hi)))
    case first =>
      go_region_held3 (fun wx => wx.cell? ⟨rb, 0, none⟩ = some (.int .i64 lo) ∧ wx.cell? ⟨rb, 1, none⟩ = some (.int .i64 hi)) (go_keep) (fail)
      all_goals
        go_wp2_with fail
        go_meet
        case rel => go_light; exact ⟨rfl, HB6.out.1.held (Below.refl w6.heap.size w6).drew, HB6.out.2.below (Below.refl w6.heap.size w6).drew⟩
    case rest =>
    obtain ⟨rfl, HB7⟩ := hcut
    obtain ⟨s0, s1, s2, s3, s4, s5⟩ := HB7.out.1.cells
    obtain ⟨w7, hw7⟩ : ∃ w9, w9 = wc := ⟨_, rfl⟩
    subst hw7
    clear HB6
    go_upto_if 125 with fail
    go_cut [] (fun wx => Hid (Bo w wx M fb lb rb sv lv wd fs fs lo (max lo hi) ∧ RmAt wx M gb lb lo (max lo hi)))
    case first =>
      by_cases hc : hi < lo
      · have HM : Hid (max lo hi = lo) := by show _ = _; omega
        have hc2 : decide (hi < lo) = true := by simpa using hc
        go_wp2_with fail
        go_meet
        case rel => go_light; exact ⟨by rw [HM.out]; exact HB7.out.1.setHi lo, HB7.out.2.far (rb := rb) (fun b hb => Below.heap_setCell _ _ _ b hb) hgr⟩
      · have HM : Hid (max lo hi = hi) := by show _ = _; omega
        have hc2 : decide (hi < lo) = false := by simpa using hc
        go_wp2_with fail
        go_meet
        case rel => go_light; exact ⟨by rw [HM.out]; exact HB7.out.1, HB7.out.2⟩
    case rest =>
    have HB8 := hidF hcut.out
    obtain ⟨mx, hmx⟩ : ∃ t, max lo hi = t := ⟨_, rfl⟩
    rw [hmx] at HB8
    have mx1 : lo ≤ mx := by omega
    have mx2 : mx ≤ 16777216 := by omega
    obtain ⟨y1, y2⟩ := heldN_bd y
    obtain ⟨h1, h2⟩ := heldN_bd h
    have ED := hidF (edges_any HB8.out.1.fl HB8.out.2 hfl HBD.out y h)
    have QE := hidF (fun (W : World) (hb : Below wc.heap.size wc W) => qedges_any (HB8.out.1.q.below hb) hfl HBD.out (heldN y) (heldN h) (by omega) (by omega) (by omega) (by omega))
    obtain ⟨hy, ehy⟩ : ∃ t, heldN y = t := ⟨_, rfl⟩
    obtain ⟨hh, ehh⟩ : ∃ t, heldN h = t := ⟨_, rfl⟩
    rw [ehy, ehh] at ED QE
    rw [ehy] at QH3
    rw [ehh] at QH4
    obtain ⟨el, eel⟩ : ∃ t, (gapN lo mx fs hy hh).l = t := ⟨_, rfl⟩
    obtain ⟨er, eer⟩ : ∃ t, (gapN lo mx fs hy hh).r = t := ⟨_, rfl⟩
    rw [eel, eer] at ED QE
    have j1 : (el != el) = false := by simp
    have j2 : (er != er) = false := by simp
    obtain ⟨w8, hw8⟩ : ∃ w9, w9 = wc := ⟨_, rfl⟩
    subst hw8
    clear hcut HB7 s0 s1 s2 s3 s4 s5 hmx ehy ehh eel eer
    go_wp2_with fail
    refine ED.out.mono ?_
    rintro e w9 ⟨rfl, hb9⟩
    have HB9 := hidF hb9
    clear hb9
    go_wp2_with fail
    refine (QH3.out _).mono ?_
    rintro e wy ⟨rfl, hwy⟩
    rw [hwy]
    clear hwy
    go_wp2_with fail
    refine (QH4.out _).mono ?_
    rintro e wy ⟨rfl, hwy⟩
    rw [hwy]
    clear hwy
    go_wp2_with fail
    refine (QE.out _ HB9.out).mono ?_
    rintro e w10 ⟨rfl, hb10⟩
    have HBX := hidF (HB9.out.trans (hb10.mono HB9.out.size))
    clear hb10
    go_wp2_with fail
    exact HX.out _ _ _ _ _ _ _ _ _ _ _ _ _ _ _ _ _ _ _ _ _ _ _ _ _ _ _ _ _ _ _ _ _ _ _ _ _ _ _ _ _ _ _ _ _ _ _ _ _ _ _ _ _ _ _ _ _ _ _ _ _ _ _ _ _ _ _ _ _ _ _ _ _ _ _ _ _ _ _ _ _ _ _ _ _ _ _ _ _ _ _ _ _ _ _ _ _ _ _ _ _ _ _ _ _ _ _ _ _ _ _ _ _ _ _ _ _ _ _ _ _ _ _ _ _ _ _ _ _ _ _ _ _ _ _ _ _ _ _ _ _ _ _ _ _ _ _ _ _ _ _ _ _ _ _ _ _ _ _ _ _ _ ⟨gb, lo, mx, rfl, b1, mx1, mx2, HB8.out.1.held HBX.out, HB8.out.2.below HBX.out⟩
end Go.Proofs.Ythpffpgbmgnkcaa
