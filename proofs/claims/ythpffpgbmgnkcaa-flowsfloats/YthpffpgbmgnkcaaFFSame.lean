/- FlowsFloats: all floats are the same. -/
import Derived.Test.YthpffpgbmgnkcaaFFMore
namespace Go.Proofs.Ythpffpgbmgnkcaa
open Go.RowKit
set_option linter.unusedVariables false      -- bounds that are for the walk

set_option maxRecDepth 100000 in
def QxSame (Q : Exit → Act → World → Prop) (w3 : World) (pa va : Option Addr) (n pc m vc : Nat) (y h wd : Int) (fb rb : Nat) (u0 u4 u5 u6 u7 u12 u13 u14 u15 u16 u17 u18 u19 u20 u21 u22 u23 u24 u25 u26 u27 u28 u29 u32 u33 u34 u35 u36 u37 u38 u39 u40 u41 u42 u43 u44 u45 u46 u47 u48 u49 u50 u51 u52 u53 u54 u55 u56 u57 u58 u59 u60 u61 u62 u63 u64 u65 u66 u67 u68 u69 u70 u71 u72 u73 u74 u75 u76 u77 u78 u79 u80 u81 u82 u83 u84 u85 u86 u87 u88 u89 u90 u91 u92 u93 u94 u95 u96 u97 u98 u99 u100 u101 u102 u103 u104 u105 u106 u107 u108 u109 u110 u111 u112 u113 u114 u115 u116 u117 u118 u119 u120 u121 u122 u123 u124 u125 u126 u127 u128 u129 u130 u131 u132 u133 u134 u135 u136 u137 u138 u139 u140 u141 u142 u143 u144 u145 u146 u147 u148 u149 u150 u151 u152 u153 u154 u155 u156 u157 u158 u159 u160 u161 u162 u163 u164 u165 u166 u167 u168 u169 u170 u171 u172 u173 u174 u175 u176 u177 u178 u179 u180 u181 u182 u183 u184 u185 u186 u187 u188 u189 u190 u191 u192 u193 u194 u195 u196 u197 u198 u199 u200 u201 u202 u203 u204 u205 u206 u207 u208 u209 u210 u211 u212 u213 u214 u215 u216 u217 u218 u219 u220 u221 u222 u223 u224 u225 u226 u227 u228 u229 u230 u231 u232 u233 u234 u235 u236 u237 u238 u239 u240 u241 u242 u243 u244 u245 u246 u247 u248 u249 u250 u251 u252 u253 u254 u255 u256 u257 u258 u259 u296 u297 u298 u299 u300 u301 u302 u303 u304 u305 u306 u307 u308 u309 u310 u311 u312 u313 u314 u315 u316 u317 u318 u319 u320 u321 u322 u323 : Value) : Prop := ∀ (u8 u31 u260 u261 u262 u263 u264 u265 u266 u267 u268 u269 u270 u271 u272 u273 u274 u275 u276 u277 u278 u279 u280 u281 u282 u283 u284 u285 u286 u287 u288 u289 u290 u291 u292 u293 u294 u295 : Value) (wx : World), Below w3.heap.size w3 wx → Q (.exit 2) { tmps := #[u0, .slice pa n pc, .int .i64 y, .int .i64 h, u4, u5, u6, u7, u8, .pointer (some ⟨fb, 0, none⟩), .int .i64 wd, .pointer (some ⟨rb, 0, none⟩), u12, u13, u14, u15, u16, u17, u18, u19, u20, u21, u22, u23, u24, u25, u26, u27, u28, u29, .slice va m vc, u31, u32, u33, u34, u35, u36, u37, u38, u39, u40, u41, u42, u43, u44, u45, u46, u47, u48, u49, u50, u51, u52, u53, u54, u55, u56, u57, u58, u59, u60, u61, u62, u63, u64, u65, u66, u67, u68, u69, u70, u71, u72, u73, u74, u75, u76, u77, u78, u79, u80, u81, u82, u83, u84, u85, u86, u87, u88, u89, u90, u91, u92, u93, u94, u95, u96, u97, u98, u99, u100, u101, u102, u103, u104, u105, u106, u107, u108, u109, u110, u111, u112, u113, u114, u115, u116, u117, u118, u119, u120, u121, u122, u123, u124, u125, u126, u127, u128, u129, u130, u131, u132, u133, u134, u135, u136, u137, u138, u139, u140, u141, u142, u143, u144, u145, u146, u147, u148, u149, u150, u151, u152, u153, u154, u155, u156, u157, u158, u159, u160, u161, u162, u163, u164, u165, u166, u167, u168, u169, u170, u171, u172, u173, u174, u175, u176, u177, u178, u179, u180, u181, u182, u183, u184, u185, u186, u187, u188, u189, u190, u191, u192, u193, u194, u195, u196, u197, u198, u199, u200, u201, u202, u203, u204, u205, u206, u207, u208, u209, u210, u211, u212, u213, u214, u215, u216, u217, u218, u219, u220, u221, u222, u223, u224, u225, u226, u227, u228, u229, u230, u231, u232, u233, u234, u235, u236, u237, u238, u239, u240, u241, u242, u243, u244, u245, u246, u247, u248, u249, u250, u251, u252, u253, u254, u255, u256, u257, u258, u259, u260, u261, u262, u263, u264, u265, u266, u267, u268, u269, u270, u271, u272, u273, u274, u275, u276, u277, u278, u279, u280, u281, u282, u283, u284, u285, u286, u287, u288, u289, u290, u291, u292, u293, u294, u295, u296, u297, u298, u299, u300, u301, u302, u303, u304, u305, u306, u307, u308, u309, u310, u311, u312, u313, u314, u315, u316, u317, u318, u319, u320, u321, u322, u323], defers := [] } wx

set_option maxHeartbeats 8000000 in
set_option maxRecDepth 100000 in
theorem floats_same {w w3 : World} {M : Nat → Lab} {sv lv : Value} {fs : List Fl} {lo hi : Int} {pa va : Option Addr} {n pc m vc fb lb rb : Nat} {y h wd : Int} {Q : Exit → Act → World → Prop}
    (hB : Bo w w3 M fb lb rb sv lv wd fs fs lo hi) (hm : fs.length = m) (hm2 : m ≤ 200) (hv : w3.ownsRow w.heap.size 43 5 (.slice va m vc) m (fcells fs))
    (u0 u4 u5 u6 u7 u8 u12 u13 u14 u15 u16 u17 u18 u19 u20 u21 u22 u23 u24 u25 u26 u27 u28 u29 u32 u33 u34 u35 u36 u37 u38 u39 u40 u41 u42 u43 u44 u45 u46 u47 u48 u49 u50 u51 u52 u53 u54 u55 u56 u57 u58 u59 u60 u61 u62 u63 u64 u65 u66 u67 u68 u69 u70 u71 u72 u73 u74 u75 u76 u77 u78 u79 u80 u81 u82 u83 u84 u85 u86 u87 u88 u89 u90 u91 u92 u93 u94 u95 u96 u97 u98 u99 u100 u101 u102 u103 u104 u105 u106 u107 u108 u109 u110 u111 u112 u113 u114 u115 u116 u117 u118 u119 u120 u121 u122 u123 u124 u125 u126 u127 u128 u129 u130 u131 u132 u133 u134 u135 u136 u137 u138 u139 u140 u141 u142 u143 u144 u145 u146 u147 u148 u149 u150 u151 u152 u153 u154 u155 u156 u157 u158 u159 u160 u161 u162 u163 u164 u165 u166 u167 u168 u169 u170 u171 u172 u173 u174 u175 u176 u177 u178 u179 u180 u181 u182 u183 u184 u185 u186 u187 u188 u189 u190 u191 u192 u193 u194 u195 u196 u197 u198 u199 u200 u201 u202 u203 u204 u205 u206 u207 u208 u209 u210 u211 u212 u213 u214 u215 u216 u217 u218 u219 u220 u221 u222 u223 u224 u225 u226 u227 u228 u229 u230 u231 u232 u233 u234 u235 u236 u237 u238 u239 u240 u241 u242 u243 u244 u245 u246 u247 u248 u249 u250 u251 u252 u253 u254 u255 u256 u257 u258 u259 u260 u261 u262 u263 u264 u265 u266 u267 u268 u269 u270 u271 u272 u273 u274 u275 u276 u277 u278 u279 u280 u281 u282 u283 u284 u285 u286 u287 u288 u289 u290 u291 u292 u293 u294 u295 u296 u297 u298 u299 u300 u301 u302 u303 u304 u305 u306 u307 u308 u309 u310 u311 u312 u313 u314 u315 u316 u317 u318 u319 u320 u321 u322 u323 : Value) (hexit : QxSame Q w3 pa va n pc m vc y h wd fb rb u0 u4 u5 u6 u7 u12 u13 u14 u15 u16 u17 u18 u19 u20 u21 u22 u23 u24 u25 u26 u27 u28 u29 u32 u33 u34 u35 u36 u37 u38 u39 u40 u41 u42 u43 u44 u45 u46 u47 u48 u49 u50 u51 u52 u53 u54 u55 u56 u57 u58 u59 u60 u61 u62 u63 u64 u65 u66 u67 u68 u69 u70 u71 u72 u73 u74 u75 u76 u77 u78 u79 u80 u81 u82 u83 u84 u85 u86 u87 u88 u89 u90 u91 u92 u93 u94 u95 u96 u97 u98 u99 u100 u101 u102 u103 u104 u105 u106 u107 u108 u109 u110 u111 u112 u113 u114 u115 u116 u117 u118 u119 u120 u121 u122 u123 u124 u125 u126 u127 u128 u129 u130 u131 u132 u133 u134 u135 u136 u137 u138 u139 u140 u141 u142 u143 u144 u145 u146 u147 u148 u149 u150 u151 u152 u153 u154 u155 u156 u157 u158 u159 u160 u161 u162 u163 u164 u165 u166 u167 u168 u169 u170 u171 u172 u173 u174 u175 u176 u177 u178 u179 u180 u181 u182 u183 u184 u185 u186 u187 u188 u189 u190 u191 u192 u193 u194 u195 u196 u197 u198 u199 u200 u201 u202 u203 u204 u205 u206 u207 u208 u209 u210 u211 u212 u213 u214 u215 u216 u217 u218 u219 u220 u221 u222 u223 u224 u225 u226 u227 u228 u229 u230 u231 u232 u233 u234 u235 u236 u237 u238 u239 u240 u241 u242 u243 u244 u245 u246 u247 u248 u249 u250 u251 u252 u253 u254 u255 u256 u257 u258 u259 u296 u297 u298 u299 u300 u301 u302 u303 u304 u305 u306 u307 u308 u309 u310 u311 u312 u313 u314 u315 u316 u317 u318 u319 u320 u321 u322 u323) :
    Code.wp Try.prog (inB (restOf 1 (fstOf (restOf 15 (bodyOf Try.f3))))) Q { tmps := #[u0, .slice pa n pc, .int .i64 y, .int .i64 h, u4, u5, u6, u7, u8, .pointer (some ⟨fb, 0, none⟩), .int .i64 wd, .pointer (some ⟨rb, 0, none⟩), u12, u13, u14, u15, u16, u17, u18, u19, u20, u21, u22, u23, u24, u25, u26, u27, u28, u29, .slice va m vc, .int .i64 0, u32, u33, u34, u35, u36, u37, u38, u39, u40, u41, u42, u43, u44, u45, u46, u47, u48, u49, u50, u51, u52, u53, u54, u55, u56, u57, u58, u59, u60, u61, u62, u63, u64, u65, u66, u67, u68, u69, u70, u71, u72, u73, u74, u75, u76, u77, u78, u79, u80, u81, u82, u83, u84, u85, u86, u87, u88, u89, u90, u91, u92, u93, u94, u95, u96, u97, u98, u99, u100, u101, u102, u103, u104, u105, u106, u107, u108, u109, u110, u111, u112, u113, u114, u115, u116, u117, u118, u119, u120, u121, u122, u123, u124, u125, u126, u127, u128, u129, u130, u131, u132, u133, u134, u135, u136, u137, u138, u139, u140, u141, u142, u143, u144, u145, u146, u147, u148, u149, u150, u151, u152, u153, u154, u155, u156, u157, u158, u159, u160, u161, u162, u163, u164, u165, u166, u167, u168, u169, u170, u171, u172, u173, u174, u175, u176, u177, u178, u179, u180, u181, u182, u183, u184, u185, u186, u187, u188, u189, u190, u191, u192, u193, u194, u195, u196, u197, u198, u199, u200, u201, u202, u203, u204, u205, u206, u207, u208, u209, u210, u211, u212, u213, u214, u215, u216, u217, u218, u219, u220, u221, u222, u223, u224, u225, u226, u227, u228, u229, u230, u231, u232, u233, u234, u235, u236, u237, u238, u239, u240, u241, u242, u243, u244, u245, u246, u247, u248, u249, u250, u251, u252, u253, u254, u255, u256, u257, u258, u259, u260, u261, u262, u263, u264, u265, u266, u267, u268, u269, u270, u271, u272, u273, u274, u275, u276, u277, u278, u279, u280, u281, u282, u283, u284, u285, u286, u287, u288, u289, u290, u291, u292, u293, u294, u295, u296, u297, u298, u299, u300, u301, u302, u303, u304, u305, u306, u307, u308, u309, u310, u311, u312, u313, u314, u315, u316, u317, u318, u319, u320, u321, u322, u323], defers := [] } w3 := by
  have HB := hidF hB
  have HM := hidF hm
  have HX := hidF hexit
  have HR := hidF (own_read5 hv hm)
  obtain ⟨la, lc, rfl, g1, g2⟩ := own_shapeQ hB.q.row
  rw [hm] at g1 HB
  refine wp_mono (Q := fun e a w => e = Exit.exit 2 ∧ Q (Exit.exit 2) a w) ?_ (fun e a w h => by obtain ⟨rfl, h⟩ := h; exact h)
  let QD : (Ending → World → Prop) → Exit → Act → World → Prop := bodyPost Try.prog Try.f3
  clear hB hm hv hexit
  conv => arg 2; dsimp only [inB, fstOf, restOf, bodyOf, Try.f3]
  conv => arg 4; dsimp only
  go_loopw [31] (fun i wr => ∃ k : Nat, k ≤ m ∧ i = .int .i64 k ∧ Hid (Below w3.heap.size w3 wr)) (fun i _ => m - (intV i).toNat)
  case atStart => exact ⟨0, Nat.zero_le _, rfl, Below.refl _ _⟩
  case round =>
    obtain ⟨k, hk, rfl, HZ⟩ := hrel
    by_cases hlt : k < m
    · obtain ⟨p, hp⟩ : ∃ p, fs[k]? = some p := ⟨_, List.getElem?_eq_getElem (by rw [HM.out]; exact hlt)⟩
      obtain ⟨g, c9, hgv, gl, a0, a1, a2, a3, a4⟩ := HR.out k p hp
      cases hgv
      obtain ⟨lb9, lc9, hlv, ll, b0, b1, b2, b3, b4⟩ := (HB.out.held HZ.out).q.at hp
      rw [HM.out] at hlv
      cases hlv
      obtain ⟨rl, _, _, r2, _, _⟩ := (HB.out.held HZ.out).cells
      have gl2 : g < wr.heap.size := Nat.lt_of_lt_of_le gl HZ.out.size
      have a0 := (HZ.out.cell (p := ⟨g, k * 5, none⟩) gl).trans a0
      have a1 := (HZ.out.cell (p := ⟨g, k * 5 + 1, none⟩) gl).trans a1
      have a2 := (HZ.out.cell (p := ⟨g, k * 5 + 2, none⟩) gl).trans a2
      have a3 := (HZ.out.cell (p := ⟨g, k * 5 + 3, none⟩) gl).trans a3
      have a4 := (HZ.out.cell (p := ⟨g, k * 5 + 4, none⟩) gl).trans a4
      have i1 : (0 : Int) ≤ (k : Int) := by omega
      have i2 : (k : Int) < (m : Int) := by omega
      clear hp
      obtain ⟨pr, px, py, pw, ph⟩ := p
      simp only at a0 a1 a2 a3 a4 b0 b1 b2 b3 b4
      have j0 : (pr != pr) = false := by simp
      obtain ⟨w4, hw4⟩ : ∃ w9, w9 = wr := ⟨_, rfl⟩
      subst hw4
      go_upto_region 43 with fail
      go_cut [295] (fun s wx => s = .bool false ∧ Hid (Below w3.heap.size w3 wx))
      case first =>
        go_region_held3 (fun wx => wx.cell? ⟨g, k * 5, none⟩ = some (.bool pr) ∧ wx.cell? ⟨g, k * 5 + 1, none⟩ = some (.int .i64 px) ∧ wx.cell? ⟨g, k * 5 + 2, none⟩ = some (.int .i64 py) ∧ wx.cell? ⟨g, k * 5 + 3, none⟩ = some (.int .i64 pw) ∧ wx.cell? ⟨g, k * 5 + 4, none⟩ = some (.int .i64 ph) ∧ wx.cell? ⟨rb, 2, none⟩ = some (.slice (some ⟨lb9, 0, none⟩) m lc) ∧ wx.cell? ⟨lb9, k * 5, none⟩ = some (.bool pr) ∧ wx.cell? ⟨lb9, k * 5 + 1, none⟩ = some (.int .i64 px) ∧ wx.cell? ⟨lb9, k * 5 + 2, none⟩ = some (.int .i64 py) ∧ wx.cell? ⟨lb9, k * 5 + 3, none⟩ = some (.int .i64 pw) ∧ wx.cell? ⟨lb9, k * 5 + 4, none⟩ = some (.int .i64 ph)) (go_keep) (fail)
        all_goals
          go_wp2_with fail
          go_meet
          case rel => go_light; exact ⟨rfl, HZ.out.drew⟩
      case rest =>
      obtain ⟨rfl, HZ2⟩ := hcut
      go_wp2_with fail
      go_roundw
      case rel => go_light; exact ⟨k + 1, by omega, by go_num, HZ2.out⟩
      case measure => simp [intV]; omega
    · obtain rfl : k = m := by omega
      have hl2 : ¬ (k : Int) < (k : Int) := by omega
      go_wp2_with fail
      exact HX.out _ _ _ _ _ _ _ _ _ _ _ _ _ _ _ _ _ _ _ _ _ _ _ _ _ _ _ _ _ _ _ _ _ _ _ _ _ _ _ HZ.out
end Go.Proofs.Ythpffpgbmgnkcaa
