/- FlowsFloats: each float that is added. -/
import Derived.Test.YthpffpgbmgnkcaaFFRoom
namespace Go.Proofs.Ythpffpgbmgnkcaa
open Go.RowKit
set_option linter.unusedVariables false      -- bounds that are for the walk

set_option maxRecDepth 100000 in
def QxAdds (Q : Exit → Act → World → Prop) (w : World) (pa : Option Addr) (n pc : Nat) (y h wd : Int) (fb lb rb : Nat) (u0 u4 u5 u6 u7 u12 u13 u25 u26 u27 u28 u29 u30 u31 u32 u33 u34 u35 u36 u37 u38 u39 u40 u41 u42 u43 u44 u45 u46 u47 u48 u49 u50 u51 u52 u53 u54 u55 u56 u57 u58 u59 u60 u61 u62 u63 u64 u65 u216 u217 u218 u219 u220 u221 u222 u223 u224 u225 u226 u227 u228 u229 u230 u231 u232 u233 u234 u235 u236 u237 u238 u239 u240 u241 u242 u243 u244 u245 u246 u247 u248 u249 u250 u251 u252 u253 u254 u255 u256 u257 u258 u259 u260 u261 u262 u263 u264 u265 u266 u267 u268 u269 u270 u271 u272 u273 u274 u275 u276 u277 u278 u279 u280 u281 u282 u283 u284 u285 u286 u287 u288 u289 u290 u291 u292 u293 u294 u295 u296 u297 u298 u299 u300 u301 u302 u303 u304 u305 u306 u307 u308 u309 u310 u311 u312 u313 u314 u315 u316 u317 u318 u319 u320 u321 u322 u323 : Value) : Prop := ∀ (u8 u14 u15 u16 u17 u18 u19 u20 u21 u22 u23 u24 u66 u67 u68 u69 u70 u71 u72 u73 u74 u75 u76 u77 u78 u79 u80 u81 u82 u83 u84 u85 u86 u87 u88 u89 u90 u91 u92 u93 u94 u95 u96 u97 u98 u99 u100 u101 u102 u103 u104 u105 u106 u107 u108 u109 u110 u111 u112 u113 u114 u115 u116 u117 u118 u119 u120 u121 u122 u123 u124 u125 u126 u127 u128 u129 u130 u131 u132 u133 u134 u135 u136 u137 u138 u139 u140 u141 u142 u143 u144 u145 u146 u147 u148 u149 u150 u151 u152 u153 u154 u155 u156 u157 u158 u159 u160 u161 u162 u163 u164 u165 u166 u167 u168 u169 u170 u171 u172 u173 u174 u175 u176 u177 u178 u179 u180 u181 u182 u183 u184 u185 u186 u187 u188 u189 u190 u191 u192 u193 u194 u195 u196 u197 u198 u199 u200 u201 u202 u203 u204 u205 u206 u207 u208 u209 u210 u211 u212 u213 u214 u215 : Value) (wx : World), FInv w wx fb lb rb wd → Q (.exit 0) { tmps := #[u0, .slice pa n pc, .int .i64 y, .int .i64 h, u4, u5, u6, u7, u8, .pointer (some ⟨fb, 0, none⟩), .int .i64 wd, .pointer (some ⟨rb, 0, none⟩), u12, u13, u14, u15, u16, u17, u18, u19, u20, u21, u22, u23, u24, u25, u26, u27, u28, u29, u30, u31, u32, u33, u34, u35, u36, u37, u38, u39, u40, u41, u42, u43, u44, u45, u46, u47, u48, u49, u50, u51, u52, u53, u54, u55, u56, u57, u58, u59, u60, u61, u62, u63, u64, u65, u66, u67, u68, u69, u70, u71, u72, u73, u74, u75, u76, u77, u78, u79, u80, u81, u82, u83, u84, u85, u86, u87, u88, u89, u90, u91, u92, u93, u94, u95, u96, u97, u98, u99, u100, u101, u102, u103, u104, u105, u106, u107, u108, u109, u110, u111, u112, u113, u114, u115, u116, u117, u118, u119, u120, u121, u122, u123, u124, u125, u126, u127, u128, u129, u130, u131, u132, u133, u134, u135, u136, u137, u138, u139, u140, u141, u142, u143, u144, u145, u146, u147, u148, u149, u150, u151, u152, u153, u154, u155, u156, u157, u158, u159, u160, u161, u162, u163, u164, u165, u166, u167, u168, u169, u170, u171, u172, u173, u174, u175, u176, u177, u178, u179, u180, u181, u182, u183, u184, u185, u186, u187, u188, u189, u190, u191, u192, u193, u194, u195, u196, u197, u198, u199, u200, u201, u202, u203, u204, u205, u206, u207, u208, u209, u210, u211, u212, u213, u214, u215, u216, u217, u218, u219, u220, u221, u222, u223, u224, u225, u226, u227, u228, u229, u230, u231, u232, u233, u234, u235, u236, u237, u238, u239, u240, u241, u242, u243, u244, u245, u246, u247, u248, u249, u250, u251, u252, u253, u254, u255, u256, u257, u258, u259, u260, u261, u262, u263, u264, u265, u266, u267, u268, u269, u270, u271, u272, u273, u274, u275, u276, u277, u278, u279, u280, u281, u282, u283, u284, u285, u286, u287, u288, u289, u290, u291, u292, u293, u294, u295, u296, u297, u298, u299, u300, u301, u302, u303, u304, u305, u306, u307, u308, u309, u310, u311, u312, u313, u314, u315, u316, u317, u318, u319, u320, u321, u322, u323], defers := [] } wx

set_option maxHeartbeats 8000000 in
set_option maxRecDepth 100000 in
theorem floats_adds {w w1 : World} {ps : List Pt} {pa : Option Addr} {n pc fb lb rb : Nat} {y h wd : Int} {Q : Exit → Act → World → Prop}
    (hp : Puts7 w pa ps) (hn : ps.length = n) (hc1 : n ≤ pc) (hc2 : pc ≤ 9223372036854775807) (hn2 : n ≤ 240) (wd1 : 0 ≤ wd) (wd2 : wd ≤ 16777216) (hI : FInv w w1 fb lb rb wd)
    (u0 u4 u5 u6 u7 u8 u12 u13 u15 u16 u17 u18 u19 u20 u21 u22 u23 u24 u25 u26 u27 u28 u29 u30 u31 u32 u33 u34 u35 u36 u37 u38 u39 u40 u41 u42 u43 u44 u45 u46 u47 u48 u49 u50 u51 u52 u53 u54 u55 u56 u57 u58 u59 u60 u61 u62 u63 u64 u65 u66 u67 u68 u69 u70 u71 u72 u73 u74 u75 u76 u77 u78 u79 u80 u81 u82 u83 u84 u85 u86 u87 u88 u89 u90 u91 u92 u93 u94 u95 u96 u97 u98 u99 u100 u101 u102 u103 u104 u105 u106 u107 u108 u109 u110 u111 u112 u113 u114 u115 u116 u117 u118 u119 u120 u121 u122 u123 u124 u125 u126 u127 u128 u129 u130 u131 u132 u133 u134 u135 u136 u137 u138 u139 u140 u141 u142 u143 u144 u145 u146 u147 u148 u149 u150 u151 u152 u153 u154 u155 u156 u157 u158 u159 u160 u161 u162 u163 u164 u165 u166 u167 u168 u169 u170 u171 u172 u173 u174 u175 u176 u177 u178 u179 u180 u181 u182 u183 u184 u185 u186 u187 u188 u189 u190 u191 u192 u193 u194 u195 u196 u197 u198 u199 u200 u201 u202 u203 u204 u205 u206 u207 u208 u209 u210 u211 u212 u213 u214 u215 u216 u217 u218 u219 u220 u221 u222 u223 u224 u225 u226 u227 u228 u229 u230 u231 u232 u233 u234 u235 u236 u237 u238 u239 u240 u241 u242 u243 u244 u245 u246 u247 u248 u249 u250 u251 u252 u253 u254 u255 u256 u257 u258 u259 u260 u261 u262 u263 u264 u265 u266 u267 u268 u269 u270 u271 u272 u273 u274 u275 u276 u277 u278 u279 u280 u281 u282 u283 u284 u285 u286 u287 u288 u289 u290 u291 u292 u293 u294 u295 u296 u297 u298 u299 u300 u301 u302 u303 u304 u305 u306 u307 u308 u309 u310 u311 u312 u313 u314 u315 u316 u317 u318 u319 u320 u321 u322 u323 : Value) (hexit : QxAdds Q w pa n pc y h wd fb lb rb u0 u4 u5 u6 u7 u12 u13 u25 u26 u27 u28 u29 u30 u31 u32 u33 u34 u35 u36 u37 u38 u39 u40 u41 u42 u43 u44 u45 u46 u47 u48 u49 u50 u51 u52 u53 u54 u55 u56 u57 u58 u59 u60 u61 u62 u63 u64 u65 u216 u217 u218 u219 u220 u221 u222 u223 u224 u225 u226 u227 u228 u229 u230 u231 u232 u233 u234 u235 u236 u237 u238 u239 u240 u241 u242 u243 u244 u245 u246 u247 u248 u249 u250 u251 u252 u253 u254 u255 u256 u257 u258 u259 u260 u261 u262 u263 u264 u265 u266 u267 u268 u269 u270 u271 u272 u273 u274 u275 u276 u277 u278 u279 u280 u281 u282 u283 u284 u285 u286 u287 u288 u289 u290 u291 u292 u293 u294 u295 u296 u297 u298 u299 u300 u301 u302 u303 u304 u305 u306 u307 u308 u309 u310 u311 u312 u313 u314 u315 u316 u317 u318 u319 u320 u321 u322 u323) :
    Code.wp Try.prog (inB (restOf 1 (fstOf (restOf 8 (bodyOf Try.f3))))) Q { tmps := #[u0, .slice pa n pc, .int .i64 y, .int .i64 h, u4, u5, u6, u7, u8, .pointer (some ⟨fb, 0, none⟩), .int .i64 wd, .pointer (some ⟨rb, 0, none⟩), u12, u13, .int .i64 0, u15, u16, u17, u18, u19, u20, u21, u22, u23, u24, u25, u26, u27, u28, u29, u30, u31, u32, u33, u34, u35, u36, u37, u38, u39, u40, u41, u42, u43, u44, u45, u46, u47, u48, u49, u50, u51, u52, u53, u54, u55, u56, u57, u58, u59, u60, u61, u62, u63, u64, u65, u66, u67, u68, u69, u70, u71, u72, u73, u74, u75, u76, u77, u78, u79, u80, u81, u82, u83, u84, u85, u86, u87, u88, u89, u90, u91, u92, u93, u94, u95, u96, u97, u98, u99, u100, u101, u102, u103, u104, u105, u106, u107, u108, u109, u110, u111, u112, u113, u114, u115, u116, u117, u118, u119, u120, u121, u122, u123, u124, u125, u126, u127, u128, u129, u130, u131, u132, u133, u134, u135, u136, u137, u138, u139, u140, u141, u142, u143, u144, u145, u146, u147, u148, u149, u150, u151, u152, u153, u154, u155, u156, u157, u158, u159, u160, u161, u162, u163, u164, u165, u166, u167, u168, u169, u170, u171, u172, u173, u174, u175, u176, u177, u178, u179, u180, u181, u182, u183, u184, u185, u186, u187, u188, u189, u190, u191, u192, u193, u194, u195, u196, u197, u198, u199, u200, u201, u202, u203, u204, u205, u206, u207, u208, u209, u210, u211, u212, u213, u214, u215, u216, u217, u218, u219, u220, u221, u222, u223, u224, u225, u226, u227, u228, u229, u230, u231, u232, u233, u234, u235, u236, u237, u238, u239, u240, u241, u242, u243, u244, u245, u246, u247, u248, u249, u250, u251, u252, u253, u254, u255, u256, u257, u258, u259, u260, u261, u262, u263, u264, u265, u266, u267, u268, u269, u270, u271, u272, u273, u274, u275, u276, u277, u278, u279, u280, u281, u282, u283, u284, u285, u286, u287, u288, u289, u290, u291, u292, u293, u294, u295, u296, u297, u298, u299, u300, u301, u302, u303, u304, u305, u306, u307, u308, u309, u310, u311, u312, u313, u314, u315, u316, u317, u318, u319, u320, u321, u322, u323], defers := [] } w1 := by
  have HP := hidF hp
  have HN := hidF hn
  have HI0 : Hid (FInv w w1 fb lb rb wd) := hI
  have HX := hidF hexit
  refine wp_mono (Q := fun e a w => e = Exit.exit 0 ∧ Q (Exit.exit 0) a w) ?_ (fun e a w h => by obtain ⟨rfl, h⟩ := h; exact h)
  let QD : (Ending → World → Prop) → Exit → Act → World → Prop := bodyPost Try.prog Try.f3
  clear hp hn hI hexit
  conv => arg 2; dsimp only [inB, fstOf, restOf, bodyOf, Try.f3]
  conv => arg 4; dsimp only
  go_loopw [14] (fun i wr => ∃ k : Nat, k ≤ n ∧ i = .int .i64 k ∧ Hid (FInv w wr fb lb rb wd)) (fun i _ => n - (intV i).toNat)
  case atStart => exact ⟨0, Nat.zero_le _, rfl, HI0.out⟩
  case round =>
    obtain ⟨k, hk, rfl, HV⟩ := hrel
    by_cases hlt : k < n
    · obtain ⟨M, sv, lv, fs, lo0, hi0, hB, hbd, hfl⟩ := HV.out
      have HB := hidF hB
      have HBD := hidF hbd
      obtain ⟨p, hp⟩ : ∃ p, ps[k]? = some p := ⟨_, List.getElem?_eq_getElem (by rw [HN.out]; exact hlt)⟩
      obtain ⟨pb, po, rfl, hpb, q0, q1, q2, q3, q4, q5, q6⟩ := HP.out k p hp
      have i1 : (0 : Int) ≤ (k : Int) := by omega
      have i2 : (k : Int) < (n : Int) := by omega
      obtain ⟨r0, r1, r2, r3, r4, r5⟩ := hB.cells
      obtain ⟨s0, s1, s2, s3, s4, s5⟩ := (hB.setLo 0).cells
      have HB2 := hidF ((hB.setLo 0).setHi wd)
      have t1 := (HB2.out.below.cell (p := ⟨pb, po + k * 7 + 1, none⟩) hpb).trans q1
      have hpb1 : pb < wr.heap.size := Nat.lt_of_lt_of_le hpb hB.below.size
      have QC := hidF (And.intro q0 (And.intro q2 (And.intro q3 (And.intro q4 (And.intro q5 q6)))))
      clear hB hbd hp q0 q1 q2 q3 q4 q5 q6 HV
      obtain ⟨pr, pi, pw, ph, pf, plo, phi⟩ := p
      simp only at t1 QC
      obtain ⟨w2, hw2⟩ : ∃ w9, w9 = wr := ⟨_, rfl⟩
      subst hw2
      go_upto_if 84 with fail
      refine floats_room (w := w) (M := M) (sv := sv) (lv := lv) (fs := fs) (pb := pb) (po := po) (plo := plo) (phi := phi) HB2.out HBD.out hfl wd1 wd2 hc1 hc2 hlt hn2 hpb QC.out.2.2.2.2.1 QC.out.2.2.2.2.2 _ _ _ _ _ _ _ _ _ _ _ _ _ _ _ _ _ _ _ _ _ _ _ _ _ _ _ _ _ _ _ _ _ _ _ _ _ _ _ _ _ _ _ _ _ _ _ _ _ _ _ _ _ _ _ _ _ _ _ _ _ _ _ _ _ _ _ _ _ _ _ _ _ _ _ _ _ _ _ _ _ _ _ _ _ _ _ _ _ _ _ _ _ _ _ _ _ _ _ _ _ _ _ _ _ _ _ _ _ _ _ _ _ _ _ _ _ _ _ _ _ _ _ _ _ _ _ _ _ _ _ _ _ _ _ _ _ _ _ _ _ _ _ _ _ _ _ _ _ _ _ _ _ _ _ _ _ _ _ _ _ _ _ _ _ _ _ _ _ _ _ _ _ _ _ _ _ _ _ _ _ _ _ _ _ _ _ _ _ _ _ _ _ _ _ _ _ _ _ _ _ _ _ _ _ _ _ _ _ _ _ _ _ _ _ _ _ _ _ _ _ _ _ _ _ _ _ _ _ _ _ _ _ _ _ _ _ _ _ _ _ _ _ _ _ _ _ _ _ _ _ _ _ _ _ _ _ _ _ _ _ _ _ _ _ _ _ _ _ _ _ _ _ _ _ _ _ _ _ _ _ _ _ _ _ _ _ _ _ _ _ _ _ _ _ _ _ _ _ _ _ _ _ _ _ _ _ _ _ _ _ _ _ _ _ ?_
      intro u8 u16 u17 u18 u19 u20 u21 u22 u23 u24 u66 u67 u68 u69 u70 u71 u72 u73 u74 u75 u76 u77 u78 u79 u80 u81 u82 u83 u84 u85 u86 u87 u88 u89 u90 u91 u92 u93 u94 u95 u96 u97 u98 u99 u100 u101 u102 u103 u104 u105 u106 u107 u108 u109 u110 u111 u112 u113 u114 u115 u116 u117 u118 u119 u120 u121 u122 u123 u124 u125 u126 u127 u128 u129 u130 u131 u132 u133 u134 u135 u136 u137 u138 u139 u140 u141 u142 u143 u144 u145 u146 u147 u148 u149 u150 u151 u152 u153 u154 u155 u156 u157 u158 u159 u160 u161 u162 u163 u164 u165 u166 u167 u168 u169 u170 u171 u172 u173 u174 u175 u176 u177 u178 u179 u180 u181 u182 u183 u184 u185 u186 u187 u188 u189 u190 u191 u192 u193 u194 u195 u196 u197 u198 u199 u200 u201 u202 u203 u204 u205 u206 u207 u208 u209 u210 u211 u212 u213 u214 u215 wc u15 hcut0
      have hcut : Hid (CutG w wc M fb lb rb sv lv wd fs u15) := hcut0
      clear hcut0
      obtain ⟨gb, lo, hi, rfl, l1, l2, l3, hB3, hR3⟩ := hcut.out
      have HB3 := hidF hB3
      have HR3 := hidF hR3
      have t0 := (hB3.below.cell (p := ⟨pb, po + k * 7, none⟩) hpb).trans QC.out.1
      have t2 := (hB3.below.cell (p := ⟨pb, po + k * 7 + 2, none⟩) hpb).trans QC.out.2.1
      have t3 := (hB3.below.cell (p := ⟨pb, po + k * 7 + 3, none⟩) hpb).trans QC.out.2.2.1
      have t4 := (hB3.below.cell (p := ⟨pb, po + k * 7 + 4, none⟩) hpb).trans QC.out.2.2.2.1
      have hpb3 : pb < wc.heap.size := Nat.lt_of_lt_of_le hpb hB3.below.size
      obtain ⟨w3, hw3⟩ : ∃ w9, w9 = wc := ⟨_, rfl⟩
      subst hw3
      refine (by assumption : ∀ (a : Act) (w : World), Code.wp _ _ _ a w → _) _ _ ?_
      conv => arg 4; dsimp only
      clear hcut hB3 hR3 t1 r0 r1 r2 r3 r4 r5 s0 s1 s2 s3 s4 s5 HB HB2
      have AD := hidF (add_both (HB3.out.held (Below.refl w3.heap.size w3).drew) (HR3.out.below (Below.refl w3.heap.size w3).drew) HBD.out hfl l1 l2 l3 pr pw ph pf)
      go_upto_region 29 with fail
      go_cut [21, 22] (fun s1 s2 wx => Hid (CutA w wx fb lb rb lv wd fs lo hi pr pw ph pf s1 s2))
      case first =>
        go_region_held3 (fun wx => wx.cell? ⟨pb, po + k * 7, none⟩ = some (.bool pr) ∧ wx.cell? ⟨pb, po + k * 7 + 2, none⟩ = some (.int .i64 pw) ∧ wx.cell? ⟨pb, po + k * 7 + 3, none⟩ = some (.int .i64 ph) ∧ wx.cell? ⟨pb, po + k * 7 + 4, none⟩ = some (.int .i64 pf)) (go_keep)
          ((go_at_call 10; refine AD.out.mono ?_; rintro e w7 ⟨x, yy, fs', M', sv', rfl, hout, hB7⟩
            have m0 := (hB7.below.cell (p := ⟨pb, po + k * 7, none⟩) hpb).trans QC.out.1
            have m2 := (hB7.below.cell (p := ⟨pb, po + k * 7 + 2, none⟩) hpb).trans QC.out.2.1
            have m3 := (hB7.below.cell (p := ⟨pb, po + k * 7 + 3, none⟩) hpb).trans QC.out.2.2.1
            have m4 := (hB7.below.cell (p := ⟨pb, po + k * 7 + 4, none⟩) hpb).trans QC.out.2.2.2.1
            have HC := hidF (And.intro hout hB7)
            clear hout hB7))
        all_goals
          go_wp2_with fail
          go_meet
          case rel => go_light; exact ⟨_, _, _, _, _, rfl, rfl, HC.out.1, HC.out.2⟩
      case rest =>
      obtain ⟨x, yy, fs', M', sv', rfl, rfl, hout, hB7⟩ := hcut.out
      have t0 := (hB7.below.cell (p := ⟨pb, po + k * 7, none⟩) hpb).trans QC.out.1
      have t2 := (hB7.below.cell (p := ⟨pb, po + k * 7 + 2, none⟩) hpb).trans QC.out.2.1
      have t3 := (hB7.below.cell (p := ⟨pb, po + k * 7 + 3, none⟩) hpb).trans QC.out.2.2.1
      have t4 := (hB7.below.cell (p := ⟨pb, po + k * 7 + 4, none⟩) hpb).trans QC.out.2.2.2.1
      have hpb4 : pb < wc.heap.size := Nat.lt_of_lt_of_le hpb hB7.below.size
      obtain ⟨w4, hw4⟩ : ∃ w9, w9 = wc := ⟨_, rfl⟩
      subst hw4
      have AD2 := hidF (qadd_both (hB7.held (Below.refl w4.heap.size w4).drew) hout HBD.out l1 l2 l3)
      have j1 : (x != x) = false := by simp
      have j2 : (yy != yy) = false := by simp
      clear hcut hout hB7 AD HB3 HR3
      go_upto_region 30 with fail
      go_cut [23, 24] (fun s1 s2 wx => s1 = .int .i64 x ∧ s2 = .int .i64 yy ∧ Hid (FInv w wx fb lb rb wd))
      case first =>
        go_region_held3 (fun wx => wx.cell? ⟨pb, po + k * 7, none⟩ = some (.bool pr) ∧ wx.cell? ⟨pb, po + k * 7 + 2, none⟩ = some (.int .i64 pw) ∧ wx.cell? ⟨pb, po + k * 7 + 3, none⟩ = some (.int .i64 ph) ∧ wx.cell? ⟨pb, po + k * 7 + 4, none⟩ = some (.int .i64 pf)) (go_keep)
          ((go_at_call 11; refine AD2.out.mono ?_; rintro e w7 ⟨rfl, hF7⟩
            have HF := hidF hF7
            obtain ⟨M8, sv8, lv8, fs8, lo8, hi8, hB8, _, _⟩ := hF7
            have m0 := (hB8.below.cell (p := ⟨pb, po + k * 7, none⟩) hpb).trans QC.out.1
            have m2 := (hB8.below.cell (p := ⟨pb, po + k * 7 + 2, none⟩) hpb).trans QC.out.2.1
            have m3 := (hB8.below.cell (p := ⟨pb, po + k * 7 + 3, none⟩) hpb).trans QC.out.2.2.1
            have m4 := (hB8.below.cell (p := ⟨pb, po + k * 7 + 4, none⟩) hpb).trans QC.out.2.2.2.1
            clear hB8))
        all_goals
          go_wp2_with fail
          go_meet
          case rel => go_light; exact ⟨rfl, rfl, HF.out⟩
      case rest =>
      obtain ⟨rfl, rfl, HF⟩ := hcut
      clear t0 t2 t3 t4 AD2
      go_wp2_with fail
      go_roundw
      case rel => go_light; exact ⟨k + 1, by omega, by go_num, HF.out⟩
      case measure => simp [intV]; omega
    · obtain rfl : k = n := by omega
      have hl2 : ¬ (k : Int) < (k : Int) := by omega
      go_wp2_with fail
      exact HX.out _ _ _ _ _ _ _ _ _ _ _ _ _ _ _ _ _ _ _ _ _ _ _ _ _ _ _ _ _ _ _ _ _ _ _ _ _ _ _ _ _ _ _ _ _ _ _ _ _ _ _ _ _ _ _ _ _ _ _ _ _ _ _ _ _ _ _ _ _ _ _ _ _ _ _ _ _ _ _ _ _ _ _ _ _ _ _ _ _ _ _ _ _ _ _ _ _ _ _ _ _ _ _ _ _ _ _ _ _ _ _ _ _ _ _ _ _ _ _ _ _ _ _ _ _ _ _ _ _ _ _ _ _ _ _ _ _ _ _ _ _ _ _ _ _ _ _ _ _ _ _ _ _ _ _ _ _ _ _ _ _ _ _ HV.out
end Go.Proofs.Ythpffpgbmgnkcaa
