/- The document's SizeTracks: what is left, and how much all weigh. -/
import Derived.Test.YtjdndaeobiagcaaQzEnd
namespace Go.Proofs.Ytjdndaeobiagcaa
open Go.RowKit
set_option linter.unusedVariables false      -- bounds that are for the walk

set_option maxHeartbeats 8000000 in
set_option maxRecDepth 100000 in
theorem qz_all {w wl : World} {ts : List Tr2} {a : Option Addr} {cp ob n : Nat} {sz : Nat → Int} {room gap : Int} (hT : TkL wl (.slice a n cp) ts) (hln : ts.length = n) (hS : SzAt wl ob n sz) (hno : (Value.slice a n cp).ownBlock ≠ some ob) (hB : Below w.heap.size w wl) (lo : w.heap.size ≤ ob) (hn : n ≤ 300) (hM : ∀ j, j < n → 0 ≤ sz j ∧ sz j ≤ 1000000000000) (r1 : -16777216 ≤ room) (r2 : room ≤ 16777216) (g1 : -16777216 ≤ gap) (g2 : gap ≤ 16777216)
    (u0 u1 u2 u4 u5 u6 u7 u8 u10 u11 u12 u13 u15 u16 u17 u18 u20 u21 u22 u23 u24 u25 u26 u27 u28 u29 u30 u31 u32 u33 u34 u35 u36 u37 u38 u39 u40 u41 u42 u43 u44 u45 u46 u47 u48 u49 u50 u51 u52 u53 u54 u55 u56 u57 u58 u59 u60 u61 u62 u63 u64 u65 u66 u67 u68 u69 u70 u71 u72 u73 u74 u75 u76 u77 u78 u79 u80 u81 u82 u83 u84 u85 u86 u87 u88 u89 u90 u91 u92 u93 u94 u95 u96 u97 u98 u99 u100 u101 u102 u103 u104 u105 u106 u107 u108 u109 u110 u111 u112 u113 u114 u115 u116 u117 u118 u119 u120 u121 u122 u123 u124 u125 u126 u127 u128 u129 u130 u131 u132 u133 u134 u135 u136 u137 u138 u139 u140 u141 u142 u143 u144 u145 u146 u147 u148 u149 u150 u151 u152 u153 u154 u155 u156 u157 u158 u159 u160 u161 u162 u163 u164 u165 u166 u167 u168 u169 u170 u171 u172 u173 u174 u175 u176 u177 u178 u179 u180 u181 u182 u183 u184 u185 u186 u187 u188 u189 u190 u191 u192 u193 u194 u195 u196 u197 u198 u199 u200 u201 u202 u203 u204 u205 u206 u207 u208 u209 u210 u211 u212 u213 u214 u215 u216 u217 u218 u219 u220 u221 u222 u223 u224 u225 u226 u227 u228 u229 u230 u231 u232 u233 u234 u235 u236 u237 u238 u239 u240 u241 u242 u243 u244 u245 u246 u247 u248 u249 u250 u251 u252 u253 u254 u255 u256 u257 u258 u259 u260 u261 u262 u263 u264 u265 u266 u267 u268 u269 u270 u271 u272 u273 u274 u275 u276 u277 u278 u279 u280 u281 u282 u283 u284 u285 u286 u287 u288 u289 u290 u291 u292 u293 u294 u295 u296 u297 u298 u299 u300 u301 u302 u303 u304 u305 u306 u307 u308 u309 u310 : Value) :
    Code.wp Try.prog (restG 11 (bodyG Try.f23)) (bodyPost Try.prog Try.f23 (QzPost w ((List.range n).map (dlE (atT ts) (max (smF (atT ts) n) 1000) (leftD n room gap sz) sz n)))) { tmps := #[u0, u1, u2, .int .i64 gap, u4, u5, u6, u7, u8, .slice a n cp, u10, u11, u12, u13, .slice (some ⟨ob, 0, none⟩) n n, u15, u16, u17, u18, .int .i64 room, u20, u21, u22, u23, u24, u25, u26, u27, u28, u29, u30, u31, u32, u33, u34, u35, u36, u37, u38, u39, u40, u41, u42, u43, u44, u45, u46, u47, u48, u49, u50, u51, u52, u53, u54, u55, u56, u57, u58, u59, u60, u61, u62, u63, u64, u65, u66, u67, u68, u69, u70, u71, u72, u73, u74, u75, u76, u77, u78, u79, u80, u81, u82, u83, u84, u85, u86, u87, u88, u89, u90, u91, u92, u93, u94, u95, u96, u97, u98, u99, u100, u101, u102, u103, u104, u105, u106, u107, u108, u109, u110, u111, u112, u113, u114, u115, u116, u117, u118, u119, u120, u121, u122, u123, u124, u125, u126, u127, u128, u129, u130, u131, u132, u133, u134, u135, u136, u137, u138, u139, u140, u141, u142, u143, u144, u145, u146, u147, u148, u149, u150, u151, u152, u153, u154, u155, u156, u157, u158, u159, u160, u161, u162, u163, u164, u165, u166, u167, u168, u169, u170, u171, u172, u173, u174, u175, u176, u177, u178, u179, u180, u181, u182, u183, u184, u185, u186, u187, u188, u189, u190, u191, u192, u193, u194, u195, u196, u197, u198, u199, u200, u201, u202, u203, u204, u205, u206, u207, u208, u209, u210, u211, u212, u213, u214, u215, u216, u217, u218, u219, u220, u221, u222, u223, u224, u225, u226, u227, u228, u229, u230, u231, u232, u233, u234, u235, u236, u237, u238, u239, u240, u241, u242, u243, u244, u245, u246, u247, u248, u249, u250, u251, u252, u253, u254, u255, u256, u257, u258, u259, u260, u261, u262, u263, u264, u265, u266, u267, u268, u269, u270, u271, u272, u273, u274, u275, u276, u277, u278, u279, u280, u281, u282, u283, u284, u285, u286, u287, u288, u289, u290, u291, u292, u293, u294, u295, u296, u297, u298, u299, u300, u301, u302, u303, u304, u305, u306, u307, u308, u309, u310], defers := [] } wl := by
  have HT := hidF hT
  have HS := hidF hS
  have HLN := hidF hln
  have HB := hidF hB
  have HNO := hidF hno
  have HMB := hidF hM
  obtain ⟨aT, caT, hvT, qc1, qc2, _⟩ := hT
  have hcp : n ≤ cp ∧ cp ≤ 9223372036854775807 := by cases hvT; rw [hln] at qc1; exact ⟨qc1, qc2⟩
  obtain ⟨p1, p2⟩ := hcp
  clear hS hln hB hvT qc1 qc2 hno hM
  conv => arg 2; dsimp only [restG, bodyG, Try.f23]
  conv => arg 4; dsimp only
  go_wp2_with fail
  go_loopw [19, 20, 21] (fun rv sv iv wr => ∃ (k : Nat) (z y : Int), k ≤ n ∧ iv = .int .i64 k ∧ rv = .int .i64 z ∧ sv = .int .i64 y ∧ Hid (z = room - smz sz 0 k - gpQ gap k ∧ y = smF (atT ts) k ∧ Below wl.heap.size wl wr)) (fun _ _ iv _ => n - (intV iv).toNat)
  case atStart => exact ⟨0, room, 0, Nat.zero_le _, rfl, rfl, rfl, by simp [smz, gpQ], rfl, Below.refl _ _⟩
  case round =>
    obtain ⟨k, z, y, hk, rfl, rfl, rfl, HZ⟩ := hrel
    have gb := gpQ_bdn g1 g2 k
    have sb := smz_bd HMB.out 0 k (by omega)
    have yb := smF_bd (atT ts) k
    have z1 : -400000000000000 ≤ z := by rw [HZ.out.1]; omega
    have z2 : z ≤ 10000000000 := by rw [HZ.out.1]; omega
    have y1 : 0 ≤ y := by rw [HZ.out.2.1]; omega
    have y2 : y ≤ 300000000000 := by rw [HZ.out.2.1]; omega
    clear gb sb yb
    by_cases hlt : k < n
    · obtain ⟨t, ht⟩ : ∃ t, ts[k]? = some t := ⟨_, List.getElem?_eq_getElem (by rw [HLN.out]; exact hlt)⟩
      obtain ⟨a2, c9, hsv, _, _, hh⟩ := HT.out.below HZ.out.2.2
      obtain ⟨b, o, ea, x0, x1, x2⟩ := hh k t ht
      obtain ⟨rfl, rfl⟩ : a = a2 ∧ cp = c9 := by cases hsv; exact ⟨rfl, rfl⟩
      subst ea
      have HAT := hidF (atT_of ht)
      have HSU := hidF (smF_succ (atT ts) k)
      rw [HAT.out] at HSU
      have HGS := hidF (gpQ_succ gap k)
      have HSM := hidF (smz_succ sz 0 k)
      rw [Nat.zero_add] at HSM
      have hs9 := HS.out.held HZ.out.2.2
      have s0 := hs9.cell hlt
      have s1 := hs9.lt
      obtain ⟨s2, s3⟩ := HMB.out k hlt
      have i1 : (0 : Int) ≤ (k : Int) := by omega
      have i2 : (k : Int) < (n : Int) := by omega
      obtain ⟨tk, tn⟩ := t
      simp only at x1 x2 HSU
      obtain ⟨sk, hsk⟩ : ∃ q, sz k = q := ⟨_, rfl⟩
      rw [hsk] at s0 s2 s3 HSM
      clear hh hsv ht hs9 hsk
      by_cases hk0 : k = 0
      · have hk1 : ¬ (0 : Int) < (k : Int) := by omega
        clear hk0
        by_cases h3 : tk = 3
        · rw [if_neg (by omega)] at HGS
          have q3 : (tk == 3) = true := by simp [h3]
          rw [if_pos h3] at HSU
          have FA := hidF (qfactor_any tn)
          obtain ⟨f, hf⟩ : ∃ f, facN tn = f := ⟨_, rfl⟩
          have fb := facN_bd tn
          rw [hf] at HSU FA fb
          obtain ⟨f1, f2⟩ := fb
          clear h3 hf
          go_wp2_with (go_at_call 56; refine (FA.out _).mono ?_; rintro e w7 ⟨rfl, h7⟩; have h8 := h7.symm; clear h7; subst h8)
          go_roundw
          case rel =>
            go_light
            exact ⟨k + 1, _, _, by omega, by go_num, rfl, rfl, by rw [HSM.out, HGS.out, HZ.out.1]; omega, by rw [HSU.out, HZ.out.2.1], HZ.out.2.2⟩
          case measure => simp [intV]; omega
        · rw [if_neg (by omega)] at HGS
          have q3 : (tk == 3) = false := by simp [h3]
          rw [if_neg h3] at HSU
          clear h3
          go_wp2_with fail
          go_roundw
          case rel =>
            go_light
            exact ⟨k + 1, _, _, by omega, by go_num, rfl, rfl, by rw [HSM.out, HGS.out, HZ.out.1]; omega, by rw [HSU.out, HZ.out.2.1], HZ.out.2.2⟩
          case measure => simp [intV]; omega
      · have hk1 : (0 : Int) < (k : Int) := by omega
        by_cases h3 : tk = 3
        · rw [if_pos (by omega)] at HGS
          have q3 : (tk == 3) = true := by simp [h3]
          rw [if_pos h3] at HSU
          have FA := hidF (qfactor_any tn)
          obtain ⟨f, hf⟩ : ∃ f, facN tn = f := ⟨_, rfl⟩
          have fb := facN_bd tn
          rw [hf] at HSU FA fb
          obtain ⟨f1, f2⟩ := fb
          clear h3 hf
          go_wp2_with (go_at_call 56; refine (FA.out _).mono ?_; rintro e w7 ⟨rfl, h7⟩; have h8 := h7.symm; clear h7; subst h8)
          go_roundw
          case rel =>
            go_light
            exact ⟨k + 1, _, _, by omega, by go_num, rfl, rfl, by rw [HSM.out, HGS.out, HZ.out.1]; omega, by rw [HSU.out, HZ.out.2.1], HZ.out.2.2⟩
          case measure => simp [intV]; omega
        · rw [if_pos (by omega)] at HGS
          have q3 : (tk == 3) = false := by simp [h3]
          rw [if_neg h3] at HSU
          clear h3
          go_wp2_with fail
          go_roundw
          case rel =>
            go_light
            exact ⟨k + 1, _, _, by omega, by go_num, rfl, rfl, by rw [HSM.out, HGS.out, HZ.out.1]; omega, by rw [HSU.out, HZ.out.2.1], HZ.out.2.2⟩
          case measure => simp [intV]; omega
    · obtain rfl : k = n := by omega
      have hl2 : ¬ (k : Int) < (k : Int) := by omega
      obtain ⟨w5, hw5⟩ : ∃ w5, w5 = wr := ⟨_, rfl⟩
      subst hw5
      have HR : Hid (max z 0 = leftD k room gap sz) := by
        show _ = _
        unfold leftD
        rw [HZ.out.1, gpQ_max]
        omega
      have HRB : Hid (0 ≤ leftD k room gap sz ∧ leftD k room gap sz ≤ 200000000000) := by
        rw [← HR.out]; exact ⟨by omega, by omega⟩
      go_upto_if 274 with fail
      go_cut [19] (fun s wx => s = .int .i64 (max z 0) ∧ wx = w5)
      case first =>
        by_cases hz : z < 0
        · have hm := hidF (show max z 0 = 0 by omega)
          go_wp2_with fail
          go_meet
          case rel => go_light; exact ⟨by rw [hm.out], rfl⟩
        · have hm := hidF (show max z 0 = z by omega)
          go_wp2_with fail
          go_meet
          case rel => go_light; exact ⟨by rw [hm.out], rfl⟩
      case rest =>
      obtain ⟨rfl, hwx⟩ := hcut
      have hwy := hwx.symm
      clear hwx
      subst hwy
      rw [HR.out]
      refine (by assumption : ∀ (a : Act) (w : World), Code.wp _ _ _ a w → _) _ _ ?_
      exact qz_end (HT.out.below HZ.out.2.2) HLN.out (HS.out.held HZ.out.2.2) HNO.out (HB.out.trans (HZ.out.2.2.mono HB.out.size)) lo hn HRB.out.1 HRB.out.2 HZ.out.2.1 _ _ _ _ _ _ _ _ _ _ _ _ _ _ _ _ _ _ _ _ _ _ _ _ _ _ _ _ _ _ _ _ _ _ _ _ _ _ _ _ _ _ _ _ _ _ _ _ _ _ _ _ _ _ _ _ _ _ _ _ _ _ _ _ _ _ _ _ _ _ _ _ _ _ _ _ _ _ _ _ _ _ _ _ _ _ _ _ _ _ _ _ _ _ _ _ _ _ _ _ _ _ _ _ _ _ _ _ _ _ _ _ _ _ _ _ _ _ _ _ _ _ _ _ _ _ _ _ _ _ _ _ _ _ _ _ _ _ _ _ _ _ _ _ _ _ _ _ _ _ _ _ _ _ _ _ _ _ _ _ _ _ _ _ _ _ _ _ _ _ _ _ _ _ _ _ _ _ _ _ _ _ _ _ _ _ _ _ _ _ _ _ _ _ _ _ _ _ _ _ _ _ _ _ _ _ _ _ _ _ _ _ _ _ _ _ _ _ _ _ _ _ _ _ _ _ _ _ _ _ _ _ _ _ _ _ _ _ _ _ _ _ _ _ _ _ _ _ _ _ _ _ _ _ _ _ _ _ _ _ _ _ _ _ _ _ _ _ _ _ _ _ _ _ _ _ _ _ _ _ _ _ _ _ _ _ _ _ _ _ _ _ _ _ _ _ _ _ _ _ _ _ _ _ _ _ _
end Go.Proofs.Ytjdndaeobiagcaa
