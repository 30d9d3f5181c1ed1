/- The document's SizeTracks: needs of more than one track. -/
import Derived.Test.YtjdndaeobiagcaaQzAll
namespace Go.Proofs.Ytjdndaeobiagcaa
open Go.RowKit
set_option linter.unusedVariables false      -- bounds that are for the walk

/-- a need as the document has it: from 0 on -/
def dwnN (x : Nd3) : Nd3 := ⟨x.f - 1, x.s, x.z⟩
set_option maxHeartbeats 8000000 in
set_option maxRecDepth 100000 in
theorem qz_span {w wl : World} {ts : List Tr2} {nds : List Nd3} {t1 : Nat → Tr2} {a na : Option Addr} {cp ob n m nc : Nat} {room gap : Int} (hT : TkL wl (.slice a n cp) ts) (hln : ts.length = n) (hN : NsL wl (.slice na m nc) (nds.map dwnN)) (hnl : nds.length = m) (hS : SzAt wl ob n (szQ room gap t1 nds 0 0)) (hno : (Value.slice a n cp).ownBlock ≠ some ob) (hno2 : (Value.slice na m nc).ownBlock ≠ some ob) (hkk : ∀ j, (t1 j).k = (atT ts j).k) (hnd : ∀ x ∈ nds, NdOk x) (hr : ∀ x ∈ nds, (x.f - 1).toNat + x.s.toNat ≤ n) (hbd : ∀ q k, q ≤ 19 → k ≤ m → ∀ j, j < n → 0 ≤ szQ room gap t1 nds q k j ∧ szQ room gap t1 nds q k j ≤ 1000000000000) (hB : Below w.heap.size w wl) (lo : w.heap.size ≤ ob) (hn : n ≤ 300) (r1 : -16777216 ≤ room) (r2 : room ≤ 16777216) (g1 : -16777216 ≤ gap) (g2 : gap ≤ 16777216)
    (u0 u1 u4 u5 u6 u7 u8 u10 u12 u13 u15 u16 u17 u18 u19 u20 u21 u22 u23 u24 u25 u26 u27 u28 u29 u30 u31 u32 u33 u34 u35 u36 u37 u38 u39 u40 u41 u42 u43 u44 u45 u46 u47 u48 u49 u50 u51 u52 u53 u54 u55 u56 u57 u58 u59 u60 u61 u62 u63 u64 u65 u66 u67 u68 u69 u70 u71 u72 u73 u74 u75 u76 u77 u78 u79 u80 u81 u82 u83 u84 u85 u86 u87 u88 u89 u90 u91 u92 u93 u94 u95 u96 u97 u98 u99 u100 u101 u102 u103 u104 u105 u106 u107 u108 u109 u110 u111 u112 u113 u114 u115 u116 u117 u118 u119 u120 u121 u122 u123 u124 u125 u126 u127 u128 u129 u130 u131 u132 u133 u134 u135 u136 u137 u138 u139 u140 u141 u142 u143 u144 u145 u146 u147 u148 u149 u150 u151 u152 u153 u154 u155 u156 u157 u158 u159 u160 u161 u162 u163 u164 u165 u166 u167 u168 u169 u170 u171 u172 u173 u174 u175 u176 u177 u178 u179 u180 u181 u182 u183 u184 u185 u186 u187 u188 u189 u190 u191 u192 u193 u194 u195 u196 u197 u198 u199 u200 u201 u202 u203 u204 u205 u206 u207 u208 u209 u210 u211 u212 u213 u214 u215 u216 u217 u218 u219 u220 u221 u222 u223 u224 u225 u226 u227 u228 u229 u230 u231 u232 u233 u234 u235 u236 u237 u238 u239 u240 u241 u242 u243 u244 u245 u246 u247 u248 u249 u250 u251 u252 u253 u254 u255 u256 u257 u258 u259 u260 u261 u262 u263 u264 u265 u266 u267 u268 u269 u270 u271 u272 u273 u274 u275 u276 u277 u278 u279 u280 u281 u282 u283 u284 u285 u286 u287 u288 u289 u290 u291 u292 u293 u294 u295 u296 u297 u298 u299 u300 u301 u302 u303 u304 u305 u306 u307 u308 u309 u310 : Value) :
    Code.wp Try.prog (restG 9 (bodyG Try.f23)) (bodyPost Try.prog Try.f23 (QzPost w ((List.range n).map (dlE (atT ts) (max (smF (atT ts) n) 1000) (leftD n room gap (szQ room gap t1 nds 19 0)) (szQ room gap t1 nds 19 0) n)))) { tmps := #[u0, u1, .int .i64 room, .int .i64 gap, u4, u5, u6, u7, u8, .slice a n cp, u10, .slice na m nc, u12, u13, .slice (some ⟨ob, 0, none⟩) n n, u15, u16, u17, u18, u19, u20, u21, u22, u23, u24, u25, u26, u27, u28, u29, u30, u31, u32, u33, u34, u35, u36, u37, u38, u39, u40, u41, u42, u43, u44, u45, u46, u47, u48, u49, u50, u51, u52, u53, u54, u55, u56, u57, u58, u59, u60, u61, u62, u63, u64, u65, u66, u67, u68, u69, u70, u71, u72, u73, u74, u75, u76, u77, u78, u79, u80, u81, u82, u83, u84, u85, u86, u87, u88, u89, u90, u91, u92, u93, u94, u95, u96, u97, u98, u99, u100, u101, u102, u103, u104, u105, u106, u107, u108, u109, u110, u111, u112, u113, u114, u115, u116, u117, u118, u119, u120, u121, u122, u123, u124, u125, u126, u127, u128, u129, u130, u131, u132, u133, u134, u135, u136, u137, u138, u139, u140, u141, u142, u143, u144, u145, u146, u147, u148, u149, u150, u151, u152, u153, u154, u155, u156, u157, u158, u159, u160, u161, u162, u163, u164, u165, u166, u167, u168, u169, u170, u171, u172, u173, u174, u175, u176, u177, u178, u179, u180, u181, u182, u183, u184, u185, u186, u187, u188, u189, u190, u191, u192, u193, u194, u195, u196, u197, u198, u199, u200, u201, u202, u203, u204, u205, u206, u207, u208, u209, u210, u211, u212, u213, u214, u215, u216, u217, u218, u219, u220, u221, u222, u223, u224, u225, u226, u227, u228, u229, u230, u231, u232, u233, u234, u235, u236, u237, u238, u239, u240, u241, u242, u243, u244, u245, u246, u247, u248, u249, u250, u251, u252, u253, u254, u255, u256, u257, u258, u259, u260, u261, u262, u263, u264, u265, u266, u267, u268, u269, u270, u271, u272, u273, u274, u275, u276, u277, u278, u279, u280, u281, u282, u283, u284, u285, u286, u287, u288, u289, u290, u291, u292, u293, u294, u295, u296, u297, u298, u299, u300, u301, u302, u303, u304, u305, u306, u307, u308, u309, u310], defers := [] } wl := by
  have HT := hidF hT
  have HS := hidF hS
  have HLN := hidF hln
  have HN := hidF hN
  have HNL := hidF hnl
  have HB := hidF hB
  have HNO := hidF hno
  have HNO2 := hidF hno2
  have HKK := hidF hkk
  have HND := hidF hnd
  have HRR := hidF hr
  have HBD := hidF hbd
  obtain ⟨aN, caN, hvN, qc1, qc2, _⟩ := hN
  have hcn : m ≤ nc ∧ nc ≤ 9223372036854775807 := by cases hvN; rw [List.length_map, hnl] at qc1; exact ⟨qc1, qc2⟩
  obtain ⟨p1, p2⟩ := hcn
  clear hT hS hln hnl hB hvN qc1 qc2 hno hno2 hkk hnd hr hbd
  conv => arg 2; dsimp only [restG, bodyG, Try.f23]
  conv => arg 4; dsimp only
  go_wp2_with fail
  go_loopw [17] (fun sv wr => ∃ (q : Nat) (z : Int), 2 ≤ z ∧ z ≤ 21 ∧ sv = .int .i64 z ∧ Hid (z = (q : Int) + 2 ∧ KeepM wl ob wr ∧ SzAt wr ob n (szQ room gap t1 nds q 0))) (fun sv _ => (21 - intV sv).toNat)
  case atStart => exact ⟨0, 2, by omega, by omega, rfl, rfl, KeepM.refl _ _, HS.out⟩
  case round =>
    obtain ⟨q, z, z1, z2, rfl, HZ⟩ := hrel
    obtain ⟨w5, hw5⟩ : ∃ w5, w5 = wr := ⟨_, rfl⟩
    subst hw5
    by_cases hz : z ≤ 20
    · go_wp2_with fail
      go_loopw [18] (fun iv wr => ∃ k : Nat, k ≤ m ∧ iv = .int .i64 k ∧ Hid (KeepM wl ob wr ∧ SzAt wr ob n (szQ room gap t1 nds q k))) (fun iv _ => m - (intV iv).toNat)
      case atStart => exact ⟨0, Nat.zero_le _, rfl, HZ.out.2⟩
      case round =>
        obtain ⟨k, hk, rfl, HY⟩ := hrel
        by_cases hlt : k < m
        · obtain ⟨x, hx⟩ : ∃ x, nds[k]? = some x := ⟨_, List.getElem?_eq_getElem (by rw [HNL.out]; exact hlt)⟩
          obtain ⟨a2, c9, hsv, _, _, hh⟩ := HN.out.keepM HY.out.1 HNO2.out
          obtain ⟨b, o, ea, x0, x1, x2, x3⟩ := hh k (dwnN x) (by rw [List.getElem?_map, hx]; rfl)
          obtain ⟨rfl, rfl⟩ : na = a2 ∧ nc = c9 := by cases hsv; exact ⟨rfl, rfl⟩
          subst ea
          have HX := hidF hx
          have HTK := hidF (szQ_take (room := room) (gap := gap) (tr := t1) (q := q) hx)
          have i1 : (0 : Int) ≤ (k : Int) := by omega
          have i2 : (k : Int) < (m : Int) := by omega
          have HSP := hidF (qspread_any (HT.out.keepM HY.out.1 HNO.out) HY.out.2 HLN.out hn (fun _ _ _ => trivial) HNO.out (HBD.out q k (by have := HZ.out.1; omega) hk) (by omega) (Int.le_refl _) g1 g2 (HND.out x (List.mem_of_getElem? hx)) (HRR.out x (List.mem_of_getElem? hx)))
          have HWK := hidF (widF_kinds HKK.out gap x (szQ room gap t1 nds q k))
          obtain ⟨xf, xs, xz⟩ := x
          unfold dwnN at x1 x2 x3
          simp only at x1 x2 x3 HTK
          have HQZ := hidF HZ.out.1
          obtain ⟨ff, hff⟩ : ∃ f, xf - 1 = f := ⟨_, rfl⟩
          rw [hff] at x1 HSP
          clear hh hsv hx hff
          by_cases hs : xs = z
          · have q3 : (xs == z) = true := by simp [hs]
            have HE : Hid (szQ room gap t1 nds q (k + 1) = widF (atT ts) gap ⟨xf, xs, xz⟩ (szQ room gap t1 nds q k)) := by
              show _ = _
              rw [HTK.out, if_pos (by rw [hs]; exact HQZ.out), HWK.out]
            clear hs
            go_wp2_with (go_at_call 57; refine HSP.out.mono ?_; rintro e w7 ⟨rfl, s7, k7⟩; have H7 := hidF (And.intro s7 k7); clear s7 k7)
            go_roundw
            case rel => go_light; exact ⟨k + 1, by omega, by go_num, HY.out.1.trans H7.out.2, by rw [HE.out]; exact H7.out.1⟩
            case measure => simp [intV]; omega
          · have q3 : (xs == z) = false := by simp [hs]
            have HE : Hid (szQ room gap t1 nds q (k + 1) = szQ room gap t1 nds q k) := by
              show _ = _
              rw [HTK.out, if_neg (fun h => hs (by rw [HQZ.out]; exact h))]
            clear hs
            go_wp2_with fail
            go_roundw
            case rel => go_light; exact ⟨k + 1, by omega, by go_num, HY.out.1, by rw [HE.out]; exact HY.out.2⟩
            case measure => simp [intV]; omega
        · obtain rfl : k = m := by omega
          have hl2 : ¬ (k : Int) < (k : Int) := by omega
          have HE := hidF (szQ_next room gap t1 nds q HNL.out)
          go_wp2_with fail
          go_roundw
          case rel => go_light; exact ⟨q + 1, z + 1, by omega, by omega, by go_num, by have := HZ.out.1; omega, HY.out.1, by rw [← HE.out]; exact HY.out.2⟩
          case measure => simp [intV]; omega
    · have HQ : Hid (q = 19) := by have := HZ.out.1; show _ = _; omega
      have HF : Hid (KeepM wl ob w5 ∧ SzAt w5 ob n (szQ room gap t1 nds 19 0)) := by have := HZ.out.2; rw [HQ.out] at this; exact this
      have HB19 : Hid (∀ j, j < n → 0 ≤ szQ room gap t1 nds 19 0 j ∧ szQ room gap t1 nds 19 0 j ≤ 1000000000000) := HBD.out 19 0 (by omega) (by omega)
      go_upto_region 41 with fail
      go_cut [19] (fun s wx => s = .int .i64 room ∧ wx = w5)
      case first =>
        go_wp2_with fail
        go_meet
        case rel => go_light; exact ⟨rfl, rfl⟩
      case rest =>
      obtain ⟨rfl, hwx⟩ := hcut
      have hwy := hwx.symm
      clear hwx
      subst hwy
      refine (by assumption : ∀ (a : Act) (w : World), Code.wp _ _ _ a w → _) _ _ ?_
      exact qz_all (HT.out.keepM HF.out.1 HNO.out) HLN.out HF.out.2 HNO.out (KeepM.below HB.out HF.out.1 lo) lo hn HB19.out r1 r2 g1 g2 _ _ _ _ _ _ _ _ _ _ _ _ _ _ _ _ _ _ _ _ _ _ _ _ _ _ _ _ _ _ _ _ _ _ _ _ _ _ _ _ _ _ _ _ _ _ _ _ _ _ _ _ _ _ _ _ _ _ _ _ _ _ _ _ _ _ _ _ _ _ _ _ _ _ _ _ _ _ _ _ _ _ _ _ _ _ _ _ _ _ _ _ _ _ _ _ _ _ _ _ _ _ _ _ _ _ _ _ _ _ _ _ _ _ _ _ _ _ _ _ _ _ _ _ _ _ _ _ _ _ _ _ _ _ _ _ _ _ _ _ _ _ _ _ _ _ _ _ _ _ _ _ _ _ _ _ _ _ _ _ _ _ _ _ _ _ _ _ _ _ _ _ _ _ _ _ _ _ _ _ _ _ _ _ _ _ _ _ _ _ _ _ _ _ _ _ _ _ _ _ _ _ _ _ _ _ _ _ _ _ _ _ _ _ _ _ _ _ _ _ _ _ _ _ _ _ _ _ _ _ _ _ _ _ _ _ _ _ _ _ _ _ _ _ _ _ _ _ _ _ _ _ _ _ _ _ _ _ _ _ _ _ _ _ _ _ _ _ _ _ _ _ _ _ _ _ _ _ _ _ _ _ _ _ _ _ _ _ _ _ _ _ _ _ _ _ _ _ _ _ _ _ _ _ _ _ _
end Go.Proofs.Ytjdndaeobiagcaa
