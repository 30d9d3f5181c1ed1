/- The document's SizeTracks: shares are given. -/
import Derived.Test.YtjdndaeobiagcaaGM37
namespace Go.Proofs.Ytjdndaeobiagcaa
open Go.RowKit
set_option linter.unusedVariables false      -- bounds that are for the walk

set_option maxHeartbeats 8000000 in
set_option maxRecDepth 100000 in
theorem qz_end {w wl : World} {ts : List Tr2} {a : Option Addr} {cp ob n : Nat} {sz : Nat → Int} {rest tot : Int} (hT : TkL wl (.slice a n cp) ts) (hln : ts.length = n) (hS : SzAt wl ob n sz) (hno : (Value.slice a n cp).ownBlock ≠ some ob) (hB : Below w.heap.size w wl) (lo : w.heap.size ≤ ob) (hn : n ≤ 300) (r0 : 0 ≤ rest) (r1 : rest ≤ 200000000000) (htot : tot = smF (atT ts) n)
    (u0 u1 u2 u3 u4 u5 u6 u7 u8 u10 u11 u12 u13 u15 u16 u17 u18 u21 u22 u23 u24 u25 u26 u27 u28 u29 u30 u31 u32 u33 u34 u35 u36 u37 u38 u39 u40 u41 u42 u43 u44 u45 u46 u47 u48 u49 u50 u51 u52 u53 u54 u55 u56 u57 u58 u59 u60 u61 u62 u63 u64 u65 u66 u67 u68 u69 u70 u71 u72 u73 u74 u75 u76 u77 u78 u79 u80 u81 u82 u83 u84 u85 u86 u87 u88 u89 u90 u91 u92 u93 u94 u95 u96 u97 u98 u99 u100 u101 u102 u103 u104 u105 u106 u107 u108 u109 u110 u111 u112 u113 u114 u115 u116 u117 u118 u119 u120 u121 u122 u123 u124 u125 u126 u127 u128 u129 u130 u131 u132 u133 u134 u135 u136 u137 u138 u139 u140 u141 u142 u143 u144 u145 u146 u147 u148 u149 u150 u151 u152 u153 u154 u155 u156 u157 u158 u159 u160 u161 u162 u163 u164 u165 u166 u167 u168 u169 u170 u171 u172 u173 u174 u175 u176 u177 u178 u179 u180 u181 u182 u183 u184 u185 u186 u187 u188 u189 u190 u191 u192 u193 u194 u195 u196 u197 u198 u199 u200 u201 u202 u203 u204 u205 u206 u207 u208 u209 u210 u211 u212 u213 u214 u215 u216 u217 u218 u219 u220 u221 u222 u223 u224 u225 u226 u227 u228 u229 u230 u231 u232 u233 u234 u235 u236 u237 u238 u239 u240 u241 u242 u243 u244 u245 u246 u247 u248 u249 u250 u251 u252 u253 u254 u255 u256 u257 u258 u259 u260 u261 u262 u263 u264 u265 u266 u267 u268 u269 u270 u271 u272 u273 u274 u275 u276 u277 u278 u279 u280 u281 u282 u283 u284 u285 u286 u287 u288 u289 u290 u291 u292 u293 u294 u295 u296 u297 u298 u299 u300 u301 u302 u303 u304 u305 u306 u307 u308 u309 u310 : Value) :
    Code.wp Try.prog (restG 14 (bodyG Try.f23)) (bodyPost Try.prog Try.f23 (QzPost w ((List.range n).map (dlE (atT ts) (max (smF (atT ts) n) 1000) rest sz n)))) { tmps := #[u0, u1, u2, u3, u4, u5, u6, u7, u8, .slice a n cp, u10, u11, u12, u13, .slice (some ⟨ob, 0, none⟩) n n, u15, u16, u17, u18, .int .i64 rest, .int .i64 tot, u21, u22, u23, u24, u25, u26, u27, u28, u29, u30, u31, u32, u33, u34, u35, u36, u37, u38, u39, u40, u41, u42, u43, u44, u45, u46, u47, u48, u49, u50, u51, u52, u53, u54, u55, u56, u57, u58, u59, u60, u61, u62, u63, u64, u65, u66, u67, u68, u69, u70, u71, u72, u73, u74, u75, u76, u77, u78, u79, u80, u81, u82, u83, u84, u85, u86, u87, u88, u89, u90, u91, u92, u93, u94, u95, u96, u97, u98, u99, u100, u101, u102, u103, u104, u105, u106, u107, u108, u109, u110, u111, u112, u113, u114, u115, u116, u117, u118, u119, u120, u121, u122, u123, u124, u125, u126, u127, u128, u129, u130, u131, u132, u133, u134, u135, u136, u137, u138, u139, u140, u141, u142, u143, u144, u145, u146, u147, u148, u149, u150, u151, u152, u153, u154, u155, u156, u157, u158, u159, u160, u161, u162, u163, u164, u165, u166, u167, u168, u169, u170, u171, u172, u173, u174, u175, u176, u177, u178, u179, u180, u181, u182, u183, u184, u185, u186, u187, u188, u189, u190, u191, u192, u193, u194, u195, u196, u197, u198, u199, u200, u201, u202, u203, u204, u205, u206, u207, u208, u209, u210, u211, u212, u213, u214, u215, u216, u217, u218, u219, u220, u221, u222, u223, u224, u225, u226, u227, u228, u229, u230, u231, u232, u233, u234, u235, u236, u237, u238, u239, u240, u241, u242, u243, u244, u245, u246, u247, u248, u249, u250, u251, u252, u253, u254, u255, u256, u257, u258, u259, u260, u261, u262, u263, u264, u265, u266, u267, u268, u269, u270, u271, u272, u273, u274, u275, u276, u277, u278, u279, u280, u281, u282, u283, u284, u285, u286, u287, u288, u289, u290, u291, u292, u293, u294, u295, u296, u297, u298, u299, u300, u301, u302, u303, u304, u305, u306, u307, u308, u309, u310], defers := [] } wl := by
  have HT := hidF hT
  have HS := hidF hS
  have HLN := hidF hln
  have HB := hidF hB
  have HNO := hidF hno
  obtain ⟨ci, hci⟩ : ∃ c, max (smF (atT ts) n) 1000 = c := ⟨_, rfl⟩
  have tb := smF_bd (atT ts) n
  rw [← htot] at hci tb
  have c0 : 0 < ci := by omega
  have c2 : ci ≤ 300000000000 := by omega
  have MO := hidF (fun W => most_any tot 1000 W)
  rw [hci] at MO
  have HTB : Hid (∀ k, k ≤ n → 0 ≤ smF (atT ts) k ∧ smF (atT ts) k ≤ ci) := fun k hk => ⟨(smF_bd _ k).1, by have := smF_mono (atT ts) hk; omega⟩
  have HPO : Hid (∀ v' w', QzPost w ((List.range n).map (dlE (atT ts) ci rest sz n)) (.returned v') w' ↔ (IntL w' v' ((List.range n).map (dlE (atT ts) ci rest sz n)) ∧ Below w.heap.size w w')) := fun v' w' => ⟨fun ⟨v2, e, h⟩ => by cases e; exact h, fun h => ⟨v', rfl, h⟩⟩
  rw [← htot, hci]
  obtain ⟨aT, caT, hvT, qc1, qc2, _⟩ := hT
  have hcp : n ≤ cp ∧ cp ≤ 9223372036854775807 := by cases hvT; rw [hln] at qc1; exact ⟨qc1, qc2⟩
  obtain ⟨p1, p2⟩ := hcp
  clear hS hln hB hci htot tb hvT qc1 qc2 hno
  conv => arg 2; dsimp only [restG, bodyG, Try.f23]
  conv => arg 4; dsimp only
  go_wp2_with fail
  go_loopw [22, 23] (fun sv iv wr => ∃ (k : Nat) (z : Int), k ≤ n ∧ iv = .int .i64 k ∧ sv = .int .i64 z ∧ Hid (z = smF (atT ts) k ∧ KeepM wl ob wr ∧ SzAt wr ob n (dlE (atT ts) ci rest sz k))) (fun _ iv _ => n - (intV iv).toNat)
  case atStart => exact ⟨0, 0, Nat.zero_le _, rfl, rfl, rfl, KeepM.refl _ _, HS.out.congr (fun j _ => by unfold dlE; rw [if_neg (by omega)])⟩
  case round =>
    obtain ⟨k, z, hk, rfl, rfl, HZ⟩ := hrel
    by_cases hlt : k < n
    · obtain ⟨t, ht⟩ : ∃ t, ts[k]? = some t := ⟨_, List.getElem?_eq_getElem (by rw [HLN.out]; exact hlt)⟩
      obtain ⟨a2, c9, hsv, _, _, hh⟩ := HT.out.keepM HZ.out.2.1 HNO.out
      obtain ⟨b, o, ea, x0, x1, x2⟩ := hh k t ht
      obtain ⟨rfl, rfl⟩ : a = a2 ∧ cp = c9 := by cases hsv; exact ⟨rfl, rfl⟩
      subst ea
      have HAT := hidF (atT_of ht)
      have HSU := hidF (smF_succ (atT ts) k)
      rw [HAT.out] at HSU
      have z1 := HTB.out k (by omega)
      have z3 := HTB.out (k + 1) (by omega)
      rw [← HZ.out.1] at z1
      obtain ⟨z1, z2⟩ := z1
      have i1 : (0 : Int) ≤ (k : Int) := by omega
      have i2 : (k : Int) < (n : Int) := by omega
      obtain ⟨tk, tn⟩ := t
      simp only at x1 x2 HSU
      clear hh hsv ht
      by_cases h3 : tk = 3
      · have q3 : (tk == 3) = true := by simp [h3]
        rw [if_pos h3, ← HZ.out.1] at HSU
        obtain ⟨f, hf⟩ : ∃ f, facN tn = f := ⟨_, rfl⟩
        have fb := facN_bd tn
        have FA := hidF (qfactor_any tn)
        rw [hf] at HSU FA fb
        obtain ⟨f1, f2⟩ := fb
        rw [HSU.out] at z3
        obtain ⟨z3, z4⟩ := z3
        have P1 := hidF (qport_int rest z ci (by omega) r1 z1 z2 c0 (by omega))
        have P2 := hidF (qport_int rest (z + f) ci (by omega) r1 z3 z4 c0 (by omega))
        obtain ⟨d1, d2⟩ := port_bd r0 z1 z2 c0
        obtain ⟨d3, d4⟩ := port_bd r0 z3 z4 c0
        have HE : Hid (rest * (z + f) / ci - rest * z / ci = rest * smF (atT ts) (k + 1) / ci - rest * smF (atT ts) k / ci) := by show _ = _; rw [HSU.out, ← HZ.out.1]
        obtain ⟨e0, he0⟩ : ∃ q, rest * z / ci = q := ⟨_, rfl⟩
        obtain ⟨e1, he1⟩ : ∃ q, rest * (z + f) / ci = q := ⟨_, rfl⟩
        rw [he0] at P1 d1 d2 HE
        rw [he1] at P2 d3 d4 HE
        have H3 := hidF h3
        have y0 := HZ.out.2.2.cell hlt
        have y1 := HZ.out.2.2.frz k
        have y2 := HZ.out.2.2.lt
        clear h3 hf he0 he1
        go_wp2_with (first
          | (go_at_call 47; refine (MO.out _).mono ?_; rintro e w7 ⟨rfl, rfl⟩)
          | (go_at_call 56; refine (FA.out _).mono ?_; rintro e w7 ⟨rfl, rfl⟩)
          | (go_at_call 36; refine (P1.out _).mono ?_; rintro e w7 ⟨rfl, rfl⟩; clear P1)
          | (go_at_call 36; refine (P2.out _).mono ?_; rintro e w7 ⟨rfl, rfl⟩))
        go_roundw
        case rel =>
          go_light
          refine ⟨k + 1, z + f, by omega, by go_num, rfl, HSU.out.symm, HZ.out.2.1.setCell k _, (HZ.out.2.2.set k _).congr (fun j _ => ?_)⟩
          unfold dlE
          by_cases e : j = k
          · subst e
            rw [if_pos rfl, if_pos ⟨by omega, by rw [HAT.out]; exact H3.out⟩]
            exact HE.out
          · rw [if_neg e]
            by_cases e2 : j < k ∧ (atT ts j).k = 3
            · rw [if_pos e2, if_pos ⟨by omega, e2.2⟩]
            · rw [if_neg e2, if_neg (fun h => e2 ⟨by omega, h.2⟩)]
        case measure => simp [intV]; omega
      · have q3 : (tk == 3) = false := by simp [h3]
        rw [if_neg h3, ← HZ.out.1] at HSU
        have H3 := hidF h3
        clear h3
        go_wp2_with fail
        go_roundw
        case rel =>
          go_light
          refine ⟨k + 1, z, by omega, by go_num, rfl, HSU.out.symm, HZ.out.2.1, HZ.out.2.2.congr (fun j _ => ?_)⟩
          unfold dlE
          by_cases e : j = k
          · subst e
            rw [if_neg (fun h => by omega), if_neg (fun h => H3.out (by have := h.2; rw [HAT.out] at this; exact this))]
          · by_cases e2 : j < k ∧ (atT ts j).k = 3
            · rw [if_pos e2, if_pos ⟨by omega, e2.2⟩]
            · rw [if_neg e2, if_neg (fun h => e2 ⟨by omega, h.2⟩)]
        case measure => simp [intV]; omega
    · obtain rfl : k = n := by omega
      have hl2 : ¬ (k : Int) < (k : Int) := by omega
      have HG := hidF (HZ.out.2.2.intL (by omega))
      have HBB := hidF (KeepM.below HB.out HZ.out.2.1 lo)
      go_wp2_with fail
      go_returns
      exact (HPO.out _ _).2 ⟨HG.out, HBB.out⟩
end Go.Proofs.Ytjdndaeobiagcaa
