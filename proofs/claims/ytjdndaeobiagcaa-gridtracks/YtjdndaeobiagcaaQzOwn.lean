/- The document's SizeTracks: tracks by themselves. -/
import Derived.Test.YtjdndaeobiagcaaQzSpan
import Derived.Test.YtjdndaeobiagcaaQzTrB
namespace Go.Proofs.Ytjdndaeobiagcaa
open Go.RowKit
set_option linter.unusedVariables false      -- bounds that are for the walk

set_option maxHeartbeats 16000000 in
set_option maxRecDepth 100000 in
theorem qz_own {w wl : World} {rts : List Tr2} {nds : List Nd3} {t1 R : Nat → Tr2} {a na : Option Addr} {cp ob g n m nc : Nat} {room gap : Int} (hQ : QoAt w wl a na g n m nc ob nds R (fun _ => 0)) (hcp : n ≤ cp ∧ cp ≤ 9223372036854775807) (hnl : nds.length = m) (h0 : n = 0 → (Value.slice a n cp).ownBlock ≠ some ob) (hR : ∀ j, t1 j = cntT room (R j)) (hRo : ∀ j, n ≤ j → R j = ⟨0, 0⟩) (hnd : ∀ x ∈ nds, NdOk x) (hr : ∀ x ∈ nds, (x.f - 1).toNat + x.s.toNat ≤ n) (hbd : ∀ q k, q ≤ 19 → k ≤ m → ∀ j, j < n → 0 ≤ szQ room gap t1 nds q k j ∧ szQ room gap t1 nds q k j ≤ 1000000000000) (hn : n ≤ 300) (r1 : -16777216 ≤ room) (r2 : room ≤ 16777216) (g1 : -16777216 ≤ gap) (g2 : gap ≤ 16777216)
    (u0 u1 u4 u5 u6 u7 u8 u10 u12 u13 u15 u16 u17 u18 u19 u20 u21 u22 u23 u24 u25 u26 u27 u28 u29 u30 u31 u32 u33 u34 u35 u36 u37 u38 u39 u40 u41 u42 u43 u44 u45 u46 u47 u48 u49 u50 u51 u52 u53 u54 u55 u56 u57 u58 u59 u60 u61 u62 u63 u64 u65 u66 u67 u68 u69 u70 u71 u72 u73 u74 u75 u76 u77 u78 u79 u80 u81 u82 u83 u84 u85 u86 u87 u88 u89 u90 u91 u92 u93 u94 u95 u96 u97 u98 u99 u100 u101 u102 u103 u104 u105 u106 u107 u108 u109 u110 u111 u112 u113 u114 u115 u116 u117 u118 u119 u120 u121 u122 u123 u124 u125 u126 u127 u128 u129 u130 u131 u132 u133 u134 u135 u136 u137 u138 u139 u140 u141 u142 u143 u144 u145 u146 u147 u148 u149 u150 u151 u152 u153 u154 u155 u156 u157 u158 u159 u160 u161 u162 u163 u164 u165 u166 u167 u168 u169 u170 u171 u172 u173 u174 u175 u176 u177 u178 u179 u180 u181 u182 u183 u184 u185 u186 u187 u188 u189 u190 u191 u192 u193 u194 u195 u196 u197 u198 u199 u200 u201 u202 u203 u204 u205 u206 u207 u208 u209 u210 u211 u212 u213 u214 u215 u216 u217 u218 u219 u220 u221 u222 u223 u224 u225 u226 u227 u228 u229 u230 u231 u232 u233 u234 u235 u236 u237 u238 u239 u240 u241 u242 u243 u244 u245 u246 u247 u248 u249 u250 u251 u252 u253 u254 u255 u256 u257 u258 u259 u260 u261 u262 u263 u264 u265 u266 u267 u268 u269 u270 u271 u272 u273 u274 u275 u276 u277 u278 u279 u280 u281 u282 u283 u284 u285 u286 u287 u288 u289 u290 u291 u292 u293 u294 u295 u296 u297 u298 u299 u300 u301 u302 u303 u304 u305 u306 u307 u308 u309 u310 : Value) :
    Code.wp Try.prog (restG 8 (bodyG Try.f23)) (bodyPost Try.prog Try.f23 (QzPost w ((List.range n).map (dlE (atT ((List.range n).map fun j => kfx room (R j))) (max (smF (atT ((List.range n).map fun j => kfx room (R j))) n) 1000) (leftD n room gap (szQ room gap t1 nds 19 0)) (szQ room gap t1 nds 19 0) n)))) { tmps := #[u0, u1, .int .i64 room, .int .i64 gap, u4, u5, u6, u7, u8, .slice a n cp, u10, .slice na m nc, u12, u13, .slice (some ⟨ob, 0, none⟩) n n, u15, u16, u17, u18, u19, u20, u21, u22, u23, u24, u25, u26, u27, u28, u29, u30, u31, u32, u33, u34, u35, u36, u37, u38, u39, u40, u41, u42, u43, u44, u45, u46, u47, u48, u49, u50, u51, u52, u53, u54, u55, u56, u57, u58, u59, u60, u61, u62, u63, u64, u65, u66, u67, u68, u69, u70, u71, u72, u73, u74, u75, u76, u77, u78, u79, u80, u81, u82, u83, u84, u85, u86, u87, u88, u89, u90, u91, u92, u93, u94, u95, u96, u97, u98, u99, u100, u101, u102, u103, u104, u105, u106, u107, u108, u109, u110, u111, u112, u113, u114, u115, u116, u117, u118, u119, u120, u121, u122, u123, u124, u125, u126, u127, u128, u129, u130, u131, u132, u133, u134, u135, u136, u137, u138, u139, u140, u141, u142, u143, u144, u145, u146, u147, u148, u149, u150, u151, u152, u153, u154, u155, u156, u157, u158, u159, u160, u161, u162, u163, u164, u165, u166, u167, u168, u169, u170, u171, u172, u173, u174, u175, u176, u177, u178, u179, u180, u181, u182, u183, u184, u185, u186, u187, u188, u189, u190, u191, u192, u193, u194, u195, u196, u197, u198, u199, u200, u201, u202, u203, u204, u205, u206, u207, u208, u209, u210, u211, u212, u213, u214, u215, u216, u217, u218, u219, u220, u221, u222, u223, u224, u225, u226, u227, u228, u229, u230, u231, u232, u233, u234, u235, u236, u237, u238, u239, u240, u241, u242, u243, u244, u245, u246, u247, u248, u249, u250, u251, u252, u253, u254, u255, u256, u257, u258, u259, u260, u261, u262, u263, u264, u265, u266, u267, u268, u269, u270, u271, u272, u273, u274, u275, u276, u277, u278, u279, u280, u281, u282, u283, u284, u285, u286, u287, u288, u289, u290, u291, u292, u293, u294, u295, u296, u297, u298, u299, u300, u301, u302, u303, u304, u305, u306, u307, u308, u309, u310], defers := [] } wl := by
  have HQ0 := hidF hQ
  have HNL := hidF hnl
  have HRR := hidF hR
  have HRO := hidF hRo
  have H0 := hidF h0
  have HRS := hidF (And.intro hnd (And.intro hr hbd))
  obtain ⟨aN, caN, hvN, qc1, qc2, _⟩ := hQ.nd
  have hcn : m ≤ nc ∧ nc ≤ 9223372036854775807 := by cases hvN; rw [List.length_map, hnl] at qc1; exact ⟨qc1, qc2⟩
  obtain ⟨p1, p2⟩ := hcn
  obtain ⟨p3, p4⟩ := hcp
  clear hQ hnl hR hRo h0 hnd hr hbd hvN qc1 qc2
  conv => arg 2; dsimp only [restG, bodyG, Try.f23]
  conv => arg 4; dsimp only
  refine wp_seq_k fun K9 hK9 => ?_
  go_cut [] (fun wx => Hid (QoAt w wx a na g n m nc ob nds (fun j => kfx room (R j)) (szQ room gap t1 nds 0 0)))
  case first =>
    go_wp2_with fail
    go_loopw [15] (fun iv wr => ∃ i : Nat, i ≤ n ∧ iv = .int .i64 i ∧ Hid (QoAt w wr a na g n m nc ob nds (fun j => if j < i then kfx room (R j) else R j) (fun j => if j < i then ownQ room t1 nds j else 0))) (fun iv _ => n - (intV iv).toNat)
    case atStart => exact ⟨0, Nat.zero_le _, rfl, HQ0.out.congr (fun j _ => by rw [if_neg (by omega)]) (fun j _ => by rw [if_neg (by omega)])⟩
    case round =>
      obtain ⟨i, hi, rfl, HZ⟩ := hrel
      obtain ⟨w5, hw5⟩ : ∃ w5, w5 = wr := ⟨_, rfl⟩
      subst hw5
      by_cases hlt : i < n
      · obtain ⟨rfl, tg1, tg2, tg3, tb⟩ := HZ.out.trk (by omega)
        obtain ⟨x1, x2⟩ := tb.at hlt
        rw [if_neg (by omega)] at x1 x2
        have x0 := tb.lt
        have x3 := tb.frz (i * 2)
        have y1 := HZ.out.out.cell hlt
        rw [if_neg (by omega)] at y1
        have y2 := HZ.out.out.frz i
        have y3 := HZ.out.out.lt
        have HRI : Hid (t1 i = cntT room (R i)) := HRR.out i
        obtain ⟨t, ht⟩ : ∃ t, R i = t := ⟨_, rfl⟩
        rw [ht] at x1 x2 HRI
        have HTI := hidF ht
        have HKF := hidF (kfx_k room t)
        obtain ⟨tk, tn⟩ := t
        simp only at x1 x2
        have i1 : (0 : Int) ≤ (i : Int) := by omega
        have i2 : (i : Int) < (n : Int) := by omega
        have hng : ¬ ob = g := fun e => tg2 e.symm
        clear tb ht
        obtain ⟨bad, hbad⟩ : ∃ b : Bool, b = decide (tk < 0 ∨ 3 < tk ∨ (1 < tk ∧ room < 0)) := ⟨_, rfl⟩
        have HBA := hidF hbad
        go_upto_region 21 with fail
        go_cut [137] (fun s wx => s = .bool bad ∧ wx = w5)
        case first =>
          by_cases c1 : tk < 0
          · have hb2 : bad = true := by rw [hbad]; exact decide_eq_true (.inl c1)
            subst hb2
            clear hbad
            go_wp2_with fail
            all_goals
              go_meet
              case rel => go_light; exact ⟨rfl, rfl⟩
          · by_cases c2 : 3 < tk
            · have hb2 : bad = true := by rw [hbad]; exact decide_eq_true (.inr (.inl c2))
              subst hb2
              clear hbad
              go_wp2_with fail
              all_goals
                go_meet
                case rel => go_light; exact ⟨rfl, rfl⟩
            · by_cases c3 : 1 < tk
              · by_cases c4 : room < 0
                · have hb2 : bad = true := by rw [hbad]; exact decide_eq_true (.inr (.inr ⟨c3, c4⟩))
                  subst hb2
                  clear hbad
                  go_wp2_with fail
                  all_goals
                    go_meet
                    case rel => go_light; exact ⟨rfl, rfl⟩
                · have hb2 : bad = false := by rw [hbad]; exact decide_eq_false (by omega)
                  subst hb2
                  clear hbad
                  go_wp2_with fail
                  all_goals
                    go_meet
                    case rel => go_light; exact ⟨rfl, rfl⟩
              · have hb2 : bad = false := by rw [hbad]; exact decide_eq_false (by omega)
                subst hb2
                clear hbad
                go_wp2_with fail
                all_goals
                  go_meet
                  case rel => go_light; exact ⟨rfl, rfl⟩
        case rest =>
        obtain ⟨rfl, hwx⟩ := hcut
        have hwy := hwx.symm
        clear hwx
        subst hwy
        clear hbad
        cases bad with
        | true =>
          have hB := hidF (of_decide_eq_true HBA.out.symm)
          have HK0 : Hid (kfx room ⟨tk, tn⟩ = ⟨0, tn⟩) := by show _ = _; unfold kfx; rw [if_pos hB.out]
          have HFX := hidF (HZ.out.fix hlt 0)
          have HTX : Hid (∀ j, (if j = i then (⟨0, (if j < i then kfx room (R j) else R j).n⟩ : Tr2) else if j < i then kfx room (R j) else R j) = if j < i + 1 then kfx room (R j) else R j) := fun j => by
            by_cases e : j = i
            · subst e
              rw [if_pos rfl, if_neg (by omega), if_pos (by omega), HTI.out, HK0.out]
            · by_cases e2 : j < i
              · rw [if_neg e, if_pos e2, if_pos (by omega)]
              · rw [if_neg e, if_neg e2, if_neg (by omega)]
          have HOW : Hid (ownQ room t1 nds i = mxN nds i) := by
            show _ = _
            unfold ownQ
            rw [if_pos (by rw [HRI.out, ← HKF.out, HK0.out])]
          go_wp2_with fail
          go_loopw [16] (fun kv wx => ∃ k : Nat, k ≤ m ∧ kv = .int .i64 k ∧ Hid (QoAt w wx (some ⟨g, 0, none⟩) na g n m nc ob nds (fun j => if j = i then (⟨0, (if j < i then kfx room (R j) else R j).n⟩ : Tr2) else if j < i then kfx room (R j) else R j) (fun j => if j = i then mxN (nds.take k) i else if j < i then ownQ room t1 nds j else 0))) (fun kv _ => m - (intV kv).toNat)
          case atStart => exact ⟨0, Nat.zero_le _, rfl, HFX.out.congr (fun j _ => rfl) (fun j _ => (if e : j = i then by (subst e; rw [if_neg (by omega), if_pos rfl]; rfl) else by (rw [if_neg e])))⟩
          case round =>
            obtain ⟨k, hk, rfl, HY⟩ := hrel
            by_cases hkl : k < m
            · obtain ⟨x, hx⟩ : ∃ x, nds[k]? = some x := ⟨_, List.getElem?_eq_getElem (by rw [HNL.out]; exact hkl)⟩
              obtain ⟨a2, c9, hsv, _, _, hh⟩ := HY.out.nd
              obtain ⟨b, o, ea, n0, n1, n2, n3⟩ := hh k (dwnN x) (by rw [List.getElem?_map, hx]; rfl)
              obtain ⟨rfl, rfl⟩ : na = a2 ∧ nc = c9 := by cases hsv; exact ⟨rfl, rfl⟩
              subst ea
              have HTK := hidF (mxN_take (j := i) hx)
              have k1 : (0 : Int) ≤ (k : Int) := by omega
              have k2 : (k : Int) < (m : Int) := by omega
              have o1 := HY.out.out.cell hlt
              rw [if_pos rfl] at o1
              have o2 := HY.out.out.frz i
              have o3 := HY.out.out.lt
              obtain ⟨mx, hmx⟩ : ∃ q, mxN (nds.take k) i = q := ⟨_, rfl⟩
              rw [hmx] at o1 HTK
              obtain ⟨xf, xs, xz⟩ := x
              unfold dwnN at n1 n2 n3
              simp only at n1 n2 n3 HTK
              obtain ⟨ff, hff⟩ : ∃ f, xf - 1 = f := ⟨_, rfl⟩
              rw [hff] at n1 HTK
              have HMX := hidF hmx
              clear hh hsv hx hff hmx
              obtain ⟨w8, hw8⟩ : ∃ w8, w8 = wr := ⟨_, rfl⟩
              subst hw8
              by_cases hf : ff = (i : Int)
              · have qf : (ff == (i : Int)) = true := by simp [hf]
                by_cases hs : xs = 1
                · have qs : (xs == 1) = true := by simp [hs]
                  rw [if_pos ⟨hf, hs⟩] at HTK
                  have MO := hidF (fun W => most_any mx xz W)
                  have HNX : Hid (QoAt w (w8.drew.setCell ⟨ob, i, none⟩ (.int .i64 (max mx xz))) (some ⟨g, 0, none⟩) (some ⟨b, o, none⟩) g n m nc ob nds (fun j => if j = i then (⟨0, (if j < i then kfx room (R j) else R j).n⟩ : Tr2) else if j < i then kfx room (R j) else R j) (fun j => if j = i then mxN (nds.take (k + 1)) i else if j < i then ownQ room t1 nds j else 0)) := (HY.out.drew.size i (max mx xz)).congr (fun j _ => rfl) (fun j _ => (if e : j = i then by (rw [if_pos e, if_pos e, HTK.out]) else by (rw [if_neg e, if_neg e, if_neg e])))
                  clear hf hs
                  go_wp2_with fail
                  go_region_with ((go_at_call 47; refine (MO.out _).mono ?_; rintro e w7 ⟨rfl, hw7⟩; rw [hw7]; clear hw7))
                  all_goals
                    go_wp2_with fail
                    go_roundw
                    case rel => go_light; exact ⟨k + 1, by omega, by go_num, HNX.out⟩
                    case measure => simp [intV]; omega
                · have qs : (xs == 1) = false := by simp [hs]
                  rw [if_neg (fun h => hs h.2)] at HTK
                  clear hf hs
                  go_wp2_with fail
                  go_roundw
                  case rel => go_light; exact ⟨k + 1, by omega, by go_num, HY.out.congr (fun j _ => rfl) (fun j _ => (if e : j = i then by (rw [if_pos e, if_pos e, HTK.out, HMX.out]) else by (rw [if_neg e, if_neg e])))⟩
                  case measure => simp [intV]; omega
              · have qf : (ff == (i : Int)) = false := by simp [hf]
                rw [if_neg (fun h => hf h.1)] at HTK
                clear hf
                go_wp2_with fail
                go_roundw
                case rel => go_light; exact ⟨k + 1, by omega, by go_num, HY.out.congr (fun j _ => rfl) (fun j _ => (if e : j = i then by (rw [if_pos e, if_pos e, HTK.out, HMX.out]) else by (rw [if_neg e, if_neg e])))⟩
                case measure => simp [intV]; omega
            · obtain rfl : k = m := by omega
              have hl2 : ¬ (k : Int) < (k : Int) := by omega
              have HEN : Hid (QoAt w wr (some ⟨g, 0, none⟩) na g n k nc ob nds (fun j => if j < i + 1 then kfx room (R j) else R j) (fun j => if j < i + 1 then ownQ room t1 nds j else 0)) := HY.out.congr (fun j _ => HTX.out j) (fun j _ => by
                by_cases e : j = i
                · subst e
                  rw [if_pos rfl, if_pos (by omega), HOW.out, List.take_of_length_le (by rw [HNL.out]; omega)]
                · by_cases e2 : j < i
                  · rw [if_neg e, if_pos e2, if_pos (by omega)]
                  · rw [if_neg e, if_neg e2, if_neg (by omega)])
              go_wp2_with fail
              go_roundw
              case rel => go_light; exact ⟨i + 1, by omega, by go_num, HEN.out⟩
              case measure => simp [intV]; omega
        | false =>
          have hB := hidF (of_decide_eq_false HBA.out.symm)
          have HK0 : Hid (kfx room ⟨tk, tn⟩ = ⟨tk, tn⟩) := by show _ = _; unfold kfx; rw [if_neg hB.out]
          have HTX : Hid (∀ j, (if j < i then kfx room (R j) else R j) = if j < i + 1 then kfx room (R j) else R j) := fun j => by
            by_cases e : j = i
            · subst e
              rw [if_neg (by omega), if_pos (by omega), HTI.out, HK0.out]
            · by_cases e2 : j < i
              · rw [if_pos e2, if_pos (by omega)]
              · rw [if_neg e2, if_neg (by omega)]
          have HKI : Hid ((t1 i).k = tk) := by show _ = _; rw [HRI.out, ← HKF.out, HK0.out]
          have HOI : Hid (ownQ room t1 nds i = if tk = 0 then mxN nds i else if tk = 1 then max (heldN tn) 0 else if tk = 2 then room * facN tn / 100000 else 0) := by
            show _ = _
            unfold ownQ
            rw [HKI.out]
            split
            · rfl
            · have e := cntT_own (room := room) (t := ⟨tk, tn⟩)
              rw [← HRI.out, HKI.out] at e
              exact e
          rcases (show tk = 0 ∨ tk = 1 ∨ tk = 2 ∨ tk = 3 from by have := hB.out; omega) with h | h | h | h
          · have HOW : Hid (ownQ room t1 nds i = mxN nds i) := by show _ = _; rw [HOI.out, if_pos h]
            have HFX := hidF HZ.out
            clear HOI HKI HK0 hB HKF HRI HTI HBA
            subst h
            go_wp2_with fail
            go_loopw [16] (fun kv wx => ∃ k : Nat, k ≤ m ∧ kv = .int .i64 k ∧ Hid (QoAt w wx (some ⟨g, 0, none⟩) na g n m nc ob nds (fun j => if j < i then kfx room (R j) else R j) (fun j => if j = i then mxN (nds.take k) i else if j < i then ownQ room t1 nds j else 0))) (fun kv _ => m - (intV kv).toNat)
            case atStart => exact ⟨0, Nat.zero_le _, rfl, HFX.out.congr (fun j _ => rfl) (fun j _ => (if e : j = i then by (subst e; rw [if_neg (by omega), if_pos rfl]; rfl) else by (rw [if_neg e])))⟩
            case round =>
              obtain ⟨k, hk, rfl, HY⟩ := hrel
              by_cases hkl : k < m
              · obtain ⟨x, hx⟩ : ∃ x, nds[k]? = some x := ⟨_, List.getElem?_eq_getElem (by rw [HNL.out]; exact hkl)⟩
                obtain ⟨a2, c9, hsv, _, _, hh⟩ := HY.out.nd
                obtain ⟨b, o, ea, n0, n1, n2, n3⟩ := hh k (dwnN x) (by rw [List.getElem?_map, hx]; rfl)
                obtain ⟨rfl, rfl⟩ : na = a2 ∧ nc = c9 := by cases hsv; exact ⟨rfl, rfl⟩
                subst ea
                have HTK := hidF (mxN_take (j := i) hx)
                have k1 : (0 : Int) ≤ (k : Int) := by omega
                have k2 : (k : Int) < (m : Int) := by omega
                have o1 := HY.out.out.cell hlt
                rw [if_pos rfl] at o1
                have o2 := HY.out.out.frz i
                have o3 := HY.out.out.lt
                obtain ⟨mx, hmx⟩ : ∃ q, mxN (nds.take k) i = q := ⟨_, rfl⟩
                rw [hmx] at o1 HTK
                obtain ⟨xf, xs, xz⟩ := x
                unfold dwnN at n1 n2 n3
                simp only at n1 n2 n3 HTK
                obtain ⟨ff, hff⟩ : ∃ f, xf - 1 = f := ⟨_, rfl⟩
                rw [hff] at n1 HTK
                have HMX := hidF hmx
                clear hh hsv hx hff hmx
                obtain ⟨w8, hw8⟩ : ∃ w8, w8 = wr := ⟨_, rfl⟩
                subst hw8
                by_cases hf : ff = (i : Int)
                · have qf : (ff == (i : Int)) = true := by simp [hf]
                  by_cases hs : xs = 1
                  · have qs : (xs == 1) = true := by simp [hs]
                    rw [if_pos ⟨hf, hs⟩] at HTK
                    have MO := hidF (fun W => most_any mx xz W)
                    have HNX : Hid (QoAt w (w8.drew.setCell ⟨ob, i, none⟩ (.int .i64 (max mx xz))) (some ⟨g, 0, none⟩) (some ⟨b, o, none⟩) g n m nc ob nds (fun j => if j < i then kfx room (R j) else R j) (fun j => if j = i then mxN (nds.take (k + 1)) i else if j < i then ownQ room t1 nds j else 0)) := (HY.out.drew.size i (max mx xz)).congr (fun j _ => rfl) (fun j _ => (if e : j = i then by (rw [if_pos e, if_pos e, HTK.out]) else by (rw [if_neg e, if_neg e, if_neg e])))
                    clear hf hs
                    go_wp2_with fail
                    go_region_with ((go_at_call 47; refine (MO.out _).mono ?_; rintro e w7 ⟨rfl, hw7⟩; rw [hw7]; clear hw7))
                    all_goals
                      go_wp2_with fail
                      go_roundw
                      case rel => go_light; exact ⟨k + 1, by omega, by go_num, HNX.out⟩
                      case measure => simp [intV]; omega
                  · have qs : (xs == 1) = false := by simp [hs]
                    rw [if_neg (fun h => hs h.2)] at HTK
                    clear hf hs
                    go_wp2_with fail
                    go_roundw
                    case rel => go_light; exact ⟨k + 1, by omega, by go_num, HY.out.congr (fun j _ => rfl) (fun j _ => (if e : j = i then by (rw [if_pos e, if_pos e, HTK.out, HMX.out]) else by (rw [if_neg e, if_neg e])))⟩
                    case measure => simp [intV]; omega
                · have qf : (ff == (i : Int)) = false := by simp [hf]
                  rw [if_neg (fun h => hf h.1)] at HTK
                  clear hf
                  go_wp2_with fail
                  go_roundw
                  case rel => go_light; exact ⟨k + 1, by omega, by go_num, HY.out.congr (fun j _ => rfl) (fun j _ => (if e : j = i then by (rw [if_pos e, if_pos e, HTK.out, HMX.out]) else by (rw [if_neg e, if_neg e])))⟩
                  case measure => simp [intV]; omega
              · obtain rfl : k = m := by omega
                have hl2 : ¬ (k : Int) < (k : Int) := by omega
                have HEN : Hid (QoAt w wr (some ⟨g, 0, none⟩) na g n k nc ob nds (fun j => if j < i + 1 then kfx room (R j) else R j) (fun j => if j < i + 1 then ownQ room t1 nds j else 0)) := HY.out.congr (fun j _ => HTX.out j) (fun j _ => by
                  by_cases e : j = i
                  · subst e
                    rw [if_pos rfl, if_pos (by omega), HOW.out, List.take_of_length_le (by rw [HNL.out]; omega)]
                  · by_cases e2 : j < i
                    · rw [if_neg e, if_pos e2, if_pos (by omega)]
                    · rw [if_neg e, if_neg e2, if_neg (by omega)])
                go_wp2_with fail
                go_roundw
                case rel => go_light; exact ⟨i + 1, by omega, by go_num, HEN.out⟩
                case measure => simp [intV]; omega
          · have HOW : Hid (ownQ room t1 nds i = max (heldN tn) 0) := by show _ = _; rw [HOI.out, h]; rfl
            have HH := hidF (qheld_any tn)
            obtain ⟨hv, hhv⟩ : ∃ q, heldN tn = q := ⟨_, rfl⟩
            rw [hhv] at HH HOW
            have MO := hidF (fun W => most_any hv 0 W)
            obtain ⟨hx9, hhx⟩ : ∃ q, max hv 0 = q := ⟨_, rfl⟩
            rw [hhx] at MO HOW
            clear HOI HKI HK0 hB HKF HRI HTI HBA hhv hhx
            subst h
            go_wp2_with (first
              | (go_at_call 31; refine (HH.out _).mono ?_; rintro e w7 ⟨rfl, rfl⟩)
              | (go_at_call 47; refine (MO.out _).mono ?_; rintro e w7 ⟨rfl, rfl⟩))
            go_roundw
            case rel => go_light; exact ⟨i + 1, by omega, by go_num, (HZ.out.size i hx9).congr (fun j _ => HTX.out j) (fun j _ => by
              by_cases e : j = i
              · subst e
                rw [if_pos rfl, if_pos (by omega), HOW.out]
              · by_cases e2 : j < i
                · rw [if_neg e, if_pos e2, if_pos (by omega)]
                · rw [if_neg e, if_neg e2, if_neg (by omega)])⟩
            case measure => simp [intV]; omega
          · have HOW : Hid (ownQ room t1 nds i = room * facN tn / 100000) := by show _ = _; rw [HOI.out, h]; rfl
            have hro : 0 ≤ room := by have := hB.out; omega
            have FA := hidF (qfactor_any tn)
            have fb := facN_bd tn
            obtain ⟨f, hf⟩ : ∃ f, facN tn = f := ⟨_, rfl⟩
            rw [hf] at FA fb HOW
            have hp0 : 0 ≤ room * f := Int.mul_nonneg hro fb.1
            have hp1 : room * f ≤ 20000000000000000 := by
              have : room * f ≤ 16777216 * 1000000000 := Int.le_trans (Int.mul_le_mul_of_nonneg_right r2 fb.1) (Int.mul_le_mul_of_nonneg_left fb.2 (by omega))
              omega
            have DN := hidF (downH_any (room * f) hp0 hp1)
            obtain ⟨dd, hdd⟩ : ∃ q, room * f / 100000 = q := ⟨_, rfl⟩
            rw [hdd] at DN HOW
            clear HOI HKI HK0 hB HKF HRI HTI HBA hf fb hdd
            subst h
            go_wp2_with (first
              | (go_at_call 56; refine (FA.out _).mono ?_; rintro e w7 ⟨rfl, rfl⟩)
              | (go_at_call 41; refine (DN.out _).mono ?_; rintro e w7 ⟨rfl, rfl⟩))
            go_roundw
            case rel => go_light; exact ⟨i + 1, by omega, by go_num, (HZ.out.size i dd).congr (fun j _ => HTX.out j) (fun j _ => by
              by_cases e : j = i
              · subst e
                rw [if_pos rfl, if_pos (by omega), HOW.out]
              · by_cases e2 : j < i
                · rw [if_neg e, if_pos e2, if_pos (by omega)]
                · rw [if_neg e, if_neg e2, if_neg (by omega)])⟩
            case measure => simp [intV]; omega
          · have HOW : Hid (ownQ room t1 nds i = 0) := by show _ = _; rw [HOI.out, h]; rfl
            clear HOI HKI HK0 hB HKF HRI HTI HBA
            subst h
            go_wp2_with fail
            go_roundw
            case rel =>
              go_light
              exact ⟨i + 1, by omega, by go_num, HZ.out.congr (fun j _ => HTX.out j) (fun j _ => by
                by_cases e : j = i
                · subst e
                  rw [if_neg (by omega), if_pos (by omega), HOW.out]
                · by_cases e2 : j < i
                  · rw [if_pos e2, if_pos (by omega)]
                  · rw [if_neg e2, if_neg (by omega)])⟩
            case measure => simp [intV]; omega
      · obtain rfl : i = n := by omega
        have hl2 : ¬ (i : Int) < (i : Int) := by omega
        go_wp2_with fail
        go_meet
        case rel =>
          go_light
          exact HZ.out.congr (fun j hj => by rw [if_pos hj]) (fun j hj => by rw [if_pos hj]; rfl)
  case rest =>
  have HQ := hcut
  obtain ⟨w6, hw6⟩ : ∃ w6, w6 = wc := ⟨_, rfl⟩
  subst hw6
  clear hcut
  have HTK : Hid (TkL w6 (.slice a n cp) ((List.range n).map fun j => kfx room (R j))) := by
    by_cases e : n = 0
    · subst e
      exact ⟨a, cp, by simp, by simp, p4, fun j x hj => by simp at hj⟩
    · obtain ⟨e1, _, _, _, e5⟩ := HQ.out.trk (by omega)
      rw [e1]
      exact e5.reads p3 p4
  have HNO : Hid ((Value.slice a n cp).ownBlock ≠ some ob) := by
    by_cases e : n = 0
    · exact H0.out e
    · obtain ⟨e1, _, e3, _, _⟩ := HQ.out.trk (by omega)
      rw [e1]
      intro h
      cases h
      exact e3 rfl
  have HKK : Hid (∀ j, (t1 j).k = (atT ((List.range n).map fun j => kfx room (R j)) j).k) := fun j => by
    rw [HRR.out j, ← kfx_k]
    unfold atT
    by_cases e : j < n
    · rw [List.getElem?_map, List.getElem?_range e]; rfl
    · rw [List.getElem?_eq_none (by simp; omega), HRO.out j (by omega), kfx_zero]; rfl
  refine (by assumption : ∀ (a : Act) (w : World), Code.wp _ _ _ a w → _) _ _ ?_
  exact qz_span HTK.out (by simp) HQ.out.nd HNL.out HQ.out.out HNO.out HQ.out.no2 HKK.out HRS.out.1 HRS.out.2.1 HRS.out.2.2 HQ.out.below HQ.out.lo hn r1 r2 g1 g2 _ _ _ _ _ _ _ _ _ _ _ _ _ _ _ _ _ _ _ _ _ _ _ _ _ _ _ _ _ _ _ _ _ _ _ _ _ _ _ _ _ _ _ _ _ _ _ _ _ _ _ _ _ _ _ _ _ _ _ _ _ _ _ _ _ _ _ _ _ _ _ _ _ _ _ _ _ _ _ _ _ _ _ _ _ _ _ _ _ _ _ _ _ _ _ _ _ _ _ _ _ _ _ _ _ _ _ _ _ _ _ _ _ _ _ _ _ _ _ _ _ _ _ _ _ _ _ _ _ _ _ _ _ _ _ _ _ _ _ _ _ _ _ _ _ _ _ _ _ _ _ _ _ _ _ _ _ _ _ _ _ _ _ _ _ _ _ _ _ _ _ _ _ _ _ _ _ _ _ _ _ _ _ _ _ _ _ _ _ _ _ _ _ _ _ _ _ _ _ _ _ _ _ _ _ _ _ _ _ _ _ _ _ _ _ _ _ _ _ _ _ _ _ _ _ _ _ _ _ _ _ _ _ _ _ _ _ _ _ _ _ _ _ _ _ _ _ _ _ _ _ _ _ _ _ _ _ _ _ _ _ _ _ _ _ _ _ _ _ _ _ _ _ _ _ _ _ _ _ _ _ _ _ _ _ _ _ _ _ _ _ _ _ _ _ _ _ _ _ _ _ _ _ _ _ _
end Go.Proofs.Ytjdndaeobiagcaa
