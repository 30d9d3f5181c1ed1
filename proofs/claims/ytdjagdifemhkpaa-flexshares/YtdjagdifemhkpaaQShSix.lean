/- The document's Share: who is settled. -/
import Derived.Test.YtdjagdifemhkpaaQShMem
namespace Go.Proofs.Ytdjagdifemhkpaa
open Go.RowKit
set_option linter.unusedVariables false      -- bounds that are for the walk

set_option maxRecDepth 100000 in
def QxSix (Q : Exit → Act → World → Prop) (wl w0 : World) (its : List It) (fin : List Pr) (la : Option Addr) (lc k g1 g2 g3 : Nat) (gw : Bool) (rm z rz st fr : Int) (u0 u2 u3 u4 u5 u10 u11 u16 u17 u33 u34 u35 u36 u37 u38 u39 u40 u41 u42 u43 u44 u45 u46 u47 u48 u49 u50 u51 u52 u53 u54 u55 u56 u57 u58 u59 u60 u61 u62 u63 u64 u65 u66 u67 u68 u69 u70 u71 u72 u73 u74 u75 u76 u77 u78 u79 u80 u81 u82 u83 u84 u85 u86 u87 u88 u89 u90 u91 u92 u93 u94 u95 u96 u97 u98 u99 u100 u101 u102 u103 u104 u105 u106 u107 u108 u109 u110 u111 u112 u113 u114 u115 u116 u117 u118 u119 u120 u121 u122 u123 u124 u125 u126 u127 u128 u129 u130 u131 u132 u133 u134 u135 u136 u137 u138 u139 u140 u141 u142 u143 u144 u145 u146 u147 u148 u149 u150 u151 u152 u153 u154 u155 u156 : Value) : Prop := ∀ (u6 u20 u21 u22 u23 u24 u25 u26 u27 u28 u29 u30 u31 u32 u157 u158 u159 u160 u161 u162 u163 u164 u165 u166 u167 u168 u169 u170 u171 u172 u173 u174 u175 u176 u177 u178 u179 u180 u181 u182 u183 u184 u185 u186 u187 u188 u189 u190 u191 u192 u193 u194 u195 u196 u197 u198 u199 u200 u201 u202 u203 u204 u205 u206 u207 u208 u209 u210 u211 u212 u213 u214 u215 u216 u217 u218 u219 u220 u221 u222 u223 u224 u225 u226 u227 u228 u229 u230 u231 u232 u233 u234 u235 u236 u237 u238 u239 u240 u241 u242 u243 u244 u245 u246 u247 u248 u249 u250 u251 u252 u253 u254 u255 u256 u257 u258 u259 u260 u261 u262 u263 u264 u265 u266 u267 u268 u269 u270 u271 u272 u273 u274 u275 u276 u277 u278 u279 u280 u281 u282 u283 u284 u285 u286 u287 u288 u289 u290 u291 u292 u293 u294 u295 u296 u297 u298 u299 u300 u301 u302 u303 u304 u305 u306 u307 u308 u309 u310 u311 : Value) (wx : World), QInv wl wx g1 g2 g3 k gw rz st its fin → openW wx g2 k < openW w0 g2 k → Q (.exit 10) { tmps := #[u0, .int .i64 rm, u2, u3, u4, u5, u6, .slice la k lc, .int .i64 (k : Int), .int .i64 z, u10, u11, .bool gw, .slice (some ⟨g1, 0, none⟩) k k, .slice (some ⟨g2, 0, none⟩) k k, .slice (some ⟨g3, 0, none⟩) k k, u16, u17, .int .i64 st, .int .i64 fr, u20, u21, u22, u23, u24, u25, u26, u27, u28, u29, u30, u31, u32, u33, u34, u35, u36, u37, u38, u39, u40, u41, u42, u43, u44, u45, u46, u47, u48, u49, u50, u51, u52, u53, u54, u55, u56, u57, u58, u59, u60, u61, u62, u63, u64, u65, u66, u67, u68, u69, u70, u71, u72, u73, u74, u75, u76, u77, u78, u79, u80, u81, u82, u83, u84, u85, u86, u87, u88, u89, u90, u91, u92, u93, u94, u95, u96, u97, u98, u99, u100, u101, u102, u103, u104, u105, u106, u107, u108, u109, u110, u111, u112, u113, u114, u115, u116, u117, u118, u119, u120, u121, u122, u123, u124, u125, u126, u127, u128, u129, u130, u131, u132, u133, u134, u135, u136, u137, u138, u139, u140, u141, u142, u143, u144, u145, u146, u147, u148, u149, u150, u151, u152, u153, u154, u155, u156, u157, u158, u159, u160, u161, u162, u163, u164, u165, u166, u167, u168, u169, u170, u171, u172, u173, u174, u175, u176, u177, u178, u179, u180, u181, u182, u183, u184, u185, u186, u187, u188, u189, u190, u191, u192, u193, u194, u195, u196, u197, u198, u199, u200, u201, u202, u203, u204, u205, u206, u207, u208, u209, u210, u211, u212, u213, u214, u215, u216, u217, u218, u219, u220, u221, u222, u223, u224, u225, u226, u227, u228, u229, u230, u231, u232, u233, u234, u235, u236, u237, u238, u239, u240, u241, u242, u243, u244, u245, u246, u247, u248, u249, u250, u251, u252, u253, u254, u255, u256, u257, u258, u259, u260, u261, u262, u263, u264, u265, u266, u267, u268, u269, u270, u271, u272, u273, u274, u275, u276, u277, u278, u279, u280, u281, u282, u283, u284, u285, u286, u287, u288, u289, u290, u291, u292, u293, u294, u295, u296, u297, u298, u299, u300, u301, u302, u303, u304, u305, u306, u307, u308, u309, u310, u311], defers := [] } wx

set_option maxHeartbeats 8000000 in
set_option maxRecDepth 100000 in
theorem qsh_six {wl w0 w9 : World} {its : List It} {qs ds fin : List Pr} {la : Option Addr} {lc k g1 g2 g3 g4 fu : Nat} {gw : Bool} {rm z rz st fr am gn : Int} {Q : Exit → Act → World → Prop}
    (hN : its.length = k) (hM : ∀ i ∈ its, 0 ≤ i.mn) (hql : qs.length = k) (hqi : qs.map Pr.i = its) (hqo : StOk qs) (hI : ItemsL wl (.slice la k lc) its)
    (hR : RowOk qs) (rz1 : -8000000000 ≤ rz) (rz2 : rz ≤ 8000000000) (ham : amountP gw rz st qs = am) (hds : dealtL gw am qs = ds) (hmv : gn = movedN ds) (gn1 : -(k : Int) * 30000000000 ≤ gn) (gn2 : gn ≤ (k : Int) * 30000000000) (n41 : g4 ≠ g1) (n42 : g4 ≠ g2) (n43 : g4 ≠ g3) (n4l : wl.heap.size ≤ g4)
    (hop : openL qs ≠ []) (hfu : (openL qs).length ≤ fu) (hfin : shareL gw rz st fu qs = fin) (how : openW w0 g2 k = (openL qs).length)
    (hQ : QSt wl w9 g1 g2 g3 k (atF Pr.size ds) (setB qs) (atF (facP gw) qs)) (hG : BlkF w9 g4 3 k (fun j => .int .i64 (gainI ds j)))
    (u0 u2 u3 u4 u5 u6 u10 u11 u16 u17 u20 u21 u22 u23 u24 u25 u28 u29 u30 u31 u33 u34 u35 u36 u37 u38 u39 u40 u41 u42 u43 u44 u45 u46 u47 u48 u49 u50 u51 u52 u53 u54 u55 u56 u57 u58 u59 u60 u61 u62 u63 u64 u65 u66 u67 u68 u69 u70 u71 u72 u73 u74 u75 u76 u77 u78 u79 u80 u81 u82 u83 u84 u85 u86 u87 u88 u89 u90 u91 u92 u93 u94 u95 u96 u97 u98 u99 u100 u101 u102 u103 u104 u105 u106 u107 u108 u109 u110 u111 u112 u113 u114 u115 u116 u117 u118 u119 u120 u121 u122 u123 u124 u125 u126 u127 u128 u129 u130 u131 u132 u133 u134 u135 u136 u137 u138 u139 u140 u141 u142 u143 u144 u145 u146 u147 u148 u149 u150 u151 u152 u153 u154 u155 u156 u157 u158 u159 u160 u161 u162 u163 u164 u165 u166 u167 u168 u169 u170 u171 u172 u173 u174 u175 u176 u177 u178 u179 u180 u181 u182 u183 u184 u185 u186 u187 u188 u189 u190 u191 u192 u193 u194 u195 u196 u197 u198 u199 u200 u201 u202 u203 u204 u205 u206 u207 u208 u209 u210 u211 u212 u213 u214 u215 u216 u217 u218 u219 u220 u221 u222 u223 u224 u225 u226 u227 u228 u229 u230 u231 u232 u233 u234 u235 u236 u237 u238 u239 u240 u241 u242 u243 u244 u245 u246 u247 u248 u249 u250 u251 u252 u253 u254 u255 u256 u257 u258 u259 u260 u261 u262 u263 u264 u265 u266 u267 u268 u269 u270 u271 u272 u273 u274 u275 u276 u277 u278 u279 u280 u281 u282 u283 u284 u285 u286 u287 u288 u289 u290 u291 u292 u293 u294 u295 u296 u297 u298 u299 u300 u301 u302 u303 u304 u305 u306 u307 u308 u309 u310 u311 : Value) (hexit : QxSix Q wl w0 its fin la lc k g1 g2 g3 gw rm z rz st fr u0 u2 u3 u4 u5 u10 u11 u16 u17 u33 u34 u35 u36 u37 u38 u39 u40 u41 u42 u43 u44 u45 u46 u47 u48 u49 u50 u51 u52 u53 u54 u55 u56 u57 u58 u59 u60 u61 u62 u63 u64 u65 u66 u67 u68 u69 u70 u71 u72 u73 u74 u75 u76 u77 u78 u79 u80 u81 u82 u83 u84 u85 u86 u87 u88 u89 u90 u91 u92 u93 u94 u95 u96 u97 u98 u99 u100 u101 u102 u103 u104 u105 u106 u107 u108 u109 u110 u111 u112 u113 u114 u115 u116 u117 u118 u119 u120 u121 u122 u123 u124 u125 u126 u127 u128 u129 u130 u131 u132 u133 u134 u135 u136 u137 u138 u139 u140 u141 u142 u143 u144 u145 u146 u147 u148 u149 u150 u151 u152 u153 u154 u155 u156) :
    Code.wp Try.prog (inB (restOf 1 (restOf 12 (roundS Try.f14)))) Q { tmps := #[u0, .int .i64 rm, u2, u3, u4, u5, u6, .slice la k lc, .int .i64 (k : Int), .int .i64 z, u10, u11, .bool gw, .slice (some ⟨g1, 0, none⟩) k k, .slice (some ⟨g2, 0, none⟩) k k, .slice (some ⟨g3, 0, none⟩) k k, u16, u17, .int .i64 st, .int .i64 fr, u20, u21, u22, u23, u24, u25, .slice (some ⟨g4, 0, none⟩) k k, .int .i64 gn, u28, u29, u30, u31, .int .i64 0, u33, u34, u35, u36, u37, u38, u39, u40, u41, u42, u43, u44, u45, u46, u47, u48, u49, u50, u51, u52, u53, u54, u55, u56, u57, u58, u59, u60, u61, u62, u63, u64, u65, u66, u67, u68, u69, u70, u71, u72, u73, u74, u75, u76, u77, u78, u79, u80, u81, u82, u83, u84, u85, u86, u87, u88, u89, u90, u91, u92, u93, u94, u95, u96, u97, u98, u99, u100, u101, u102, u103, u104, u105, u106, u107, u108, u109, u110, u111, u112, u113, u114, u115, u116, u117, u118, u119, u120, u121, u122, u123, u124, u125, u126, u127, u128, u129, u130, u131, u132, u133, u134, u135, u136, u137, u138, u139, u140, u141, u142, u143, u144, u145, u146, u147, u148, u149, u150, u151, u152, u153, u154, u155, u156, u157, u158, u159, u160, u161, u162, u163, u164, u165, u166, u167, u168, u169, u170, u171, u172, u173, u174, u175, u176, u177, u178, u179, u180, u181, u182, u183, u184, u185, u186, u187, u188, u189, u190, u191, u192, u193, u194, u195, u196, u197, u198, u199, u200, u201, u202, u203, u204, u205, u206, u207, u208, u209, u210, u211, u212, u213, u214, u215, u216, u217, u218, u219, u220, u221, u222, u223, u224, u225, u226, u227, u228, u229, u230, u231, u232, u233, u234, u235, u236, u237, u238, u239, u240, u241, u242, u243, u244, u245, u246, u247, u248, u249, u250, u251, u252, u253, u254, u255, u256, u257, u258, u259, u260, u261, u262, u263, u264, u265, u266, u267, u268, u269, u270, u271, u272, u273, u274, u275, u276, u277, u278, u279, u280, u281, u282, u283, u284, u285, u286, u287, u288, u289, u290, u291, u292, u293, u294, u295, u296, u297, u298, u299, u300, u301, u302, u303, u304, u305, u306, u307, u308, u309, u310, u311], defers := [] } w9 := by
  have HN := hidF hN
  have HM := hidF hM
  have HQL := hidF hql
  have HQI := hidF hqi
  have HQO := hidF hqo
  have hm2 : k ≤ 200 := by rw [← hql]; exact hqo.len
  have HIT : Hid (∀ (j : Nat) (p : Pr), qs[j]? = some p → ∃ b o, la = some ⟨b, o, none⟩ ∧ ItAt wl b (o + j * 6) p.i) := by
    obtain ⟨la', lc', e, _, _, hl⟩ := hI
    cases e
    exact fun j p hj => hl j p.i (by rw [← hqi, List.getElem?_map, hj]; rfl)
  clear hN hM hql hqi hqo hI
  refine wp_mono (Q := fun e a w => e = Exit.exit 10 ∧ Q (Exit.exit 10) a w) ?_ (fun e a w h => by obtain ⟨rfl, h⟩ := h; exact h)
  let QD : (Ending → World → Prop) → Exit → Act → World → Prop := bodyPost Try.prog Try.f14
  have HQX := hidF (And.intro hQ hG)
  have HRO := hidF hR
  have HAMP := hidF ham
  have HDS := hidF hds
  have HMV := hidF hmv
  have HDL : Hid (ds.length = k) := by show _ = _; rw [← hds, dealtL_len, HQL.out]
  have HOP := hidF hop
  have HFU := hidF (And.intro hfu hfin)
  have OW := hidF how
  have HX := hidF hexit
  obtain ⟨rs, hrs⟩ : ∃ r, roundN gw rz st qs = r := ⟨_, rfl⟩
  have HRS : Hid (∀ j p, qs[j]? = some p → rs[j]? = some (settleP gn (dealtAt gw am qs j p)) ∧ ds[j]? = some (dealtAt gw am qs j p)) := by
    intro j p hj
    have hd : ds[j]? = some (dealtAt gw am qs j p) := by rw [← HDS.out]; exact dealtL_at hj
    refine ⟨?_, hd⟩
    rw [← hrs]
    unfold roundN
    rw [HAMP.out, HDS.out, ← HMV.out, List.getElem?_map, hd]
    rfl
  have HRR := hidF hrs
  clear hQ hexit hR hG hds ham hmv hop hfu hfin how hrs
  conv => arg 2; dsimp only [inB, inLp, fstOf, roundS, restOf, bodyOf, Try.f14]
  conv => arg 4; dsimp only
  go_loopw [32] (fun i wr => ∃ (j : Nat), j ≤ k ∧ i = .int .i64 j ∧ Hid (QSt wl wr g1 g2 g3 k (atF Pr.size ds) (fun t => if t < j then setB rs t else setB qs t) (atF (facP gw) qs) ∧ BlkF wr g4 3 k (fun t => .int .i64 (gainI ds t)))) (fun i _ => k - (intV i).toNat)
  case atStart => exact ⟨0, Nat.zero_le _, rfl, HQX.out.1.congr (fun _ _ => rfl) (fun j _ => by simp) (fun _ _ => rfl), HQX.out.2⟩
  case round =>
    obtain ⟨j, hj, rfl, HZ⟩ := hrel
    by_cases hlt : j < k
    · obtain ⟨p, hp⟩ : ∃ p, qs[j]? = some p := ⟨_, List.getElem?_eq_getElem (by rw [HQL.out]; exact hlt)⟩
      obtain ⟨hr, hd⟩ := HRS.out j p hp
      have d1 := HZ.out.1.d.cell hlt
      have d2 := HZ.out.1.d.lt
      have d3 := HZ.out.1.d.frz j
      have g5 := HZ.out.2.cell hlt
      have g6 := HZ.out.2.lt
      simp only [Nat.lt_irrefl, if_false] at d1
      rw [setB_at hp] at d1
      have i1 : (0 : Int) ≤ (j : Int) := by omega
      have i2 : (j : Int) < (k : Int) := by omega
      have HNX : Hid (∀ (x : Bool), setB rs j = x → QSt wl (wr.setCell ⟨g2, j, none⟩ (.bool x)) g1 g2 g3 k (atF Pr.size ds) (fun t => if t < j + 1 then setB rs t else setB qs t) (atF (facP gw) qs) ∧ BlkF (wr.setCell ⟨g2, j, none⟩ (.bool x)) g4 3 k (fun t => .int .i64 (gainI ds t))) := by
        intro x hx
        refine ⟨(HZ.out.1.setD j x).congr (fun _ _ => rfl) (fun t ht => ?_) (fun _ _ => rfl), HZ.out.2.other n42 _ _⟩
        by_cases e1 : t = j
        · subst e1; rw [if_pos rfl, if_pos (by omega), hx]
        · rw [if_neg e1]
          by_cases e2 : t < j
          · rw [if_pos e2, if_pos (by omega)]
          · rw [if_neg e2, if_neg (by omega)]
      cases hss : p.settled
      · have HX : Hid (setB rs j = settledP gn (dealtAt gw am qs j p)) := by
          show _ = _
          rw [setB_at hr]
          unfold settleP
          rw [if_neg (by rw [dealtAt_settled, hss]; simp)]
        have hgi : gainI ds j = (dealtAt gw am qs j p).moved := by
          unfold gainI
          rw [setB_at hd, dealtAt_settled, hss, atF_at hd]; rfl
        unfold settledP at HX
        obtain ⟨gi, hgi2⟩ : ∃ t, (dealtAt gw am qs j p).moved = t := ⟨_, rfl⟩
        rw [hgi2] at hgi HX
        rw [hgi] at g5
        rw [hss] at d1
        clear hp hr hd hss hgi hgi2
        by_cases hz : gn = 0
        · have HX2 := hidF (HNX.out true (by rw [HX.out]; simp [hz]))
          have hz' : (gn == 0) = true := by simpa using hz
          clear hz
          go_wp2_with fail
          go_roundw
          case rel => go_light; exact ⟨j + 1, by omega, by go_num, HX2.out.1, HX2.out.2⟩
          case measure => simp [intV]; omega
        · have hz' : (gn == 0) = false := by simpa using hz
          rcases Int.lt_or_le 0 gn with hp0 | hp0
          · by_cases hq0 : 0 < gi
            · have HX2 := hidF (HNX.out true (by rw [HX.out, sgnN_eq.2 (show (gi < 0 ↔ gn < 0) ∧ (0 < gi ↔ 0 < gn) by omega)]; simp))
              clear hz
              go_wp2_with fail
              go_roundw
              case rel => go_light; exact ⟨j + 1, by omega, by go_num, HX2.out.1, HX2.out.2⟩
              case measure => simp [intV]; omega
            · have HX2 := hidF (HNX.out false (by rw [HX.out]; simp only [hz, decide_false, Bool.false_or, decide_eq_false_iff_not, sgnN_eq]; omega))
              have hp1 : ¬ gn < 0 := by omega
              clear hz
              go_wp2_with fail
              go_roundw
              case rel => go_light; exact ⟨j + 1, by omega, by go_num, HX2.out.1, HX2.out.2⟩
              case measure => simp [intV]; omega
          · have hp2 : gn < 0 := by omega
            have hp3 : ¬ 0 < gn := by omega
            by_cases hq0 : gi < 0
            · have HX2 := hidF (HNX.out true (by rw [HX.out, sgnN_eq.2 (show (gi < 0 ↔ gn < 0) ∧ (0 < gi ↔ 0 < gn) by omega)]; simp))
              clear hz
              go_wp2_with fail
              go_roundw
              case rel => go_light; exact ⟨j + 1, by omega, by go_num, HX2.out.1, HX2.out.2⟩
              case measure => simp [intV]; omega
            · have HX2 := hidF (HNX.out false (by rw [HX.out]; simp only [hz, decide_false, Bool.false_or, decide_eq_false_iff_not, sgnN_eq]; omega))
              clear hz
              go_wp2_with fail
              go_roundw
              case rel => go_light; exact ⟨j + 1, by omega, by go_num, HX2.out.1, HX2.out.2⟩
              case measure => simp [intV]; omega
      · have HX : Hid (setB rs j = setB qs j) := by
          show _ = _
          rw [setB_at hr, setB_at hp]
          unfold settleP
          rw [if_pos (by rw [dealtAt_settled, hss]), dealtAt_settled]
        rw [hss] at d1
        clear hp hr hd hss HNX
        go_wp2_with fail
        go_roundw
        case rel =>
          go_light
          refine ⟨j + 1, by omega, by go_num, HZ.out.1.congr (fun _ _ => rfl) (fun t ht => ?_) (fun _ _ => rfl), HZ.out.2⟩
          by_cases e1 : t = j
          · subst e1; rw [if_neg (by omega), if_pos (by omega), HX.out]
          · by_cases e2 : t < j
            · rw [if_pos e2, if_pos (by omega)]
            · rw [if_neg e2, if_neg (by omega)]
        case measure => simp [intV]; omega
    · obtain rfl : j = k := by omega
      have hl4 : ¬ (j : Int) < (j : Int) := by omega
      have HRL : Hid (rs.length = j) := by show _ = _; rw [← HRR.out, roundN_len, HQL.out]
      have HFIN : Hid (QInv wl wr g1 g2 g3 j gw rz st its fin ∧ openW wr g2 j < openW w0 g2 j) := by
        have hst : StOk rs := by rw [← HRR.out]; exact round_st HRO.out gw rz st (by omega) (by omega)
        have hat : ∀ t, t < j → ∃ p, qs[t]? = some p ∧ rs[t]? = some (settleP gn (dealtAt gw am qs t p)) ∧ ds[t]? = some (dealtAt gw am qs t p) := fun t ht => by
          obtain ⟨p, hp⟩ : ∃ p, qs[t]? = some p := ⟨_, List.getElem?_eq_getElem (by rw [HQL.out]; exact ht)⟩
          exact ⟨p, hp, HRS.out t p hp⟩
        have hsi : ∀ mv p, (settleP mv p).i = p.i := fun mv p => by unfold settleP; split <;> rfl
        have hss : ∀ mv p, (settleP mv p).size = p.size := fun mv p => by unfold settleP; split <;> rfl
        have hq2 : QSt wl wr g1 g2 g3 j (atF Pr.size rs) (setB rs) (atF (facP gw) rs) := by
          refine HZ.out.1.congr (fun t ht => ?_) (fun t ht => by simp [ht]) (fun t ht => ?_)
          · obtain ⟨p, h1, h2, h3⟩ := hat t ht
            rw [atF_at h3, atF_at h2, hss]
          · obtain ⟨p, h1, h2, h3⟩ := hat t ht
            rw [atF_at h1, atF_at h2]
            unfold facP
            rw [hsi, dealtAt_i]
        have hri : rs.map Pr.i = its := by
          rw [← HQI.out]
          apply List.ext_getElem?
          intro t
          rw [List.getElem?_map, List.getElem?_map]
          by_cases ht : t < j
          · obtain ⟨p, h1, h2, h3⟩ := hat t ht
            rw [h1, h2]
            simp only [Option.map_some]
            rw [hsi, dealtAt_i]
          · rw [List.getElem?_eq_none (by rw [HRL.out]; omega), List.getElem?_eq_none (by rw [HQL.out]; omega)]
        obtain ⟨f2, hf2, e2⟩ := shareL_step (grow := gw) (room := rz) (start := st) HOP.out HFU.out.1
        rw [HRR.out] at hf2 e2
        refine ⟨⟨rs, hq2, hri, hst, f2, hf2, by rw [← e2]; exact HFU.out.2⟩, ?_⟩
        rw [OW.out, openW_eq hq2.d HRL.out, ← HRR.out]
        exact round_less gw rz st HOP.out
      go_wp2_with fail

      exact HX.out _ _ _ _ _ _ _ _ _ _ _ _ _ _ _ _ _ _ _ _ _ _ _ _ _ _ _ _ _ _ _ _ _ _ _ _ _ _ _ _ _ _ _ _ _ _ _ _ _ _ _ _ _ _ _ _ _ _ _ _ _ _ _ _ _ _ _ _ _ _ _ _ _ _ _ _ _ _ _ _ _ _ _ _ _ _ _ _ _ _ _ _ _ _ _ _ _ _ _ _ _ _ _ _ _ _ _ _ _ _ _ _ _ _ _ _ _ _ _ _ _ _ _ _ _ _ _ _ _ _ _ _ _ _ _ _ _ _ _ _ _ _ _ _ _ _ _ _ _ _ _ _ _ _ _ _ _ _ _ _ _ _ _ _ _ _ _ _ _ _ HFIN.out.1 HFIN.out.2
end Go.Proofs.Ytdjagdifemhkpaa
