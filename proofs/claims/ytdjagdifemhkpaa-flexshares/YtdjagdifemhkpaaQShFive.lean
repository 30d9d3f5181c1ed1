/- The document's Share: what each gains. -/
import Derived.Test.YtdjagdifemhkpaaQShMem
namespace Go.Proofs.Ytdjagdifemhkpaa
open Go.RowKit
set_option linter.unusedVariables false      -- bounds that are for the walk

set_option maxRecDepth 100000 in
def QxFive (Q : Exit → Act → World → Prop) (wl : World) (qs : List Pr) (la : Option Addr) (lc m g1 g2 g3 g4 : Nat) (gw : Bool) (rm z st fr fa wt c am : Int) (u0 u2 u3 u4 u5 u10 u11 u16 u17 u33 u34 u35 u36 u37 u38 u39 u40 u41 u42 u43 u44 u45 u46 u47 u48 u49 u50 u51 u52 u53 u54 u55 u56 u57 u58 u59 u60 u61 u62 u63 u64 u65 u66 u67 u68 u69 u70 u71 u72 u73 u74 u75 u76 u77 u78 u79 u80 u81 u82 u83 u84 u85 u86 u87 u88 u89 u90 u91 u92 u93 u94 u95 u96 u97 u98 u99 u100 u101 u102 u103 u104 u105 u106 u107 u108 u109 u110 u111 u112 u113 u114 u115 u116 u117 u118 u119 u120 u121 u122 u123 u124 u125 u126 u127 u128 u129 u130 u131 u132 u133 u134 u135 u136 u137 u138 u139 u140 u141 u142 u143 u144 u145 u146 u147 u148 u149 u150 u151 u152 u153 u154 u155 u156 : Value) : Prop := ∀ (u6 u23 u25 u28 u29 u30 u31 u32 u157 u158 u159 u160 u161 u162 u163 u164 u165 u166 u167 u168 u169 u170 u171 u172 u173 u174 u175 u176 u177 u178 u179 u180 u181 u182 u183 u184 u185 u186 u187 u188 u189 u190 u191 u192 u193 u194 u195 u196 u197 u198 u199 u200 u201 u202 u203 u204 u205 u206 u207 u208 u209 u210 u211 u212 u213 u214 u215 u216 u217 u218 u219 u220 u221 u222 u223 u224 u225 u226 u227 u228 u229 u230 u231 u232 u233 u234 u235 u236 u237 u238 u239 u240 u241 u242 u243 u244 u245 u246 u247 u248 u249 u250 u251 u252 u253 u254 u255 u256 u257 u258 u259 u260 u261 u262 u263 u264 u265 u266 u267 u268 u269 u270 u271 u272 u273 u274 u275 u276 u277 u278 u279 u280 u281 u282 u283 u284 u285 u286 u287 u288 u289 u290 u291 u292 u293 u294 u295 u296 u297 u298 u299 u300 u301 u302 u303 u304 u305 u306 u307 u308 u309 u310 u311 : Value) (wx : World) (gn : Int), -(m : Int) * 30000000000 ≤ gn → gn ≤ (m : Int) * 30000000000 → gn = movedN (dealtL gw am qs) → QSt wl wx g1 g2 g3 m (atF Pr.size (dealtL gw am qs)) (setB qs) (atF (facP gw) qs) → BlkF wx g4 3 m (fun j => .int .i64 (gainI (dealtL gw am qs) j)) → Q (.exit 8) { tmps := #[u0, .int .i64 rm, u2, u3, u4, u5, u6, .slice la m lc, .int .i64 (m : Int), .int .i64 z, u10, u11, .bool gw, .slice (some ⟨g1, 0, none⟩) m m, .slice (some ⟨g2, 0, none⟩) m m, .slice (some ⟨g3, 0, none⟩) m m, u16, u17, .int .i64 st, .int .i64 fr, .int .i64 fa, .int .i64 wt, .int .i64 c, u23, .int .i64 am, u25, .slice (some ⟨g4, 0, none⟩) m m, .int .i64 gn, u28, u29, u30, u31, u32, u33, u34, u35, u36, u37, u38, u39, u40, u41, u42, u43, u44, u45, u46, u47, u48, u49, u50, u51, u52, u53, u54, u55, u56, u57, u58, u59, u60, u61, u62, u63, u64, u65, u66, u67, u68, u69, u70, u71, u72, u73, u74, u75, u76, u77, u78, u79, u80, u81, u82, u83, u84, u85, u86, u87, u88, u89, u90, u91, u92, u93, u94, u95, u96, u97, u98, u99, u100, u101, u102, u103, u104, u105, u106, u107, u108, u109, u110, u111, u112, u113, u114, u115, u116, u117, u118, u119, u120, u121, u122, u123, u124, u125, u126, u127, u128, u129, u130, u131, u132, u133, u134, u135, u136, u137, u138, u139, u140, u141, u142, u143, u144, u145, u146, u147, u148, u149, u150, u151, u152, u153, u154, u155, u156, u157, u158, u159, u160, u161, u162, u163, u164, u165, u166, u167, u168, u169, u170, u171, u172, u173, u174, u175, u176, u177, u178, u179, u180, u181, u182, u183, u184, u185, u186, u187, u188, u189, u190, u191, u192, u193, u194, u195, u196, u197, u198, u199, u200, u201, u202, u203, u204, u205, u206, u207, u208, u209, u210, u211, u212, u213, u214, u215, u216, u217, u218, u219, u220, u221, u222, u223, u224, u225, u226, u227, u228, u229, u230, u231, u232, u233, u234, u235, u236, u237, u238, u239, u240, u241, u242, u243, u244, u245, u246, u247, u248, u249, u250, u251, u252, u253, u254, u255, u256, u257, u258, u259, u260, u261, u262, u263, u264, u265, u266, u267, u268, u269, u270, u271, u272, u273, u274, u275, u276, u277, u278, u279, u280, u281, u282, u283, u284, u285, u286, u287, u288, u289, u290, u291, u292, u293, u294, u295, u296, u297, u298, u299, u300, u301, u302, u303, u304, u305, u306, u307, u308, u309, u310, u311], defers := [] } wx

set_option maxHeartbeats 8000000 in
set_option maxRecDepth 100000 in
theorem qsh_five {wl w7 : World} {its : List It} {qs : List Pr} {la : Option Addr} {lc m g1 g2 g3 g4 : Nat} {gw : Bool} {rm z st fr fa wt c am : Int} {Q : Exit → Act → World → Prop}
    (hN : its.length = m) (hM : ∀ i ∈ its, 0 ≤ i.mn) (hql : qs.length = m) (hqi : qs.map Pr.i = its) (hqo : StOk qs) (hI : ItemsL wl (.slice la m lc) its)
    (hR : RowOk qs) (am1 : -12400000000 ≤ am) (am2 : am ≤ 12400000000) (hwt : wt = sumO (wtP gw) qs m) (n41 : g4 ≠ g1) (n42 : g4 ≠ g2) (n43 : g4 ≠ g3) (n4l : wl.heap.size ≤ g4)
    (hQ : QSt wl w7 g1 g2 g3 m (atF Pr.size qs) (setB qs) (atF (facP gw) qs)) (hG : BlkF w7 g4 3 m (fun _ => .int .i64 0))
    (u0 u2 u3 u4 u5 u6 u10 u11 u16 u17 u23 u25 u30 u31 u32 u33 u34 u35 u36 u37 u38 u39 u40 u41 u42 u43 u44 u45 u46 u47 u48 u49 u50 u51 u52 u53 u54 u55 u56 u57 u58 u59 u60 u61 u62 u63 u64 u65 u66 u67 u68 u69 u70 u71 u72 u73 u74 u75 u76 u77 u78 u79 u80 u81 u82 u83 u84 u85 u86 u87 u88 u89 u90 u91 u92 u93 u94 u95 u96 u97 u98 u99 u100 u101 u102 u103 u104 u105 u106 u107 u108 u109 u110 u111 u112 u113 u114 u115 u116 u117 u118 u119 u120 u121 u122 u123 u124 u125 u126 u127 u128 u129 u130 u131 u132 u133 u134 u135 u136 u137 u138 u139 u140 u141 u142 u143 u144 u145 u146 u147 u148 u149 u150 u151 u152 u153 u154 u155 u156 u157 u158 u159 u160 u161 u162 u163 u164 u165 u166 u167 u168 u169 u170 u171 u172 u173 u174 u175 u176 u177 u178 u179 u180 u181 u182 u183 u184 u185 u186 u187 u188 u189 u190 u191 u192 u193 u194 u195 u196 u197 u198 u199 u200 u201 u202 u203 u204 u205 u206 u207 u208 u209 u210 u211 u212 u213 u214 u215 u216 u217 u218 u219 u220 u221 u222 u223 u224 u225 u226 u227 u228 u229 u230 u231 u232 u233 u234 u235 u236 u237 u238 u239 u240 u241 u242 u243 u244 u245 u246 u247 u248 u249 u250 u251 u252 u253 u254 u255 u256 u257 u258 u259 u260 u261 u262 u263 u264 u265 u266 u267 u268 u269 u270 u271 u272 u273 u274 u275 u276 u277 u278 u279 u280 u281 u282 u283 u284 u285 u286 u287 u288 u289 u290 u291 u292 u293 u294 u295 u296 u297 u298 u299 u300 u301 u302 u303 u304 u305 u306 u307 u308 u309 u310 u311 : Value) (hexit : QxFive Q wl qs la lc m g1 g2 g3 g4 gw rm z st fr fa wt c am u0 u2 u3 u4 u5 u10 u11 u16 u17 u33 u34 u35 u36 u37 u38 u39 u40 u41 u42 u43 u44 u45 u46 u47 u48 u49 u50 u51 u52 u53 u54 u55 u56 u57 u58 u59 u60 u61 u62 u63 u64 u65 u66 u67 u68 u69 u70 u71 u72 u73 u74 u75 u76 u77 u78 u79 u80 u81 u82 u83 u84 u85 u86 u87 u88 u89 u90 u91 u92 u93 u94 u95 u96 u97 u98 u99 u100 u101 u102 u103 u104 u105 u106 u107 u108 u109 u110 u111 u112 u113 u114 u115 u116 u117 u118 u119 u120 u121 u122 u123 u124 u125 u126 u127 u128 u129 u130 u131 u132 u133 u134 u135 u136 u137 u138 u139 u140 u141 u142 u143 u144 u145 u146 u147 u148 u149 u150 u151 u152 u153 u154 u155 u156) :
    Code.wp Try.prog (inB (restOf 1 (fstOf (restOf 11 (roundS Try.f14))))) Q { tmps := #[u0, .int .i64 rm, u2, u3, u4, u5, u6, .slice la m lc, .int .i64 (m : Int), .int .i64 z, u10, u11, .bool gw, .slice (some ⟨g1, 0, none⟩) m m, .slice (some ⟨g2, 0, none⟩) m m, .slice (some ⟨g3, 0, none⟩) m m, u16, u17, .int .i64 st, .int .i64 fr, .int .i64 fa, .int .i64 wt, .int .i64 c, u23, .int .i64 am, u25, .slice (some ⟨g4, 0, none⟩) m m, .int .i64 0, .int .i64 0, .int .i64 0, u30, u31, u32, u33, u34, u35, u36, u37, u38, u39, u40, u41, u42, u43, u44, u45, u46, u47, u48, u49, u50, u51, u52, u53, u54, u55, u56, u57, u58, u59, u60, u61, u62, u63, u64, u65, u66, u67, u68, u69, u70, u71, u72, u73, u74, u75, u76, u77, u78, u79, u80, u81, u82, u83, u84, u85, u86, u87, u88, u89, u90, u91, u92, u93, u94, u95, u96, u97, u98, u99, u100, u101, u102, u103, u104, u105, u106, u107, u108, u109, u110, u111, u112, u113, u114, u115, u116, u117, u118, u119, u120, u121, u122, u123, u124, u125, u126, u127, u128, u129, u130, u131, u132, u133, u134, u135, u136, u137, u138, u139, u140, u141, u142, u143, u144, u145, u146, u147, u148, u149, u150, u151, u152, u153, u154, u155, u156, u157, u158, u159, u160, u161, u162, u163, u164, u165, u166, u167, u168, u169, u170, u171, u172, u173, u174, u175, u176, u177, u178, u179, u180, u181, u182, u183, u184, u185, u186, u187, u188, u189, u190, u191, u192, u193, u194, u195, u196, u197, u198, u199, u200, u201, u202, u203, u204, u205, u206, u207, u208, u209, u210, u211, u212, u213, u214, u215, u216, u217, u218, u219, u220, u221, u222, u223, u224, u225, u226, u227, u228, u229, u230, u231, u232, u233, u234, u235, u236, u237, u238, u239, u240, u241, u242, u243, u244, u245, u246, u247, u248, u249, u250, u251, u252, u253, u254, u255, u256, u257, u258, u259, u260, u261, u262, u263, u264, u265, u266, u267, u268, u269, u270, u271, u272, u273, u274, u275, u276, u277, u278, u279, u280, u281, u282, u283, u284, u285, u286, u287, u288, u289, u290, u291, u292, u293, u294, u295, u296, u297, u298, u299, u300, u301, u302, u303, u304, u305, u306, u307, u308, u309, u310, u311], defers := [] } w7 := by
  have HN := hidF hN
  have HM := hidF hM
  have HQL := hidF hql
  have HQI := hidF hqi
  have HQO := hidF hqo
  have hm2 : m ≤ 200 := by rw [← hql]; exact hqo.len
  have HIT : Hid (∀ (j : Nat) (p : Pr), qs[j]? = some p → ∃ b o, la = some ⟨b, o, none⟩ ∧ ItAt wl b (o + j * 6) p.i) := by
    obtain ⟨la', lc', e, _, _, hl⟩ := hI
    cases e
    exact fun j p hj => hl j p.i (by rw [← hqi, List.getElem?_map, hj]; rfl)
  clear hN hM hql hqi hqo hI
  refine wp_mono (Q := fun e a w => e = Exit.exit 8 ∧ Q (Exit.exit 8) a w) ?_ (fun e a w h => by obtain ⟨rfl, h⟩ := h; exact h)
  let QD : (Ending → World → Prop) → Exit → Act → World → Prop := bodyPost Try.prog Try.f14
  have HQ7 := hidF hQ
  have BG := hidF hG
  have HRO := hidF hR
  have HWT := hidF hwt
  have HX := hidF hexit
  have WTB := HQO.out.wt gw m (by rw [HQL.out]; exact Nat.le_refl _)
  rw [← HWT.out] at WTB
  obtain ⟨wt1, wt2⟩ := WTB
  obtain ⟨ds, hds⟩ : ∃ d, dealtL gw am qs = d := ⟨_, rfl⟩
  have HDS := hidF hds
  have HDL : Hid (ds.length = m) := by show _ = _; rw [← hds, dealtL_len, HQL.out]
  clear hQ hexit hR hwt hG hds
  conv => arg 2; dsimp only [inB, inLp, fstOf, roundS, restOf, bodyOf, Try.f14]
  conv => arg 4; dsimp only
  go_loopw [27, 28, 29] (fun s27 s28 i wr => ∃ (k : Nat) (gn sm : Int), k ≤ m ∧ i = .int .i64 k ∧ s27 = .int .i64 gn ∧ s28 = .int .i64 sm ∧ -(k : Int) * 30000000000 ≤ gn ∧ gn ≤ (k : Int) * 30000000000 ∧ Hid (gn = sumO Pr.moved ds k ∧ sm = sumO (wtP gw) qs k ∧ QSt wl wr g1 g2 g3 m (fun j => if j < k then atF Pr.size ds j else atF Pr.size qs j) (setB qs) (atF (facP gw) qs) ∧ BlkF wr g4 3 m (fun j => .int .i64 (if j < k then gainI ds j else 0)))) (fun _ _ i _ => m - (intV i).toNat)
  case atStart =>
    refine ⟨0, 0, 0, Nat.zero_le _, rfl, rfl, rfl, by omega, by omega, by simp [sumO], by simp [sumO], HQ7.out.congr (fun j _ => by simp) (fun _ _ => rfl) (fun _ _ => rfl), BG.out.congr (fun j _ => by simp)⟩
  case round =>
    obtain ⟨k, gn, sm, hk, rfl, rfl, rfl, gn1, gn2, HZ⟩ := hrel
    by_cases hlt : k < m
    · obtain ⟨p, hp⟩ : ∃ p, qs[k]? = some p := ⟨_, List.getElem?_eq_getElem (by rw [HQL.out]; exact hlt)⟩
      have hd : ds[k]? = some (dealtAt gw am qs k p) := by rw [← HDS.out]; exact dealtL_at hp
      obtain ⟨b, o, rfl, hit⟩ := HIT.out k p hp
      obtain ⟨x1, x2, x3, x4, x5, x6, x7⟩ := hit.below HZ.out.2.2.1.below
      have hok := HQO.out.ok p (List.mem_of_getElem? hp)
      have hmn : 0 ≤ p.i.mn := HM.out p.i (by rw [← HQI.out]; exact List.mem_map_of_mem (List.mem_of_getElem? hp))
      have d1 := HZ.out.2.2.1.d.cell hlt
      have d2 := HZ.out.2.2.1.d.lt
      rw [setB_at hp] at d1
      have S2 : Hid (sumO (wtP gw) qs (k + 1) = sumO (wtP gw) qs k + if p.settled = true then 0 else wtG gw p.i) := sumO_succ (f := wtP gw) hp
      have S4 := hidF (sumO_succ (f := Pr.moved) hd)
      rw [dealtAt_settled] at S4
      have i1 : (0 : Int) ≤ (k : Int) := by omega
      have i2 : (k : Int) < (m : Int) := by omega
      cases hss : p.settled
      · have hpt := HRO.out.part gw am1 am2 hp hss
        have hhere := HRO.out.here gw hp hss
        rw [HQL.out, ← HWT.out, ← HZ.out.2.1] at hhere
        rw [HQL.out, ← HWT.out, ← HZ.out.2.1] at hpt
        rw [show wtP gw p = wtG gw p.i from rfl] at hhere hpt
        have smb := (HQO.out.wt gw k (by rw [HQL.out]; omega)).1
        rw [← HZ.out.2.1] at smb
        have hb0 := hok.b0
        have hb1 := hok.b1
        have hnd := bndI_27 hok (p.i.b + partN am sm (wtG gw p.i) wt) (by omega) (by omega)
        have FW := hidF (fun W => qweight_any hok gw W)
        have HH := hidF (fun W => qhold_any p.i (p.i.b + partN am sm (wtG gw p.i) wt) hmn W)
        have e1 := HZ.out.2.2.1.f.cell hlt
        have e2 := HZ.out.2.2.1.f.lt
        rw [atF_at hp, show facP gw p = facG gw p.i from rfl] at e1
        have HDE : Hid (dealtAt gw am qs k p = { p with size := bndI p.i (p.i.b + partN am sm (wtG gw p.i) wt), moved := bndI p.i (p.i.b + partN am sm (wtG gw p.i) wt) - p.i.b - partN am sm (wtG gw p.i) wt }) := by
          show _ = _
          unfold dealtAt dealP
          rw [if_neg (by rw [hss]; simp), HQL.out, ← HWT.out, ← HZ.out.2.1]
          rfl
        have wgb := (wtG_bd gw hok).2
        obtain ⟨fc, hfc⟩ : ∃ t, facG gw p.i = t := ⟨_, rfl⟩
        obtain ⟨wg, hwg⟩ : ∃ t, wtG gw p.i = t := ⟨_, rfl⟩
        rw [hwg] at hpt hhere hnd FW HH HDE S2 wgb
        rw [hfc] at FW e1
        obtain ⟨pt, hptn⟩ : ∃ t, partN am sm wg wt = t := ⟨_, rfl⟩
        rw [hptn] at hpt hnd HH HDE
        obtain ⟨nd, hndn⟩ : ∃ t, bndI p.i (p.i.b + pt) = t := ⟨_, rfl⟩
        rw [hndn] at hnd HH HDE
        obtain ⟨pt1, pt2⟩ := hpt
        obtain ⟨hh1, hh2⟩ := hhere
        obtain ⟨nd1, nd2, nd3, nd4⟩ := hnd
        have HPT := hidF hptn
        have HSZ : Hid (atF Pr.size ds k = nd) := by show _ = _; rw [atF_at hd, HDE.out]
        have HGN : Hid (gainI ds k = nd - p.i.b - pt) := by
          show _ = _
          unfold gainI
          rw [setB_at hd, dealtAt_settled, hss, atF_at hd, HDE.out]
          rfl
        rw [HDE.out, hss] at S4
        rw [hss] at S2
        simp only [Bool.false_eq_true, if_false] at S2 S4
        have Y0 : IntKind.i64.wrap (p.i.b + pt) = p.i.b + pt := wrapJ (by omega) (by omega)
        have Y1 : IntKind.i64.wrap (sm + wg) = sm + wg := wrapJ (by omega) (by omega)
        have Y2 : IntKind.i64.wrap (nd - (p.i.b + pt)) = nd - (p.i.b + pt) := wrapJ (by omega) (by omega)
        have Y3 : nd - (p.i.b + pt) = nd - p.i.b - pt := by omega
        have HY3 := hidF Y3
        have gx1 : -(k : Int) * 30000000000 - 30000000000 ≤ gn + (nd - (p.i.b + pt)) := by omega
        have gx2 : gn + (nd - (p.i.b + pt)) ≤ (k : Int) * 30000000000 + 30000000000 := by omega
        have Y4 : IntKind.i64.wrap (gn + (nd - (p.i.b + pt))) = gn + (nd - (p.i.b + pt)) := wrapJ (by omega) (by omega)
        rw [hss] at d1
        clear hp hd hit hok hmn hfc hwg hptn hndn hss Y3
        obtain ⟨⟨xb, xmn, xmx, xar, xgr, xsh⟩, sz, mv, ss⟩ := p
        unfold itV at FW HH
        simp only at x2 x3 x4 x5 x6 x7 FW HH HGN S4 Y0 Y2 Y4 HY3 gx1 gx2 hb0 hb1 nd3 nd4
        obtain ⟨w8, hw8⟩ : ∃ w9, w9 = wr := ⟨_, rfl⟩
        subst hw8
        go_upto_if 226 with fail
        go_cut [28, 30] (fun s28 s30 wx => s28 = .int .i64 (sm + wg) ∧ s30 = .int .i64 (xb + pt) ∧ Hid (Below w8.heap.size w8 wx))
        case first =>
          by_cases hw0 : 0 < wt
          · have P1 := hidF (fun W => qportion_any am sm.toNat wt.toNat (by omega) (by omega) (by omega) (by omega) (by omega) W)
            have P2 := hidF (fun W => qportion_any am (sm + wg).toNat wt.toNat (by omega) (by omega) (by omega) (by omega) (by omega) W)
            rw [show ((sm.toNat : Nat) : Int) = sm by omega, show ((wt.toNat : Nat) : Int) = wt by omega] at P1
            rw [show (((sm + wg).toNat : Nat) : Int) = sm + wg by omega, show ((wt.toNat : Nat) : Int) = wt by omega] at P2
            have pb1 := portion_bd am (sm + wg) wt (by omega) hh2 hw0
            have pb2 := portion_bd am sm wt smb (by omega) hw0
            obtain ⟨q1, hq1⟩ : ∃ t, am * sm / wt = t := ⟨_, rfl⟩
            obtain ⟨q2, hq2⟩ : ∃ t, am * (sm + wg) / wt = t := ⟨_, rfl⟩
            rw [hq1] at P1 pb2
            rw [hq2] at P2 pb1
            have HP3 : Hid (pt = q2 - q1) := by
              show _ = _
              rw [← HPT.out]
              unfold partN
              rw [if_neg (by omega), hq1, hq2]
            obtain ⟨pa1, pa2⟩ := pb1
            obtain ⟨pc1, pc2⟩ := pb2
            have q11 : -13000000000 ≤ q1 := by omega
            have q12 : q1 ≤ 13000000000 := by omega
            have q21 : -13000000000 ≤ q2 := by omega
            have q22 : q2 ≤ 13000000000 := by omega
            clear hq1 hq2 pa1 pa2 pc1 pc2
            go_wp2_with fail
            refine (P1.out _).mono ?_
            rintro e w9 ⟨rfl, hw9⟩
            rw [hw9]
            clear hw9
            go_upto_region 57 with fail
            go_cut [28] (fun s wx => s = .int .i64 (sm + wg) ∧ Hid (Below w8.heap.size w8 wx))
            case first =>
              go_region_held3 (fun wx => wx.cell? ⟨b, o + k * 6, none⟩ = some (.int .i64 xb) ∧ wx.cell? ⟨b, o + k * 6 + 1, none⟩ = some (.int .i64 xmn) ∧ wx.cell? ⟨b, o + k * 6 + 2, none⟩ = some (.int .i64 xmx) ∧ wx.cell? ⟨b, o + k * 6 + 3, none⟩ = some (.int .i64 xar) ∧ wx.cell? ⟨b, o + k * 6 + 4, none⟩ = some (.int .i64 xgr) ∧ wx.cell? ⟨b, o + k * 6 + 5, none⟩ = some (.int .i64 xsh) ∧ wx.cell? ⟨g3, k, none⟩ = some (.int .i64 fc)) (go_keep)
                ((go_at_call 34; refine (FW.out _).mono ?_; rintro e w7 ⟨rfl, hb7⟩
                  have m0 := (hb7.cell (p := ⟨b, o + k * 6, none⟩) x1).trans x2
                  have m1 := (hb7.cell (p := ⟨b, o + k * 6 + 1, none⟩) x1).trans x3
                  have m2 := (hb7.cell (p := ⟨b, o + k * 6 + 2, none⟩) x1).trans x4
                  have m3 := (hb7.cell (p := ⟨b, o + k * 6 + 3, none⟩) x1).trans x5
                  have m4 := (hb7.cell (p := ⟨b, o + k * 6 + 4, none⟩) x1).trans x6
                  have m5 := (hb7.cell (p := ⟨b, o + k * 6 + 5, none⟩) x1).trans x7
                  have m6 := (hb7.cell (p := ⟨g3, k, none⟩) e2).trans e1
                  have B7 := hidF ((Below.refl w8.heap.size w8).drew.trans hb7)
                  clear hb7))
              all_goals
                go_wp2_with fail
                go_meet
                case rel => go_light; exact ⟨rfl, B7.out⟩
            case rest =>
            obtain ⟨rfl, B7⟩ := hcut
            go_wp2_with fail
            refine (P2.out _).mono ?_
            rintro e w9 ⟨rfl, hw9⟩
            rw [hw9]
            clear hw9
            go_wp2_with fail
            go_meet
            case rel => go_light; exact ⟨rfl, by rw [HP3.out]; first | rfl | (congr 1; omega), B7.out⟩
          · obtain rfl : wg = 0 := by omega
            obtain rfl : pt = 0 := by
              rw [← HPT.out]
              unfold partN
              rw [if_pos (by omega)]
            have hw0' : ¬ (0 : Int) < wt := hw0
            go_wp2_with fail
            go_meet
            case rel => go_light; exact ⟨by simp, by simp, Below.refl _ _⟩
        case rest =>
        obtain ⟨rfl, rfl, HB9⟩ := hcut
        have HQ9 := hidF (And.intro (HZ.out.2.2.1.held HB9.out) (HZ.out.2.2.2.held HB9.out))
        have y1 : b < wc.heap.size := Nat.lt_of_lt_of_le x1 HB9.out.size
        have y2 := (HB9.out.cell (p := ⟨b, o + k * 6, none⟩) x1).trans x2
        have y3 := (HB9.out.cell (p := ⟨b, o + k * 6 + 1, none⟩) x1).trans x3
        have y4 := (HB9.out.cell (p := ⟨b, o + k * 6 + 2, none⟩) x1).trans x4
        have y5 := (HB9.out.cell (p := ⟨b, o + k * 6 + 3, none⟩) x1).trans x5
        have y6 := (HB9.out.cell (p := ⟨b, o + k * 6 + 4, none⟩) x1).trans x6
        have y7 := (HB9.out.cell (p := ⟨b, o + k * 6 + 5, none⟩) x1).trans x7
        clear x2 x3 x4 x5 x6 x7 d1 e1
        go_upto_region 59 with fail
        go_cut [] (fun wx => Hid (QSt wl wx g1 g2 g3 m (fun j => if j < k + 1 then atF Pr.size ds j else atF Pr.size qs j) (setB qs) (atF (facP gw) qs) ∧ BlkF wx g4 3 m (fun j => .int .i64 (if j < k then gainI ds j else 0))))
        case first =>
          go_wp2_with fail
          refine (HH.out _).mono ?_
          rintro e w9 ⟨rfl, hb9⟩
          have HR9 := hidF (And.intro (HQ9.out.1.held hb9) (HQ9.out.2.held hb9))
          have o1 := HR9.out.1.o.cell hlt
          have o2 := HR9.out.1.o.lt
          have o3 := HR9.out.1.o.frz k
          clear hb9
          go_wp2_with fail
          go_meet
          case rel =>
            go_light
            refine ⟨(HR9.out.1.setO k nd).congr (fun j hj => ?_) (fun _ _ => rfl) (fun _ _ => rfl), HR9.out.2.other n41 k _⟩
            try simp only
            by_cases e1 : j = k
            · subst e1; rw [if_pos rfl, if_pos (by omega), HSZ.out]
            · rw [if_neg e1]
              by_cases e2 : j < k
              · rw [if_pos e2, if_pos (by omega)]
              · rw [if_neg e2, if_neg (by omega)]
        case rest =>
        have o1 := hcut.out.1.o.cell hlt
        have o2 := hcut.out.1.o.lt
        have o4 := hcut.out.2.cell hlt
        have o5 := hcut.out.2.lt
        have o6 := hcut.out.2.frz k
        have HR := hidF hcut.out
        simp only [show k < k + 1 by omega, if_true, HSZ.out] at o1
        clear hcut y2 y3 y4 y5 y6 y7
        obtain ⟨wd, hwd⟩ : ∃ w9, w9 = wc := ⟨_, rfl⟩
        subst hwd
        go_upto_region 60 with fail
        go_cut [] (fun wx => Hid (QSt wl wx g1 g2 g3 m (fun j => if j < k + 1 then atF Pr.size ds j else atF Pr.size qs j) (setB qs) (atF (facP gw) qs) ∧ BlkF wx g4 3 m (fun j => .int .i64 (if j < k + 1 then gainI ds j else 0))))
        case first =>
          go_wp2_with fail
          go_meet
          case rel =>
            go_light
            refine ⟨⟨HR.out.1.below.setCell n4l _, HR.out.1.lo1, HR.out.1.lo2, HR.out.1.lo3, HR.out.1.ne12, HR.out.1.ne13, HR.out.1.ne23, HR.out.1.o.other (Ne.symm n41) _ _, HR.out.1.d.other (Ne.symm n42) _ _, HR.out.1.f.other (Ne.symm n43) _ _⟩, (HR.out.2.set k _).congr (fun j hj => ?_)⟩
            by_cases e1 : j = k
            · subst e1; rw [if_pos rfl, if_pos (by omega), HGN.out, HY3.out]
            · rw [if_neg e1]
              by_cases e2 : j < k
              · rw [if_pos e2, if_pos (by omega)]
              · rw [if_neg e2, if_neg (by omega)]
        case rest =>
        have o7 := hcut.out.2.cell hlt
        have o8 := hcut.out.2.lt
        simp only [show k < k + 1 by omega, if_true, HGN.out, ← HY3.out] at o7
        have HR2 := hidF hcut.out
        clear hcut o1 o4
        go_wp2_with fail
        go_roundw
        case rel =>
          go_light
          refine ⟨k + 1, _, _, by omega, by go_num, rfl, rfl, by rw [Int.natCast_add]; omega, by rw [Int.natCast_add]; omega, ?_, ?_, HR2.out.1, HR2.out.2⟩
          · rw [S4.out, ← HZ.out.1, HY3.out]
          · rw [S2.out, ← HZ.out.2.1]
        case measure => simp [intV]; omega
      · have HDE : dealtAt gw am qs k p = p := by unfold dealtAt; rw [if_pos hss]
        have HSZ : Hid (atF Pr.size ds k = atF Pr.size qs k) := by show _ = _; rw [atF_at hd, HDE, atF_at hp]
        have HGN : Hid (gainI ds k = 0) := by
          show _ = _
          unfold gainI
          rw [setB_at hd, dealtAt_settled, hss]
          rfl
        rw [hss] at S2 S4
        simp only [if_true, Int.add_zero] at S2 S4
        rw [hss] at d1
        clear hp hd hit hok hmn hss HDE x2 x3 x4 x5 x6 x7
        go_wp2_with fail
        go_roundw
        case rel =>
          go_light
          refine ⟨k + 1, _, _, by omega, by go_num, rfl, rfl, by rw [Int.natCast_add]; omega, by rw [Int.natCast_add]; omega, by rw [S4.out, HZ.out.1], by rw [S2.out, HZ.out.2.1], HZ.out.2.2.1.congr (fun j hj => ?_) (fun _ _ => rfl) (fun _ _ => rfl), HZ.out.2.2.2.congr (fun j hj => ?_)⟩
          · by_cases e1 : j = k
            · subst e1; rw [if_neg (by omega), if_pos (by omega), HSZ.out]
            · by_cases e2 : j < k
              · rw [if_pos e2, if_pos (by omega)]
              · rw [if_neg e2, if_neg (by omega)]
          · by_cases e1 : j = k
            · subst e1; rw [if_neg (by omega), if_pos (by omega), HGN.out]
            · by_cases e2 : j < k
              · rw [if_pos e2, if_pos (by omega)]
              · rw [if_neg e2, if_neg (by omega)]
        case measure => simp [intV]; omega
    · obtain rfl : k = m := by omega
      have hl2 : ¬ (k : Int) < (k : Int) := by omega
      go_wp2_with fail

      refine HX.out _ _ _ _ _ _ _ _ _ _ _ _ _ _ _ _ _ _ _ _ _ _ _ _ _ _ _ _ _ _ _ _ _ _ _ _ _ _ _ _ _ _ _ _ _ _ _ _ _ _ _ _ _ _ _ _ _ _ _ _ _ _ _ _ _ _ _ _ _ _ _ _ _ _ _ _ _ _ _ _ _ _ _ _ _ _ _ _ _ _ _ _ _ _ _ _ _ _ _ _ _ _ _ _ _ _ _ _ _ _ _ _ _ _ _ _ _ _ _ _ _ _ _ _ _ _ _ _ _ _ _ _ _ _ _ _ _ _ _ _ _ _ _ _ _ _ _ _ _ _ _ _ _ _ _ _ _ _ _ _ _ _ _ _ _ gn1 gn2 ?_ ?_ ?_
      · rw [HDS.out]
        unfold movedN
        rw [HDL.out]
        exact HZ.out.1
      · rw [HDS.out]
        exact HZ.out.2.2.1.congr (fun j hj => by simp [hj]) (fun _ _ => rfl) (fun _ _ => rfl)
      · rw [HDS.out]
        exact HZ.out.2.2.2.congr (fun j hj => by simp [hj])
end Go.Proofs.Ytdjagdifemhkpaa
