/- The document's SizeTracks: needs that count, and tracks for them. -/
import Derived.Test.YtjdndaeobiagcaaQzTw
namespace Go.Proofs.Ytjdndaeobiagcaa
open Go.RowKit
set_option linter.unusedVariables false      -- bounds that are for the walk

theorem Try.infoQt : (Try.prog.info? 56).map (fun i => (i.zero, i.size, i.bytes)) = some (some (.agg #[.int .i64 0, .int .i64 0]), 2, 16) := by kernel_rfl
theorem Try.infoQn : (Try.prog.info? 59).map (fun i => (i.zero, i.size, i.bytes)) = some (some (.agg #[.int .i64 0, .int .i64 0, .int .i64 0]), 3, 24) := by kernel_rfl
set_option maxHeartbeats 16000000 in
set_option maxRecDepth 100000 in
theorem qz_needs {w wl : World} {l : List Tr2} {ns : List Nd3} {lv : Value} {na : Option Addr} {nn nc : Nat} {room gap : Int} (hB : Below w.heap.size w wl) (hrow : wl.ownsRow w.heap.size 56 2 lv (l.take 20).length (trsC (l.take 20))) (hN : NsL w (.slice na nn nc) ns) (hnn : ns.length = nn) (h60 : nn ≤ 60) (r1 : -16777216 ≤ room) (r2 : room ≤ 16777216) (g1 : -16777216 ≤ gap) (g2 : gap ≤ 16777216)
    (u0 u4 u5 u6 u7 u8 u10 u12 u13 u14 u15 u16 u17 u18 u19 u20 u21 u22 u23 u24 u25 u26 u27 u28 u29 u30 u31 u32 u33 u34 u35 u36 u37 u38 u39 u40 u41 u42 u43 u44 u45 u46 u47 u48 u49 u50 u51 u52 u53 u54 u55 u56 u57 u58 u59 u60 u61 u62 u63 u64 u65 u66 u67 u68 u69 u70 u71 u72 u73 u74 u75 u76 u77 u78 u79 u80 u81 u82 u83 u84 u85 u86 u87 u88 u89 u90 u91 u92 u93 u94 u95 u96 u97 u98 u99 u100 u101 u102 u103 u104 u105 u106 u107 u108 u109 u110 u111 u112 u113 u114 u115 u116 u117 u118 u119 u120 u121 u122 u123 u124 u125 u126 u127 u128 u129 u130 u131 u132 u133 u134 u135 u136 u137 u138 u139 u140 u141 u142 u143 u144 u145 u146 u147 u148 u149 u150 u151 u152 u153 u154 u155 u156 u157 u158 u159 u160 u161 u162 u163 u164 u165 u166 u167 u168 u169 u170 u171 u172 u173 u174 u175 u176 u177 u178 u179 u180 u181 u182 u183 u184 u185 u186 u187 u188 u189 u190 u191 u192 u193 u194 u195 u196 u197 u198 u199 u200 u201 u202 u203 u204 u205 u206 u207 u208 u209 u210 u211 u212 u213 u214 u215 u216 u217 u218 u219 u220 u221 u222 u223 u224 u225 u226 u227 u228 u229 u230 u231 u232 u233 u234 u235 u236 u237 u238 u239 u240 u241 u242 u243 u244 u245 u246 u247 u248 u249 u250 u251 u252 u253 u254 u255 u256 u257 u258 u259 u260 u261 u262 u263 u264 u265 u266 u267 u268 u269 u270 u271 u272 u273 u274 u275 u276 u277 u278 u279 u280 u281 u282 u283 u284 u285 u286 u287 u288 u289 u290 u291 u292 u293 u294 u295 u296 u297 u298 u299 u300 u301 u302 u303 u304 u305 u306 u307 u308 u309 u310 : Value) :
    Code.wp Try.prog (restG 6 (bodyG Try.f23)) (bodyPost Try.prog Try.f23 (QzPost w (tracksP l ns room gap))) { tmps := #[u0, .slice na nn nc, .int .i64 room, .int .i64 gap, u4, u5, u6, u7, u8, lv, u10, .slice none 0 0, u12, u13, u14, u15, u16, u17, u18, u19, u20, u21, u22, u23, u24, u25, u26, u27, u28, u29, u30, u31, u32, u33, u34, u35, u36, u37, u38, u39, u40, u41, u42, u43, u44, u45, u46, u47, u48, u49, u50, u51, u52, u53, u54, u55, u56, u57, u58, u59, u60, u61, u62, u63, u64, u65, u66, u67, u68, u69, u70, u71, u72, u73, u74, u75, u76, u77, u78, u79, u80, u81, u82, u83, u84, u85, u86, u87, u88, u89, u90, u91, u92, u93, u94, u95, u96, u97, u98, u99, u100, u101, u102, u103, u104, u105, u106, u107, u108, u109, u110, u111, u112, u113, u114, u115, u116, u117, u118, u119, u120, u121, u122, u123, u124, u125, u126, u127, u128, u129, u130, u131, u132, u133, u134, u135, u136, u137, u138, u139, u140, u141, u142, u143, u144, u145, u146, u147, u148, u149, u150, u151, u152, u153, u154, u155, u156, u157, u158, u159, u160, u161, u162, u163, u164, u165, u166, u167, u168, u169, u170, u171, u172, u173, u174, u175, u176, u177, u178, u179, u180, u181, u182, u183, u184, u185, u186, u187, u188, u189, u190, u191, u192, u193, u194, u195, u196, u197, u198, u199, u200, u201, u202, u203, u204, u205, u206, u207, u208, u209, u210, u211, u212, u213, u214, u215, u216, u217, u218, u219, u220, u221, u222, u223, u224, u225, u226, u227, u228, u229, u230, u231, u232, u233, u234, u235, u236, u237, u238, u239, u240, u241, u242, u243, u244, u245, u246, u247, u248, u249, u250, u251, u252, u253, u254, u255, u256, u257, u258, u259, u260, u261, u262, u263, u264, u265, u266, u267, u268, u269, u270, u271, u272, u273, u274, u275, u276, u277, u278, u279, u280, u281, u282, u283, u284, u285, u286, u287, u288, u289, u290, u291, u292, u293, u294, u295, u296, u297, u298, u299, u300, u301, u302, u303, u304, u305, u306, u307, u308, u309, u310], defers := [] } wl := by
  obtain ⟨i0, hi, hz0, hz1, hz2⟩ := info_parts Try.infoQt
  obtain ⟨j0, hj, hy0, hy1, hy2⟩ := info_parts Try.infoQn
  obtain ⟨aN, caN, hvN, qc1, qc2, hnl⟩ := hN
  obtain ⟨rfl, rfl⟩ : na = aN ∧ nc = caN := by cases hvN; exact ⟨rfl, rfl⟩
  rw [hnn] at qc1
  have HNL := hidF hnl
  have HNN := hidF hnn
  obtain ⟨l0, hl0⟩ : ∃ l0, l.take 20 = l0 := ⟨_, rfl⟩
  rw [hl0] at hrow
  have hll : l0.length ≤ 20 := by rw [← hl0, List.length_take]; omega
  have HL0 := hidF hl0
  have e00 : padT l0 l0.length = l0 := by unfold padT; simp
  have HST : Hid (TwAt w wl lv (.slice none 0 0) l0.length 0 (padT l0 l0.length) []) := by
    rw [e00]
    exact ⟨hB, hrow, World.ownsRow_nil _ _ _ _, fun q _ e => by cases e⟩
  clear e00
  clear hB hrow hvN hnl hnn hl0
  conv => arg 2; dsimp only [restG, bodyG, Try.f23]
  conv => arg 4; dsimp only
  go_wp2_with fail
  go_loopw [9, 11, 12] (fun pv nv iv wr => ∃ (q c d : Nat), q ≤ nn ∧ iv = .int .i64 q ∧ c ≤ 300 ∧ d ≤ 60 ∧ Hid (TwAt w wr pv nv c d (padT l0 c) ((needsP (ns.take q)).map dwnN) ∧ c = max l0.length (reachN (needsP (ns.take q))) ∧ d = (needsP (ns.take q)).length)) (fun _ _ iv _ => nn - (intV iv).toNat)
  case atStart => exact ⟨0, l0.length, 0, Nat.zero_le _, rfl, by omega, by omega, HST.out, by simp [needsP, reachN], by simp [needsP]⟩
  case round =>
    obtain ⟨q, c, d, hq, rfl, hc3, hd3, HZ⟩ := hrel
    by_cases hql : q < nn
    · obtain ⟨x, hx⟩ : ∃ x, ns[q]? = some x := ⟨_, List.getElem?_eq_getElem (by rw [HNN.out]; exact hql)⟩
      obtain ⟨b, o, rfl, e2, e3, e4, e5⟩ := HNL.out q x hx
      have hkb := HZ.out.1.below.block b e2
      have x1 := Nat.lt_of_lt_of_le e2 HZ.out.1.below.size
      have x2 := (World.cell?_of_block (a := ⟨b, o + q * 3, none⟩) hkb).trans e3
      have x3 := (World.cell?_of_block (a := ⟨b, o + q * 3 + 1, none⟩) hkb).trans e4
      have x4 := (World.cell?_of_block (a := ⟨b, o + q * 3 + 2, none⟩) hkb).trans e5
      have i1 : (0 : Int) ≤ (q : Int) := by omega
      have i2 : (q : Int) < (nn : Int) := by omega
      have i3 : (q : Int) < 200 := by omega
      have HNT := hidF (needsP_take hx)
      have HNLN := hidF (needsP_len ns (q + 1))
      clear hx hkb e2 e3 e4 e5
      obtain ⟨xf, xs, xz⟩ := x
      simp only at x2 x3 x4
      obtain ⟨w5, hw5⟩ : ∃ w5, w5 = wr := ⟨_, rfl⟩
      subst hw5
      by_cases hok : 1 ≤ xf ∧ xf ≤ 200 ∧ 1 ≤ xs ∧ xs ≤ 20
      · have HE : Hid (needsP (ns.take (q + 1)) = needsP (ns.take q) ++ [⟨xf, xs, heldN xz⟩]) := by
          show _ = _
          rw [HNT.out, if_pos (show okN _ = true from decide_eq_true hok)]
          rfl
        obtain ⟨s1, s2, s3, s4⟩ := hok
        have HH := hidF (qheld_any xz)
        obtain ⟨hz, hhz⟩ : ∃ z, heldN xz = z := ⟨_, rfl⟩
        rw [hhz] at HH HE
        obtain ⟨ff, hff⟩ : ∃ f, xf - 1 = f := ⟨_, rfl⟩
        obtain ⟨tg, htg⟩ : ∃ tg : Nat, (xf + xs - 1).toNat = tg := ⟨_, rfl⟩
        have Y1 : IntKind.i64.wrap ff = ff := wrapT (by omega) (by omega)
        have Y4 : IntKind.i64.wrap (tg : Int) = (tg : Int) := wrapT (by omega) (by omega)
        have Y2 : IntKind.i64.wrap (ff + xs) = (tg : Int) := by rw [wrapT (by omega) (by omega)]; omega
        have Y3 : ff + xs = (tg : Int) := by omega
        have tg2 : tg ≤ 219 := by omega
        have HRT : Hid (reachN (needsP (ns.take (q + 1))) = max (reachN (needsP (ns.take q))) tg) := by
          show _ = _
          have e : (needsP (ns.take (q + 1)))[(needsP (ns.take q)).length]? = some ⟨xf, xs, hz⟩ := by rw [HE.out]; simp
          have e2 := reachN_take e
          rw [HE.out, List.take_of_length_le (by simp), List.take_left'] at e2
          · rw [HE.out, e2, htg]
          · rfl
        have HDM : Hid ((needsP (ns.take (q + 1))).map dwnN = (needsP (ns.take q)).map dwnN ++ [⟨ff, xs, hz⟩]) := by
          show _ = _
          rw [HE.out, List.map_append]
          simp [dwnN, hff]
        have HDL : Hid (d + 1 = (needsP (ns.take (q + 1))).length) := by
          show _ = _
          rw [HE.out, List.length_append, ← HZ.out.2.2]
          rfl
        have hd4 : d + 1 ≤ 60 := by rw [HDL.out]; have := HNLN.out; omega
        clear htg hhz
        go_wp2_with fail
        generalize hw9 : w5.alloc (Obj.cells #[.int .i64 xf, .int .i64 xs, .int .i64 xz] 59) = w9
        have h9 : w9.heap[w5.heap.size]? = some (.cells #[.int .i64 xf, .int .i64 xs, .int .i64 xz] 59 (0, 0)) := by rw [← hw9]; exact heap_alloc_new w5 _
        have H9 : Hid (TwAt w w9 u9 u11 c d (padT l0 c) ((needsP (ns.take q)).map dwnN)) := by rw [← hw9]; exact HZ.out.1.alloc _
        have HQX : Hid (u9.ownBlock ≠ some w5.heap.size ∧ u11.ownBlock ≠ some w5.heap.size) := ⟨fun e => by have := (HZ.out.1.row1.lt _ e).2; omega, fun e => by have := (HZ.out.1.row2.lt _ e).2; omega⟩
        have HC0 := hidF HZ.out.2.1
        have s0 : w5.heap.size < w9.heap.size := ltH h9
        have hs5 : w.heap.size ≤ w5.heap.size := HZ.out.1.below.size
        obtain ⟨xb, hxb⟩ : ∃ xb, w5.heap.size = xb := ⟨_, rfl⟩
        rw [hxb] at h9 HQX s0 hs5 ⊢
        have c0 : w9.cell? ⟨xb, 0, none⟩ = some (.int .i64 xf) := by rw [cell_of_row _ _ _ _ _ _ h9]; rfl
        have c1 : w9.cell? ⟨xb, 1, none⟩ = some (.int .i64 xs) := by rw [cell_of_row _ _ _ _ _ _ h9]; rfl
        have c2 : w9.cell? ⟨xb, 2, none⟩ = some (.int .i64 xz) := by rw [cell_of_row _ _ _ _ _ _ h9]; rfl
        have HK9 := hidF h9
        have D9 := hidF H9.out.drew
        have s0' : xb < w9.drew.heap.size := s0
        clear hw9 h9 hxb x2 x3 x4 HZ x1
        go_region_held3 (fun wx => wx.cell? ⟨xb, 0, none⟩ = some (.int .i64 xf) ∧ wx.cell? ⟨xb, 1, none⟩ = some (.int .i64 xs) ∧ wx.cell? ⟨xb, 2, none⟩ = some (.int .i64 xz)) (go_keep)
          (first
            | (go_at_call 31; refine (HH.out _).mono ?_; rintro e w7 ⟨rfl, rfl⟩)
            | (refine step_own _ (by rfl) (.tmp 78) (.tmp 88) 51 (by rfl) w.heap.size 59 j0 _ 3 24 Try.underlying51 hj hy0 hy1 hy2 rfl (by decide) u11 d (ndsC ((needsP (ns.take q)).map dwnN)) (by simp [Act.eval]) (D9.out.alloc _).row2 ⟨w9.heap.size, 0, none⟩ 1 1 (ndC ⟨ff, xs, hz⟩) (by simp [Act.eval]) rfl (fun j u hj => news_six w9.drew _ _ j u hj) (by simp [Value.oneCell', ndC]) (by unfold maxLen; omega) (by omega) (by have := D9.out.below.size; simp at this ⊢; omega) ?_; intro v1 w8 hv1 hg1 hx1
               have m0 : w8.cell? ⟨xb, 0, none⟩ = some (.int .i64 xf) := hg1.cell ((World.cell?_of_block (a := ⟨xb, 0, none⟩) (Below.heap_alloc w9.drew _ _ s0')).trans c0) (fun e => HQX.out.2 e.symm)
               have m1 : w8.cell? ⟨xb, 1, none⟩ = some (.int .i64 xs) := hg1.cell ((World.cell?_of_block (a := ⟨xb, 1, none⟩) (Below.heap_alloc w9.drew _ _ s0')).trans c1) (fun e => HQX.out.2 e.symm)
               have m2 : w8.cell? ⟨xb, 2, none⟩ = some (.int .i64 xz) := hg1.cell ((World.cell?_of_block (a := ⟨xb, 2, none⟩) (Below.heap_alloc w9.drew _ _ s0')).trans c2) (fun e => HQX.out.2 e.symm)
               have H3 := hidF (And.intro ((D9.out.alloc _).app2 hv1 hg1 hx1) (show w8.heap[xb]? = _ from ((hg1.block xb (by simp; omega) (fun e => HQX.out.2 e.symm)).trans (Below.heap_alloc w9.drew _ _ s0')).trans HK9.out)); clear hv1 hg1 hx1))
        all_goals
          go_wp2_with fail
          obtain ⟨va, vc, hva, v1', v2'⟩ := own_shape2 H3.out.1.row1
          go_loopw [9] (fun pv wx => ∃ e : Nat, c ≤ e ∧ e ≤ max c tg ∧ Hid (TwAt w wx pv v1 e (d + 1) (padT l0 e) ((needsP (ns.take q)).map dwnN ++ [⟨ff, xs, hz⟩]) ∧ wx.heap[xb]? = some (.cells #[.int .i64 xf, .int .i64 xs, .int .i64 xz] 59 (0, 0)) ∧ pv.ownBlock ≠ some xb)) (fun pv _ => 400 - lenV pv)
          case atStart => exact ⟨c, Nat.le_refl _, by omega, H3.out.1, H3.out.2, HQX.out.1⟩
          case round =>
            obtain ⟨e, d1, d2, HY⟩ := hrel
            have y0 := ltH HY.out.2.1
            have y1 : wr.cell? ⟨xb, 0, none⟩ = some (.int .i64 xf) := by rw [cell_of_row wr xb _ _ _ _ HY.out.2.1]; rfl
            have y2 : wr.cell? ⟨xb, 1, none⟩ = some (.int .i64 xs) := by rw [cell_of_row wr xb _ _ _ _ HY.out.2.1]; rfl
            obtain ⟨va, vc, rfl, v1', v2'⟩ := own_shape2 HY.out.1.row1
            by_cases hdt : e < tg
            · have hdt' : (e : Int) < (tg : Int) := by omega
              have HPM := hidF (padT_more l0 e (by have := HC0.out; omega))
              obtain ⟨w6, hw6⟩ : ∃ w6, w6 = wr := ⟨_, rfl⟩
              subst hw6
              have HA6 := hidF (fun (o : Obj) => HY.out.1.alloc o)
              go_wp2_with (at_builtin; refine wpList_append_own_at _ rfl (.tmp 99) (.tmp 101) 50 rfl w.heap.size 56 i0 _ 2 16 Try.underlying50 hi hz0 hz1 hz2 rfl (by decide) _ _ _ rfl ((HA6.out _).row1) ⟨_, 0, none⟩ 1 1 [.int .i64 0, .int .i64 0] rfl rfl (fun j u hj => news_six _ _ _ j u hj) (by simp [Value.oneCell']) (by unfold maxLen; omega) (by omega) (by have := HY.out.1.below.size; simp; omega) ?_; intro v3 w3 hv1 hg1 hx1 hx2; clear hx1; have H4 := hidF (And.intro ((HA6.out _).app1 (t := ⟨0, 0⟩) hv1 hg1 hx2) (And.intro hg1 hx2)); clear hv1 hg1 hx2)
              go_roundw
              case rel =>
                go_light
                refine ⟨e + 1, by omega, by omega, by rw [HPM.out]; exact H4.out.1, ?_, ?_⟩
                · refine (H4.out.2.1.block xb (by simp; omega) (fun e => HY.out.2.2 e.symm)).trans ?_
                  exact (Below.heap_alloc w6 _ _ y0).trans HY.out.2.1
                · rcases H4.out.2.2 with e | e
                  · rw [e]; exact HY.out.2.2
                  · rw [e]
                    intro e2
                    have := Option.some.inj e2
                    simp at this
                    omega
              case measure =>
                obtain ⟨vb, vd, hvv, _⟩ := own_shape2 H4.out.1.row1
                rw [hvv]
                simp [lenV]
                omega
            · have hdt' : ¬ (e : Int) < (tg : Int) := by omega
              have HCC : Hid (e = max l0.length (reachN (needsP (ns.take (q + 1))))) := by
                show _ = _
                rw [HRT.out]
                have := HC0.out
                omega
              go_wp2_with fail
              go_roundw
              case rel => go_light; exact ⟨q + 1, e, d + 1, by omega, by go_num, by omega, hd4, by rw [HDM.out]; exact HY.out.1, HCC.out, HDL.out⟩
              case measure => simp [intV]; omega
      · have HE : Hid (needsP (ns.take (q + 1)) = needsP (ns.take q)) := by
          show _ = _
          rw [HNT.out, if_neg (by unfold okN; simpa using fun h => by omega)]
        go_wp2_with fail
        all_goals
          first
            | (exfalso; omega)
            | (go_roundw
               case rel => go_light; exact ⟨q + 1, c, d, by omega, by go_num, hc3, hd3, by rw [HE.out]; exact HZ.out.1.alloc _, by rw [HE.out]; exact HZ.out.2.1, by rw [HE.out]; exact HZ.out.2.2⟩
               case measure => simp [intV]; omega)
    · obtain rfl : q = nn := by omega
      have hq' : ¬ (q : Int) < (q : Int) := by omega
      have e1 : ns.take q = ns := List.take_of_length_le (by rw [HNN.out]; exact Nat.le_refl _)
      have hzz := HZ.out
      rw [e1] at hzz
      obtain ⟨tw, ec, ed⟩ := hzz
      have eR : rawT l ns = padT l0 c := by
        unfold rawT
        rw [HL0.out]
        exact padT_same l0 (by omega)
      have eL : (rawT l ns).length = c := by rw [eR, padT_len]; omega
      rw [← eR] at tw
      obtain ⟨w5, hw5⟩ : ∃ w5, w5 = wr := ⟨_, rfl⟩
      subst hw5
      obtain ⟨a9, c9, rfl, a1, a2⟩ := own_shape2 tw.row1
      obtain ⟨n9, m9, rfl, a3, a4⟩ := own_shapeN tw.row2
      obtain ⟨wa, mk1, ba, bwa⟩ := make_intsT w5 c (by omega)
      have ta := tw.held bwa
      have HOB : Hid (∀ v : Value, v = .slice a9 c c9 ∨ v = .slice n9 d m9 → v.ownBlock ≠ some w5.heap.size) := fun v hv e => by
        rcases hv with rfl | rfl
        · have := (tw.row1.lt _ e).2; omega
        · have := (tw.row2.lt _ e).2; omega
      have HQO : Hid (∃ g, QoAt w wa a9 n9 g c d m9 w5.heap.size (needsP ns) (atT (rawT l ns)) (fun _ => 0)) := by
        have hnd : NsL wa (.slice n9 d m9) ((needsP ns).map dwnN) := own_nsL (by rw [List.length_map, ed]) ta.row2
        rcases own_trb (by exact eL) ta.row1 with ⟨e, e0⟩ | ⟨g, cap, e, hg, _, _, tb⟩
        · exact ⟨0, ta.below, fun h => by omega, hnd, ba, tw.below.size, HOB.out _ (.inr rfl)⟩
        · cases e
          refine ⟨g, ta.below, fun _ => ⟨rfl, hg, fun e => HOB.out _ (.inl rfl) (by rw [← e]; rfl), fun e => ta.ne g rfl e, tb⟩, hnd, ba, tw.below.size, HOB.out _ (.inr rfl)⟩
      have HEL := hidF eL
      have HED := hidF ed
      have HSM := hidF (qz_same l ns room gap eL)
      have HRN : Hid (∀ x ∈ needsP ns, (x.f - 1).toNat + x.s.toNat ≤ c) := fun x hx => by
        have k1 := reachN_ge (needsP ns) x hx
        have k2 := needsP_ok hx
        have := k2.f1; have := k2.s1
        omega
      have HBD : Hid (∀ q k, q ≤ 19 → k ≤ d → ∀ j, j < c → 0 ≤ szQ room gap (atT (trP l ns room)) (needsP ns) q k j ∧ szQ room gap (atT (trP l ns room)) (needsP ns) q k j ≤ 1000000000000) := fun q k hq hk j hj => by
        have hok : ∀ j, j < c → TrOk room (atT (trP l ns room) j) := fun j _ => by rw [trP_raw, atT_map (cntT_zero room)]; exact cntT_ok room _
        have h := szQ_bd (room := room) (gap := gap) (tr := atT (trP l ns room)) (nds := needsP ns) (n := c) g1 g2 r2 (fun x hx => needsP_ok hx) HRN.out hok (by omega) q hq k (by omega) j hj
        have : q * 60 + k ≤ 1200 := by omega
        omega
      clear e1 tw ec ed eR eL ba bwa ta HZ
      go_upto_region 17 with fail
      go_cut [14] (fun s wx => s = .slice (some ⟨w5.heap.size, 0, none⟩) c c ∧ wx = wa)
      case first =>
        go_wp2_with fail
        go_meet
        case rel => go_light; exact ⟨rfl, rfl⟩
      case rest =>
      obtain ⟨rfl, hwx⟩ := hcut
      have hwy := hwx.symm
      clear hwx
      subst hwy
      obtain ⟨g, hqo⟩ := HQO.out
      refine (by assumption : ∀ (a : Act) (w : World), Code.wp _ _ _ a w → _) _ _ ?_
      rw [← HSM.out]
      exact qz_own (rts := []) hqo ⟨a1, a2⟩ HED.out.symm (fun _ => HOB.out _ (.inl rfl)) (fun j => by rw [trP_raw, atT_map (cntT_zero room)]) (fun j hj => by unfold atT; rw [List.getElem?_eq_none (by rw [HEL.out]; exact hj)]; rfl) (fun x hx => needsP_ok hx) HRN.out HBD.out hc3 r1 r2 g1 g2 _ _ _ _ _ _ _ _ _ _ _ _ _ _ _ _ _ _ _ _ _ _ _ _ _ _ _ _ _ _ _ _ _ _ _ _ _ _ _ _ _ _ _ _ _ _ _ _ _ _ _ _ _ _ _ _ _ _ _ _ _ _ _ _ _ _ _ _ _ _ _ _ _ _ _ _ _ _ _ _ _ _ _ _ _ _ _ _ _ _ _ _ _ _ _ _ _ _ _ _ _ _ _ _ _ _ _ _ _ _ _ _ _ _ _ _ _ _ _ _ _ _ _ _ _ _ _ _ _ _ _ _ _ _ _ _ _ _ _ _ _ _ _ _ _ _ _ _ _ _ _ _ _ _ _ _ _ _ _ _ _ _ _ _ _ _ _ _ _ _ _ _ _ _ _ _ _ _ _ _ _ _ _ _ _ _ _ _ _ _ _ _ _ _ _ _ _ _ _ _ _ _ _ _ _ _ _ _ _ _ _ _ _ _ _ _ _ _ _ _ _ _ _ _ _ _ _ _ _ _ _ _ _ _ _ _ _ _ _ _ _ _ _ _ _ _ _ _ _ _ _ _ _ _ _ _ _ _ _ _ _ _ _ _ _ _ _ _ _ _ _ _ _ _ _ _ _ _ _ _ _ _ _ _ _ _ _ _ _ _ _ _ _ _ _ _ _ _ _ _ _ _ _ _ _ _
end Go.Proofs.Ytjdndaeobiagcaa
