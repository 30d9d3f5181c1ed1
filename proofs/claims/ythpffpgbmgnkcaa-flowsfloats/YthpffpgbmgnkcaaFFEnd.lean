/- FlowsFloats: behind the last float: what they leave, all of them, where they end. -/
import Derived.Test.YthpffpgbmgnkcaaFFSame
namespace Go.Proofs.Ythpffpgbmgnkcaa
open Go.RowKit
set_option linter.unusedVariables false      -- bounds that are for the walk

theorem clear_none (fs : List Fl) : (clearN false false fs).at_ = 0 := by
  have : ∀ (l : List Fl) (c : Cl), l.foldl (clearS false false) c = c := fun l => by
    induction l with
    | nil => intro c; rfl
    | cons o r ih =>
      intro c
      rw [List.foldl_cons]
      have e : clearS false false c o = c := by unfold clearS sideN; simp
      rw [e, ih]
  unfold clearN
  rw [this]

set_option maxHeartbeats 8000000 in
set_option maxRecDepth 100000 in
theorem floats_end {w w1 : World} {pa : Option Addr} {n pc fb lb rb : Nat} {y h wd : Int} (wd1 : 0 ≤ wd) (wd2 : wd ≤ 16777216) (hI : FInv w w1 fb lb rb wd) (u0 u4 u5 u6 u7 u8 u12 u13 u14 u15 u16 u17 u18 u19 u20 u21 u22 u23 u24 u25 u26 u27 u28 u29 u30 u31 u32 u33 u34 u35 u36 u37 u38 u39 u40 u41 u42 u43 u44 u45 u46 u47 u48 u49 u50 u51 u52 u53 u54 u55 u56 u57 u58 u59 u60 u61 u62 u63 u64 u65 u66 u67 u68 u69 u70 u71 u72 u73 u74 u75 u76 u77 u78 u79 u80 u81 u82 u83 u84 u85 u86 u87 u88 u89 u90 u91 u92 u93 u94 u95 u96 u97 u98 u99 u100 u101 u102 u103 u104 u105 u106 u107 u108 u109 u110 u111 u112 u113 u114 u115 u116 u117 u118 u119 u120 u121 u122 u123 u124 u125 u126 u127 u128 u129 u130 u131 u132 u133 u134 u135 u136 u137 u138 u139 u140 u141 u142 u143 u144 u145 u146 u147 u148 u149 u150 u151 u152 u153 u154 u155 u156 u157 u158 u159 u160 u161 u162 u163 u164 u165 u166 u167 u168 u169 u170 u171 u172 u173 u174 u175 u176 u177 u178 u179 u180 u181 u182 u183 u184 u185 u186 u187 u188 u189 u190 u191 u192 u193 u194 u195 u196 u197 u198 u199 u200 u201 u202 u203 u204 u205 u206 u207 u208 u209 u210 u211 u212 u213 u214 u215 u216 u217 u218 u219 u220 u221 u222 u223 u224 u225 u226 u227 u228 u229 u230 u231 u232 u233 u234 u235 u236 u237 u238 u239 u240 u241 u242 u243 u244 u245 u246 u247 u248 u249 u250 u251 u252 u253 u254 u255 u256 u257 u258 u259 u260 u261 u262 u263 u264 u265 u266 u267 u268 u269 u270 u271 u272 u273 u274 u275 u276 u277 u278 u279 u280 u281 u282 u283 u284 u285 u286 u287 u288 u289 u290 u291 u292 u293 u294 u295 u296 u297 u298 u299 u300 u301 u302 u303 u304 u305 u306 u307 u308 u309 u310 u311 u312 u313 u314 u315 u316 u317 u318 u319 u320 u321 u322 u323 : Value) :
    Code.wp Try.prog (restOf 9 (bodyOf Try.f3)) (bodyPost Try.prog Try.f3 (fun e w' => e = .returned (.bool true) ∧ Below w.heap.size w w')) { tmps := #[u0, .slice pa n pc, .int .i64 y, .int .i64 h, u4, u5, u6, u7, u8, .pointer (some ⟨fb, 0, none⟩), .int .i64 wd, .pointer (some ⟨rb, 0, none⟩), u12, u13, u14, u15, u16, u17, u18, u19, u20, u21, u22, u23, u24, u25, u26, u27, u28, u29, u30, u31, u32, u33, u34, u35, u36, u37, u38, u39, u40, u41, u42, u43, u44, u45, u46, u47, u48, u49, u50, u51, u52, u53, u54, u55, u56, u57, u58, u59, u60, u61, u62, u63, u64, u65, u66, u67, u68, u69, u70, u71, u72, u73, u74, u75, u76, u77, u78, u79, u80, u81, u82, u83, u84, u85, u86, u87, u88, u89, u90, u91, u92, u93, u94, u95, u96, u97, u98, u99, u100, u101, u102, u103, u104, u105, u106, u107, u108, u109, u110, u111, u112, u113, u114, u115, u116, u117, u118, u119, u120, u121, u122, u123, u124, u125, u126, u127, u128, u129, u130, u131, u132, u133, u134, u135, u136, u137, u138, u139, u140, u141, u142, u143, u144, u145, u146, u147, u148, u149, u150, u151, u152, u153, u154, u155, u156, u157, u158, u159, u160, u161, u162, u163, u164, u165, u166, u167, u168, u169, u170, u171, u172, u173, u174, u175, u176, u177, u178, u179, u180, u181, u182, u183, u184, u185, u186, u187, u188, u189, u190, u191, u192, u193, u194, u195, u196, u197, u198, u199, u200, u201, u202, u203, u204, u205, u206, u207, u208, u209, u210, u211, u212, u213, u214, u215, u216, u217, u218, u219, u220, u221, u222, u223, u224, u225, u226, u227, u228, u229, u230, u231, u232, u233, u234, u235, u236, u237, u238, u239, u240, u241, u242, u243, u244, u245, u246, u247, u248, u249, u250, u251, u252, u253, u254, u255, u256, u257, u258, u259, u260, u261, u262, u263, u264, u265, u266, u267, u268, u269, u270, u271, u272, u273, u274, u275, u276, u277, u278, u279, u280, u281, u282, u283, u284, u285, u286, u287, u288, u289, u290, u291, u292, u293, u294, u295, u296, u297, u298, u299, u300, u301, u302, u303, u304, u305, u306, u307, u308, u309, u310, u311, u312, u313, u314, u315, u316, u317, u318, u319, u320, u321, u322, u323], defers := [] } w1 := by
  obtain ⟨M, sv, lv, fs, lo0, hi0, hB, hbd, hfl⟩ := hI
  have HBD := hidF hbd
  obtain ⟨r0, r1, r2, r3, r4, r5⟩ := hB.cells
  obtain ⟨s0, s1, s2, s3, s4, s5⟩ := (hB.setLo 0).cells
  have HB := hidF ((hB.setLo 0).setHi wd)
  obtain ⟨y1, y2⟩ := heldN_bd y
  obtain ⟨h1, h2⟩ := heldN_bd h
  have QH3 := hidF (fun W => qheld_any y W)
  have QH4 := hidF (fun W => qheld_any h W)
  obtain ⟨w2, hw2⟩ : ∃ w9, w9 = (w1.setCell ⟨rb, 0, none⟩ (.int .i64 0)).setCell ⟨rb, 1, none⟩ (.int .i64 wd) := ⟨_, rfl⟩
  have HW2 := hidF hw2
  rw [← hw2] at HB
  have ED := hidF (edges_any HB.out.fl HB.out.rm hfl HBD.out y h)
  have QE := hidF (fun (W : World) (hb : Below w2.heap.size w2 W) => qedges_any (HB.out.q.below hb) hfl HBD.out (heldN y) (heldN h) (by omega) (by omega) (by omega) (by omega))
  have AL := hidF (fun (W : World) (hb : Below w2.heap.size w2 W) => all_any (HB.out.held hb).fl (HB.out.held hb).rm hfl)
  obtain ⟨hy, ehy⟩ : ∃ t, heldN y = t := ⟨_, rfl⟩
  obtain ⟨hh, ehh⟩ : ∃ t, heldN h = t := ⟨_, rfl⟩
  rw [ehy, ehh] at ED QE
  rw [ehy] at QH3
  rw [ehh] at QH4
  obtain ⟨el, eel⟩ : ∃ t, (gapN 0 wd fs hy hh).l = t := ⟨_, rfl⟩
  obtain ⟨er, eer⟩ : ∃ t, (gapN 0 wd fs hy hh).r = t := ⟨_, rfl⟩
  rw [eel, eer] at ED QE
  have j1 : (el != el) = false := by simp
  have j2 : (er != er) = false := by simp
  obtain ⟨m, hm⟩ : ∃ m, fs.length = m := ⟨_, rfl⟩
  have HM := hidF hm
  rw [hm] at hfl AL
  have j3 : ((m : Int) != (m : Int)) = false := by simp
  obtain ⟨la, lc, rfl, g1, g2⟩ := own_shapeQ hB.q.row
  rw [hm] at g1 HB r3 s3
  clear hB hbd hw2 ehy ehh eel eer hm
  conv => arg 2; dsimp only [restOf, bodyOf, Try.f3]
  conv => arg 4; dsimp only
  go_upto_region 35 with fail
  rw [← HW2.out]
  clear r1 r2 r3 r4 r5 s0 s1 s2 s3 s4 s5
  go_wp2_with fail
  refine ED.out.mono ?_
  rintro e w3 ⟨rfl, hb3⟩
  have B3 := hidF hb3
  clear hb3
  go_wp2_with fail
  refine (QH3.out _).mono ?_
  rintro e wy ⟨rfl, hwy⟩
  rw [hwy]
  clear hwy
  go_wp2_with fail
  refine (QH4.out _).mono ?_
  rintro e wy ⟨rfl, hwy⟩
  rw [hwy]
  clear hwy
  go_wp2_with fail
  refine (QE.out _ B3.out).mono ?_
  rintro e w4 ⟨rfl, hb4⟩
  have B4 := hidF (B3.out.trans (hb4.mono B3.out.size))
  clear hb4
  go_wp2_with fail
  refine (AL.out _ B4.out).mono ?_
  rintro e w5 ⟨v5, rfl, ho5, hb5⟩
  have B5 := hidF (B4.out.trans (hb5.mono B4.out.size))
  have hbw : w.heap.size ≤ w4.heap.size := Nat.le_trans HB.out.below.size B4.out.size
  have HO5 : Hid (w5.ownsRow w.heap.size 43 5 v5 m (fcells fs)) := by
    obtain ⟨hl, h0 | ⟨g, cap, cur, hv, hg, hh9, h1, h2, h3, h4⟩⟩ := ho5
    · exact ⟨hl, .inl h0⟩
    · exact ⟨hl, .inr ⟨g, cap, cur, hv, by omega, hh9, h1, h2, h3, h4⟩⟩
  obtain ⟨va, vc, rfl, v1, v2⟩ := own_shapeQ HO5.out
  have HB5 := hidF (HB.out.held B5.out)
  obtain ⟨rl, _, _, r3, _, _⟩ := HB5.out.cells
  clear hb5 ho5 ED QE AL
  go_wp2_with fail
  refine floats_same (w := w) (w3 := w5) (M := M) (fs := fs) (lb := lb) (lo := 0) (hi := wd) HB5.out HM.out hfl HO5.out _ _ _ _ _ _ _ _ _ _ _ _ _ _ _ _ _ _ _ _ _ _ _ _ _ _ _ _ _ _ _ _ _ _ _ _ _ _ _ _ _ _ _ _ _ _ _ _ _ _ _ _ _ _ _ _ _ _ _ _ _ _ _ _ _ _ _ _ _ _ _ _ _ _ _ _ _ _ _ _ _ _ _ _ _ _ _ _ _ _ _ _ _ _ _ _ _ _ _ _ _ _ _ _ _ _ _ _ _ _ _ _ _ _ _ _ _ _ _ _ _ _ _ _ _ _ _ _ _ _ _ _ _ _ _ _ _ _ _ _ _ _ _ _ _ _ _ _ _ _ _ _ _ _ _ _ _ _ _ _ _ _ _ _ _ _ _ _ _ _ _ _ _ _ _ _ _ _ _ _ _ _ _ _ _ _ _ _ _ _ _ _ _ _ _ _ _ _ _ _ _ _ _ _ _ _ _ _ _ _ _ _ _ _ _ _ _ _ _ _ _ _ _ _ _ _ _ _ _ _ _ _ _ _ _ _ _ _ _ _ _ _ _ _ _ _ _ _ _ _ _ _ _ _ _ _ _ _ _ _ _ _ _ _ _ _ _ _ _ _ _ _ _ _ _ _ _ _ _ _ _ _ _ _ _ _ _ _ _ _ _ _ _ _ _ _ _ _ _ _ _ _ _ _ _ _ _ _ _ _ _ _ _ _ _ _ ?_
  intro u8 u31 u260 u261 u262 u263 u264 u265 u266 u267 u268 u269 u270 u271 u272 u273 u274 u275 u276 u277 u278 u279 u280 u281 u282 u283 u284 u285 u286 u287 u288 u289 u290 u291 u292 u293 u294 u295 wx hbx
  have HBX := hidF (HB5.out.held hbx)
  clear hbx r3 rl
  have C1 := hidF (fun (W : World) (hb : Below wx.heap.size wx W) (lf rt : Bool) => clear_any (HBX.out.held hb).fl (HBX.out.held hb).rm (by rw [HM.out]; exact hfl) HBD.out lf rt)
  have C2 := hidF (fun (W : World) (hb : Below wx.heap.size wx W) (lf rt : Bool) => qclear_any (HBX.out.held hb).q (by rw [HM.out]; exact hfl) HBD.out lf rt)
  have C0 := hidF (clear_none fs)
  obtain ⟨cl, ecl⟩ : ∃ f : Bool → Bool → Int, f = fun lf rt => (clearN lf rt fs).at_ := ⟨_, rfl⟩
  have hcl : ∀ lf rt, (clearN lf rt fs).at_ = cl lf rt := fun lf rt => by rw [ecl]
  have C1' : Hid (∀ (W : World) (hb : Below wx.heap.size wx W) (lf rt : Bool), Calls Try.prog 13 #[.pointer (some ⟨fb, 0, none⟩), .bool lf, .bool rt] W fun e w' => e = .returned (.int .i64 (cl lf rt)) ∧ Below W.heap.size W w') := fun W hb lf rt => by
    have := C1.out W hb lf rt
    rw [hcl] at this
    exact this
  have C2' : Hid (∀ (W : World) (hb : Below wx.heap.size wx W) (lf rt : Bool), Calls Try.prog 14 #[.pointer (some ⟨rb, 0, none⟩), .bool lf, .bool rt] W fun e w' => e = .returned (.int .i64 (cl lf rt)) ∧ Below W.heap.size W w') := fun W hb lf rt => by
    have := C2.out W hb lf rt
    rw [hcl] at this
    exact this
  have C0' : Hid (cl false false = 0) := by show _ = _; rw [← hcl]; exact C0.out
  clear C1 C2 C0 ecl hcl
  go_wp2_with fail
  refine (C1'.out _ (Below.refl _ _) true false).mono ?_
  rintro e wa ⟨rfl, hba⟩
  have Ba := hidF hba
  clear hba
  go_wp2_with fail
  refine (C2'.out _ Ba.out true false).mono ?_
  rintro e wb ⟨rfl, hbb⟩
  have Bb := hidF (Ba.out.trans (hbb.mono Ba.out.size))
  clear hbb
  go_wp2_with fail
  refine (C1'.out _ Bb.out false true).mono ?_
  rintro e wc ⟨rfl, hbc⟩
  have Bc := hidF (Bb.out.trans (hbc.mono Bb.out.size))
  clear hbc
  go_wp2_with fail
  refine (C2'.out _ Bc.out false true).mono ?_
  rintro e wd' ⟨rfl, hbd⟩
  have Bd' := hidF (Bc.out.trans (hbd.mono Bc.out.size))
  clear hbd
  go_wp2_with fail
  refine (C1'.out _ Bd'.out true true).mono ?_
  rintro e we ⟨rfl, hbe⟩
  have Be := hidF (Bd'.out.trans (hbe.mono Bd'.out.size))
  clear hbe
  go_wp2_with fail
  refine (C2'.out _ Be.out true true).mono ?_
  rintro e wf ⟨rfl, hbf⟩
  have Bf := hidF (Be.out.trans (hbf.mono Be.out.size))
  clear hbf
  go_wp2_with fail
  refine (C1'.out _ Bf.out false false).mono ?_
  rintro e wg ⟨rfl, hbg⟩
  rw [C0'.out]
  have Bg := hidF (HBX.out.below.trans ((Bf.out.trans (hbg.mono Bf.out.size)).mono HBX.out.below.size))
  clear hbg
  go_wp2_with fail
  go_returns
  exact ⟨by first | rfl | simp, Bg.out⟩
end Go.Proofs.Ythpffpgbmgnkcaa
