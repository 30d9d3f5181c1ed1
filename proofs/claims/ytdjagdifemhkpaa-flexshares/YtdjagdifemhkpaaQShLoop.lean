/- The document's Share: round by round. -/
import Derived.Test.YtdjagdifemhkpaaQShFour
import Derived.Test.YtdjagdifemhkpaaQShFive
import Derived.Test.YtdjagdifemhkpaaQShSix
namespace Go.Proofs.Ytdjagdifemhkpaa
open Go.RowKit
set_option linter.unusedVariables false      -- bounds that are for the walk

set_option maxHeartbeats 8000000 in
set_option maxRecDepth 100000 in
theorem qshare_loop {w wl w5 : World} {its : List It} {la : Option Addr} {lc n g1 g2 g3 : Nat} {gw : Bool} {rm z st : Int} {fin : List Pr}
    (hO : ItsOk its) (hM : ∀ i ∈ its, 0 ≤ i.mn) (hN : its.length = n) (hB : Below w.heap.size w wl) (hI : ItemsL wl (.slice la n lc) its) (r1 : -16777216 ≤ rm) (r2 : rm ≤ 16777216) (z1 : -7000000000 ≤ z) (z2 : z ≤ 7000000000) (t1 : -13000000000 ≤ st) (t2 : st ≤ 13000000000)
    (hS : QInv wl w5 g1 g2 g3 n gw (rm - z) st its fin) (u0 u2 u3 u4 u5 u6 u10 u11 u16 u17 u19 u20 u21 u22 u23 u24 u25 u26 u27 u28 u29 u30 u31 u32 u33 u34 u35 u36 u37 u38 u39 u40 u41 u42 u43 u44 u45 u46 u47 u48 u49 u50 u51 u52 u53 u54 u55 u56 u57 u58 u59 u60 u61 u62 u63 u64 u65 u66 u67 u68 u69 u70 u71 u72 u73 u74 u75 u76 u77 u78 u79 u80 u81 u82 u83 u84 u85 u86 u87 u88 u89 u90 u91 u92 u93 u94 u95 u96 u97 u98 u99 u100 u101 u102 u103 u104 u105 u106 u107 u108 u109 u110 u111 u112 u113 u114 u115 u116 u117 u118 u119 u120 u121 u122 u123 u124 u125 u126 u127 u128 u129 u130 u131 u132 u133 u134 u135 u136 u137 u138 u139 u140 u141 u142 u143 u144 u145 u146 u147 u148 u149 u150 u151 u152 u153 u154 u155 u156 u157 u158 u159 u160 u161 u162 u163 u164 u165 u166 u167 u168 u169 u170 u171 u172 u173 u174 u175 u176 u177 u178 u179 u180 u181 u182 u183 u184 u185 u186 u187 u188 u189 u190 u191 u192 u193 u194 u195 u196 u197 u198 u199 u200 u201 u202 u203 u204 u205 u206 u207 u208 u209 u210 u211 u212 u213 u214 u215 u216 u217 u218 u219 u220 u221 u222 u223 u224 u225 u226 u227 u228 u229 u230 u231 u232 u233 u234 u235 u236 u237 u238 u239 u240 u241 u242 u243 u244 u245 u246 u247 u248 u249 u250 u251 u252 u253 u254 u255 u256 u257 u258 u259 u260 u261 u262 u263 u264 u265 u266 u267 u268 u269 u270 u271 u272 u273 u274 u275 u276 u277 u278 u279 u280 u281 u282 u283 u284 u285 u286 u287 u288 u289 u290 u291 u292 u293 u294 u295 u296 u297 u298 u299 u300 u301 u302 u303 u304 u305 u306 u307 u308 u309 u310 u311 : Value) :
    Code.wp Try.prog (inB (restOf 14 (bodyOf Try.f14))) (Exit.inBlock 4 (bodyPost Try.prog Try.f14 (fun e w' => ∃ v', e = .returned v' ∧ IntL w' v' (fin.map Pr.size) ∧ Below w.heap.size w w'))) { tmps := #[u0, .int .i64 rm, u2, u3, u4, u5, u6, .slice la n lc, .int .i64 (n : Int), .int .i64 z, u10, u11, .bool gw, .slice (some ⟨g1, 0, none⟩) n n, .slice (some ⟨g2, 0, none⟩) n n, .slice (some ⟨g3, 0, none⟩) n n, u16, u17, .int .i64 st, u19, u20, u21, u22, u23, u24, u25, u26, u27, u28, u29, u30, u31, u32, u33, u34, u35, u36, u37, u38, u39, u40, u41, u42, u43, u44, u45, u46, u47, u48, u49, u50, u51, u52, u53, u54, u55, u56, u57, u58, u59, u60, u61, u62, u63, u64, u65, u66, u67, u68, u69, u70, u71, u72, u73, u74, u75, u76, u77, u78, u79, u80, u81, u82, u83, u84, u85, u86, u87, u88, u89, u90, u91, u92, u93, u94, u95, u96, u97, u98, u99, u100, u101, u102, u103, u104, u105, u106, u107, u108, u109, u110, u111, u112, u113, u114, u115, u116, u117, u118, u119, u120, u121, u122, u123, u124, u125, u126, u127, u128, u129, u130, u131, u132, u133, u134, u135, u136, u137, u138, u139, u140, u141, u142, u143, u144, u145, u146, u147, u148, u149, u150, u151, u152, u153, u154, u155, u156, u157, u158, u159, u160, u161, u162, u163, u164, u165, u166, u167, u168, u169, u170, u171, u172, u173, u174, u175, u176, u177, u178, u179, u180, u181, u182, u183, u184, u185, u186, u187, u188, u189, u190, u191, u192, u193, u194, u195, u196, u197, u198, u199, u200, u201, u202, u203, u204, u205, u206, u207, u208, u209, u210, u211, u212, u213, u214, u215, u216, u217, u218, u219, u220, u221, u222, u223, u224, u225, u226, u227, u228, u229, u230, u231, u232, u233, u234, u235, u236, u237, u238, u239, u240, u241, u242, u243, u244, u245, u246, u247, u248, u249, u250, u251, u252, u253, u254, u255, u256, u257, u258, u259, u260, u261, u262, u263, u264, u265, u266, u267, u268, u269, u270, u271, u272, u273, u274, u275, u276, u277, u278, u279, u280, u281, u282, u283, u284, u285, u286, u287, u288, u289, u290, u291, u292, u293, u294, u295, u296, u297, u298, u299, u300, u301, u302, u303, u304, u305, u306, u307, u308, u309, u310, u311], defers := [] } w5 := by
  have HO := hidF hO
  have HM := hidF hM
  have HN := hidF hN
  have HB := hidF hB
  have HI := hidF hI
  have HS : Hid (QInv wl w5 g1 g2 g3 n gw (rm - z) st its fin) := hS
  have hn2 : n ≤ 200 := by rw [← hN]; exact hO.len
  have HL : Hid (∀ (j : Nat) (x : It), its[j]? = some x → ∃ b o, la = some ⟨b, o, none⟩ ∧ ItAt wl b (o + j * 6) x) := by
    obtain ⟨la', lc', e, _, _, hl⟩ := hI
    cases e
    exact hl
  have Z2 : IntKind.i64.wrap (rm - z) = rm - z := wrapJ (by omega) (by omega)
  obtain ⟨rz, hrz⟩ : ∃ r, rm - z = r := ⟨_, rfl⟩
  rw [hrz] at HS Z2
  have rz1 : -8000000000 ≤ rz := by omega
  have rz2 : rz ≤ 8000000000 := by omega
  have HRZ := hidF hrz
  clear hO hM hN hB hI hS
  conv => arg 2; dsimp only [inB, restOf, bodyOf, Try.f14]
  conv => arg 4; dsimp only
  go_loopw [] (fun wr => Hid (QInv wl wr g1 g2 g3 n gw rz st its fin)) (fun wr => openW wr g2 n)
  case atStart => exact HS.out
  case round =>
    obtain ⟨qs, hq, hqi, hqo, fu, hfu, hfin⟩ := hrel.out
    have HQ := hidF hq
    have HQI := hidF hqi
    have HQO := hidF hqo
    have hql : qs.length = n := by rw [← HN.out, ← hqi, List.length_map]
    have HQL := hidF hql
    have HFU := hidF (And.intro hfu hfin)
    have HIT : Hid (∀ (j : Nat) (p : Pr), qs[j]? = some p → ∃ b o, la = some ⟨b, o, none⟩ ∧ ItAt wl b (o + j * 6) p.i) := fun j p hj => HL.out j p.i (by rw [← HQI.out, List.getElem?_map, hj]; rfl)
    have QLF := hidF (qleftS_any (w := wr) (lv := .slice la n lc) (ov := .slice (some ⟨g1, 0, none⟩) n n) (dv := .slice (some ⟨g2, 0, none⟩) n n) (ps := qs) (by rw [hqi]; exact HI.out.below hq.below) (hq.o.ints (by omega) (map_atF _ _ hql)) (hq.d.bools (by omega) (map_setB _ hql)) hqo rz (by omega) (by omega))
    have frb := hqo.free rz n
    obtain ⟨fr, hfr⟩ : ∃ f, freeN rz qs n = f := ⟨_, rfl⟩
    rw [hql, hfr] at QLF
    rw [hfr] at frb
    have HFR := hidF hfr
    obtain ⟨f1, f2⟩ := frb
    have OW := hidF (openW_eq hq.d hql)
    obtain ⟨w0, hw0⟩ : ∃ w9, w9 = wr := ⟨_, rfl⟩
    subst hw0
    clear hrel hq hqi hqo hfu hfin hfr hql HL HS
    go_wp2_with fail
    refine QLF.out.mono ?_
    rintro e w6 ⟨rfl, hw6⟩
    rw [hw6]
    clear hw6 w6 QLF
    go_wp2_with fail
    refine qsh_four (wl := wl) (its := its) (qs := qs) (la := la) (lc := lc) (n := n) (g1 := g1) (g2 := g2) (g3 := g3) (gw := gw) HN.out HM.out HQL.out HQI.out HQO.out HI.out HQ.out _ _ _ _ _ _ _ _ _ _ _ _ _ _ _ _ _ _ _ _ _ _ _ _ _ _ _ _ _ _ _ _ _ _ _ _ _ _ _ _ _ _ _ _ _ _ _ _ _ _ _ _ _ _ _ _ _ _ _ _ _ _ _ _ _ _ _ _ _ _ _ _ _ _ _ _ _ _ _ _ _ _ _ _ _ _ _ _ _ _ _ _ _ _ _ _ _ _ _ _ _ _ _ _ _ _ _ _ _ _ _ _ _ _ _ _ _ _ _ _ _ _ _ _ _ _ _ _ _ _ _ _ _ _ _ _ _ _ _ _ _ _ _ _ _ _ _ _ _ _ _ _ _ _ _ _ _ _ _ _ _ _ _ _ _ _ _ _ _ _ _ _ _ _ _ _ _ _ _ _ _ _ _ _ _ _ _ _ _ _ _ _ _ _ _ _ _ _ _ _ _ _ _ _ _ _ _ _ _ _ _ _ _ _ _ _ _ _ _ _ _ _ _ _ _ _ _ _ _ _ _ _ _ _ _ _ _ _ _ _ _ _ _ _ _ _ _ _ _ _ _ _ _ _ _ _ _ _ _ _ _ _ _ _ _ _ _ _ _ _ _ _ _ _ _ _ _ _ _ _ _ _ _ _ _ _ _ _ _ _ _ _ _ _ _ _ _ _ ?_
    intro u6 u23 u24 u25 u26 u27 u28 u29 u30 u31 u32 u157 u158 u159 u160 u161 u162 u163 u164 u165 u166 u167 u168 u169 u170 u171 u172 u173 u174 u175 u176 u177 u178 u179 u180 u181 u182 u183 u184 u185 u186 u187 u188 u189 u190 u191 u192 u193 u194 u195 u196 u197 u198 u199 u200 u201 u202 u203 u204 u205 u206 u207 u208 u209 u210 u211 u212 u213 u214 u215 u216 u217 u218 u219 u220 u221 u222 u223 u224 u225 u226 u227 u228 u229 u230 u231 u232 u233 u234 u235 u236 u237 u238 u239 u240 u241 u242 u243 u244 u245 u246 u247 u248 u249 u250 u251 u252 u253 u254 u255 u256 u257 u258 u259 u260 u261 u262 u263 u264 u265 u266 u267 u268 u269 u270 u271 u272 u273 u274 u275 u276 u277 u278 u279 u280 u281 u282 u283 u284 u285 u286 u287 u288 u289 u290 u291 u292 u293 u294 u295 u296 u297 u298 u299 u300 u301 u302 u303 u304 u305 u306 u307 u308 u309 u310 u311 wr fa wt c hz1 hz2 hz3 hz4
    have HZ := hidF (And.intro hz1 (And.intro hz2 (And.intro hz3 hz4)))
    clear hz1 hz2 hz3 hz4
    have b1 := HQO.out.fac gw n (by rw [HQL.out]; exact Nat.le_refl _)
    have b2 := HQO.out.wt gw n (by rw [HQL.out]; exact Nat.le_refl _)
    rw [← HZ.out.1] at b1
    rw [← HZ.out.2.1] at b2
    obtain ⟨b1, b1'⟩ := b1
    obtain ⟨b2, b2'⟩ := b2
    obtain ⟨m, hmn⟩ : ∃ m, m = n := ⟨_, rfl⟩
    subst hmn
    have HC : Hid (c = ((openL qs).length : Nat)) := by
      show _ = _
      rw [HZ.out.2.2.1, ← HQL.out, count_all]
    have HQ4 := hidF (HQ.out.held HZ.out.2.2.2)
    have HFA := hidF HZ.out.1
    have HWT := hidF HZ.out.2.1
    have B4 := hidF HZ.out.2.2.2
    obtain ⟨w4, hw4⟩ : ∃ w9, w9 = wr := ⟨_, rfl⟩
    subst hw4
    clear HZ
    by_cases hc : c = 0
    · have hop : openL qs = [] := List.eq_nil_of_length_eq_zero (by have := HC.out; omega)
      have HI9 : Hid (IntL w4 (.slice (some ⟨g1, 0, none⟩) m m) (fin.map Pr.size)) := by
        have h8 := HFU.out.2
        rw [shareL_done hop] at h8
        rw [← h8]
        exact HQ4.out.o.ints (by omega) (map_atF _ _ HQL.out)
      have HB9 := hidF (HB.out.trans (HQ4.out.below.mono HB.out.size))
      subst hc
      clear hop
      go_wp2_with fail
      go_returns
      exact ⟨_, rfl, HI9.out, HB9.out⟩
    · have hop : openL qs ≠ [] := fun e => by
        have := HC.out
        rw [e] at this
        exact hc (by simpa using this)
      have HRO : Hid (RowOk qs) := by
        rcases HQO.out.row with h9 | h9
        · exact absurd h9 hop
        · exact h9
      have hc' : (c == 0) = false := by simpa using hc
      have frb := HRO.out.free rz m
      rw [HFR.out] at frb
      have amb := amountP_bd HRO.out gw rz st (by omega) (by omega)
      obtain ⟨am, ham⟩ : ∃ a, amountP gw rz st qs = a := ⟨_, rfl⟩
      rw [ham] at amb
      obtain ⟨am1, am2⟩ := amb
      have HAM : Hid (am = amountN fr st fa) := by
        show _ = _
        rw [← ham]
        unfold amountP
        rw [HQL.out, HFR.out, HFA.out]
      have HAMP := hidF ham
      have HOP := hidF hop
      have fr1 : -12000000000 ≤ fr := by omega
      have fr2 : fr ≤ 12000000000 := by omega
      clear hc ham hop frb
      go_upto_if 198 with fail
      go_cut [24] (fun s wx => s = .int .i64 am ∧ wx = w4)
      case first =>
        by_cases hf : fa < 1000
        · have mb : (st * fa).natAbs ≤ 13000000000 * 1000 := by
            rw [Int.natAbs_mul]; exact Nat.mul_le_mul (by omega) (by omega)
          have mt : ((st * fa).tdiv 1000).natAbs ≤ (st * fa).natAbs := Int.natAbs_tdiv_le_natAbs _ _
          have V9 : IntKind.i64.wrap (st * fa) = st * fa := wrapJ (by omega) (by omega)
          obtain ⟨sm, hsm⟩ : ∃ s, (st * fa).tdiv 1000 = s := ⟨_, rfl⟩
          have sm1 : -13000000000000 ≤ sm := by omega
          have sm2 : sm ≤ 13000000000000 := by omega
          have V8 : IntKind.i64.wrap sm = sm := wrapJ (by omega) (by omega)
          have M1 := hidF (qsize_any sm (by omega) (by omega))
          have M2 := hidF (qsize_any fr (by omega) (by omega))
          have e9 : am = if sm.natAbs < fr.natAbs then sm else fr := by rw [HAM.out]; unfold amountN; rw [if_neg (by omega), hsm]
          obtain ⟨n1, hn1⟩ : ∃ n, sm.natAbs = n := ⟨_, rfl⟩
          obtain ⟨n2, hn2⟩ : ∃ n, fr.natAbs = n := ⟨_, rfl⟩
          rw [hn1] at M1
          rw [hn2] at M2
          rw [hn1, hn2] at e9
          have E9 := hidF e9
          clear hn1 hn2 mb mt e9
          by_cases hc : n1 < n2
          · have hc2 : (n1 : Int) < (n2 : Int) := by omega
            go_wp2_with fail
            refine (M1.out _).mono ?_
            rintro e w8 ⟨rfl, hw8⟩
            rw [hw8]
            clear hw8
            go_wp2_with fail
            refine (M2.out _).mono ?_
            rintro e w8 ⟨rfl, hw8⟩
            rw [hw8]
            clear hw8
            go_wp2_with fail
            go_meet
            case rel => go_light; exact ⟨by rw [E9.out, if_pos hc], rfl⟩
          · have hc2 : ¬ (n1 : Int) < (n2 : Int) := by omega
            go_wp2_with fail
            refine (M1.out _).mono ?_
            rintro e w8 ⟨rfl, hw8⟩
            rw [hw8]
            clear hw8
            go_wp2_with fail
            refine (M2.out _).mono ?_
            rintro e w8 ⟨rfl, hw8⟩
            rw [hw8]
            clear hw8
            go_wp2_with fail
            go_meet
            case rel => go_light; exact ⟨by rw [E9.out, if_neg hc], rfl⟩
        · have E9 : Hid (am = fr) := by
            show _ = _
            rw [HAM.out]; unfold amountN; rw [if_pos (by omega)]
          go_wp2_with fail
          go_meet
          case rel => go_light; exact ⟨by rw [E9.out], rfl⟩
      case rest =>
      obtain ⟨rfl, hw4⟩ := hcut
      have hw4' := hw4.symm
      clear hw4
      subst hw4'
      obtain ⟨w7, mk, bg, bw⟩ := make_intsB w4 m (by omega)
      have HQ7 := hidF (HQ4.out.held bw)
      have BG := hidF bg
      have n41 : w4.heap.size ≠ g1 := by have := HQ4.out.o.lt; omega
      have n42 : w4.heap.size ≠ g2 := by have := HQ4.out.d.lt; omega
      have n43 : w4.heap.size ≠ g3 := by have := HQ4.out.f.lt; omega
      have n4l : wl.heap.size ≤ w4.heap.size := HQ4.out.below.size
      obtain ⟨g4, hg4⟩ : ∃ g, w4.heap.size = g := ⟨_, rfl⟩
      rw [hg4] at n41 n42 n43 n4l BG mk
      clear hg4
      go_wp2_with fail
      refine qsh_five (wl := wl) (its := its) (qs := qs) (la := la) (lc := lc) (m := m) (g1 := g1) (g2 := g2) (g3 := g3) (g4 := g4) (gw := gw) HN.out HM.out HQL.out HQI.out HQO.out HI.out HRO.out am1 am2 HWT.out n41 n42 n43 n4l HQ7.out BG.out _ _ _ _ _ _ _ _ _ _ _ _ _ _ _ _ _ _ _ _ _ _ _ _ _ _ _ _ _ _ _ _ _ _ _ _ _ _ _ _ _ _ _ _ _ _ _ _ _ _ _ _ _ _ _ _ _ _ _ _ _ _ _ _ _ _ _ _ _ _ _ _ _ _ _ _ _ _ _ _ _ _ _ _ _ _ _ _ _ _ _ _ _ _ _ _ _ _ _ _ _ _ _ _ _ _ _ _ _ _ _ _ _ _ _ _ _ _ _ _ _ _ _ _ _ _ _ _ _ _ _ _ _ _ _ _ _ _ _ _ _ _ _ _ _ _ _ _ _ _ _ _ _ _ _ _ _ _ _ _ _ _ _ _ _ _ _ _ _ _ _ _ _ _ _ _ _ _ _ _ _ _ _ _ _ _ _ _ _ _ _ _ _ _ _ _ _ _ _ _ _ _ _ _ _ _ _ _ _ _ _ _ _ _ _ _ _ _ _ _ _ _ _ _ _ _ _ _ _ _ _ _ _ _ _ _ _ _ _ _ _ _ _ _ _ _ _ _ _ _ _ _ _ _ _ _ _ _ _ _ _ _ _ _ _ _ _ _ _ _ _ _ _ _ _ _ _ _ _ _ _ _ _ _ _ _ _ _ _ _ _ _ _ _ ?_
      intro u6 u23 u25 u28 u29 u30 u31 u32 u157 u158 u159 u160 u161 u162 u163 u164 u165 u166 u167 u168 u169 u170 u171 u172 u173 u174 u175 u176 u177 u178 u179 u180 u181 u182 u183 u184 u185 u186 u187 u188 u189 u190 u191 u192 u193 u194 u195 u196 u197 u198 u199 u200 u201 u202 u203 u204 u205 u206 u207 u208 u209 u210 u211 u212 u213 u214 u215 u216 u217 u218 u219 u220 u221 u222 u223 u224 u225 u226 u227 u228 u229 u230 u231 u232 u233 u234 u235 u236 u237 u238 u239 u240 u241 u242 u243 u244 u245 u246 u247 u248 u249 u250 u251 u252 u253 u254 u255 u256 u257 u258 u259 u260 u261 u262 u263 u264 u265 u266 u267 u268 u269 u270 u271 u272 u273 u274 u275 u276 u277 u278 u279 u280 u281 u282 u283 u284 u285 u286 u287 u288 u289 u290 u291 u292 u293 u294 u295 u296 u297 u298 u299 u300 u301 u302 u303 u304 u305 u306 u307 u308 u309 u310 u311 wx gn gn1 gn2 hz1 hz2 hz3
      have HY := hidF (And.intro hz1 (And.intro hz2 hz3))
      clear hz1 hz2 hz3
      go_wp2_with fail
      refine qsh_six (wl := wl) (w0 := w0) (its := its) (qs := qs) (ds := dealtL gw am qs) (fin := fin) (la := la) (lc := lc) (k := m) (g1 := g1) (g2 := g2) (g3 := g3) (g4 := g4) (gw := gw) (rz := rz) (am := am) (gn := gn) HN.out HM.out HQL.out HQI.out HQO.out HI.out HRO.out rz1 rz2 HAMP.out rfl HY.out.1 gn1 gn2 n41 n42 n43 n4l HOP.out HFU.out.1 HFU.out.2 OW.out HY.out.2.1 HY.out.2.2 _ _ _ _ _ _ _ _ _ _ _ _ _ _ _ _ _ _ _ _ _ _ _ _ _ _ _ _ _ _ _ _ _ _ _ _ _ _ _ _ _ _ _ _ _ _ _ _ _ _ _ _ _ _ _ _ _ _ _ _ _ _ _ _ _ _ _ _ _ _ _ _ _ _ _ _ _ _ _ _ _ _ _ _ _ _ _ _ _ _ _ _ _ _ _ _ _ _ _ _ _ _ _ _ _ _ _ _ _ _ _ _ _ _ _ _ _ _ _ _ _ _ _ _ _ _ _ _ _ _ _ _ _ _ _ _ _ _ _ _ _ _ _ _ _ _ _ _ _ _ _ _ _ _ _ _ _ _ _ _ _ _ _ _ _ _ _ _ _ _ _ _ _ _ _ _ _ _ _ _ _ _ _ _ _ _ _ _ _ _ _ _ _ _ _ _ _ _ _ _ _ _ _ _ _ _ _ _ _ _ _ _ _ _ _ _ _ _ _ _ _ _ _ _ _ _ _ _ _ _ _ _ _ _ _ _ _ _ _ _ _ _ _ _ _ _ _ _ _ _ _ _ _ _ _ _ _ _ _ _ _ _ _ _ _ _ _ _ _ _ _ _ _ _ _ _ _ _ _ _ _ _ _ _ _ _ _ _ _ _ _ _ _ _ _ _ _ _ _ ?_
      intro u6 u20 u21 u22 u23 u24 u25 u26 u27 u28 u29 u30 u31 u32 u157 u158 u159 u160 u161 u162 u163 u164 u165 u166 u167 u168 u169 u170 u171 u172 u173 u174 u175 u176 u177 u178 u179 u180 u181 u182 u183 u184 u185 u186 u187 u188 u189 u190 u191 u192 u193 u194 u195 u196 u197 u198 u199 u200 u201 u202 u203 u204 u205 u206 u207 u208 u209 u210 u211 u212 u213 u214 u215 u216 u217 u218 u219 u220 u221 u222 u223 u224 u225 u226 u227 u228 u229 u230 u231 u232 u233 u234 u235 u236 u237 u238 u239 u240 u241 u242 u243 u244 u245 u246 u247 u248 u249 u250 u251 u252 u253 u254 u255 u256 u257 u258 u259 u260 u261 u262 u263 u264 u265 u266 u267 u268 u269 u270 u271 u272 u273 u274 u275 u276 u277 u278 u279 u280 u281 u282 u283 u284 u285 u286 u287 u288 u289 u290 u291 u292 u293 u294 u295 u296 u297 u298 u299 u300 u301 u302 u303 u304 u305 u306 u307 u308 u309 u310 u311 wy hz1 hz2
      have HV := hidF (And.intro hz1 hz2)
      clear hz1 hz2
      go_wp2_with fail
      go_roundw
      case rel => go_light; exact HV.out.1
      case measure => exact HV.out.2
end Go.Proofs.Ytdjagdifemhkpaa
