/- The document's Send: the stops upwards behind the node's own. -/
import Derived.Test.YtlfepdecgfcifaaDoorEvQsB
namespace Go.Proofs.YtlfepdecgfcifaaDoor
open Go.RowKit Go.BigFrame
set_option linter.unusedVariables false
attribute [local go_sem] Oper.semAt_some
theorem src_newS (w : World) (s : EvP) : SrcOf (w.alloc (.cells #[.int .i64 s.node, .int .i64 s.phase, .bool s.down] 96)) 3 (.slice (some ⟨w.heap.size, 0, none⟩) 1 1) 1 (stC s) := by
  refine ⟨rfl, stsC_one [] s, _, _, rfl, .inr ⟨_, rfl, ?_⟩⟩
  exact news_new w #[.int .i64 s.node, .int .i64 s.phase, .bool s.down] 96 _ rfl
/-- what the document's Send needs before its stops are full -/
structure QpL (w w1 : World) (wb : Nat) (lv gv wv : Value) (E : List EvS) (l : List EvP) (B : Nat) (ns : List Nd) (wr : World) : Prop where
  qe : QEs w wb lv gv E
  b1 : Below w.heap.size w w1
  tq : TqAt w1 B ns
  st : StAt w1 wr wv l
theorem QpL.all {w w1 wr : World} {wb : Nat} {lv gv wv : Value} {E : List EvS} {l : List EvP} {B : Nat} {ns : List Nd} (h : QpL w w1 wb lv gv wv E l B ns wr) : QsL w wb lv gv wv l (st0E E) (.slice none 0 0) wr := by
  have hb : Below w.heap.size w wr := h.b1.trans (h.st.below.mono h.b1.size)
  refine ⟨h.qe.below hb, own_monoE h.st.row h.b1.size, World.ownsRow_nil _ _ _ _, (fun b _ e => by simp [Value.ownBlock] at e), ⟨hb.os, hb.tape, hb.output, hb.size, fun k hk _ => hb.block k hk, ⟨hb.size, fun k o hk _ => (hb.block k (ltH hk)).trans hk⟩⟩, h.qe.lt⟩
theorem QpL.tree {w w1 wr : World} {wb : Nat} {lv gv wv : Value} {E : List EvS} {l : List EvP} {B : Nat} {ns : List Nd} (h : QpL w w1 wb lv gv wv E l B ns wr) : TqAt wr B ns := h.tq.below h.st.below
theorem QpL.app {w w1 wr w2 : World} {wb : Nat} {lv gv wv v2 : Value} {E : List EvS} {l : List EvP} {B : Nat} {ns : List Nd} {o : Obj} (h : QpL w w1 wb lv gv wv E l B ns wr) {s : EvP} (hv : w2.ownsRow w1.heap.size 96 3 v2 (l.length + 1) (stsC l ++ stC s)) (hg : (wr.alloc o).grownBy w2 wv.ownBlock) : QpL w w1 wb lv gv v2 E (l ++ [s]) B ns w2 := by
  exact ⟨h.qe, h.b1, h.tq, h.st.app hv hg⟩

set_option maxHeartbeats 8000000 in
set_option maxRecDepth 100000 in
theorem qs_up {w w1 wr0 : World} {wb : Nat} {lv gv wv : Value} {E : List EvS} {l : List EvP} {B : Nat} {ns : List Nd} {name : ByteArray} {id0 : Int} {rises : Bool} (h : QpL w w1 wb lv gv wv E l B ns wr0) (hE : E.length ≤ 1000) (hA : Asc ns) (hn : ns.length ≤ 90) (hl : l.length ≤ 100) (hpos : ∀ s ∈ l, 0 ≤ s.node) (hl0 : l ≠ []) (hid0 : 0 ≤ id0 ∧ id0 < ns.length) (prev : EvP)
    (u1 u5 u7 u8 u9 u10 u11 u12 u14 u15 u16 u17 u18 u19 u20 u21 u22 u23 u24 u25 u26 u27 u28 u29 u30 u31 u32 u33 u34 u35 u36 u37 u38 u39 u40 u41 u42 u43 u44 u45 u46 u47 u48 u49 u50 u51 u52 u53 u54 u55 u56 u57 u58 u59 u60 u61 u62 u63 u64 u65 u66 u67 u68 u69 u70 u71 u72 u73 u74 u75 u76 u77 u78 u79 u80 u81 u82 u83 u84 u85 u86 u87 u88 u89 u90 u91 u92 u93 u94 u95 u96 u97 u98 u99 u100 u101 u102 u103 u104 u105 u106 u107 u108 u109 u110 u111 u112 u113 u114 u115 u116 u117 u118 u119 u120 u121 u122 u123 u124 u125 u126 u127 u128 u129 u130 u131 u132 u133 u134 u135 u136 u137 u138 u139 u140 u141 u142 u143 u144 u145 u146 u147 u148 u149 u150 u151 u152 u153 u154 u155 u156 u157 u158 u159 u160 u161 u162 u163 u164 u165 u166 u167 u168 u169 u170 u171 u172 u173 u174 u175 u176 u177 u178 u179 u180 u181 u182 u183 u184 u185 u186 u187 u188 u189 u190 u191 u192 u193 u194 u195 u196 u197 u198 u199 u200 u201 u202 u203 : Value) :
    Code.wp Tryd.prog (restG 7 (bodyG Tryd.f13)) (bodyPost Tryd.prog Tryd.f13 (QsPost w wb lv gv (docF name (l ++ if rises then (upA ns (parOf ns id0)).map s3E else []) prev (st0E E)))) { tmps := #[.pointer (some ⟨wb, 0, none⟩), u1, .int .i64 id0, .string name, .bool rises, u5, .pointer (some ⟨B, 0, none⟩), u7, u8, u9, u10, u11, u12, wv, u14, u15, u16, u17, u18, u19, u20, u21, u22, u23, u24, u25, u26, u27, u28, u29, u30, u31, u32, u33, u34, u35, u36, u37, u38, u39, u40, u41, u42, u43, u44, u45, u46, u47, u48, u49, u50, u51, u52, u53, u54, u55, u56, u57, u58, u59, u60, u61, u62, u63, u64, u65, u66, u67, u68, u69, u70, u71, u72, u73, u74, u75, u76, u77, u78, u79, u80, u81, u82, u83, u84, u85, u86, u87, u88, u89, u90, u91, u92, u93, u94, u95, u96, u97, u98, u99, u100, u101, u102, u103, u104, u105, u106, u107, u108, u109, u110, u111, u112, u113, u114, u115, u116, u117, u118, u119, u120, u121, u122, u123, u124, u125, u126, u127, u128, u129, u130, u131, u132, u133, u134, u135, u136, u137, u138, u139, u140, u141, u142, u143, u144, u145, u146, u147, u148, u149, u150, u151, u152, u153, u154, u155, u156, u157, u158, u159, u160, u161, u162, u163, u164, u165, u166, u167, u168, u169, u170, u171, u172, u173, u174, u175, u176, u177, u178, u179, u180, u181, u182, u183, u184, u185, u186, u187, u188, u189, u190, u191, u192, u193, u194, u195, u196, u197, u198, u199, u200, u201, u202, u203], defers := [] } wr0 := by
  obtain ⟨i0, hi, hz0, hz1, hz2⟩ := info_parts Tryd.infoStopE
  obtain ⟨stops, hst⟩ : ∃ stops, stops = (l ++ if rises then (upA ns (parOf ns id0)).map s3E else []) := ⟨_, rfl⟩
  rw [← hst]
  have HST := hid hst
  have H := hid h
  have HP := hid hpos
  have hpar := hA.parI hid0.1 hid0.2
  have hrk := rkI_le ns (parOf ns id0)
  obtain ⟨M0, nb, cap, uv, t1, t2, t3, t4, t5, t6⟩ := h.tree
  obtain ⟨nd, hnd⟩ : ∃ nd, ns[id0.toNat]? = some nd := ⟨_, List.getElem?_eq_getElem (by omega)⟩
  have t7 := t6 _ _ hnd
  have hpe : parOf ns id0 = nd.parent := by unfold parOf; rw [hnd]
  obtain ⟨i, rfl⟩ : ∃ i : Nat, id0 = i := ⟨id0.toNat, by omega⟩
  rw [Int.toNat_natCast] at t7
  clear h hst hpos t6
  conv => arg 2; dsimp only [restG, bodyG, Tryd.f13]
  conv => arg 4; dsimp only
  go_wp2_with fail
  go_loopw [13, 16] (fun v iv wr => ∃ (L : List EvP) (p : Int), iv = .int .i64 p ∧ -1 ≤ p ∧ p < ns.length ∧ Hid (QpL w w1 wb lv gv v E L B ns wr ∧ L ++ (if rises then (upA ns p).map s3E else []) = stops ∧ ((∀ s ∈ L, 0 ≤ s.node) ∧ L.length + rkI ns p ≤ 200 ∧ L ≠ []))) (fun _ iv _ => rkI ns (intOf iv))
  case atStart => exact ⟨l, parOf ns i, by rw [hpe], hpar.2.1, hpar.2.2.1, H.out, HST.out.symm, HP.out, by omega, hl0⟩
  case round =>
    obtain ⟨L, p, rfl, hp0, hp1, HR⟩ := hrel
    obtain ⟨wv2, hv2⟩ : ∃ v, v = u13 := ⟨_, rfl⟩
    subst hv2
    obtain ⟨wq, hwq⟩ : ∃ wq, wq = wr := ⟨_, rfl⟩
    subst hwq
    clear t1 t2 t3 t4 t5 t7
    by_cases hp : 0 ≤ p
    · cases rises
      · have HF : Hid (L = stops) := by
          show _ = _
          rw [← HR.out.2.1]
          simp
        rename ∀ (a : Act) (w : World), Code.wp _ _ _ a w → _ => hKr
        have HKR := hid hKr
        clear hKr
        go_wp2_with fail
        refine HKR.out _ _ ?_
        obtain ⟨sa, sc, rfl, s1, s2, s3⟩ := own_shapeF HR.out.1.st.row
        have hLp : 0 < L.length := List.length_pos_iff.2 HR.out.2.2.2.2
        obtain ⟨sg, rfl⟩ := s3 hLp
        have hLl := HR.out.2.2.2.1
        rw [← HF.out]
        exact qs_end HR.out.1.all rfl rfl rfl hE (by omega) ⟨s1, s2⟩ HR.out.2.2.1 prev _ _ _ _ _ _ _ _ _ _ _ _ _ _ _ _ _ _ _ _ _ _ _ _ _ _ _ _ _ _ _ _ _ _ _ _ _ _ _ _ _ _ _ _ _ _ _ _ _ _ _ _ _ _ _ _ _ _ _ _ _ _ _ _ _ _ _ _ _ _ _ _ _ _ _ _ _ _ _ _ _ _ _ _ _ _ _ _ _ _ _ _ _ _ _ _ _ _ _ _ _ _ _ _ _ _ _ _ _ _ _ _ _ _ _ _ _ _ _ _ _ _ _ _ _ _ _ _ _ _ _ _ _ _ _ _ _ _ _ _ _ _ _ _ _ _ _ _ _ _ _ _ _ _ _ _ _ _ _ _ _ _ _ _ _ _ _ _ _ _ _ _ _ _ _ _ _ _ _ _ _ _ _ _ _ _ _ _ _ _ _ _ _ _ _ _ _ _ _ _
      · have hpr := hA.parI hp hp1
        obtain ⟨k, rfl⟩ : ∃ k : Nat, p = k := ⟨p.toNat, by omega⟩
        have hkl : k < ns.length := by omega
        obtain ⟨nk, hnk⟩ : ∃ nk, ns[k]? = some nk := ⟨_, List.getElem?_eq_getElem hkl⟩
        have hpk : parOf ns k = nk.parent := by unfold parOf; rw [Int.toNat_natCast, hnk]
        have hLl := HR.out.2.2.2.1
        have HOW : Hid (∀ (o : Obj), (wq.alloc o).ownsRow w1.heap.size 96 3 wv2 L.length (stsC L)) := fun o => HR.out.1.st.row.alloc o
        have hbw : w1.heap.size ≤ wq.heap.size := HR.out.1.st.below.size
        go_wp2_with (at_builtin; refine wpList_app_own _ (by rfl) (.tmp 76) (.tmp 79) 94 (by rfl) w1.heap.size 96 i0 _ 3 24 Tryd.underlying94 hi hz0 hz1 hz2 rfl (by decide) wv2 L.length (stsC L) (by rfl) (HOW.out _) (.slice (some ⟨wq.heap.size, 0, none⟩) 1 1) 1 (stC (s3E k)) (by rfl) (src_newS _ (s3E k)) (by unfold maxLen; omega) (by omega) (by simp only [World.size_alloc]; exact Nat.le_succ_of_le hbw) ?_; intro v6 w6 hv6 hg6 hx6; have HM := hid (HR.out.1.app (s := s3E k) hv6 hg6); clear hv6 hg6 hx6; obtain ⟨M0, nb, cap, uv, t1, t2, t3, t4, t5, t6⟩ := HM.out.tree; have t7 := t6 _ _ hnk; clear t6)
        all_goals go_roundw
        case rel => exact ⟨L ++ [s3E k], parOf ns k, by rw [hpk], hpr.2.1, hpr.2.2.1, HM.out, by rw [← HR.out.2.1, upA_cons hA hp hp1]; simp, fun s hs => by rcases List.mem_append.1 hs with h | h; exact HR.out.2.2.1 s h; simp at h; subst h; exact hp, by simp; omega, by simp⟩
        case measure => rw [hpk] at hpr; simpa [intOf] using hpr.1
    · have HF : Hid (L = stops) := by
        show _ = _
        rw [← HR.out.2.1, upA_neg (by omega)]
        simp
      rename ∀ (a : Act) (w : World), Code.wp _ _ _ a w → _ => hKr
      have HKR := hid hKr
      clear hKr
      go_wp2_with fail
      refine HKR.out _ _ ?_
      obtain ⟨sa, sc, rfl, s1, s2, s3⟩ := own_shapeF HR.out.1.st.row
      have hLp : 0 < L.length := List.length_pos_iff.2 HR.out.2.2.2.2
      obtain ⟨sg, rfl⟩ := s3 hLp
      have hLl := HR.out.2.2.2.1
      rw [← HF.out]
      exact qs_end HR.out.1.all rfl rfl rfl hE (by omega) ⟨s1, s2⟩ HR.out.2.2.1 prev _ _ _ _ _ _ _ _ _ _ _ _ _ _ _ _ _ _ _ _ _ _ _ _ _ _ _ _ _ _ _ _ _ _ _ _ _ _ _ _ _ _ _ _ _ _ _ _ _ _ _ _ _ _ _ _ _ _ _ _ _ _ _ _ _ _ _ _ _ _ _ _ _ _ _ _ _ _ _ _ _ _ _ _ _ _ _ _ _ _ _ _ _ _ _ _ _ _ _ _ _ _ _ _ _ _ _ _ _ _ _ _ _ _ _ _ _ _ _ _ _ _ _ _ _ _ _ _ _ _ _ _ _ _ _ _ _ _ _ _ _ _ _ _ _ _ _ _ _ _ _ _ _ _ _ _ _ _ _ _ _ _ _ _ _ _ _ _ _ _ _ _ _ _ _ _ _ _ _ _ _ _ _ _ _ _ _ _ _ _ _ _ _ _ _ _ _ _ _ _
set_option maxHeartbeats 8000000 in
set_option maxRecDepth 100000 in
theorem qs_own {w w1 wr0 : World} {wb : Nat} {lv gv wv : Value} {E : List EvS} {l : List EvP} {B : Nat} {ns : List Nd} {name : ByteArray} {id0 : Int} {rises : Bool} (h : QpL w w1 wb lv gv wv E l B ns wr0) (hE : E.length ≤ 1000) (hA : Asc ns) (hn : ns.length ≤ 90) (hl : l.length ≤ 95) (hpos : ∀ s ∈ l, 0 ≤ s.node) (hid0 : 0 ≤ id0 ∧ id0 < ns.length) (prev : EvP)
    (u1 u5 u7 u8 u9 u10 u11 u12 u14 u15 u16 u17 u18 u19 u20 u21 u22 u23 u24 u25 u26 u27 u28 u29 u30 u31 u32 u33 u34 u35 u36 u37 u38 u39 u40 u41 u42 u43 u44 u45 u46 u47 u48 u49 u50 u51 u52 u53 u54 u55 u56 u57 u58 u59 u60 u61 u62 u63 u64 u65 u66 u67 u68 u69 u70 u71 u72 u73 u74 u75 u76 u77 u78 u79 u80 u81 u82 u83 u84 u85 u86 u87 u88 u89 u90 u91 u92 u93 u94 u95 u96 u97 u98 u99 u100 u101 u102 u103 u104 u105 u106 u107 u108 u109 u110 u111 u112 u113 u114 u115 u116 u117 u118 u119 u120 u121 u122 u123 u124 u125 u126 u127 u128 u129 u130 u131 u132 u133 u134 u135 u136 u137 u138 u139 u140 u141 u142 u143 u144 u145 u146 u147 u148 u149 u150 u151 u152 u153 u154 u155 u156 u157 u158 u159 u160 u161 u162 u163 u164 u165 u166 u167 u168 u169 u170 u171 u172 u173 u174 u175 u176 u177 u178 u179 u180 u181 u182 u183 u184 u185 u186 u187 u188 u189 u190 u191 u192 u193 u194 u195 u196 u197 u198 u199 u200 u201 u202 u203 : Value) :
    Code.wp Tryd.prog (restG 5 (bodyG Tryd.f13)) (bodyPost Tryd.prog Tryd.f13 (QsPost w wb lv gv (docF name (((l ++ [⟨id0, 2, true⟩]) ++ [⟨id0, 2, false⟩]) ++ if rises then (upA ns (parOf ns id0)).map s3E else []) prev (st0E E)))) { tmps := #[.pointer (some ⟨wb, 0, none⟩), u1, .int .i64 id0, .string name, .bool rises, u5, .pointer (some ⟨B, 0, none⟩), u7, u8, u9, u10, u11, u12, wv, u14, u15, u16, u17, u18, u19, u20, u21, u22, u23, u24, u25, u26, u27, u28, u29, u30, u31, u32, u33, u34, u35, u36, u37, u38, u39, u40, u41, u42, u43, u44, u45, u46, u47, u48, u49, u50, u51, u52, u53, u54, u55, u56, u57, u58, u59, u60, u61, u62, u63, u64, u65, u66, u67, u68, u69, u70, u71, u72, u73, u74, u75, u76, u77, u78, u79, u80, u81, u82, u83, u84, u85, u86, u87, u88, u89, u90, u91, u92, u93, u94, u95, u96, u97, u98, u99, u100, u101, u102, u103, u104, u105, u106, u107, u108, u109, u110, u111, u112, u113, u114, u115, u116, u117, u118, u119, u120, u121, u122, u123, u124, u125, u126, u127, u128, u129, u130, u131, u132, u133, u134, u135, u136, u137, u138, u139, u140, u141, u142, u143, u144, u145, u146, u147, u148, u149, u150, u151, u152, u153, u154, u155, u156, u157, u158, u159, u160, u161, u162, u163, u164, u165, u166, u167, u168, u169, u170, u171, u172, u173, u174, u175, u176, u177, u178, u179, u180, u181, u182, u183, u184, u185, u186, u187, u188, u189, u190, u191, u192, u193, u194, u195, u196, u197, u198, u199, u200, u201, u202, u203], defers := [] } wr0 := by
  obtain ⟨i0, hi, hz0, hz1, hz2⟩ := info_parts Tryd.infoStopE
  have H := hid h
  have HP := hid hpos
  have hbw : w1.heap.size ≤ wr0.heap.size := h.st.below.size
  have HOW : Hid (∀ (o : Obj), (wr0.alloc o).ownsRow w1.heap.size 96 3 wv l.length (stsC l)) := fun o => H.out.st.row.alloc o
  clear h hpos
  conv => arg 2; dsimp only [restG, bodyG, Tryd.f13]
  conv => arg 4; dsimp only
  go_upto_region 11 with fail
  go_cut [13] from 49 to 53 (fun s13 wx => Hid (QpL w w1 wb lv gv s13 E (l ++ [⟨id0, 2, true⟩]) B ns wx))
  case first =>
    go_wp2_with (at_builtin; refine wpList_app_own _ (by rfl) (.tmp 49) (.tmp 52) 94 (by rfl) w1.heap.size 96 i0 _ 3 24 Tryd.underlying94 hi hz0 hz1 hz2 rfl (by decide) wv l.length (stsC l) (by rfl) (HOW.out _) (.slice (some ⟨wr0.heap.size, 0, none⟩) 1 1) 1 (stC ⟨id0, 2, true⟩) (by rfl) (src_newS _ ⟨id0, 2, true⟩) (by unfold maxLen; omega) (by omega) (by simp only [World.size_alloc]; exact Nat.le_succ_of_le hbw) ?_; intro v6 w6 hv6 hg6 hx6; have HM := hid (H.out.app (s := ⟨id0, 2, true⟩) hv6 hg6); clear hv6 hg6 hx6)
    all_goals go_meet
    all_goals exact HM
  case rest =>
  obtain ⟨wv2, hv2⟩ : ∃ v, v = u13 := ⟨_, rfl⟩
  subst hv2
  obtain ⟨wq, hwq⟩ : ∃ w9, w9 = wc := ⟨_, rfl⟩
  subst hwq
  have HM := hcut
  clear hcut HOW hbw
  have hbw : w1.heap.size ≤ wq.heap.size := HM.out.st.below.size
  have HOW : Hid (∀ (o : Obj), (wq.alloc o).ownsRow w1.heap.size 96 3 wv2 (l ++ [(⟨id0, 2, true⟩ : EvP)]).length (stsC (l ++ [⟨id0, 2, true⟩]))) := fun o => HM.out.st.row.alloc o
  have hll : (l ++ [(⟨id0, 2, true⟩ : EvP)]).length = l.length + 1 := by simp
  go_upto_region 12 with fail
  rename ∀ (a : Act) (w : World), Code.wp _ _ _ a w → _ => hKr
  have HKR := hid hKr
  clear hKr
  go_wp2_with (at_builtin; refine wpList_app_own _ (by rfl) (.tmp 54) (.tmp 57) 94 (by rfl) w1.heap.size 96 i0 _ 3 24 Tryd.underlying94 hi hz0 hz1 hz2 rfl (by decide) wv2 (l ++ [(⟨id0, 2, true⟩ : EvP)]).length (stsC (l ++ [⟨id0, 2, true⟩])) (by rfl) (HOW.out _) (.slice (some ⟨wq.heap.size, 0, none⟩) 1 1) 1 (stC ⟨id0, 2, false⟩) (by rfl) (src_newS _ ⟨id0, 2, false⟩) (by unfold maxLen; omega) (by omega) (by simp only [World.size_alloc]; exact Nat.le_succ_of_le hbw) ?_; intro v6 w6 hv6 hg6 hx6; have HN := hid (HM.out.app (s := ⟨id0, 2, false⟩) hv6 hg6); clear hv6 hg6 hx6)
  refine HKR.out _ _ ?_
  exact qs_up HN.out hE hA hn (by simp; omega) (fun s hs => by
    rcases List.mem_append.1 hs with h | h
    · rcases List.mem_append.1 h with h | h
      · exact HP.out s h
      · simp at h; subst h; exact hid0.1
    · simp at h; subst h; exact hid0.1) (by simp) hid0 prev _ _ _ _ _ _ _ _ _ _ _ _ _ _ _ _ _ _ _ _ _ _ _ _ _ _ _ _ _ _ _ _ _ _ _ _ _ _ _ _ _ _ _ _ _ _ _ _ _ _ _ _ _ _ _ _ _ _ _ _ _ _ _ _ _ _ _ _ _ _ _ _ _ _ _ _ _ _ _ _ _ _ _ _ _ _ _ _ _ _ _ _ _ _ _ _ _ _ _ _ _ _ _ _ _ _ _ _ _ _ _ _ _ _ _ _ _ _ _ _ _ _ _ _ _ _ _ _ _ _ _ _ _ _ _ _ _ _ _ _ _ _ _ _ _ _ _ _ _ _ _ _ _ _ _ _ _ _ _ _ _ _ _ _ _ _ _ _ _ _ _ _ _ _ _ _ _ _ _ _ _ _ _ _ _ _ _ _ _ _ _ _ _ _ _ _ _ _
end Go.Proofs.YtlfepdecgfcifaaDoor
