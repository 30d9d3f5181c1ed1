/- The document's Send: the stops downwards to the node. -/
import Derived.Test.YtlfepdecgfcifaaDoorEvQsC
namespace Go.Proofs.YtlfepdecgfcifaaDoor
open Go.RowKit Go.BigFrame
set_option linter.unusedVariables false
attribute [local go_sem] Oper.semAt_some
theorem QpL.pre {w w1 wr w6 w7 : World} {wb : Nat} {lv gv wv v6 v7 : Value} {E : List EvS} {l : List EvP} {B k6 : Nat} {ns : List Nd} {o : Obj} {xs6 : List Value} (h : QpL w w1 wb lv gv wv E l B ns wr) {s : EvP} (hg1 : (wr.alloc o).grownBy w6 none) (hv6 : w6.ownsRow w1.heap.size 96 3 v6 k6 xs6) (hv7 : w7.ownsRow w1.heap.size 96 3 v7 (0 + 1 + l.length) (([] ++ stC s) ++ stsC l)) (hg2 : w6.grownBy w7 v6.ownBlock) : QpL w w1 wb lv gv v7 E (s :: l) B ns w7 := by
  have hz := h.st.below.size
  have hb6 : Below w1.heap.size w1 w6 := (h.st.below.alloc hz o).grown hg1 (by simp; omega) (fun q hq => by cases hq)
  refine ⟨h.qe, h.b1, h.tq, ⟨hb6.grown hg2 hb6.size (fun q hq => (hv6.lt q hq).1), ?_⟩⟩
  have e : (s :: l).length = 0 + 1 + l.length := by simp; omega
  rw [e]
  exact hv7
theorem QpL.src {w w1 wr w6 : World} {wb : Nat} {lv gv wv : Value} {E : List EvS} {l : List EvP} {B : Nat} {ns : List Nd} {o : Obj} (h : QpL w w1 wb lv gv wv E l B ns wr) (hg1 : (wr.alloc o).grownBy w6 none) : SrcOf w6 3 wv l.length (stsC l) :=
  own_src (own_below h.st.row ((((Below.refl _ wr).alloc (Nat.le_refl _) o).grown hg1 (by simp) (fun q hq => by cases hq)) : Below wr.heap.size wr w6) (Nat.le_refl _)) (stsC_all l)

set_option maxHeartbeats 8000000 in
set_option maxRecDepth 100000 in
theorem qs_way {w w1 : World} {wb : Nat} {lv gv : Value} {E : List EvS} {B : Nat} {ns : List Nd} {name : ByteArray} {id0 : Int} {rises : Bool} (h : QpL w w1 wb lv gv (.slice none 0 0) E [] B ns w1) (hE : E.length ≤ 1000) (hA : Asc ns) (hn : ns.length ≤ 90) (hid0 : 0 ≤ id0 ∧ id0 < ns.length) (prev : EvP)
    (u1 u5 u7 u8 u9 u10 u11 u12 u13 u14 u15 u16 u17 u18 u19 u20 u21 u22 u23 u24 u25 u26 u27 u28 u29 u30 u31 u32 u33 u34 u35 u36 u37 u38 u39 u40 u41 u42 u43 u44 u45 u46 u47 u48 u49 u50 u51 u52 u53 u54 u55 u56 u57 u58 u59 u60 u61 u62 u63 u64 u65 u66 u67 u68 u69 u70 u71 u72 u73 u74 u75 u76 u77 u78 u79 u80 u81 u82 u83 u84 u85 u86 u87 u88 u89 u90 u91 u92 u93 u94 u95 u96 u97 u98 u99 u100 u101 u102 u103 u104 u105 u106 u107 u108 u109 u110 u111 u112 u113 u114 u115 u116 u117 u118 u119 u120 u121 u122 u123 u124 u125 u126 u127 u128 u129 u130 u131 u132 u133 u134 u135 u136 u137 u138 u139 u140 u141 u142 u143 u144 u145 u146 u147 u148 u149 u150 u151 u152 u153 u154 u155 u156 u157 u158 u159 u160 u161 u162 u163 u164 u165 u166 u167 u168 u169 u170 u171 u172 u173 u174 u175 u176 u177 u178 u179 u180 u181 u182 u183 u184 u185 u186 u187 u188 u189 u190 u191 u192 u193 u194 u195 u196 u197 u198 u199 u200 u201 u202 u203 : Value) :
    Code.wp Tryd.prog (restG 3 (bodyG Tryd.f13)) (bodyPost Tryd.prog Tryd.f13 (QsPost w wb lv gv (docF name (((((upA ns (parOf ns id0)).reverse.map s1E) ++ [⟨id0, 2, true⟩]) ++ [⟨id0, 2, false⟩]) ++ if rises then (upA ns (parOf ns id0)).map s3E else []) prev (st0E E)))) { tmps := #[.pointer (some ⟨wb, 0, none⟩), u1, .int .i64 id0, .string name, .bool rises, u5, .pointer (some ⟨B, 0, none⟩), u7, u8, u9, u10, u11, u12, u13, u14, u15, u16, u17, u18, u19, u20, u21, u22, u23, u24, u25, u26, u27, u28, u29, u30, u31, u32, u33, u34, u35, u36, u37, u38, u39, u40, u41, u42, u43, u44, u45, u46, u47, u48, u49, u50, u51, u52, u53, u54, u55, u56, u57, u58, u59, u60, u61, u62, u63, u64, u65, u66, u67, u68, u69, u70, u71, u72, u73, u74, u75, u76, u77, u78, u79, u80, u81, u82, u83, u84, u85, u86, u87, u88, u89, u90, u91, u92, u93, u94, u95, u96, u97, u98, u99, u100, u101, u102, u103, u104, u105, u106, u107, u108, u109, u110, u111, u112, u113, u114, u115, u116, u117, u118, u119, u120, u121, u122, u123, u124, u125, u126, u127, u128, u129, u130, u131, u132, u133, u134, u135, u136, u137, u138, u139, u140, u141, u142, u143, u144, u145, u146, u147, u148, u149, u150, u151, u152, u153, u154, u155, u156, u157, u158, u159, u160, u161, u162, u163, u164, u165, u166, u167, u168, u169, u170, u171, u172, u173, u174, u175, u176, u177, u178, u179, u180, u181, u182, u183, u184, u185, u186, u187, u188, u189, u190, u191, u192, u193, u194, u195, u196, u197, u198, u199, u200, u201, u202, u203], defers := [] } w1 := by
  obtain ⟨i0, hi, hz0, hz1, hz2⟩ := info_parts Tryd.infoStopE
  have H := hid h
  obtain ⟨tgt, htg⟩ : ∃ t, t = (upA ns (parOf ns id0)).reverse.map s1E := ⟨_, rfl⟩
  rw [← htg]
  have HTG := hid htg
  obtain ⟨upS, hup⟩ : ∃ t, t = (if rises then (upA ns (parOf ns id0)).map s3E else []) := ⟨_, rfl⟩
  rw [← hup]
  have HUP := hid hup
  have hpar := hA.parI hid0.1 hid0.2
  have hrk := rkI_le ns (parOf ns id0)
  obtain ⟨M0, nb, cap, uv, t1, t2, t3, t4, t5, t6⟩ := h.tree
  obtain ⟨nd, hnd⟩ : ∃ nd, ns[id0.toNat]? = some nd := ⟨_, List.getElem?_eq_getElem (by omega)⟩
  have t7 := t6 _ _ hnd
  have hpe : parOf ns id0 = nd.parent := by unfold parOf; rw [hnd]
  obtain ⟨i, rfl⟩ : ∃ i : Nat, id0 = i := ⟨id0.toNat, by omega⟩
  rw [Int.toNat_natCast] at t7
  clear h htg hup t6
  conv => arg 2; dsimp only [restG, bodyG, Tryd.f13]
  conv => arg 4; dsimp only
  go_wp2_with fail
  go_loopw [13, 14] (fun v iv wr => ∃ (L : List EvP) (p : Int), iv = .int .i64 p ∧ -1 ≤ p ∧ p < ns.length ∧ Hid (QpL w w1 wb lv gv v E L B ns wr ∧ (upA ns p).reverse.map s1E ++ L = tgt ∧ ((∀ s ∈ L, 0 ≤ s.node) ∧ L.length + rkI ns p ≤ 91))) (fun _ iv _ => rkI ns (intOf iv))
  case atStart => exact ⟨[], parOf ns i, by rw [hpe], hpar.2.1, hpar.2.2.1, H.out, by rw [List.append_nil]; exact HTG.out.symm, (fun s hs => by cases hs), by simp; omega⟩
  case round =>
    obtain ⟨L, p, rfl, hp0, hp1, HR⟩ := hrel
    obtain ⟨wv2, hv2⟩ : ∃ v, v = u13 := ⟨_, rfl⟩
    subst hv2
    obtain ⟨wq, hwq⟩ : ∃ wq, wq = wr := ⟨_, rfl⟩
    subst hwq
    clear t1 t2 t3 t4 t5 t7
    have hLl := HR.out.2.2.2
    by_cases hp : 0 ≤ p
    · have hpr := hA.parI hp hp1
      obtain ⟨k, rfl⟩ : ∃ k : Nat, p = k := ⟨p.toNat, by omega⟩
      have hkl : k < ns.length := by omega
      obtain ⟨nk, hnk⟩ : ∃ nk, ns[k]? = some nk := ⟨_, List.getElem?_eq_getElem hkl⟩
      have hpk : parOf ns k = nk.parent := by unfold parOf; rw [Int.toNat_natCast, hnk]
      have hbw : w1.heap.size ≤ wq.heap.size := HR.out.1.st.below.size
      go_wp2_with (at_builtin; first
        | (refine wpList_app_own _ (by rfl) (.tmp 41) (.tmp 44) 94 (by rfl) w1.heap.size 96 i0 _ 3 24 Tryd.underlying94 hi hz0 hz1 hz2 rfl (by decide) (.slice none 0 0) 0 [] (by rfl) (World.ownsRow_nil _ _ _ _) (.slice (some ⟨wq.heap.size, 0, none⟩) 1 1) 1 (stC (s1E k)) (by rfl) (src_newS _ (s1E k)) (by decide) (by decide) (by simp only [World.size_alloc]; exact Nat.le_succ_of_le hbw) ?_
           intro v6 w6 hv6 hg6 hx6
           have H6 := hid (And.intro hv6 hg6)
           have hz6 : w1.heap.size ≤ w6.heap.size := by have h1 := hg6.size; simp at h1; omega
           clear hv6 hg6 hx6)
        | (refine wpList_app_own _ (by rfl) (.tmp 46) (.tmp 47) 94 (by rfl) w1.heap.size 96 i0 _ 3 24 Tryd.underlying94 hi hz0 hz1 hz2 rfl (by decide) v6 (0 + 1) ([] ++ stC (s1E k)) (by rfl) H6.out.1 wv2 L.length (stsC L) (by rfl) (HR.out.1.src H6.out.2) (by unfold maxLen; omega) (by omega) hz6 ?_
           intro v7 w7 hv7 hg7 hx7
           have HM := hid (HR.out.1.pre H6.out.2 H6.out.1 hv7 hg7)
           clear hv7 hg7 hx7
           obtain ⟨M0, nb, cap, uv, t1, t2, t3, t4, t5, t6⟩ := HM.out.tree
           have t7 := t6 _ _ hnk
           clear t6))
      all_goals go_roundw
      case rel => exact ⟨s1E k :: L, parOf ns k, by rw [hpk], hpr.2.1, hpr.2.2.1, HM.out, by rw [← HR.out.2.1, upA_cons hA hp hp1]; simp, fun s hs => by rcases List.mem_cons.1 hs with h | h; subst h; exact hp; exact HR.out.2.2.1 s h, by simp; omega⟩
      case measure => rw [hpk] at hpr; simpa [intOf] using hpr.1
    · have HF : Hid (L = tgt) := by
        show _ = _
        rw [← HR.out.2.1, upA_neg (by omega)]
        simp
      rename ∀ (a : Act) (w : World), Code.wp _ _ _ a w → _ => hKr
      have HKR := hid hKr
      clear hKr
      go_wp2_with fail
      refine HKR.out _ _ ?_
      rw [← HF.out, HUP.out]
      exact qs_own HR.out.1 hE hA hn (by omega) HR.out.2.2.1 hid0 prev _ _ _ _ _ _ _ _ _ _ _ _ _ _ _ _ _ _ _ _ _ _ _ _ _ _ _ _ _ _ _ _ _ _ _ _ _ _ _ _ _ _ _ _ _ _ _ _ _ _ _ _ _ _ _ _ _ _ _ _ _ _ _ _ _ _ _ _ _ _ _ _ _ _ _ _ _ _ _ _ _ _ _ _ _ _ _ _ _ _ _ _ _ _ _ _ _ _ _ _ _ _ _ _ _ _ _ _ _ _ _ _ _ _ _ _ _ _ _ _ _ _ _ _ _ _ _ _ _ _ _ _ _ _ _ _ _ _ _ _ _ _ _ _ _ _ _ _ _ _ _ _ _ _ _ _ _ _ _ _ _ _ _ _ _ _ _ _ _ _ _ _ _ _ _ _ _ _ _ _ _ _ _ _ _ _ _ _ _ _ _ _ _ _ _ _ _ _
end Go.Proofs.YtlfepdecgfcifaaDoor

/- The document's Send, whole. -/
namespace Go.Proofs.YtlfepdecgfcifaaDoor
open Go.RowKit Go.BigFrame
set_option linter.unusedVariables false
attribute [local go_sem] Oper.semAt_some
set_option maxHeartbeats 1000000 in
theorem tqhas_any {w : World} {B : Nat} {ns : List Nd} (h : TqAt w B ns) (id : Int) :
    Calls Tryd.prog 34 #[.pointer (some ⟨B, 0, none⟩), .int .i64 id] w fun e w' => e = .returned (.bool (hasB ns.length id)) ∧ w' = w := by
  obtain ⟨M, nb, cap, uv, h1, h2, h3, h4, c0, h6⟩ := h
  clear h6
  go_enter Tryd.func34, Tryd.ntmps34
  go_wp2
  all_goals go_ret
  all_goals refine ⟨ret_bool ?_, rfl⟩
  all_goals (unfold hasB; simp; try omega)
/-- the way upwards, where the tree has the node -/
def wayD (ns : List Nd) (z : Int) : List Int := if hasB ns.length z then upA ns z else []
/-- a tree's rows, as a value holds them -/
def TqV (W : World) (nv : Value) (ns : List Nd) : Prop := ∃ (nb cap : Nat), nv = .slice (some ⟨nb, 0, none⟩) ns.length cap ∧ 0 < ns.length ∧ ns.length ≤ cap ∧ cap ≤ 9223372036854775807 ∧ nb < W.heap.size ∧ ∀ (i : Nat) (n : Nd), ns[i]? = some n → W.cell? ⟨nb, i * 6 + 4, none⟩ = some (.int .i64 n.parent)
theorem TqV.copy {w : World} {nv uv : Value} {ns : List Nd} (h : TqV w nv ns) : TqAt (w.alloc (.cells #[nv, uv] 32)) w.heap.size ns := by
  obtain ⟨nb, cap, rfl, h1, h2, h3, h4, h6⟩ := h
  have hb := (Below.refl w.heap.size w).alloc (Nat.le_refl _) (.cells #[.slice (some ⟨nb, 0, none⟩) ns.length cap, uv] 32)
  refine ⟨fun _ => .undos, nb, cap, uv, h1, h2, h3, by simp; omega, ?_, fun i n hn => (hb.cell (p := ⟨nb, i * 6 + 4, none⟩) h4).trans (h6 i n hn)⟩
  have e : (w.alloc (.cells #[.slice (some ⟨nb, 0, none⟩) ns.length cap, uv] 32)).heap[w.heap.size]? = some (.cells #[.slice (some ⟨nb, 0, none⟩) ns.length cap, uv] 32 (0, 0)) := heap_alloc_new w _
  rw [cell_of_row _ _ _ _ _ _ e]
  rfl
set_option maxRecDepth 100000 in
set_option maxHeartbeats 8000000 in
theorem qs_any {w : World} {wb : Nat} {lv gv nv uv : Value} {E : List EvS} {ns : List Nd} (hq : QEs w wb lv gv E) (hE : E.length ≤ 1000) (hA : Asc ns) (hn : ns.length ≤ 90) (hT : TqV w nv ns) (huv : ∃ a n c, uv = .slice a n c) (id : Int) (name : ByteArray) (rises : Bool) :
    Calls Tryd.prog 13 #[.pointer (some ⟨wb, 0, none⟩), .agg #[nv, uv], .int .i64 id, .string name, .bool rises] w (QsPost w wb lv gv (sendT name rises (wayD ns id) (st0E E))) := by
  have HT := hid (hT.copy (uv := uv))
  obtain ⟨nb, cap, hnv, -⟩ := hT
  subst hnv
  obtain ⟨ua, un, uc, rfl⟩ := huv
  have hb1 := (Below.refl w.heap.size w).alloc (Nat.le_refl _) (.cells #[.slice (some ⟨nb, 0, none⟩) ns.length cap, .slice ua un uc] 32)
  have HQ : Hid (QpL w (w.alloc (.cells #[.slice (some ⟨nb, 0, none⟩) ns.length cap, .slice ua un uc] 32)) wb lv gv (.slice none 0 0) E [] w.heap.size ns (w.alloc (.cells #[.slice (some ⟨nb, 0, none⟩) ns.length cap, .slice ua un uc] 32))) := ⟨hq, hb1, HT.out, ⟨Below.refl _ _, World.ownsRow_nil _ _ _ _⟩⟩
  clear hq
  cases hh : hasB ns.length id
  · have HF : Hid (sendT name rises (wayD ns id) (st0E E) = st0E E) := by
      show _ = _
      unfold wayD
      rw [hh]
      rfl
    rw [HF.out]
    go_enter Tryd.func13, Tryd.ntmps13
    go_wp2_with (go_at_call 34; refine (tqhas_any HT.out id).mono ?_; rintro e w' ⟨rfl, rfl⟩; rw [hh])
    all_goals refine bodyPost_ret (v := .tuple #[.slice none 0 0, .bool (!(st0E E).barred)]) ?_ rfl ⟨_, rfl, HQ.out.all.qe, HQ.out.all.ca, HQ.out.all.ch⟩
    all_goals simp [results, Tryd.results13, go_sem]
    all_goals rfl
  · have hz : 0 ≤ id ∧ id < (ns.length : Int) := by unfold hasB at hh; simpa using hh
    have HF : Hid (docF name (((((upA ns (parOf ns id)).reverse.map s1E) ++ [⟨id, 2, true⟩]) ++ [⟨id, 2, false⟩]) ++ if rises then (upA ns (parOf ns id)).map s3E else []) ⟨0, 0, false⟩ (st0E E) = sendT name rises (wayD ns id) (st0E E)) := by
      show _ = _
      have e : wayD ns id = upA ns id := by unfold wayD; rw [hh]; rfl
      rw [e, ← docF_send hA name rises id hz.2 (st0E E) rfl ⟨0, 0, false⟩, upA_cons hA hz.1 hz.2]
      congr 1
      simp only [stopsP, List.append_assoc, List.cons_append, List.nil_append]
      rfl
    rw [← HF.out]
    generalize hgen : docF name _ _ _ = fin
    have HG := hid hgen
    clear hgen HF
    go_enter Tryd.func13, Tryd.ntmps13
    conv => arg 2; dsimp only
    go_upto_region 2 with (go_at_call 34; refine (tqhas_any HT.out id).mono ?_; rintro e w' ⟨rfl, rfl⟩; rw [hh])
    rename ∀ (a : Act) (w : World), Code.wp _ (Code.seq (Code.region 4 _ _) _) _ a w → _ => hKr
    have HKR := hid hKr
    clear hKr
    go_wp2_with fail
    refine HKR.out _ _ ?_
    rw [← HG.out]
    exact qs_way HQ.out hE hA hn hz _ _ _ _ _ _ _ _ _ _ _ _ _ _ _ _ _ _ _ _ _ _ _ _ _ _ _ _ _ _ _ _ _ _ _ _ _ _ _ _ _ _ _ _ _ _ _ _ _ _ _ _ _ _ _ _ _ _ _ _ _ _ _ _ _ _ _ _ _ _ _ _ _ _ _ _ _ _ _ _ _ _ _ _ _ _ _ _ _ _ _ _ _ _ _ _ _ _ _ _ _ _ _ _ _ _ _ _ _ _ _ _ _ _ _ _ _ _ _ _ _ _ _ _ _ _ _ _ _ _ _ _ _ _ _ _ _ _ _ _ _ _ _ _ _ _ _ _ _ _ _ _ _ _ _ _ _ _ _ _ _ _ _ _ _ _ _ _ _ _ _ _ _ _ _ _ _ _ _ _ _ _ _ _ _ _ _ _ _ _ _ _ _ _ _ _ _ _ _ _
end Go.Proofs.YtlfepdecgfcifaaDoor
