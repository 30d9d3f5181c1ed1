/- The document's Send: along its stops. -/
import Derived.Test.YtlfepdecgfcifaaDoorM27
import Derived.Deep.RegionLaw
namespace Go.Proofs.YtlfepdecgfcifaaDoor
open Go.RowKit
set_option linter.unusedVariables false
theorem Tryd.infoQcallE : (Tryd.prog.info? 98).map (fun i => (i.zero, i.size, i.bytes)) = some (some (.agg #[.int .i64 0, .int .i64 0, .int .i64 0]), 3, 24) := by kernel_rfl
def restG : Nat → Code → Code
  | 0, c => c
  | n + 1, .seq _ c => restG n c
  | _, c => c
def bodyG (f : Func) : Code := match f.body with | some c => c | none => .skip
def QsPost (w : World) (wb : Nat) (lv gv : Value) (fin : EvT) (e : Ending) (w' : World) : Prop :=
  ∃ cv, e = .returned (.tuple #[cv, .bool (!fin.barred)]) ∧ QEs w' wb lv gv fin.E ∧ w'.ownsRow w.heap.size 98 3 cv fin.calls.length (callsC fin.calls) ∧ Chg (fun b => gv.ownBlock = some b) w w'
structure QsL (w : World) (wb : Nat) (lv gv wv : Value) (stops : List EvP) (st : EvT) (cv : Value) (wr : World) : Prop where
  qe : QEs wr wb lv gv st.E
  sr : wr.ownsRow w.heap.size 96 3 wv stops.length (stsC stops)
  ca : wr.ownsRow w.heap.size 98 3 cv st.calls.length (callsC st.calls)
  ne : ∀ b, wv.ownBlock = some b → cv.ownBlock ≠ some b
  ch : Chg (fun b => gv.ownBlock = some b) w wr
  lt : wb < w.heap.size ∧ (∀ b, lv.ownBlock = some b → b < w.heap.size) ∧ ∀ b, gv.ownBlock = some b → b < w.heap.size
section
variable {w wr w2 : World} {wb : Nat} {lv gv wv cv cv2 : Value} {stops : List EvP} {st : EvT}
theorem QsL.below (h : QsL w wb lv gv wv stops st cv wr) (hb : Below wr.heap.size wr w2) : QsL w wb lv gv wv stops st cv w2 :=
  ⟨h.qe.below hb, own_below h.sr hb (Nat.le_refl _), own_below h.ca hb (Nat.le_refl _), h.ne, h.ch.trans (Y := fun _ => False) ⟨hb.os, hb.tape, hb.output, hb.size, fun k hk _ => hb.block k hk, ⟨hb.size, fun k o hk _ => (hb.block k (ltH hk)).trans hk⟩⟩ (fun _ _ f => f.elim), h.lt⟩
theorem stsC_get : ∀ (l : List EvP) (k : Nat) (s : EvP), l[k]? = some s → ∀ (j : Nat) (u : Value), (stC s)[j]? = some u → (stsC l)[k * 3 + j]? = some u
  | [], k, s, h, _, _, _ => by simp at h
  | y :: l, 0, s, h, j, u, hj => by
    simp only [List.getElem?_cons_zero, Option.some.injEq] at h
    subst h
    have hl : j < (stC y).length := (List.getElem?_eq_some_iff.1 hj).1
    rw [Nat.zero_mul, Nat.zero_add]
    show (stC y ++ stsC l)[j]? = _
    rw [List.getElem?_append_left hl]
    exact hj
  | y :: l, k + 1, s, h, j, u, hj => by
    show (stC y ++ stsC l)[(k + 1) * 3 + j]? = _
    rw [List.getElem?_append_right (by show 3 ≤ _; omega)]
    have : (k + 1) * 3 + j - (stC y).length = k * 3 + j := by show (k + 1) * 3 + j - 3 = _; omega
    rw [this]
    exact stsC_get l k s (by simpa using h) j u hj
theorem QsL.stop {sg scap : Nat} (h : QsL w wb lv gv (.slice (some ⟨sg, 0, none⟩) stops.length scap) stops st cv wr) {k : Nat} {s : EvP} (hs : stops[k]? = some s) : wr.cell? ⟨sg, k * 3, none⟩ = some (.int .i64 s.node) ∧ wr.cell? ⟨sg, k * 3 + 1, none⟩ = some (.int .i64 s.phase) ∧ wr.cell? ⟨sg, k * 3 + 2, none⟩ = some (.bool s.down) := by
  have hl : k < stops.length := (List.getElem?_eq_some_iff.1 hs).1
  have g : ∀ j u, (stC s)[j]? = some u → wr.cell? ⟨sg, k * 3 + j, none⟩ = some u := fun j u hj => by
    have hj3 : j < 3 := (List.getElem?_eq_some_iff.1 hj).1
    rw [h.sr.cellAt (k * 3 + j) (by omega)]
    exact stsC_get stops k s hs j u hj
  exact ⟨g 0 _ rfl, g 1 _ rfl, g 2 _ rfl⟩
theorem qear_cells {w : World} {b : Nat} {x : EvE} (h : w.heap[b]? = some (.cells ⟨earC x⟩ 40 (0, 0))) : w.cell? ⟨b, 0, none⟩ = some (.int .i64 x.node) ∧ w.cell? ⟨b, 1, none⟩ = some (.string x.name) ∧ w.cell? ⟨b, 2, none⟩ = some (.bool x.down) ∧ w.cell? ⟨b, 3, none⟩ = some (.bool x.once) ∧ w.cell? ⟨b, 4, none⟩ = some (.bool x.calm) ∧ w.cell? ⟨b, 5, none⟩ = some (.bool x.stop) ∧ w.cell? ⟨b, 6, none⟩ = some (.bool x.now) ∧ w.cell? ⟨b, 7, none⟩ = some (.bool x.bar) := by
  refine ⟨?_, ?_, ?_, ?_, ?_, ?_, ?_, ?_⟩ <;> (rw [cell_of_row _ _ _ _ _ _ h]; rfl)
theorem src_newE (w : World) (x : EvC) : SrcOf (w.alloc (.cells #[.int .i64 x.ear, .int .i64 x.node, .int .i64 x.phase] 98)) 3 (.slice (some ⟨w.heap.size, 0, none⟩) 1 1) 1 [.int .i64 x.ear, .int .i64 x.node, .int .i64 x.phase] := by
  refine ⟨rfl, fun u hu => ?_, _, _, rfl, .inr ⟨_, rfl, ?_⟩⟩
  · simp only [List.mem_cons, List.not_mem_nil, or_false] at hu
    rcases hu with rfl | rfl | rfl <;> rfl
  · exact news_new w #[.int .i64 x.ear, .int .i64 x.node, .int .i64 x.phase] 98 _ rfl
theorem step_app_ownE (w : World) {ops : Array Oper} {o : Oper} {a : Act} {K : Act → World → Prop} {Q : Exit → Act → World → Prop} {EE : Prop} (hgd : o.guard = none) (s x : Operand) (t : TypeId)
    (ho : o.op = .call { callee := .builtin .append, args := #[s, x], argTypes := #[t, t] })
    (base : Nat) (e : TypeId) (i : TypeInfo) (z : Value) (size bytes : Nat) (ht : Tryd.prog.underlying t = some (.slice e)) (hi : Tryd.prog.info? e = some i) (hz : i.zero = some z)
    (hsize : i.size = size) (hby : i.bytes = bytes) (hzs : z.cells.size = size) (hsz : 0 < size)
    (v : Value) (n : Nat) (xs : List Value) (hs : a.eval s = v) (hown : w.ownsRow base e size v n xs)
    (xv : Value) (m : Nat) (news : List Value) (hx : a.eval x = xv) (hsrc : SrcOf w size xv m news)
    (h63 : n + m ≤ maxLen) (hbytes : (n + m) * bytes ≤ 140737488355328) (hbase : base ≤ w.heap.size)
    (h : ∀ v' w', w'.ownsRow base e size v' (n + m) (xs ++ news) → w.grownBy w' v.ownBlock → (v'.ownBlock = v.ownBlock ∨ v'.ownBlock = some w.heap.size) → K (a.put o.dst v') w') :
    if Region.wanted o (yielded ops a.tmps) = true then Oper.wp Tryd.prog o a w K Q else EE := by
  have hw : Region.wanted o (yielded ops a.tmps) = true := by simp [Region.wanted, hgd]
  rw [if_pos hw]
  exact wp_app_own w s x t ho base e i z size bytes ht hi hz hsize hby hzs hsz v n xs hs hown xv m news hx hsrc h63 hbytes hbase h
/-- one call more -/
theorem QsL.more (h : QsL w wb lv gv wv stops st cv wr) {o : Obj} {x : EvC} (hv : w2.ownsRow w.heap.size 98 3 cv2 (st.calls.length + 1) (callsC st.calls ++ callC x)) (hg : (wr.alloc o).grownBy w2 cv.ownBlock) (hx : cv2.ownBlock = cv.ownBlock ∨ cv2.ownBlock = some (wr.alloc o).heap.size) : QsL w wb lv gv wv stops { st with calls := st.calls ++ [x] } cv2 w2 := by
  have hs := h.ch.size
  have ho : ∀ q, cv.ownBlock = some q → w.heap.size ≤ q ∧ q < wr.heap.size := fun q hq => h.ca.lt q hq
  have low : ∀ q, q < wr.heap.size → cv.ownBlock ≠ some q → w2.heap[q]? = wr.heap[q]? := fun q hq hn => (hg.block q (by simp; omega) (fun e => hn e.symm)).trans (Below.heap_alloc _ _ _ hq)
  have lown : ∀ q, q < w.heap.size → w2.heap[q]? = wr.heap[q]? := fun q hq => low q (by omega) (fun e => by have := (ho q e).1; omega)
  refine ⟨h.qe.far (lown _ h.lt.1) (fun b hb => lown _ (h.lt.2.1 b hb)) (fun b hb => lown _ (h.lt.2.2 b hb)), own_same h.sr (fun b hb => low b (h.sr.lt b hb).2 (h.ne b hb)), ?_, fun b hb e => ?_, ?_, h.lt⟩
  · dsimp only
    rw [callsC_snoc, List.length_append]
    exact hv
  · rcases hx with q | q
    · exact h.ne b hb (q.symm.trans e)
    · rw [q] at e
      injection e with e
      have := (h.sr.lt b hb).2
      simp at e
      omega
  · refine h.ch.trans (Y := fun b => cv.ownBlock = some b) ⟨hg.os, hg.tape, hg.output, by have := hg.size; simp at this; omega, fun k hk hn => low k hk hn, (KeepsOthers.alloc _ _).trans (KeepsOthers.of_grownBy hg (fun j oo e hoo => ?_))⟩ (fun q hq e => by have := (ho q e).1; omega)
    obtain ⟨_, ⟨r1, _⟩ | ⟨g, cap, cur, r1, _, r2, _⟩⟩ := h.ca
    · rw [r1] at e; cases e
    · rw [r1] at e
      cases e
      rw [Below.heap_alloc _ _ _ (ltH r2), r2] at hoo
      cases hoo
      rfl
theorem QsL.recast {st2 : EvT} (h : QsL w wb lv gv wv stops st cv wr) (h1 : st.E = st2.E) (h2 : st.calls = st2.calls) : QsL w wb lv gv wv stops st2 cv wr := ⟨h1 ▸ h.qe, h.sr, h2 ▸ h.ca, h.ne, h.ch, h.lt⟩
theorem qbox_kept (h : QsL w wb lv gv wv stops st cv wr) {b : Nat} {x : EvE} {o : Obj} (hb : wr.heap[b]? = some (.cells ⟨earC x⟩ 40 (0, 0))) (hg : (wr.alloc o).grownBy w2 cv.ownBlock) : w2.heap[b]? = some (.cells ⟨earC x⟩ 40 (0, 0)) := by
  refine (hg.block b (by simp; have := ltH hb; omega) (fun e => ?_)).trans ((Below.heap_alloc _ _ _ (ltH hb)).trans hb)
  obtain ⟨_, ⟨r1, _⟩ | ⟨g, cap, cur, r1, _, r2, _⟩⟩ := h.ca
  · rw [r1] at e; cases e
  · rw [r1] at e
    cases e
    rw [hb] at r2
    cases r2
/-- an ear hears no more -/
theorem QsL.drop (h : QsL w wb lv gv wv stops st cv wr) {g c k : Nat} {x : EvS} (hv : gv = .slice (some ⟨g, 0, none⟩) st.E.length c) (hk : st.E[k]? = some x) : QsL w wb lv gv wv stops { st with E := st.E.set k ⟨x.e, true⟩ } cv (wr.setCell ⟨g, k, none⟩ (.bool true)) := by
  have hg : gv.ownBlock = some g := by rw [hv]; rfl
  have hgl := h.lt.2.2 g hg
  refine ⟨h.qe.gone hv hk, own_same h.sr (fun b hb => Below.heap_setCell _ _ _ _ (fun e => by have := (h.sr.lt b hb).1; simp at e; omega)), own_same h.ca (fun b hb => Below.heap_setCell _ _ _ _ (fun e => by have := (h.ca.lt b hb).1; simp at e; omega)), h.ne, ?_, h.lt⟩
  exact h.ch.set g k _ (fun _ => hg)
end

set_option maxHeartbeats 32000000 in
set_option maxRecDepth 100000 in
theorem qs_end {w wl : World} {wb : Nat} {lv gv : Value} {stops : List EvP} {st0 : EvT} {sg scap : Nat} {name : ByteArray} {id0 : Int} (h : QsL w wb lv gv (.slice (some ⟨sg, 0, none⟩) stops.length scap) stops st0 (.slice none 0 0) wl) (hc0 : st0.calls = []) (he0 : st0.ended = false) (hb0 : st0.barred = false) (hE : st0.E.length ≤ 1000) (hs : stops.length ≤ 300) (hsc : stops.length ≤ scap ∧ scap ≤ 9223372036854775807) (hpos : ∀ s ∈ stops, 0 ≤ s.node) (prev : EvP)
    (u1 u4 u5 u6 u7 u8 u9 u10 u11 u12 u14 u15 u16 u17 u18 u19 u20 u21 u22 u23 u24 u25 u26 u27 u28 u29 u30 u31 u32 u33 u34 u35 u36 u37 u38 u39 u40 u41 u42 u43 u44 u45 u46 u47 u48 u49 u50 u51 u52 u53 u54 u55 u56 u57 u58 u59 u60 u61 u62 u63 u64 u65 u66 u67 u68 u69 u70 u71 u72 u73 u74 u75 u76 u77 u78 u79 u80 u81 u82 u83 u84 u85 u86 u87 u88 u89 u90 u91 u92 u93 u94 u95 u96 u97 u98 u99 u100 u101 u102 u103 u104 u105 u106 u107 u108 u109 u110 u111 u112 u113 u114 u115 u116 u117 u118 u119 u120 u121 u122 u123 u124 u125 u126 u127 u128 u129 u130 u131 u132 u133 u134 u135 u136 u137 u138 u139 u140 u141 u142 u143 u144 u145 u146 u147 u148 u149 u150 u151 u152 u153 u154 u155 u156 u157 u158 u159 u160 u161 u162 u163 u164 u165 u166 u167 u168 u169 u170 u171 u172 u173 u174 u175 u176 u177 u178 u179 u180 u181 u182 u183 u184 u185 u186 u187 u188 u189 u190 u191 u192 u193 u194 u195 u196 u197 u198 u199 u200 u201 u202 u203 : Value) :
    Code.wp Tryd.prog (restG 8 (bodyG Tryd.f13)) (bodyPost Tryd.prog Tryd.f13 (QsPost w wb lv gv (docF name stops prev st0))) { tmps := #[.pointer (some ⟨wb, 0, none⟩), u1, .int .i64 id0, .string name, u4, u5, u6, u7, u8, u9, u10, u11, u12, .slice (some ⟨sg, 0, none⟩) stops.length scap, u14, u15, u16, u17, u18, u19, u20, u21, u22, u23, u24, u25, u26, u27, u28, u29, u30, u31, u32, u33, u34, u35, u36, u37, u38, u39, u40, u41, u42, u43, u44, u45, u46, u47, u48, u49, u50, u51, u52, u53, u54, u55, u56, u57, u58, u59, u60, u61, u62, u63, u64, u65, u66, u67, u68, u69, u70, u71, u72, u73, u74, u75, u76, u77, u78, u79, u80, u81, u82, u83, u84, u85, u86, u87, u88, u89, u90, u91, u92, u93, u94, u95, u96, u97, u98, u99, u100, u101, u102, u103, u104, u105, u106, u107, u108, u109, u110, u111, u112, u113, u114, u115, u116, u117, u118, u119, u120, u121, u122, u123, u124, u125, u126, u127, u128, u129, u130, u131, u132, u133, u134, u135, u136, u137, u138, u139, u140, u141, u142, u143, u144, u145, u146, u147, u148, u149, u150, u151, u152, u153, u154, u155, u156, u157, u158, u159, u160, u161, u162, u163, u164, u165, u166, u167, u168, u169, u170, u171, u172, u173, u174, u175, u176, u177, u178, u179, u180, u181, u182, u183, u184, u185, u186, u187, u188, u189, u190, u191, u192, u193, u194, u195, u196, u197, u198, u199, u200, u201, u202, u203], defers := [] } wl := by
  obtain ⟨la, lc, hlv, hlc1, hlc2, hla⟩ := own_shapeF h.qe.rowL
  obtain ⟨ga, gc, hgv, hgc1, hgc2, hga⟩ := own_shapeF h.qe.rowG
  obtain ⟨i0, hi, hz0, hz1, hz2⟩ := info_parts Tryd.infoQcallE
  obtain ⟨nE, hnE⟩ : ∃ n, n = st0.E.length := ⟨_, rfl⟩
  rw [← hnE] at hlv hgv hlc1 hgc1 hla hga hE
  subst hlv
  subst hgv
  have H := hid h
  have HC0 := hid hc0
  have HE0 := hid he0
  have HB0 := hid hb0
  have HPOS := hid hpos
  have HNE := hid hnE
  obtain ⟨hsc1, hsc2⟩ := hsc
  clear h hc0 he0 hb0 hpos hnE
  conv => arg 2; dsimp only [restG, bodyG, Tryd.f13]
  conv => arg 4; dsimp only
  go_wp2_with fail
  go_loopw [17, 18, 19, 20] (fun cv bv lv9 iv wr => ∃ (k : Nat) (st : EvT) (pv : EvP) (lz : Int), k ≤ stops.length ∧ iv = .int .i64 k ∧ bv = .bool (!st.barred) ∧ lv9 = .int .i64 lz ∧ Hid (lz = (if st.ended = true then pv.node else -1) ∧ QsL w wb (.slice la nE lc) (.slice ga nE gc) (.slice (some ⟨sg, 0, none⟩) stops.length scap) stops st cv wr ∧ docF name (stops.drop k) pv st = docF name stops prev st0 ∧ (st.ended = true → 0 < k ∧ stops[k - 1]? = some pv) ∧ st.E.length = nE ∧ st.calls.length ≤ k * nE)) (fun _ _ _ iv _ => stops.length - (intOf iv).toNat)
  case atStart => exact ⟨0, st0, prev, -1, Nat.zero_le _, rfl, by rw [HB0.out]; rfl, rfl, by rw [HE0.out]; rfl, H.out, rfl, (fun e => by rw [HE0.out] at e; cases e), HNE.out.symm, by rw [HC0.out]; simp⟩
  case round =>
    obtain ⟨k, st, pv, lz, hk, rfl, rfl, rfl, HR0⟩ := hrel
    have HLZ := hid HR0.out.1
    have HR := hid HR0.out.2
    clear HR0
    obtain ⟨cv, hcv⟩ : ∃ v, v = u17 := ⟨_, rfl⟩
    subst hcv
    obtain ⟨wq, hwq⟩ : ∃ wq, wq = wr := ⟨_, rfl⟩
    subst hwq
    by_cases hlt : k < stops.length
    · obtain ⟨s, hsk⟩ : ∃ s, stops[k]? = some s := ⟨_, List.getElem?_eq_getElem hlt⟩
      obtain ⟨n0, n1, n2⟩ := HR.out.1.stop hsk
      have j1 : (k : Int) < (stops.length : Int) := by omega
      have hsp := HPOS.out s (List.mem_of_getElem? hsk)
      have hdrop : stops.drop k = s :: stops.drop (k + 1) := by
        rw [List.drop_eq_getElem_cons hlt]
        rw [List.getElem?_eq_getElem hlt] at hsk
        cases hsk
        rfl
      have HDR := hid hdrop
      have HSK := hid hsk
      obtain ⟨B, hB⟩ : ∃ B : Bool, B = (st.ended && (!decide (s.node = pv.node) || !decide (s.phase = pv.phase))) := ⟨_, rfl⟩
      have HBB := hid hB
      have hmx : Tryd.prog.follows Departure.mixedOrders = true := by kernel_rfl
      have HWQ : Hid (∀ m, QsL w wb (.slice la nE lc) (.slice ga nE gc) (.slice (some ⟨sg, 0, none⟩) stops.length scap) stops st cv (wq.drewN m)) := fun m => HR.out.1.below ⟨rfl, rfl, rfl, Nat.le_refl _, fun _ _ => rfl⟩
      clear hdrop hsk hB
      go_upto_region 23 with fail
      go_cut [111] from 87 to 111 (fun s111 wx => s111 = .bool B ∧ Hid (∃ m, wx = wq.drewN m))
      case first =>
        cases he : st.ended
        · have hBf : B = false := by rw [HBB.out, he]; rfl
          have hlz : ¬ (0 : Int) ≤ lz := by rw [HLZ.out, he]; simp
          go_quiet (fail)
          go_wp2_with fail
          go_meet
          exact ⟨by rw [hBf], _, rfl⟩
        · obtain ⟨hk0, hpv⟩ := HR.out.2.2.1 he
          obtain ⟨m0, m1, m2⟩ := HR.out.1.stop hpv
          obtain ⟨k', rfl⟩ : ∃ k', k = k' + 1 := ⟨k - 1, by omega⟩
          have hpp := HPOS.out pv (List.mem_of_getElem? hpv)
          have hkk : ((k' + 1 : Nat) : Int) - 1 = (k' : Int) := by omega
          have j0 : (0 : Int) ≤ pv.node := hpp
          have j2 : (k' : Int) < (stops.length : Int) := by omega
          simp only [Nat.add_sub_cancel] at m0 m1 m2
          clear hpv hk0 hpp
          have hlz : lz = pv.node := by rw [HLZ.out, he]; simp
          have hlz0 : (0 : Int) ≤ lz := by omega
          rw [← hlz] at HBB j0
          by_cases q1 : s.node = lz
          · by_cases q2 : s.phase = pv.phase
            · have hBf : B = false := by rw [HBB.out, he, q1, q2]; simp
              have r1 : (s.node == lz) = true := by simpa using q1
              have r2 : (s.phase == pv.phase) = true := by simpa using q2
              have r1d : (s.node != lz) = false := by simp [q1]
              have r2d : (s.phase != pv.phase) = false := by simp [q2]
              clear q1 q2 hlz HBB
              go_quiet (fail)
              go_wp2_with fail
              go_meet
              exact ⟨by rw [hBf], _, rfl⟩
            · have hBf : B = true := by rw [HBB.out, he, q1]; simp [q2]
              have r1d : (s.node != lz) = false := by simp [q1]
              have r2d : (s.phase != pv.phase) = true := by simp [q2]
              clear q1 q2 hlz HBB
              go_quiet (fail)
              go_wp2_with fail
              go_meet
              exact ⟨by rw [hBf], _, rfl⟩
          · have hBf : B = true := by rw [HBB.out, he]; simp [q1]
            have r1d : (s.node != lz) = true := by simp [q1]
            clear q1 hlz HBB
            go_quiet (fail)
            go_wp2_with fail
            go_meet
            exact ⟨by rw [hBf], _, rfl⟩
      case rest =>
      obtain ⟨hu111, mq, hwc⟩ := hcut
      subst hu111
      subst hwc
      cases hB : B
      · have hlz2 : lz = (if st.ended = true then s.node else -1) := by
          have h1 := HBB.out
          rw [hB] at h1
          have h2 := HLZ.out
          cases he : st.ended
          · rw [he] at h2; simpa using h2
          · rw [he] at h2 h1
            simp at h1
            rw [h2, if_pos rfl, if_pos rfl, h1.1]
        have HDF : Hid (docF name stops prev st0 = if (visF s.node s.phase name s.down nE 0 st).2 = true then (visF s.node s.phase name s.down nE 0 st).1 else docF name (stops.drop (k + 1)) s (visF s.node s.phase name s.down nE 0 st).1) := by
          show _ = _
          rw [← HR.out.2.1, HDR.out, docF, HR.out.2.2.2.1, if_neg]
          rintro ⟨q1, q2⟩
          have h1 := HBB.out
          rw [hB, q1] at h1
          rcases q2 with q2 | q2 <;> simp [q2] at h1
        have HLZ2 := hid hlz2
        have HWM := hid (HWQ.out mq)
        have HEL := hid (And.intro HR.out.2.2.2.1 HR.out.2.2.2.2)
        clear hB HBB HLZ hlz2 HWQ HR HDR n0 n1 n2
        go_wp2_with fail
        go_loopw [17, 18, 19, 21] (fun cv2 bv lv9 iv wr => ∃ (j : Nat) (cur : EvT) (q : Int), j ≤ nE ∧ iv = .int .i64 j ∧ bv = .bool (!cur.barred) ∧ lv9 = .int .i64 q ∧ Hid (q = (if cur.ended = true then s.node else -1) ∧ QsL w wb (.slice la nE lc) (.slice ga nE gc) (.slice (some ⟨sg, 0, none⟩) stops.length scap) stops cur cv2 wr ∧ visF s.node s.phase name s.down (nE - j) j cur = visF s.node s.phase name s.down nE 0 st ∧ cur.E.length = nE ∧ cur.calls.length ≤ k * nE + j)) (fun _ _ _ iv _ => nE - (intOf iv).toNat)
        case atStart => exact ⟨0, st, lz, Nat.zero_le _, rfl, rfl, rfl, HLZ2.out, HWM.out, rfl, HEL.out.1, HEL.out.2⟩
        case round =>
          obtain ⟨j, cur, q, hj, rfl, rfl, rfl, HI⟩ := hrel
          obtain ⟨cv2, hcv2⟩ : ∃ v, v = u17 := ⟨_, rfl⟩
          subst hcv2
          obtain ⟨wp, hwp⟩ : ∃ wp, wp = wr := ⟨_, rfl⟩
          subst hwp
          obtain ⟨c0, c1, cf⟩ := HI.out.2.1.qe.cells
          by_cases hjl : j < nE
          · obtain ⟨x, hx⟩ : ∃ x, cur.E[j]? = some x := ⟨_, List.getElem?_eq_getElem (by rw [HI.out.2.2.2.1]; exact hjl)⟩
            obtain ⟨lg, rfl⟩ := hla (by omega)
            obtain ⟨gg, rfl⟩ := hga (by omega)
            have hEl := HI.out.2.2.2.1
            have ec : ∀ (f : Nat) (u : Value), (earC x.e)[f]? = some u → wp.cell? ⟨lg, j * 8 + f, none⟩ = some u := fun f u hf => HI.out.2.1.qe.earAt (by rw [hEl]) hx hf
            have f0 : wp.cell? ⟨lg, j * 8, none⟩ = some (.int .i64 x.e.node) := ec 0 _ rfl
            have f1 : wp.cell? ⟨lg, j * 8 + 1, none⟩ = some (.string x.e.name) := ec 1 _ rfl
            have f2 : wp.cell? ⟨lg, j * 8 + 2, none⟩ = some (.bool x.e.down) := ec 2 _ rfl
            have f3 : wp.cell? ⟨lg, j * 8 + 3, none⟩ = some (.bool x.e.once) := ec 3 _ rfl
            have f4 : wp.cell? ⟨lg, j * 8 + 4, none⟩ = some (.bool x.e.calm) := ec 4 _ rfl
            have f5 : wp.cell? ⟨lg, j * 8 + 5, none⟩ = some (.bool x.e.stop) := ec 5 _ rfl
            have f6 : wp.cell? ⟨lg, j * 8 + 6, none⟩ = some (.bool x.e.now) := ec 6 _ rfl
            have f7 : wp.cell? ⟨lg, j * 8 + 7, none⟩ = some (.bool x.e.bar) := ec 7 _ rfl
            obtain ⟨g0, g1⟩ := HI.out.2.1.qe.goneAt (by rw [hEl]) hx
            obtain ⟨n0, n1, n2⟩ := HI.out.2.1.stop HSK.out
            have jj0 : (0 : Int) ≤ (j : Int) := by omega
            have jj1 : (j : Int) < (nE : Int) := by omega
            have hwl : wb < wp.heap.size := HI.out.2.1.qe.lt.1
            have hgl : gg < wp.heap.size := HI.out.2.1.qe.lt.2.2 gg rfl
            have hsl : sg < wp.heap.size := (HI.out.2.1.sr.lt sg rfl).2
            have HX := hid hx
            have HEL2 := hid hEl
            clear ec hx hEl HWM
            go_upto_region 28 with fail
            obtain ⟨Wx, hWx⟩ : ∃ W, W = wp.alloc (.cells #[.int .i64 x.e.node, .string x.e.name, .bool x.e.down, .bool x.e.once, .bool x.e.calm, .bool x.e.stop, .bool x.e.now, .bool x.e.bar] 40) := ⟨_, rfl⟩
            rw [← hWx]
            have hba : Below wp.heap.size wp Wx := by rw [hWx]; exact (Below.refl _ wp).alloc (Nat.le_refl _) _
            have hbx : Wx.heap[wp.heap.size]? = some (.cells ⟨earC x.e⟩ 40 (0, 0)) := by rw [hWx]; exact heap_alloc_new wp _
            have e0 := (hba.cell (p := ⟨wb, 0, none⟩) hwl).trans c0
            have e1 := (hba.cell (p := ⟨wb, 1, none⟩) hwl).trans c1
            have e2 := (hba.cell (p := ⟨gg, j, none⟩) hgl).trans g0
            have e3 := (hba.cell (p := ⟨sg, k * 3, none⟩) hsl).trans n0
            have e4 := (hba.cell (p := ⟨sg, k * 3 + 1, none⟩) hsl).trans n1
            have e5 := (hba.cell (p := ⟨sg, k * 3 + 2, none⟩) hsl).trans n2
            obtain ⟨b0, b1, b2, b3, b4, b5, b6, b7⟩ := qear_cells hbx
            have HXA := hid (fun m => HI.out.2.1.below (w2 := Wx.drewN m) (hba.trans ⟨rfl, rfl, rfl, Nat.le_refl _, fun _ _ => rfl⟩))
            have HBX := hid hbx
            obtain ⟨Hb, hHb⟩ : ∃ b : Bool, b = hitE x s.node name s.down := ⟨_, rfl⟩
            have HHB := hid hHb
            clear hWx hba hbx hHb f0 f1 f2 f3 f4 f5 f6 f7 c0 c1 cf g0 g1 n0 n1 n2
            go_cut [160] from 128 to 160 (fun s160 wx => s160 = .bool (!Hb) ∧ Hid (∃ m, wx = Wx.drewN m))
            case first =>
              cases hg : x.gone
              · rw [hg] at e2
                by_cases q1 : x.e.node = s.node
                · have r1 : (x.e.node != s.node) = false := by simp [q1]
                  by_cases q2 : x.e.name = name
                  · have r2 : (x.e.name.toList != name.toList) = false := by simp [q2]
                    have r2b : (x.e.name.toList == name.toList) = true := by simp [q2]
                    by_cases q3 : x.e.down = s.down
                    · have r3 : (x.e.down != s.down) = false := by simp [q3]
                      have R3 : Hid ((x.e.down == s.down) = true) := by show _ = _; simp [q3]
                      have hH : Hb = true := by rw [HHB.out]; unfold hitE; simp [hg, q1, q2, q3]
                      have HH := hid hH
                      clear q1 q2 q3 hH HHB
                      go_quiet (fail)
                      go_wp2_with fail
                      go_meet
                      exact ⟨by rw [HH.out]; first | rfl | rw [R3.out], _, rfl⟩
                    · have r3 : (x.e.down != s.down) = true := by simpa using q3
                      have R3 : Hid ((x.e.down == s.down) = false) := by show _ = _; simpa using q3
                      have hH : Hb = false := by rw [HHB.out]; unfold hitE; simp [q3]
                      have HH := hid hH
                      clear q1 q2 q3 hH HHB
                      go_quiet (fail)
                      go_wp2_with fail
                      go_meet
                      exact ⟨by rw [HH.out]; first | rfl | rw [R3.out], _, rfl⟩
                  · have r2 : (x.e.name.toList != name.toList) = true := by rw [bne_iff_ne]; exact fun e => q2 (toList_injE e)
                    have r2b : (x.e.name.toList == name.toList) = false := by rw [beq_eq_false_iff_ne]; exact fun e => q2 (toList_injE e)
                    have hH : Hb = false := by rw [HHB.out]; unfold hitE; simp [q2]
                    have HH := hid hH
                    clear q1 q2 hH HHB
                    go_quiet (fail)
                    go_wp2_with fail
                    go_meet
                    exact ⟨by rw [HH.out]; rfl, _, rfl⟩
                · have r1 : (x.e.node != s.node) = true := by simpa using q1
                  have hH : Hb = false := by rw [HHB.out]; unfold hitE; simp [q1]
                  have HH := hid hH
                  clear q1 hH HHB
                  go_quiet (fail)
                  go_wp2_with fail
                  go_meet
                  exact ⟨by rw [HH.out]; rfl, _, rfl⟩
              · rw [hg] at e2
                have hH : Hb = false := by rw [HHB.out]; unfold hitE; simp [hg]
                have HH := hid hH
                clear hH HHB
                go_quiet (fail)
                go_wp2_with fail
                go_meet
                exact ⟨by rw [HH.out]; rfl, _, rfl⟩
            case rest =>
            obtain ⟨hu160, m2, hwc⟩ := hcut
            subst hu160
            subst hwc
            cases hHb : Hb
            · have HVS : Hid (visF s.node s.phase name s.down (nE - (j + 1)) (j + 1) cur = visF s.node s.phase name s.down nE 0 st) := by
                show _ = _
                rw [← HI.out.2.2.1]
                obtain ⟨mm, hmm⟩ : ∃ mm, nE - j = mm + 1 := ⟨nE - j - 1, by omega⟩
                have hh := HHB.out
                rw [hHb] at hh
                rw [hmm, show nE - (j + 1) = mm by omega, visF, HX.out]
                simp only [← hh, Bool.false_eq_true, if_false]
              have HK := hid (And.intro HI.out.1 (And.intro HI.out.2.2.2.1 HI.out.2.2.2.2))
              have HXM := hid (HXA.out m2)
              clear HI hHb HHB HXA HBX
              go_wp2_with fail
              go_roundw
              case rel => exact ⟨j + 1, cur, q, by omega, by go_num, rfl, rfl, HK.out.1, HXM.out, HVS.out, HK.out.2.1, by have := HK.out.2.2; omega⟩
              case measure => simp [intOf]; omega
            · have hcl := HI.out.2.2.2.2
              have HK := hid (And.intro HI.out.1 (And.intro HI.out.2.2.1 (And.intro HI.out.2.2.2.1 HI.out.2.2.2.2)))
              have HOW : Hid (∀ m (o : Obj), ((Wx.drewN m).alloc o).ownsRow w.heap.size 98 3 cv2 cur.calls.length (callsC cur.calls)) := fun m o => (HXA.out m).ca.alloc o
              have hkn : k * nE ≤ 300 * 1000 := Nat.mul_le_mul (by omega) hE
              have hbw : w.heap.size ≤ Wx.heap.size := (HXA.out 0).ch.size
              clear HI
              go_upto_region 29 with fail
              go_cut [17] from 161 to 175 (fun s17 wx => Hid (QsL w wb (.slice (some ⟨lg, 0, none⟩) nE lc) (.slice (some ⟨gg, 0, none⟩) nE gc) (.slice (some ⟨sg, 0, none⟩) stops.length scap) stops { cur with calls := cur.calls ++ [⟨j, s.node, s.phase⟩] } s17 wx ∧ wx.heap[wp.heap.size]? = some (.cells ⟨earC x.e⟩ 40 (0, 0))))
              case first =>
                go_region_law (refine step_app_ownE _ (by rfl) (.tmp 161) (.tmp 174) 50 (by rfl) w.heap.size 98 i0 _ 3 24 Tryd.underlying50 hi hz0 hz1 hz2 rfl (by decide) cv2 cur.calls.length (callsC cur.calls) (by simp [Act.eval]) (HOW.out (m2 + 1) _) (.slice (some ⟨Wx.heap.size, 0, none⟩) 1 1) 1 [.int .i64 j, .int .i64 s.node, .int .i64 s.phase] (by simp [Act.eval]) (src_newE _ ⟨j, s.node, s.phase⟩) (by unfold maxLen; omega) (by omega) (by simp only [World.size_alloc]; exact Nat.le_succ_of_le hbw) ?_; intro v6 w6 hv6 hg6 hx6; have HM := hid ((HXA.out (m2 + 1)).more (x := ⟨j, s.node, s.phase⟩) hv6 hg6 hx6); have HBM := hid (qbox_kept (HXA.out (m2 + 1)) HBX.out hg6); clear hv6 hg6 hx6)
                all_goals go_wp2_with fail
                all_goals go_meet
                all_goals exact hid ⟨HM.out, HBM.out⟩
              case rest =>
              obtain ⟨cv3, hcv3⟩ : ∃ v, v = u17 := ⟨_, rfl⟩
              subst hcv3
              obtain ⟨w5, hw5⟩ : ∃ w9, w9 = wc := ⟨_, rfl⟩
              subst hw5
              have HM := hcut
              clear hcut HXA HBX HOW e0 e1 e2 e3 e4 e5 b0 b1 b2 b3 b4 b5 b6 b7
              obtain ⟨d0, d1, df⟩ := HM.out.1.qe.cells
              obtain ⟨b0, b1, b2, b3, b4, b5, b6, b7⟩ := qear_cells HM.out.2
              have hgg := HM.out.1.qe.goneAt (by rw [HEL2.out]) HX.out
              obtain ⟨g0, g1⟩ := hgg
              have HVT : Hid (visF s.node s.phase name s.down nE 0 st = if x.e.now then (hearT cur j s.node s.phase x.e, true) else visF s.node s.phase name s.down (nE - (j + 1)) (j + 1) (hearT cur j s.node s.phase x.e)) := by
                show _ = _
                rw [← HK.out.2.1]
                obtain ⟨mm, hmm⟩ : ∃ mm, nE - j = mm + 1 := ⟨nE - j - 1, by omega⟩
                have hh := HHB.out
                rw [hHb] at hh
                rw [hmm, show nE - (j + 1) = mm by omega, visF, HX.out]
                simp only [← hh, if_true]
              have hlen : Hid ((hearT cur j s.node s.phase x.e).E.length = nE) := by show _ = _; rw [hearT_len]; exact HK.out.2.2.1
              have hcl2 : Hid ((hearT cur j s.node s.phase x.e).calls.length ≤ k * nE + (j + 1)) := by
                show _ ≤ _
                have : (hearT cur j s.node s.phase x.e).calls.length = cur.calls.length + 1 := by simp [hearT]
                have := HK.out.2.2.2
                omega
              clear hHb
              go_upto_region 30 with fail
              cases ho : x.e.once
              · rw [ho] at b3
                have HQ : Hid (QsL w wb (.slice (some ⟨lg, 0, none⟩) nE lc) (.slice (some ⟨gg, 0, none⟩) nE gc) (.slice (some ⟨sg, 0, none⟩) stops.length scap) stops (hearT cur j s.node s.phase x.e) cv3 w5 ∧ w5.heap[wp.heap.size]? = some (.cells ⟨earC x.e⟩ 40 (0, 0))) := by
                  have h1 := HM.out.1
                  exact ⟨h1.recast (by unfold hearT; simp [ho]) rfl, HM.out.2⟩
                go_upto_region 32 with fail
                obtain ⟨w6, hw6⟩ : ∃ w9, w9 = w5 := ⟨_, rfl⟩
                rw [← hw6] at HQ ⊢
                clear hw6
                clear HM d0 d1 df b0 b1 b2 b3 b4 b5 b6 b7 g0 g1
                obtain ⟨b0, b1, b2, b3, b4, b5, b6, b7⟩ := qear_cells HQ.out.2
                cases hb : x.e.bar
                · rw [hb] at b7
                  have HFR : Hid (cur.barred = (hearT cur j s.node s.phase x.e).barred) := by show _ = _; simp [hearT, hb]
                  cases hnw : x.e.now
                  · rw [hnw] at b6
                    have HVN : Hid (visF s.node s.phase name s.down (nE - (j + 1)) (j + 1) (hearT cur j s.node s.phase x.e) = visF s.node s.phase name s.down nE 0 st) := by
                      show _ = _
                      rw [HVT.out, hnw]
                      rfl
                    cases hst : x.e.stop
                    · rw [hst] at b5
                      have HQE : Hid (q = (if (hearT cur j s.node s.phase x.e).ended = true then s.node else -1)) := by
                        show _ = _
                        rw [HK.out.1]
                        simp [hearT, hst, hnw]
                      go_wp2_with fail
                      go_roundw
                      case rel => exact ⟨j + 1, hearT cur j s.node s.phase x.e, q, by omega, by go_num, by rw [← HFR.out]; try rfl, rfl, HQE.out, HQ.out.1, HVN.out, hlen.out, hcl2.out⟩
                      case measure => simp [intOf]; omega
                    · rw [hst] at b5
                      obtain ⟨n0, n1, n2⟩ := HQ.out.1.stop HSK.out
                      have HQE : Hid (s.node = (if (hearT cur j s.node s.phase x.e).ended = true then s.node else -1)) := by
                        show _ = _
                        rw [if_pos (by simp [hearT, hst])]
                      go_wp2_with fail
                      go_roundw
                      case rel => exact ⟨j + 1, hearT cur j s.node s.phase x.e, s.node, by omega, by go_num, by rw [← HFR.out]; try rfl, rfl, HQE.out, HQ.out.1, HVN.out, hlen.out, hcl2.out⟩
                      case measure => simp [intOf]; omega
                  · rw [hnw] at b6
                    have HFN : Hid (docF name stops prev st0 = hearT cur j s.node s.phase x.e) := by
                      show _ = _
                      rw [HDF.out, HVT.out, hnw]
                      rfl
                    obtain ⟨ca, cc, rfl⟩ := own_shapeE HQ.out.1.ca
                    go_wp2_with fail
                    all_goals refine bodyPost_ret (v := .tuple #[.slice ca (hearT cur j s.node s.phase x.e).calls.length cc, .bool (!cur.barred)]) ?_ rfl (by rw [HFN.out, HFR.out]; exact ⟨_, rfl, HQ.out.1.qe, HQ.out.1.ca, HQ.out.1.ch⟩)
                    all_goals simp [results, Tryd.results13, go_sem]
                · cases hcm : x.e.calm
                  · rw [hb] at b7
                    rw [hcm] at b4
                    have HFR : Hid (true = (hearT cur j s.node s.phase x.e).barred) := by show _ = _; simp [hearT, hb, hcm]
                    cases hnw : x.e.now
                    · rw [hnw] at b6
                      have HVN : Hid (visF s.node s.phase name s.down (nE - (j + 1)) (j + 1) (hearT cur j s.node s.phase x.e) = visF s.node s.phase name s.down nE 0 st) := by
                        show _ = _
                        rw [HVT.out, hnw]
                        rfl
                      cases hst : x.e.stop
                      · rw [hst] at b5
                        have HQE : Hid (q = (if (hearT cur j s.node s.phase x.e).ended = true then s.node else -1)) := by
                          show _ = _
                          rw [HK.out.1]
                          simp [hearT, hst, hnw]
                        go_wp2_with fail
                        go_roundw
                        case rel => exact ⟨j + 1, hearT cur j s.node s.phase x.e, q, by omega, by go_num, by rw [← HFR.out]; try rfl, rfl, HQE.out, HQ.out.1, HVN.out, hlen.out, hcl2.out⟩
                        case measure => simp [intOf]; omega
                      · rw [hst] at b5
                        obtain ⟨n0, n1, n2⟩ := HQ.out.1.stop HSK.out
                        have HQE : Hid (s.node = (if (hearT cur j s.node s.phase x.e).ended = true then s.node else -1)) := by
                          show _ = _
                          rw [if_pos (by simp [hearT, hst])]
                        go_wp2_with fail
                        go_roundw
                        case rel => exact ⟨j + 1, hearT cur j s.node s.phase x.e, s.node, by omega, by go_num, by rw [← HFR.out]; try rfl, rfl, HQE.out, HQ.out.1, HVN.out, hlen.out, hcl2.out⟩
                        case measure => simp [intOf]; omega
                    · rw [hnw] at b6
                      have HFN : Hid (docF name stops prev st0 = hearT cur j s.node s.phase x.e) := by
                        show _ = _
                        rw [HDF.out, HVT.out, hnw]
                        rfl
                      obtain ⟨ca, cc, rfl⟩ := own_shapeE HQ.out.1.ca
                      go_wp2_with fail
                      all_goals refine bodyPost_ret (v := .tuple #[.slice ca (hearT cur j s.node s.phase x.e).calls.length cc, .bool (!true)]) ?_ rfl (by rw [HFN.out, HFR.out]; exact ⟨_, rfl, HQ.out.1.qe, HQ.out.1.ca, HQ.out.1.ch⟩)
                      all_goals simp [results, Tryd.results13, go_sem]
                  · rw [hb] at b7
                    rw [hcm] at b4
                    have HFR : Hid (cur.barred = (hearT cur j s.node s.phase x.e).barred) := by show _ = _; simp [hearT, hb, hcm]
                    cases hnw : x.e.now
                    · rw [hnw] at b6
                      have HVN : Hid (visF s.node s.phase name s.down (nE - (j + 1)) (j + 1) (hearT cur j s.node s.phase x.e) = visF s.node s.phase name s.down nE 0 st) := by
                        show _ = _
                        rw [HVT.out, hnw]
                        rfl
                      cases hst : x.e.stop
                      · rw [hst] at b5
                        have HQE : Hid (q = (if (hearT cur j s.node s.phase x.e).ended = true then s.node else -1)) := by
                          show _ = _
                          rw [HK.out.1]
                          simp [hearT, hst, hnw]
                        go_wp2_with fail
                        go_roundw
                        case rel => exact ⟨j + 1, hearT cur j s.node s.phase x.e, q, by omega, by go_num, by rw [← HFR.out]; try rfl, rfl, HQE.out, HQ.out.1, HVN.out, hlen.out, hcl2.out⟩
                        case measure => simp [intOf]; omega
                      · rw [hst] at b5
                        obtain ⟨n0, n1, n2⟩ := HQ.out.1.stop HSK.out
                        have HQE : Hid (s.node = (if (hearT cur j s.node s.phase x.e).ended = true then s.node else -1)) := by
                          show _ = _
                          rw [if_pos (by simp [hearT, hst])]
                        go_wp2_with fail
                        go_roundw
                        case rel => exact ⟨j + 1, hearT cur j s.node s.phase x.e, s.node, by omega, by go_num, by rw [← HFR.out]; try rfl, rfl, HQE.out, HQ.out.1, HVN.out, hlen.out, hcl2.out⟩
                        case measure => simp [intOf]; omega
                    · rw [hnw] at b6
                      have HFN : Hid (docF name stops prev st0 = hearT cur j s.node s.phase x.e) := by
                        show _ = _
                        rw [HDF.out, HVT.out, hnw]
                        rfl
                      obtain ⟨ca, cc, rfl⟩ := own_shapeE HQ.out.1.ca
                      go_wp2_with fail
                      all_goals refine bodyPost_ret (v := .tuple #[.slice ca (hearT cur j s.node s.phase x.e).calls.length cc, .bool (!cur.barred)]) ?_ rfl (by rw [HFN.out, HFR.out]; exact ⟨_, rfl, HQ.out.1.qe, HQ.out.1.ca, HQ.out.1.ch⟩)
                      all_goals simp [results, Tryd.results13, go_sem]
              · rw [ho] at b3
                have HQ : Hid (QsL w wb (.slice (some ⟨lg, 0, none⟩) nE lc) (.slice (some ⟨gg, 0, none⟩) nE gc) (.slice (some ⟨sg, 0, none⟩) stops.length scap) stops (hearT cur j s.node s.phase x.e) cv3 (w5.setCell ⟨gg, j, none⟩ (.bool true)) ∧ (w5.setCell ⟨gg, j, none⟩ (.bool true)).heap[wp.heap.size]? = some (.cells ⟨earC x.e⟩ 40 (0, 0))) := by
                  have h1 := HM.out.1.drop (g := gg) (c := gc) (k := j) (x := x) (by rw [HEL2.out]) HX.out
                  refine ⟨h1.recast ?_ rfl, (Below.heap_setCell _ _ _ _ (by show wp.heap.size ≠ gg; omega)).trans HM.out.2⟩
                  unfold hearT
                  simp [ho]
                go_upto_region 32 with fail
                obtain ⟨w6, hw6⟩ : ∃ w9, w9 = w5.setCell ⟨gg, j, none⟩ (.bool true) := ⟨_, rfl⟩
                rw [← hw6] at HQ ⊢
                clear hw6
                clear HM d0 d1 df b0 b1 b2 b3 b4 b5 b6 b7 g0 g1
                obtain ⟨b0, b1, b2, b3, b4, b5, b6, b7⟩ := qear_cells HQ.out.2
                cases hb : x.e.bar
                · rw [hb] at b7
                  have HFR : Hid (cur.barred = (hearT cur j s.node s.phase x.e).barred) := by show _ = _; simp [hearT, hb]
                  cases hnw : x.e.now
                  · rw [hnw] at b6
                    have HVN : Hid (visF s.node s.phase name s.down (nE - (j + 1)) (j + 1) (hearT cur j s.node s.phase x.e) = visF s.node s.phase name s.down nE 0 st) := by
                      show _ = _
                      rw [HVT.out, hnw]
                      rfl
                    cases hst : x.e.stop
                    · rw [hst] at b5
                      have HQE : Hid (q = (if (hearT cur j s.node s.phase x.e).ended = true then s.node else -1)) := by
                        show _ = _
                        rw [HK.out.1]
                        simp [hearT, hst, hnw]
                      go_wp2_with fail
                      go_roundw
                      case rel => exact ⟨j + 1, hearT cur j s.node s.phase x.e, q, by omega, by go_num, by rw [← HFR.out]; try rfl, rfl, HQE.out, HQ.out.1, HVN.out, hlen.out, hcl2.out⟩
                      case measure => simp [intOf]; omega
                    · rw [hst] at b5
                      obtain ⟨n0, n1, n2⟩ := HQ.out.1.stop HSK.out
                      have HQE : Hid (s.node = (if (hearT cur j s.node s.phase x.e).ended = true then s.node else -1)) := by
                        show _ = _
                        rw [if_pos (by simp [hearT, hst])]
                      go_wp2_with fail
                      go_roundw
                      case rel => exact ⟨j + 1, hearT cur j s.node s.phase x.e, s.node, by omega, by go_num, by rw [← HFR.out]; try rfl, rfl, HQE.out, HQ.out.1, HVN.out, hlen.out, hcl2.out⟩
                      case measure => simp [intOf]; omega
                  · rw [hnw] at b6
                    have HFN : Hid (docF name stops prev st0 = hearT cur j s.node s.phase x.e) := by
                      show _ = _
                      rw [HDF.out, HVT.out, hnw]
                      rfl
                    obtain ⟨ca, cc, rfl⟩ := own_shapeE HQ.out.1.ca
                    go_wp2_with fail
                    all_goals refine bodyPost_ret (v := .tuple #[.slice ca (hearT cur j s.node s.phase x.e).calls.length cc, .bool (!cur.barred)]) ?_ rfl (by rw [HFN.out, HFR.out]; exact ⟨_, rfl, HQ.out.1.qe, HQ.out.1.ca, HQ.out.1.ch⟩)
                    all_goals simp [results, Tryd.results13, go_sem]
                · cases hcm : x.e.calm
                  · rw [hb] at b7
                    rw [hcm] at b4
                    have HFR : Hid (true = (hearT cur j s.node s.phase x.e).barred) := by show _ = _; simp [hearT, hb, hcm]
                    cases hnw : x.e.now
                    · rw [hnw] at b6
                      have HVN : Hid (visF s.node s.phase name s.down (nE - (j + 1)) (j + 1) (hearT cur j s.node s.phase x.e) = visF s.node s.phase name s.down nE 0 st) := by
                        show _ = _
                        rw [HVT.out, hnw]
                        rfl
                      cases hst : x.e.stop
                      · rw [hst] at b5
                        have HQE : Hid (q = (if (hearT cur j s.node s.phase x.e).ended = true then s.node else -1)) := by
                          show _ = _
                          rw [HK.out.1]
                          simp [hearT, hst, hnw]
                        go_wp2_with fail
                        go_roundw
                        case rel => exact ⟨j + 1, hearT cur j s.node s.phase x.e, q, by omega, by go_num, by rw [← HFR.out]; try rfl, rfl, HQE.out, HQ.out.1, HVN.out, hlen.out, hcl2.out⟩
                        case measure => simp [intOf]; omega
                      · rw [hst] at b5
                        obtain ⟨n0, n1, n2⟩ := HQ.out.1.stop HSK.out
                        have HQE : Hid (s.node = (if (hearT cur j s.node s.phase x.e).ended = true then s.node else -1)) := by
                          show _ = _
                          rw [if_pos (by simp [hearT, hst])]
                        go_wp2_with fail
                        go_roundw
                        case rel => exact ⟨j + 1, hearT cur j s.node s.phase x.e, s.node, by omega, by go_num, by rw [← HFR.out]; try rfl, rfl, HQE.out, HQ.out.1, HVN.out, hlen.out, hcl2.out⟩
                        case measure => simp [intOf]; omega
                    · rw [hnw] at b6
                      have HFN : Hid (docF name stops prev st0 = hearT cur j s.node s.phase x.e) := by
                        show _ = _
                        rw [HDF.out, HVT.out, hnw]
                        rfl
                      obtain ⟨ca, cc, rfl⟩ := own_shapeE HQ.out.1.ca
                      go_wp2_with fail
                      all_goals refine bodyPost_ret (v := .tuple #[.slice ca (hearT cur j s.node s.phase x.e).calls.length cc, .bool (!true)]) ?_ rfl (by rw [HFN.out, HFR.out]; exact ⟨_, rfl, HQ.out.1.qe, HQ.out.1.ca, HQ.out.1.ch⟩)
                      all_goals simp [results, Tryd.results13, go_sem]
                  · rw [hb] at b7
                    rw [hcm] at b4
                    have HFR : Hid (cur.barred = (hearT cur j s.node s.phase x.e).barred) := by show _ = _; simp [hearT, hb, hcm]
                    cases hnw : x.e.now
                    · rw [hnw] at b6
                      have HVN : Hid (visF s.node s.phase name s.down (nE - (j + 1)) (j + 1) (hearT cur j s.node s.phase x.e) = visF s.node s.phase name s.down nE 0 st) := by
                        show _ = _
                        rw [HVT.out, hnw]
                        rfl
                      cases hst : x.e.stop
                      · rw [hst] at b5
                        have HQE : Hid (q = (if (hearT cur j s.node s.phase x.e).ended = true then s.node else -1)) := by
                          show _ = _
                          rw [HK.out.1]
                          simp [hearT, hst, hnw]
                        go_wp2_with fail
                        go_roundw
                        case rel => exact ⟨j + 1, hearT cur j s.node s.phase x.e, q, by omega, by go_num, by rw [← HFR.out]; try rfl, rfl, HQE.out, HQ.out.1, HVN.out, hlen.out, hcl2.out⟩
                        case measure => simp [intOf]; omega
                      · rw [hst] at b5
                        obtain ⟨n0, n1, n2⟩ := HQ.out.1.stop HSK.out
                        have HQE : Hid (s.node = (if (hearT cur j s.node s.phase x.e).ended = true then s.node else -1)) := by
                          show _ = _
                          rw [if_pos (by simp [hearT, hst])]
                        go_wp2_with fail
                        go_roundw
                        case rel => exact ⟨j + 1, hearT cur j s.node s.phase x.e, s.node, by omega, by go_num, by rw [← HFR.out]; try rfl, rfl, HQE.out, HQ.out.1, HVN.out, hlen.out, hcl2.out⟩
                        case measure => simp [intOf]; omega
                    · rw [hnw] at b6
                      have HFN : Hid (docF name stops prev st0 = hearT cur j s.node s.phase x.e) := by
                        show _ = _
                        rw [HDF.out, HVT.out, hnw]
                        rfl
                      obtain ⟨ca, cc, rfl⟩ := own_shapeE HQ.out.1.ca
                      go_wp2_with fail
                      all_goals refine bodyPost_ret (v := .tuple #[.slice ca (hearT cur j s.node s.phase x.e).calls.length cc, .bool (!cur.barred)]) ?_ rfl (by rw [HFN.out, HFR.out]; exact ⟨_, rfl, HQ.out.1.qe, HQ.out.1.ca, HQ.out.1.ch⟩)
                      all_goals simp [results, Tryd.results13, go_sem]
          · obtain rfl : j = nE := by omega
            have HFI : Hid (visF s.node s.phase name s.down j 0 st = (cur, false)) := by
              show _ = _
              rw [← HI.out.2.2.1, Nat.sub_self]
              rfl
            have HFK := hid (And.intro HI.out.1 (And.intro HI.out.2.1 (And.intro HI.out.2.2.2.1 HI.out.2.2.2.2)))
            clear HI
            go_wp2_with fail
            go_roundw
            case rel =>
              refine ⟨k + 1, cur, s, q, by omega, by go_num, rfl, rfl, HFK.out.1, HFK.out.2.1, ?_, fun _ => ⟨by omega, HSK.out⟩, HFK.out.2.2.1, by have := HFK.out.2.2.2; rw [Nat.succ_mul]; omega⟩
              rw [HDF.out, HFI.out]
              rfl
            case measure => simp [intOf]; omega
      · have HF : Hid (QsL w wb (.slice la nE lc) (.slice ga nE gc) (.slice (some ⟨sg, 0, none⟩) stops.length scap) stops st cv (wq.drewN mq) ∧ docF name stops prev st0 = st) := by
          refine ⟨HWQ.out mq, ?_⟩
          rw [← HR.out.2.1, HDR.out, docF, if_pos]
          have h1 := HBB.out
          rw [hB] at h1
          have h2 := h1.symm
          simp only [Bool.and_eq_true, Bool.or_eq_true, Bool.not_eq_true', decide_eq_false_iff_not] at h2
          exact h2
        obtain ⟨ca, cc, rfl⟩ := own_shapeE HF.out.1.ca
        clear HR HWQ hB HBB HLZ
        go_wp2_with fail
        all_goals refine bodyPost_ret (v := .tuple #[.slice ca st.calls.length cc, .bool (!st.barred)]) ?_ rfl (by rw [HF.out.2]; exact ⟨_, rfl, HF.out.1.qe, HF.out.1.ca, HF.out.1.ch⟩)
        all_goals simp [results, Tryd.results13, go_sem]
    · obtain rfl : k = stops.length := by omega
      have HF : Hid (QsL w wb (.slice la nE lc) (.slice ga nE gc) (.slice (some ⟨sg, 0, none⟩) stops.length scap) stops st cv wq ∧ docF name stops prev st0 = st) := ⟨HR.out.1, by rw [← HR.out.2.1, List.drop_length]; rfl⟩
      obtain ⟨ca, cc, rfl⟩ := own_shapeE HF.out.1.ca
      clear HR
      go_wp2_with fail
      all_goals refine bodyPost_ret (v := .tuple #[.slice ca st.calls.length cc, .bool (!st.barred)]) ?_ rfl (by rw [HF.out.2]; exact ⟨_, rfl, HF.out.1.qe, HF.out.1.ca, HF.out.1.ch⟩)
      all_goals simp [results, Tryd.results13, go_sem]
end Go.Proofs.YtlfepdecgfcifaaDoor
