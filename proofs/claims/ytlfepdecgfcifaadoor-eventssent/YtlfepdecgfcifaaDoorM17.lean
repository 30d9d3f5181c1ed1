/- The document's answer: new trees and new nodes, and the copy that is kept of what was. -/
import Derived.Test.YtlfepdecgfcifaaDoorM04
import Derived.Test.YtlfepdecgfcifaaDoorRLies
import Derived.Deep.RegionLaw
namespace Go.Proofs.YtlfepdecgfcifaaDoor
open Go.RowKit

theorem Tryd.infoRnode : (Tryd.prog.info? 83).map (fun i => (i.zero, i.size, i.bytes)) = some (some (.agg #[.int .i64 0, .string ⟨#[]⟩, .string ⟨#[]⟩, .slice none 0 0, .int .i64 0, .slice none 0 0]), 6, 96) := by kernel_rfl
theorem Tryd.infoRnodes : (Tryd.prog.info? 29).map (fun i => (i.zero, i.size, i.bytes)) = some (some (.slice none 0 0), 1, 24) := by kernel_rfl

/-- how much a tree holds: no list is too long to be copied -/
def Small (ps : List Pn) : Prop := ∀ (j : Nat) (p : Pn), ps[j]? = some p → p.n.attrs.length ≤ 1099511627776 ∧ p.n.kids.length ≤ 1099511627776




/-- a node's copy, as it lies in memory -/
def nodeBox (p : Pn) : Obj := .cells #[.int .i64 p.n.kind, .string p.n.tag, .string p.n.words, p.av, .int .i64 p.n.parent, p.kv] 83

theorem box_set {w : World} {B : Nat} {x0 x1 x2 x3 x4 x5 : Value} {t : TypeId} {fr : Nat × Nat} (h : w.heap[B]? = some (.cells #[x0, x1, x2, x3, x4, x5] t fr)) (v : Value) :
    (w.setCell ⟨B, 3, none⟩ v).heap[B]? = some (.cells #[x0, x1, x2, v, x4, x5] t fr) ∧ (w.setCell ⟨B, 5, none⟩ v).heap[B]? = some (.cells #[x0, x1, x2, x3, x4, v] t fr) :=
  ⟨setCell_heap w B 3 v _ _ _ h, setCell_heap w B 5 v _ _ _ h⟩
theorem box_frozen {w : World} {B : Nat} {cs : Array Value} {t : TypeId} (h : w.heap[B]? = some (.cells cs t (0, 0))) (o : Nat) : w.frozen? ⟨B, o, none⟩ = false := by
  simp [World.frozen?, h]


def CopiedPost (w : World) (e : Ending) (w' : World) : Prop := ∃ a n c, e = .returned (.slice a n c) ∧ Below w.heap.size w w'

set_option maxHeartbeats 8000000 in
set_option maxRecDepth 100000 in
theorem copied_any {w : World} {M : Nat → Lab} {tb : Nat} {nv uv : Value} {ps : List Pn} {us : List Value} (h : RLies w M tb nv uv ps us) (hs : Small ps) (hn : ps.length ≤ 1000000) :
    Calls Tryd.prog 67 #[nv] w (CopiedPost w) := by
  obtain ⟨i0, hi, hz0, hz1, hz2⟩ := info_parts Tryd.infoRnode
  obtain ⟨i1, hi1, hz10, hz11, hz12⟩ := info_parts Tryd.infoAttr
  obtain ⟨i2, hi2, hz20, hz21, hz22⟩ := info_parts Tryd.infoInt
  obtain ⟨a, cap, rfl, hc, hm⟩ := h.nodes.shape
  unfold maxLen at hm
  have H : Hid (∀ (k : Nat) p, ps[k]? = some p → ∃ nb, a = some ⟨nb, 0, none⟩ ∧ nb < w.heap.size ∧ (∀ f c, f < 6 → p.cells[f]? = some c → w.cell? ⟨nb, k * 6 + f, none⟩ = some c) ∧ SrcOf w 2 p.av p.n.attrs.length (attrCells p.n.attrs) ∧ SrcOf w 1 p.kv p.n.kids.length (p.n.kids.map intV) ∧ p.n.attrs.length ≤ 1099511627776 ∧ p.n.kids.length ≤ 1099511627776) := by
    intro k p hp
    obtain ⟨nb, c, hv, _, _, _, hl, _⟩ := h.form hp
    cases hv
    exact ⟨nb, rfl, hl, fun f c hf hc => (h.cellN rfl hp hf hc).1, (h.node k p hp).1.src (one_attr _), (h.node k p hp).2.src (one_int _), hs k p hp⟩
  clear h hs
  go_enter Tryd.func67, Tryd.ntmps67
  go_wp2
  go_loopw [3, 4] (fun out i wr => ∃ k : Nat, k ≤ ps.length ∧ i = .int .i64 k ∧ Hid (∃ xs, wr.ownsRow w.heap.size 83 6 out k xs) ∧ Hid (Below w.heap.size w wr)) (fun _ i _ => ps.length - (intOf i).toNat)
  case atStart => exact ⟨0, by omega, rfl, ⟨[], World.ownsRow_nil _ _ _ _⟩, Below.refl _ _⟩
  case round =>
    obtain ⟨k, hk, rfl, hown, hbel⟩ := hrel
    by_cases hlt : k < ps.length
    · obtain ⟨p, hp⟩ : ∃ p, ps[k]? = some p := ⟨_, List.getElem?_eq_getElem hlt⟩
      obtain ⟨nb, rfl, hnb, hcell, hsa, hsk, hla, hlk⟩ := H.out k p hp
      obtain ⟨xs, hxs⟩ := hown.out
      have HS : Hid (SrcOf w 2 p.av p.n.attrs.length (attrCells p.n.attrs) ∧ SrcOf w 1 p.kv p.n.kids.length (p.n.kids.map intV)) := ⟨hsa, hsk⟩
      obtain ⟨_, _, aa, ac, hav, _⟩ := hsa
      obtain ⟨_, _, ka, kc, hkv, _⟩ := hsk
      have cc : ∀ f c, f < 6 → p.cells[f]? = some c → wr.cell? ⟨nb, k * 6 + f, none⟩ = some c := fun f c hf hc => (hbel.out.cell (p := ⟨nb, k * 6 + f, none⟩) hnb).trans (hcell f c hf hc)
      have c0 := cc 0 _ (by omega) rfl
      rw [Nat.add_zero] at c0
      have c1 := cc 1 _ (by omega) rfl
      have c2 := cc 2 _ (by omega) rfl
      have c3 := cc 3 _ (by omega) rfl
      have c4 := cc 4 _ (by omega) rfl
      have c5 := cc 5 _ (by omega) rfl
      rw [hav] at c3
      rw [hkv] at c5
      have HO : Hid (wr.ownsRow w.heap.size 83 6 u3 k xs) := hxs
      have hsz := hbel.out.size
      have hnl := Nat.lt_of_lt_of_le hnb hsz
      obtain ⟨pn, pav, pkv⟩ := p
      dsimp only at hav hkv
      subst hav
      subst hkv
      dsimp only at c0 c1 c2 c3 c4 c5 hla hlk HS
      clear cc hcell hp hown hxs
      go_wp2_with (first
        | (at_builtin; refine wpList_app_own _ (by rfl) _ _ 64 (by rfl) wr.heap.size 72 i1 _ 2 32 Tryd.underlying64 hi1 hz10 hz11 hz12 rfl (by decide) (.slice none 0 0) 0 [] (by rfl) (World.ownsRow_nil _ _ _ _) (.slice aa pn.attrs.length ac) pn.attrs.length (attrCells pn.attrs) (by rfl) (HS.out.1.below (hbel.out.alloc hsz _)) (by unfold maxLen; omega) (by omega) (by simp) ?_
           intro v1 w1 hv1 hg1 _
           have hb1 := (below_grown hg1).block wr.heap.size (by simp)
           rw [heap_alloc_new wr] at hb1
           obtain ⟨d0, d1, d2, d3, d4, d5⟩ := six_cells hb1
           have df3 := box_frozen hb1 3
           rw [Nat.zero_add] at hv1
           obtain ⟨a1, e1, rfl⟩ := own_shape hv1
           obtain ⟨s0, s1, s2, s3, s4, s5⟩ := six_cells (box_set hb1 (.slice a1 pn.attrs.length e1)).1
           have HB1 : Hid (Below wr.heap.size wr w1) := ((Below.refl wr.heap.size wr).alloc (Nat.le_refl _) _).trans ((below_grown hg1).mono (by simp))
           have HX1 : Hid _ := (box_set hb1 (.slice a1 pn.attrs.length e1)).1
           clear hv1 hg1 hb1)
        | (at_builtin; refine wpList_app_own _ (by rfl) _ _ 63 (by rfl) wr.heap.size 3 i2 _ 1 8 Tryd.underlying63 hi2 hz20 hz21 hz22 rfl (by decide) (.slice none 0 0) 0 [] (by rfl) (World.ownsRow_nil _ _ _ _) (.slice ka pn.kids.length kc) pn.kids.length (pn.kids.map intV) (by rfl) (HS.out.2.below (hbel.out.trans ((HB1.out.setCell (Nat.le_refl _) _).mono hsz))) (by unfold maxLen; omega) (by omega) (by simpa using HB1.out.size) ?_
           intro v2 w2 hv2 hg2 _
           have hlx : wr.heap.size < w1.heap.size := World.block_lt_of_cell? w1 _ d0
           have hb2 := (below_grown hg2).block wr.heap.size (by simpa using hlx)
           rw [HX1.out] at hb2
           obtain ⟨t0, t1, t2, t3, t4, t5⟩ := six_cells hb2
           have df5 := box_frozen hb2 5
           rw [Nat.zero_add] at hv2
           obtain ⟨a2, e2, rfl⟩ := own_shape hv2
           obtain ⟨r0, r1, r2, r3, r4, r5⟩ := six_cells (box_set hb2 (.slice a2 pn.kids.length e2)).2
           have HB2 : Hid (Below wr.heap.size wr (w2.setCell ⟨wr.heap.size, 5, none⟩ (.slice a2 pn.kids.length e2))) := ((HB1.out.setCell (Nat.le_refl _) _).trans ((below_grown hg2).mono (by simpa using HB1.out.size))).setCell (Nat.le_refl _) _
           clear hv2 hg2 hb2)
        | (at_builtin; refine wpList_app_own _ (by rfl) _ _ 29 (by rfl) w.heap.size 83 i0 _ 6 96 Tryd.underlying29 hi hz0 hz1 hz2 rfl (by decide) u3 k xs (by rfl) ((own_below HO.out HB2.out (Nat.le_refl _)).alloc _) _ 1 [.int .i64 pn.kind, .string pn.tag, .string pn.words, .slice a1 pn.attrs.length e1, .int .i64 pn.parent, .slice a2 pn.kids.length e2] (by rfl) ⟨rfl, by simp [Value.oneCell'], _, _, rfl, .inr ⟨_, rfl, news_new _ #[.int .i64 pn.kind, .string pn.tag, .string pn.words, .slice a1 pn.attrs.length e1, .int .i64 pn.parent, .slice a2 pn.kids.length e2] 83 _ (by simp)⟩⟩ (by unfold maxLen; omega) (by omega) (by have := HB2.out.size; simp at this ⊢; omega) ?_
           intro v3 w3 hv3 hg3 hat3
           have HV : Hid (w3.ownsRow w.heap.size 83 6 v3 (k + 1) (xs ++ [.int .i64 pn.kind, .string pn.tag, .string pn.words, .slice a1 pn.attrs.length e1, .int .i64 pn.parent, .slice a2 pn.kids.length e2])) := hv3
           have HB3 : Hid (Below w.heap.size w w3) := ((hbel.out.trans (HB2.out.mono hsz)).alloc (Nat.le_trans hsz HB2.out.size) _).grown hg3 (by have := HB2.out.size; simp at this ⊢; omega) (fun b hb => (HO.out.lt b hb).1)
           clear hv3 hg3 hat3))
      go_roundw
      case rel => go_light; exact ⟨k + 1, by omega, by go_num, ⟨_, HV.out⟩, HB3⟩
      case measure => go_light; simp [intOf]; omega
    · obtain ⟨xs, hxs⟩ := hown.out
      obtain ⟨a3, c3, rfl⟩ : ∃ a3 c3, u3 = .slice a3 k c3 := by
        rcases hxs.2 with ⟨rfl, rfl⟩ | ⟨g, cap, cur, rfl, _⟩
        · exact ⟨none, 0, rfl⟩
        · exact ⟨_, _, rfl⟩
      go_wp2
      go_ret
      exact ⟨_, _, _, rfl, hbel.out⟩
end Go.Proofs.YtlfepdecgfcifaaDoor

/- The document's answer: what is kept of what was; new nodes. -/
namespace Go.Proofs.YtlfepdecgfcifaaDoor
open Go.RowKit

section
variable {P : Program}
/-- a call of a function that has a body -/
theorem run_enter {f : FuncId} {fn : Func} {c : Code} (hf : P.funcs[f]? = some fn) (hname : (fn.name == "runtime.NumGoroutine") = false) (hb : fn.body = some c) (args : Array Value) (w : World) :
    (callFunc f args).run P w = .ok (.enter f args) w := by
  have h1 : fn.name ≠ "runtime.NumGoroutine" := by simpa using hname
  simp [callFunc, Sem.run_bind, hf, h1, hb]

/-- a call of a function at a step of a region that draws its order -/
theorem step_call (w : World) {ops : Array Oper} {o : Oper} {a : Act} {K : Act → World → Prop} {Q : Exit → Act → World → Prop} {E : Prop} (hgd : o.guard = none) (f : FuncId) (xs : List Operand) (ts : Array TypeId)
    (ho : o.op = .call { callee := .value (.func f), args := xs.toArray, argTypes := ts }) {fn : Func} {c : Code} (hf : P.funcs[f]? = some fn) (hname : (fn.name == "runtime.NumGoroutine") = false) (hb : fn.body = some c)
    (xv : List Value) (hx : xs.map a.eval = xv) {R : Ending → World → Prop} (h : Calls P f xv.toArray w R)
    (hR : ∀ e w', R e w' → ∃ v, e = .returned v ∧ K (a.put o.dst v) w') :
    if Region.wanted o (yielded ops a.tmps) = true then Oper.wp P o a w K Q else E := by
  have hw : Region.wanted o (yielded ops a.tmps) = true := by simp [Region.wanted, hgd]
  rw [if_pos hw]
  unfold Oper.wp execOp
  have hr : ∀ w, (Deferred.ofValue (a.eval (Operand.func f)) xv.toArray).run P w = .ok ⟨.fn (.func f) #[], xv.toArray⟩ w := fun w => by
    simp [go_sem, Deferred.ofValue, Act.eval]
  simp only [ho, resolve, invoke, Sem.run_bind, List.map_toArray, hx, hr, Result.andThen_ok, run_enter hf hname hb, Array.append_empty]
  rw [Oper.upon_enter]
  refine h.mono fun e w' hRe => ?_
  obtain ⟨v, rfl, hv⟩ := hR e w' hRe
  exact hv
end

/-- what was is kept -/
def RKept (w : World) (M : Nat → Lab) (tb : Nat) (nv : Value) (ps : List Pn) (us : List Value) (e : Ending) (w' : World) : Prop :=
  e = .returned (.tuple #[]) ∧ ∃ M' uv' v, RLies w' M' tb nv uv' ps (us ++ [v]) ∧ Moved w M w' M'

set_option maxHeartbeats 4000000 in
set_option maxRecDepth 100000 in
theorem rkeep_any {w : World} {M : Nat → Lab} {tb : Nat} {nv uv : Value} {ps : List Pn} {us : List Value} (h : RLies w M tb nv uv ps us) (hs : Small ps) (hn : ps.length ≤ 1000000) (hu : us.length ≤ 1000000000) :
    Calls Tryd.prog 48 #[.pointer (some ⟨tb, 0, none⟩)] w (RKept w M tb nv ps us) := by
  obtain ⟨i0, hi, hz0, hz1, hz2⟩ := info_parts Tryd.infoRnodes
  obtain ⟨a, cap, ha, hc, hm⟩ := h.undos.shape
  subst ha
  have c0 := h.cell0
  have c1 := h.cell1
  have hlt : tb < w.heap.size := lt_of_heap h.head
  have H : Hid (RLies w M tb nv (.slice a us.length cap) ps us) := h
  have HS : Hid (Small ps) := hs
  clear h hs
  go_enter Tryd.func48, Tryd.ntmps48
  go_wp2
  go_region_law ((first
    | (refine step_call _ (by rfl) 67 [.tmp 10] #[29] (by rfl) Tryd.func67 (by kernel_rfl) (by rfl) [nv] (by simp [Act.eval]) (copied_any H.out.drew HS.out hn) ?_
       rintro e w1 ⟨a1, n1, e1, rfl, hB1⟩
       refine ⟨_, rfl, ?_⟩
       have H1 : Hid (RLies w1 M tb nv (.slice a us.length cap) ps us) := H.out.drew.below hB1
       have q0 := H1.out.cell0
       have q1 := H1.out.cell1
       have hl1 : tb < w1.heap.size := lt_of_heap H1.out.head
       have HB1 : Hid (Below w.heap.size w w1) := (Below.refl _ _).drew.trans hB1
       clear hB1)
    | (refine step_app_row _ (by rfl) (.tmp 6) (.tmp 12) 30 (by rfl) M .undos 29 i0 (.slice none 0 0) 1 24 Tryd.underlying30 hi hz0 hz1 hz2 rfl (by decide) (.slice a us.length cap) us.length us (by simp [Act.eval]) (H1.out.alloc _).undos ⟨w1.heap.size, 0, none⟩ 1 1 [.slice a1 n1 e1] (by simp [Act.eval]) rfl (cell_one_new _ _ _) (by simp [Value.oneCell']) (by decide) (by unfold maxLen; omega) (by omega) (H1.out.alloc _).fresh ?_
       intro g cap1 w2 M2 hr st
       obtain ⟨hc0, hc1, hf0, hf1⟩ := head_cell ((st.far tb (lt_of_heap (H1.out.alloc _).head) (by rw [H1.out.tree]; intro e; cases e)).trans (H1.out.alloc _).head)
       have HR : Hid _ := (H1.out.alloc _).headUndos (uv' := .slice (some ⟨g, 0, none⟩) (us.length + 1) cap1) (us' := us ++ [.slice a1 n1 e1]) st (by rw [List.length_append]; exact hr)
       clear hr st)))
  all_goals go_wp2
  all_goals go_end0
  all_goals exact ⟨rfl, M2, _, _, HR.out.1, (((Moved.refl _ _).below HB1.out).alloc _).trans HR.out.2⟩

theorem rhas_any {w : World} {M : Nat → Lab} {tb : Nat} {nv uv : Value} {ps : List Pn} {us : List Value} (h : RLies w M tb nv uv ps us) (id : Int) :
    Calls Tryd.prog 34 #[.pointer (some ⟨tb, 0, none⟩), .int .i64 id] w fun e w' => e = .returned (.bool (hasB ps.length id)) ∧ w' = w := by
  obtain ⟨a, cap, rfl, hc, hm⟩ := h.nodes.shape
  have c0 := h.cell0
  unfold maxLen at hm
  go_enter Tryd.func34, Tryd.ntmps34
  go_wp2
  all_goals go_ret
  all_goals refine ⟨ret_bool ?_, rfl⟩
  all_goals (unfold hasB; simp; try omega)
end Go.Proofs.YtlfepdecgfcifaaDoor
