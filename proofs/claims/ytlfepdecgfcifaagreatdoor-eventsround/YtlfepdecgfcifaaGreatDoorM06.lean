/- The document's answer: what is kept of what was; new nodes. -/
import Derived.Test.YtlfepdecgfcifaaGreatDoorM05
import Derived.Deep.RegionLaw
namespace Go.Proofs.YtlfepdecgfcifaaGreatDoor
open Go.RowKit

section
variable {P : Program}
/-- a call of a function that has a body -/
theorem run_enter {f : FuncId} {fn : Func} {c : Code} (hf : P.funcs[f]? = some fn) (hname : (fn.name == "runtime.NumGoroutine") = false) (hb : fn.body = some c) (args : Array Value) (w : World) :
    (callFunc f args).run P w = .ok (.enter f args) w := by
  have h1 : fn.name ≠ "runtime.NumGoroutine" := by simpa using hname
  simp [callFunc, Sem.run_bind, hf, h1, hb]

/-- a call of a function at a step of a region that draws its order -/
theorem step_call (w : World) {ops : Array Oper} {o : Oper} {a : Act} {K : Act → World → Prop} {Q : Exit → Act → World → Prop} {E : Prop} (hgd : o.guard = none) (f : FuncId) (xs : List Operand) (ts : Array TypeId)
    (ho : o.op = .call { callee := .value (.func f), args := xs.toArray, argTypes := ts }) {fn : Func} {c : Code} (hf : P.funcs[f]? = some fn) (hname : (fn.name == "runtime.NumGoroutine") = false) (hb : fn.body = some c)
    (xv : List Value) (hx : xs.map a.eval = xv) {R : Ending → World → Prop} (h : Calls P f xv.toArray w R)
    (hR : ∀ e w', R e w' → ∃ v, e = .returned v ∧ K (a.put o.dst v) w') :
    if Region.wanted o (yielded ops a.tmps) = true then Oper.wp P o a w K Q else E := by
  have hw : Region.wanted o (yielded ops a.tmps) = true := by simp [Region.wanted, hgd]
  rw [if_pos hw]
  unfold Oper.wp execOp
  have hr : ∀ w, (Deferred.ofValue (a.eval (Operand.func f)) xv.toArray).run P w = .ok ⟨.fn (.func f) #[], xv.toArray⟩ w := fun w => by
    simp [go_sem, Deferred.ofValue, Act.eval]
  simp only [ho, resolve, invoke, Sem.run_bind, List.map_toArray, hx, hr, Result.andThen_ok, run_enter hf hname hb, Array.append_empty]
  rw [Oper.upon_enter]
  refine h.mono fun e w' hRe => ?_
  obtain ⟨v, rfl, hv⟩ := hR e w' hRe
  exact hv
end

/-- what was is kept -/
def RKept (w : World) (M : Nat → Lab) (tb : Nat) (nv : Value) (ps : List Pn) (us : List Value) (e : Ending) (w' : World) : Prop :=
  e = .returned (.tuple #[]) ∧ ∃ M' uv' v, RLies w' M' tb nv uv' ps (us ++ [v]) ∧ Moved w M w' M'

set_option maxHeartbeats 4000000 in
set_option maxRecDepth 100000 in
theorem rkeep_any {w : World} {M : Nat → Lab} {tb : Nat} {nv uv : Value} {ps : List Pn} {us : List Value} (h : RLies w M tb nv uv ps us) (hs : Small ps) (hn : ps.length ≤ 1000000) (hu : us.length ≤ 1000000000) :
    Calls Tryz.prog 59 #[.pointer (some ⟨tb, 0, none⟩)] w (RKept w M tb nv ps us) := by
  obtain ⟨i0, hi, hz0, hz1, hz2⟩ := info_parts Tryz.infoRnodes
  obtain ⟨a, cap, ha, hc, hm⟩ := h.undos.shape
  subst ha
  have c0 := h.cell0
  have c1 := h.cell1
  have hlt : tb < w.heap.size := lt_of_heap h.head
  have H : Hid (RLies w M tb nv (.slice a us.length cap) ps us) := h
  have HS : Hid (Small ps) := hs
  clear h hs
  go_enter Tryz.func59, Tryz.ntmps59
  go_wp2
  go_region_law ((first
    | (refine step_call _ (by rfl) 83 [.tmp 10] #[26] (by rfl) Tryz.func83 (by kernel_rfl) (by rfl) [nv] (by simp [Act.eval]) (copied_any H.out.drew HS.out hn) ?_
       rintro e w1 ⟨a1, n1, e1, rfl, hB1⟩
       refine ⟨_, rfl, ?_⟩
       have H1 : Hid (RLies w1 M tb nv (.slice a us.length cap) ps us) := H.out.drew.below hB1
       have q0 := H1.out.cell0
       have q1 := H1.out.cell1
       have hl1 : tb < w1.heap.size := lt_of_heap H1.out.head
       have HB1 : Hid (Below w.heap.size w w1) := (Below.refl _ _).drew.trans hB1
       clear hB1)
    | (refine step_app_row _ (by rfl) (.tmp 6) (.tmp 12) 27 (by rfl) M .undos 26 i0 (.slice none 0 0) 1 24 Tryz.underlying27 hi hz0 hz1 hz2 rfl (by decide) (.slice a us.length cap) us.length us (by simp [Act.eval]) (H1.out.alloc _).undos ⟨w1.heap.size, 0, none⟩ 1 1 [.slice a1 n1 e1] (by simp [Act.eval]) rfl (cell_one_new _ _ _) (by simp [Value.oneCell']) (by decide) (by unfold maxLen; omega) (by omega) (H1.out.alloc _).fresh ?_
       intro g cap1 w2 M2 hr st
       obtain ⟨hc0, hc1, hf0, hf1⟩ := head_cell ((st.far tb (lt_of_heap (H1.out.alloc _).head) (by rw [H1.out.tree]; intro e; cases e)).trans (H1.out.alloc _).head)
       have HR : Hid _ := (H1.out.alloc _).headUndos (uv' := .slice (some ⟨g, 0, none⟩) (us.length + 1) cap1) (us' := us ++ [.slice a1 n1 e1]) st (by rw [List.length_append]; exact hr)
       clear hr st)))
  all_goals go_wp2
  all_goals go_end0
  all_goals exact ⟨rfl, M2, _, _, HR.out.1, (((Moved.refl _ _).below HB1.out).alloc _).trans HR.out.2⟩

theorem rhas_any {w : World} {M : Nat → Lab} {tb : Nat} {nv uv : Value} {ps : List Pn} {us : List Value} (h : RLies w M tb nv uv ps us) (id : Int) :
    Calls Tryz.prog 45 #[.pointer (some ⟨tb, 0, none⟩), .int .i64 id] w fun e w' => e = .returned (.bool (hasB ps.length id)) ∧ w' = w := by
  obtain ⟨a, cap, rfl, hc, hm⟩ := h.nodes.shape
  have c0 := h.cell0
  unfold maxLen at hm
  go_enter Tryz.func45, Tryz.ntmps45
  go_wp2
  all_goals go_ret
  all_goals refine ⟨ret_bool ?_, rfl⟩
  all_goals (unfold hasB; simp; try omega)
end Go.Proofs.YtlfepdecgfcifaaGreatDoor
