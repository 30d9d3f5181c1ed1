/- A call at a step of a region that draws its order. -/
import Derived.Test.YthpffpgbmgnkcaaProg
import Derived.Deep.RegionLaw
import Derived.OwnWalk
namespace Go.Proofs.Ythpffpgbmgnkcaa

section
variable {P : Program}
/-- a call of a function that has a body -/
theorem run_enter {f : FuncId} {fn : Func} {c : Code} (hf : P.funcs[f]? = some fn) (hname : (fn.name == "runtime.NumGoroutine") = false) (hb : fn.body = some c) (args : Array Value) (w : World) :
    (callFunc f args).run P w = .ok (.enter f args) w := by
  have h1 : fn.name ≠ "runtime.NumGoroutine" := by simpa using hname
  simp [callFunc, Sem.run_bind, hf, h1, hb]

/-- a call of a function at a step of a region that draws its order -/
theorem step_call (w : World) {ops : Array Oper} {o : Oper} {a : Act} {K : Act → World → Prop} {Q : Exit → Act → World → Prop} {E : Prop} (hgd : o.guard = none) (f : FuncId) (xs : List Operand) (ts : Array TypeId)
    (ho : o.op = .call { callee := .value (.func f), args := xs.toArray, argTypes := ts }) {fn : Func} {c : Code} (hf : P.funcs[f]? = some fn) (hname : (fn.name == "runtime.NumGoroutine") = false) (hb : fn.body = some c)
    (xv : List Value) (hx : xs.map a.eval = xv) {R : Ending → World → Prop} (h : Calls P f xv.toArray w R)
    (hR : ∀ e w', R e w' → ∃ v, e = .returned v ∧ K (a.put o.dst v) w') :
    if Region.wanted o (yielded ops a.tmps) = true then Oper.wp P o a w K Q else E := by
  have hw : Region.wanted o (yielded ops a.tmps) = true := by simp [Region.wanted, hgd]
  rw [if_pos hw]
  unfold Oper.wp execOp
  have hr : ∀ w, (Deferred.ofValue (a.eval (Operand.func f)) xv.toArray).run P w = .ok ⟨.fn (.func f) #[], xv.toArray⟩ w := fun w => by
    simp [go_sem, Deferred.ofValue, Act.eval]
  simp only [ho, resolve, invoke, Sem.run_bind, List.map_toArray, hx, hr, Result.andThen_ok, run_enter hf hname hb, Array.append_empty]
  rw [Oper.upon_enter]
  refine h.mono fun e w' hRe => ?_
  obtain ⟨v, rfl, hv⟩ := hR e w' hRe
  exact hv
end
end Go.Proofs.Ythpffpgbmgnkcaa
