/- For everything that lies at a place: FlowsFixed answers true and leaves its argument as it was. No conditions beyond the row's own. -/
import Derived.Test.YtpbnijmnplfgmaaRows
import Derived.Test.YtpbnijmnplfgmaaFXLaw
import Derived.Test.YtpbnijmnplfgmaaFOpenX
import Derived.WalkKit
import Derived.ProofKit
import Derived.OpenShut
import Derived.Carry
import Derived.ChangeOld
namespace Go.Proofs.Ytpbnijmnplfgmaa.flowsFixed
open Go.ChangeShapes Go.WideShapes Go.ChangeAt Go.RowKit

theorem own : ownKnob Try.prog.godebug = none := by kernel_rfl

set_option maxRecDepth 100000 in
theorem lifted (os : Os) (started : os.Started) (H : Type) (enc : TypeId × Value → H) :
    ReturnsInHanded {} Try.checked os 7 .any (Rows.flowsFixedSpec.pre6 enc Try.prog Try.f7 Rows.flowsFixedRow.domain false) (Rows.flowsFixedSpec.post enc Try.prog Try.f7 false true false false) := by
  refine returnsInHanded_of_change (C := Try.checked) own started (by kernel_rfl) Try.func7
    (ChangeSpec.witness6 (enc := enc) (C := Try.checked) false ⟨#[], #[.agg #[.int .i64 0, .int .i64 0, .int .i64 0, .int .i64 0, .int .i64 0, .int .i64 0, .int .i64 0, .int .i64 0, .int .i64 0, .int .i64 0, .int .i64 0, .bool false, .bool false, .bool false, .bool false, .bool false]], []⟩ 8 (by kernel_rfl) (by kernel_rfl) (by kernel_rfl) (by kernel_rfl)) ?_
  intro W base args ds gs before hval0 hW hcnd _
  have hval : ∀ (j : Nat) t v, Try.f7.params[j]? = some t → args[j]? = some v → Value.okWide Try.prog W .any base t v := hval0
  have hW' := hW
  obtain ⟨p, q, hA0, hV, rfl, hfz, hnd⟩ := hW
  have hA : DataW.TrodAll enc Try.prog W 0 (fun _ => true) true Try.f7.params.toList args.toList ds p := hA0
  have hplt := hA.lt
  rw [Try.params7] at hA hval
  obtain ⟨v0, vs0, d0, ds0, p0, q0, hargs, rfl, rfl, h0, r0⟩ := trodAll_cons hA
  obtain ⟨rfl, rfl, rfl⟩ := trodAll_nil r0
  obtain rfl : args = #[v0] := by cases args; simp_all
  obtain ⟨rfl, rfl⟩ := trodVars_none hV
  obtain ⟨cs, rfl, hsz⟩ := okWide_struct Try.underlying64 (hval 0 64 v0 rfl rfl)
  have h0' := h0
  obtain ⟨fuel, hf⟩ := h0
  obtain ⟨Rm, Fr, To, L, I, T, A, Fi, Mn, Mx, At, aF, aT, aL, aI, aR, hcs⟩ := open_fixed (show DataW.trod enc Try.prog W 0 (fun _ => true) true fuel 64 cs.toList = some _ from by simpa [Value.cells] using hf)
  obtain rfl : cs = #[.int .i64 Rm, .int .i64 Fr, .int .i64 To, .int .i64 L, .int .i64 I, .int .i64 T, .int .i64 A, .int .i64 Fi, .int .i64 Mn, .int .i64 Mx, .int .i64 At, .bool aF, .bool aT, .bool aL, .bool aI, .bool aR] := by
    cases cs; simp at hcs; rw [hcs]
  clear hA0 hval0
  refine (fixed_any Rm Fr To L I T A Fi Mn Mx At aF aT aL aI aR W).mono fun e W' ⟨he, bel⟩ => ?_
  subst he
  have hb0 := Below.trod (t := 64) (by kernel_rfl) (by kernel_rfl) (of_decide_eq_true (by kernel_rfl)) h0' bel (fun x hx => hplt x (by simp [hx]))
  exact ⟨_, rfl, _, _, _, [], _, [], hW', trodAll_mk1 (shut_bool Try.underlying4 _), trodAll_cons_mk hb0 trodAll_mk0, rfl, bel.frame _, fun h => by cases h⟩

theorem over : Rows.flowsFixedRow.holds Try.pinned (OpenSpec.ofChange Rows.flowsFixedSpec) :=
  OpenClaim.holds_of_wide 7 Try.f7 rfl rfl rfl rfl rfl rfl rfl ⟨rfl, rfl, rfl, rfl, rfl⟩ rfl rfl rfl rfl rfl (by kernel_rfl) Try.func7 (by kernel_rfl)
    (of_decide_eq_true (by kernel_rfl)) (by unfold Func.isWrapper; first | (rw [if_pos (by decide +kernel)]; kernel_rfl) | (rw [if_neg (by decide +kernel)]; exact ⟨rfl, rfl⟩))
    (fun os started H enc _ => lifted os started H enc)

/-- The statement. -/
theorem proved : Rows.FlowsFixedSaid :=
  over
#print axioms proved
end Go.Proofs.Ytpbnijmnplfgmaa.flowsFixed
