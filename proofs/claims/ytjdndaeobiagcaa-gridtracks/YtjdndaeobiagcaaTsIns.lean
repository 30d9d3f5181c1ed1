/- slices' insertionSort, at needs. -/
import Derived.Test.YtjdndaeobiagcaaTsSwap
import Derived.BigQuiet
import Derived.Deep.RegionLaw
import Derived.Deep.RegionHeld3
import Derived.Deep.RegionHeldLaw
namespace Go.Proofs.Ytjdndaeobiagcaa
open Go.RowKit
set_option linter.unusedVariables false      -- bounds that are for the walk

section
variable {P : Program}
theorem run_enterF {f : FuncId} {fn : Func} {c : Code} (hf : P.funcs[f]? = some fn) (hname : (fn.name == "runtime.NumGoroutine") = false) (hb : fn.body = some c) (args : Array Value) (w : World) :
    (callFunc f args).run P w = .ok (.enter f args) w := by
  have h1 : fn.name ≠ "runtime.NumGoroutine" := by simpa using hname
  simp [callFunc, Sem.run_bind, hf, h1, hb]
/-- a call of a function that is kept, perhaps guarded, at a step of a region that draws its order -/
theorem step_callF (w : World) {ops : Array Oper} {o : Oper} {a : Act} {K : Act → World → Prop} {Q : Exit → Act → World → Prop} {E : Prop} (hw : Region.wanted o (yielded ops a.tmps) = true) (k : Operand) (xs : List Operand) (ts : Array TypeId)
    (ho : o.op = .call { callee := .value k, args := xs.toArray, argTypes := ts }) (f : FuncId) (hk : a.eval k = .func (.func f) #[] #[]) {fn : Func} {c : Code} (hf : P.funcs[f]? = some fn) (hname : (fn.name == "runtime.NumGoroutine") = false) (hb : fn.body = some c)
    (xv : List Value) (hx : xs.map a.eval = xv) (v : Value) {B : Nat} (h : Calls P f xv.toArray w fun e w' => e = .returned v ∧ Below B w w')
    (hK : ∀ w', Below B w w' → K (a.put o.dst v) w') :
    if Region.wanted o (yielded ops a.tmps) = true then Oper.wp P o a w K Q else E := by
  rw [if_pos hw]
  unfold Oper.wp execOp
  have hr : ∀ w, (Deferred.ofValue (a.eval k) xv.toArray).run P w = .ok ⟨.fn (.func f) #[], xv.toArray⟩ w := fun w => by
    rw [hk]
    simp [go_sem, Deferred.ofValue]
  simp only [ho, resolve, invoke, Sem.run_bind, List.map_toArray, hx, hr, Result.andThen_ok, run_enterF hf hname hb, Array.append_empty]
  rw [Oper.upon_enter]
  refine h.mono fun e w' hRe => ?_
  obtain ⟨rfl, hb⟩ := hRe
  exact hK w' hb
end
/-- by spans -/
def keyD (D : Nat → Nd3) (i : Nat) : Int := (D i).s

set_option maxHeartbeats 4000000 in
set_option maxRecDepth 100000 in
theorem insertion_any {w : World} {g n cap : Nat} {D : Nat → Nd3} {t : Tg} (h : SoAt w w g n D t) (hn : n ≤ 100000) {a b : Nat} (h1 : a ≤ b) (h2 : b ≤ n) (hasc : ∀ p q, a ≤ p → p < q → q < b → t p < t q) :
    Calls Try.prog 92 #[.slice (some ⟨g, 0, none⟩) n cap, .int .i64 (a : Int), .int .i64 (b : Int), needF] w fun e w' => e = .returned (.tuple #[]) ∧ ∃ t', SoAt w w' g n D t' ∧ Srt (keyD D) t' a b ∧ Prm a b t t' := by
  have H0 := hidF h
  have HA := hidF hasc
  have NF := hidF (fun (x y : Nd3) (W : World) => needF_any x y W)
  have HK : Hid (∀ i, keyD D i = (D i).s) := fun _ => rfl
  have W1 : IntKind.i64.wrap ((a : Int) + 1) = ((a + 1 : Nat) : Int) := by rw [wrapT (by omega) (by omega)]; omega
  obtain ⟨a', ha'⟩ : ∃ x, a + 1 = x := ⟨_, rfl⟩
  rw [ha'] at W1
  clear h hasc
  unfold needF
  go_enter Try.func92, Try.ntmps92
  go_wp2_with fail
  go_loopw [8] (fun iv wr => ∃ (i : Nat) (s : Tg), a' ≤ i ∧ iv = .int .i64 i ∧ (i ≤ b ∨ i = a') ∧ Hid (SoAt w wr g n D s ∧ Srt (keyD D) s a i ∧ Prm a i t s ∧ (i = a' → s = t))) (fun iv _ => b + 1 - (intV iv).toNat)
  case atStart => exact ⟨a', t, Nat.le_refl _, rfl, .inr rfl, H0.out, (fun p q e1 e2 e3 => by omega), Prm.refl _ _ _, fun _ => rfl⟩
  case round =>
    obtain ⟨i, s, i1, rfl, i2, HZ⟩ := hrel
    by_cases hlt : i < b
    · have hlt' : (i : Int) < (b : Int) := by omega
      have HI : Hid (Ins (keyD D) t s a i i) := Ins.start HZ.out.2.1 HZ.out.2.2.1 (by omega) (fun p q e1 e2 e3 => HA.out p q e1 e2 (by omega))
      have HS := hidF HZ.out.1
      clear HZ i2
      go_wp2_with fail
      go_loopw [9] (fun jv wr => ∃ (j : Nat) (s : Tg), jv = .int .i64 j ∧ a ≤ j ∧ j ≤ i ∧ Hid (SoAt w wr g n D s ∧ Ins (keyD D) t s a i j)) (fun jv _ => (intV jv).toNat)
      case atStart => exact ⟨i, s, rfl, by omega, Nat.le_refl _, HS.out, HI.out⟩
      case round =>
        obtain ⟨j, s, rfl, j1, j2, HZ⟩ := hrel
        by_cases hj : a < j
        · have hj' : (a : Int) < (j : Int) := by omega
          obtain ⟨q, hq⟩ : ∃ q, j - 1 = q := ⟨_, rfl⟩
          have W2 : IntKind.i64.wrap ((j : Int) - 1) = (q : Int) := by rw [wrapT (by omega) (by omega)]; omega
          have gl := HZ.out.1.row.lt
          obtain ⟨a1, a2, a3⟩ := HZ.out.1.row.at (k := j) (by omega)
          obtain ⟨b1, b2, b3⟩ := HZ.out.1.row.at (k := q) (by omega)
          have HN := hidF (fun (wx : World) (hx : SoAt w wx g n D s) => hx.swap (x := j) (y := q) (by omega) (by omega))
          have HST : Hid (keyD D (s j) < keyD D (s q) → Ins (keyD D) t (swapT s j q) a i q) := fun e => by
            rw [← hq] at e ⊢
            exact HZ.out.2.step hj e
          have HDN : Hid (¬ keyD D (s j) < keyD D (s q) → Srt (keyD D) s a (i + 1)) := fun e => by
            rw [← hq] at e
            exact HZ.out.2.done (.inr e)
          rw [HK.out, HK.out] at HST HDN
          obtain ⟨⟨df, ds, dz⟩, hd⟩ : ∃ d, D (s j) = d := ⟨_, rfl⟩
          obtain ⟨⟨ef, es, ez⟩, he⟩ : ∃ d, D (s q) = d := ⟨_, rfl⟩
          rw [hd] at a1 a2 a3 HN HST HDN
          rw [he] at b1 b2 b3 HN HST HDN
          simp only at a1 a2 a3 b1 b2 b3 HN HST HDN
          have NC := hidF (NF.out ⟨df, ds, dz⟩ ⟨ef, es, ez⟩)
          unfold ndV at NC
          simp only at NC
          have HDE := hidF (And.intro hd he)
          have k1 : (0 : Int) ≤ (j : Int) := by omega
          have k2 : (j : Int) < (n : Int) := by omega
          have k3 : (0 : Int) ≤ (q : Int) := by omega
          have k4 : (q : Int) < (n : Int) := by omega
          have n1 : ¬ q = j := by omega
          have n2 : ¬ j = q := by omega
          have q1 : a ≤ q := by omega
          have q2 : q ≤ i := by omega
          have HQ := hidF hq
          obtain ⟨cv, hcv⟩ : ∃ c, cmpI ds es = c := ⟨_, rfl⟩
          rw [hcv] at NC
          obtain ⟨w5, hw5⟩ : ∃ w5, w5 = wr := ⟨_, rfl⟩
          subst hw5
          by_cases hc : ds < es
          · have hc' : cv < 0 := by rw [← hcv]; exact cmpI_neg.2 hc
            have HS2 := hidF (HST.out hc)
            clear hd he hq hcv hc HST HDN
            go_upto_region 4 with fail
            go_cut [34] (fun v wx => v = .bool true ∧ Hid (SoAt w wx g n D s))
            case first =>
              go_region_held3 (fun wx => wx.cell? ⟨g, j * 3, none⟩ = some (.int .i64 df) ∧ wx.cell? ⟨g, j * 3 + 1, none⟩ = some (.int .i64 ds) ∧ wx.cell? ⟨g, j * 3 + 2, none⟩ = some (.int .i64 dz) ∧ wx.cell? ⟨g, q * 3, none⟩ = some (.int .i64 ef) ∧ wx.cell? ⟨g, q * 3 + 1, none⟩ = some (.int .i64 es) ∧ wx.cell? ⟨g, q * 3 + 2, none⟩ = some (.int .i64 ez)) (go_keep)
                ((refine step_callF _ (by kernel_rfl) (.tmp 22) [.tmp 26, .tmp 31] #[60, 60] (by rfl) 78 (by simp [Act.eval]) Try.func78 (by kernel_rfl) rfl [.agg #[.int .i64 df, .int .i64 ds, .int .i64 dz], .agg #[.int .i64 ef, .int .i64 es, .int .i64 ez]] (by simp [Act.eval]) (.int .i64 cv) (NC.out _) ?_; intro w7 hb7; have HX := hidF ((HZ.out.1.held (W := w5.drew) (Below.refl _ _).drew).held hb7); obtain ⟨m1, m2, m3⟩ := HX.out.row.at (k := j) (by omega); obtain ⟨m4, m5, m6⟩ := HX.out.row.at (k := q) (by omega); rw [HDE.out.1] at m1 m2 m3; rw [HDE.out.2] at m4 m5 m6; clear hb7))
              all_goals
                go_wp2_with fail
                go_meet
                case rel => go_light; exact ⟨rfl, HX.out⟩
            case rest =>
            obtain ⟨rfl, HX⟩ := hcut
            have HD := HDE.out
            have gl2 := HX.out.row.lt
            obtain ⟨a1', a2', a3'⟩ := HX.out.row.at (k := j) (by omega)
            obtain ⟨b1', b2', b3'⟩ := HX.out.row.at (k := q) (by omega)
            rw [HD.1] at a1' a2' a3'
            rw [HD.2] at b1' b2' b3'
            simp only at a1' a2' a3' b1' b2' b3'
            have f1 := HX.out.row.frz (j * 3)
            have f2 := HX.out.row.frz (j * 3 + 1)
            have f3 := HX.out.row.frz (j * 3 + 2)
            have f4 := HX.out.row.frz (q * 3)
            have f5 := HX.out.row.frz (q * 3 + 1)
            have f6 := HX.out.row.frz (q * 3 + 2)
            have HN2 := hidF (HN.out wc HX.out)
            obtain ⟨w6, hw6⟩ : ∃ w6, w6 = wc := ⟨_, rfl⟩
            subst hw6
            clear HD a1 a2 a3 b1 b2 b3 NC HN gl
            go_upto_region 6 with fail
            go_region
            all_goals
              go_wp2_with fail
              go_roundw
              case rel => go_light; exact ⟨q, _, rfl, by omega, by omega, HN2.out.held (Below.refl _ _).drew, HS2.out⟩
              case measure => simp [intV]; have := HQ.out; omega
          · have hc' : ¬ cv < 0 := by rw [← hcv]; exact fun e => hc (cmpI_neg.1 e)
            have HS2 := hidF (HDN.out hc)
            clear hd he hq hcv hc HST HDN
            go_upto_region 4 with fail
            go_cut [34] (fun v wx => v = .bool false ∧ Hid (SoAt w wx g n D s))
            case first =>
              go_region_held3 (fun wx => wx.cell? ⟨g, j * 3, none⟩ = some (.int .i64 df) ∧ wx.cell? ⟨g, j * 3 + 1, none⟩ = some (.int .i64 ds) ∧ wx.cell? ⟨g, j * 3 + 2, none⟩ = some (.int .i64 dz) ∧ wx.cell? ⟨g, q * 3, none⟩ = some (.int .i64 ef) ∧ wx.cell? ⟨g, q * 3 + 1, none⟩ = some (.int .i64 es) ∧ wx.cell? ⟨g, q * 3 + 2, none⟩ = some (.int .i64 ez)) (go_keep)
                ((refine step_callF _ (by kernel_rfl) (.tmp 22) [.tmp 26, .tmp 31] #[60, 60] (by rfl) 78 (by simp [Act.eval]) Try.func78 (by kernel_rfl) rfl [.agg #[.int .i64 df, .int .i64 ds, .int .i64 dz], .agg #[.int .i64 ef, .int .i64 es, .int .i64 ez]] (by simp [Act.eval]) (.int .i64 cv) (NC.out _) ?_; intro w7 hb7; have HX := hidF ((HZ.out.1.held (W := w5.drew) (Below.refl _ _).drew).held hb7); obtain ⟨m1, m2, m3⟩ := HX.out.row.at (k := j) (by omega); obtain ⟨m4, m5, m6⟩ := HX.out.row.at (k := q) (by omega); rw [HDE.out.1] at m1 m2 m3; rw [HDE.out.2] at m4 m5 m6; clear hb7))
              all_goals
                go_wp2_with fail
                go_meet
                case rel => go_light; exact ⟨rfl, HX.out⟩
            case rest =>
            obtain ⟨rfl, HX⟩ := hcut
            go_wp2_with fail
            go_roundw
            case rel => go_light; exact ⟨i + 1, s, by omega, by go_num, .inl (by omega), HX.out, HS2.out, HZ.out.2.prm, fun e => by omega⟩
            case measure => simp [intV]; omega
        · obtain rfl : a = j := by omega
          have hd : decide ((a : Int) < (a : Int)) = false := decide_eq_false (by omega)
          have HS2 := hidF (HZ.out.2.done (.inl rfl))
          go_wp2_with fail
          go_quiet (fail)
          go_wp2_with fail
          go_roundw
          case rel => go_light; exact ⟨i + 1, s, by omega, by go_num, .inl (by omega), HZ.out.1.held ⟨rfl, rfl, rfl, Nat.le_refl _, fun _ _ => rfl⟩, HS2.out, HZ.out.2.prm, fun e => by omega⟩
          case measure => simp [intV]; omega
    · have hlt' : ¬ (i : Int) < (b : Int) := by omega
      have HFIN : Hid (Srt (keyD D) s a b ∧ Prm a b t s) := by
        rcases i2 with e | e
        · obtain rfl : i = b := by omega
          exact ⟨HZ.out.2.1, HZ.out.2.2.1⟩
        · have es := HZ.out.2.2.2 e
          subst es
          exact ⟨fun p q e1 e2 e3 => by omega, Prm.refl _ _ _⟩
      go_wp2_with fail
      go_returns
      exact ⟨rfl, s, HZ.out.1, HFIN.out.1, HFIN.out.2⟩
end Go.Proofs.Ytjdndaeobiagcaa
