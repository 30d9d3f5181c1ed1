/- slices' insertionSort, at numbers. -/
import Derived.Test.YtlfepdecgfcifaaGreatDoorM13
import Derived.BigQuiet
import Derived.Deep.RegionLaw
import Derived.Deep.RegionHeld3
import Derived.Deep.RegionHeldLaw
namespace Go.Proofs.YtlfepdecgfcifaaGreatDoor
open Go.RowKit
set_option linter.unusedVariables false      -- bounds that are for the walk
set_option linter.unusedSectionVars false
variable [OX : OrdX]

section
variable {P : Program}
theorem run_enterF {f : FuncId} {fn : Func} {c : Code} (hf : P.funcs[f]? = some fn) (hname : (fn.name == "runtime.NumGoroutine") = false) (hb : fn.body = some c) (args : Array Value) (w : World) :
    (callFunc f args).run P w = .ok (.enter f args) w := by
  have h1 : fn.name ≠ "runtime.NumGoroutine" := by simpa using hname
  simp [callFunc, Sem.run_bind, hf, h1, hb]
/-- a call of a function that is kept, perhaps guarded, at a step of a region that draws its order -/
theorem step_callFc (w : World) {ops : Array Oper} {o : Oper} {a : Act} {K : Act → World → Prop} {Q : Exit → Act → World → Prop} {E : Prop} (hw : Region.wanted o (yielded ops a.tmps) = true) (k : Operand) (xs : List Operand) (ts : Array TypeId)
    (ho : o.op = .call { callee := .value k, args := xs.toArray, argTypes := ts }) (f : FuncId) (caps : Array Value) (hk : a.eval k = .func (.func f) #[] caps) {fn : Func} {c : Code} (hf : P.funcs[f]? = some fn) (hname : (fn.name == "runtime.NumGoroutine") = false) (hb : fn.body = some c)
    (xv : List Value) (hx : xs.map a.eval = xv) (v : Value) {B : Nat} (h : Calls P f (xv.toArray ++ caps) w fun e w' => e = .returned v ∧ Below B w w')
    (hK : ∀ w', Below B w w' → K (a.put o.dst v) w') :
    if Region.wanted o (yielded ops a.tmps) = true then Oper.wp P o a w K Q else E := by
  rw [if_pos hw]
  unfold Oper.wp execOp
  have hr : ∀ w, (Deferred.ofValue (a.eval k) xv.toArray).run P w = .ok ⟨.fn (.func f) caps, xv.toArray⟩ w := fun w => by
    rw [hk]
    simp [go_sem, Deferred.ofValue]
  simp only [ho, resolve, invoke, Sem.run_bind, List.map_toArray, hx, hr, Result.andThen_ok, run_enterF hf hname hb]
  rw [Oper.upon_enter]
  refine h.mono fun e w' hRe => ?_
  obtain ⟨rfl, hb⟩ := hRe
  exact hK w' hb
end
/-- by spans -/
def keyD [OX : OrdX] (D : Nat → Int) (i : Nat) : Int := OX.key (D i)

set_option maxHeartbeats 4000000 in
set_option maxRecDepth 100000 in
theorem insertion_any {w : World} {g n cap : Nat} {D : Nat → Int} {t : Tg} (h : SoAt w w g n D t) (hn : n ≤ 100000) {a b : Nat} (h1 : a ≤ b) (h2 : b ≤ n) (hasc : ∀ p q, a ≤ p → p < q → q < b → t p < t q) :
    Calls Tryz.prog 88 #[.slice (some ⟨g, 0, none⟩) n cap, .int .i64 (a : Int), .int .i64 (b : Int), ordF] w fun e w' => e = .returned (.tuple #[]) ∧ ∃ t', SoAt w w' g n D t' ∧ Srt (keyD D) t' a b ∧ Prm a b t t' := by
  have H0 := hidF h
  have HA := hidF hasc
  have DM := hidF h.dm
  have NF := hidF (fun (x y : Int) (x0 : 0 ≤ x) (x1 : x ≤ 1000000) (y0 : 0 ≤ y) (y1 : y ≤ 1000000) (W : World) (hm : MapK W) => ordF_any x0 x1 y0 y1 hm)
  have HK : Hid (∀ i, keyD D i = OX.key (D i)) := fun _ => rfl
  have W1 : IntKind.i64.wrap ((a : Int) + 1) = ((a + 1 : Nat) : Int) := by rw [wrapT (by omega) (by omega)]; omega
  obtain ⟨a', ha'⟩ : ∃ x, a + 1 = x := ⟨_, rfl⟩
  rw [ha'] at W1
  clear h hasc
  unfold ordF
  go_enter Tryz.func88, Tryz.ntmps88
  go_wp2_with fail
  go_loopw [8] (fun iv wr => ∃ (i : Nat) (s : Tg), a' ≤ i ∧ iv = .int .i64 i ∧ (i ≤ b ∨ i = a') ∧ Hid (SoAt w wr g n D s ∧ Srt (keyD D) s a i ∧ Prm a i t s ∧ (i = a' → s = t))) (fun iv _ => b + 1 - (intOf iv).toNat)
  case atStart => exact ⟨a', t, Nat.le_refl _, rfl, .inr rfl, H0.out, (fun p q e1 e2 e3 => by omega), Prm.refl _ _ _, fun _ => rfl⟩
  case round =>
    obtain ⟨i, s, i1, rfl, i2, HZ⟩ := hrel
    by_cases hlt : i < b
    · have hlt' : (i : Int) < (b : Int) := by omega
      have HI : Hid (Ins (keyD D) t s a i i) := Ins.start HZ.out.2.1 HZ.out.2.2.1 (by omega) (fun p q e1 e2 e3 => HA.out p q e1 e2 (by omega))
      have HS := hidF HZ.out.1
      clear HZ i2
      go_wp2_with fail
      go_loopw [9] (fun jv wr => ∃ (j : Nat) (s : Tg), jv = .int .i64 j ∧ a ≤ j ∧ j ≤ i ∧ Hid (SoAt w wr g n D s ∧ Ins (keyD D) t s a i j)) (fun jv _ => (intOf jv).toNat)
      case atStart => exact ⟨i, s, rfl, by omega, Nat.le_refl _, HS.out, HI.out⟩
      case round =>
        obtain ⟨j, s, rfl, j1, j2, HZ⟩ := hrel
        by_cases hj : a < j
        · have hj' : (a : Int) < (j : Int) := by omega
          obtain ⟨q, hq⟩ : ∃ q, j - 1 = q := ⟨_, rfl⟩
          have W2 : IntKind.i64.wrap ((j : Int) - 1) = (q : Int) := by rw [wrapT (by omega) (by omega)]; omega
          have gl := HZ.out.1.row.lt
          have a1 := HZ.out.1.row.at (k := j) (by omega)
          have b1 := HZ.out.1.row.at (k := q) (by omega)
          have HN := hidF (fun (wx : World) (hx : SoAt w wx g n D s) => hx.swap (x := j) (y := q) (by omega) (by omega))
          have HST : Hid (keyD D (s j) < keyD D (s q) → Ins (keyD D) t (swapT s j q) a i q) := fun e => by
            rw [← hq] at e ⊢
            exact HZ.out.2.step hj e
          have HDN : Hid (¬ keyD D (s j) < keyD D (s q) → Srt (keyD D) s a (i + 1)) := fun e => by
            rw [← hq] at e
            exact HZ.out.2.done (.inr e)
          rw [HK.out, HK.out] at HST HDN
          obtain ⟨ds, hd⟩ : ∃ d, D (s j) = d := ⟨_, rfl⟩
          obtain ⟨es, he⟩ : ∃ d, D (s q) = d := ⟨_, rfl⟩
          rw [hd] at a1 HN HST HDN
          rw [he] at b1 HN HST HDN
          have NC := hidF (NF.out ds es (by rw [← hd]; exact (DM.out _).1) (by rw [← hd]; exact (DM.out _).2) (by rw [← he]; exact (DM.out _).1) (by rw [← he]; exact (DM.out _).2))
          have HDE := hidF (And.intro hd he)
          have k1 : (0 : Int) ≤ (j : Int) := by omega
          have k2 : (j : Int) < (n : Int) := by omega
          have k3 : (0 : Int) ≤ (q : Int) := by omega
          have k4 : (q : Int) < (n : Int) := by omega
          have n1 : ¬ q = j := by omega
          have n2 : ¬ j = q := by omega
          have q1 : a ≤ q := by omega
          have q2 : q ≤ i := by omega
          have HQ := hidF hq
          obtain ⟨cv, hcv⟩ : ∃ c, cmpN (OX.key ds) (OX.key es) = c := ⟨_, rfl⟩
          rw [hcv] at NC
          obtain ⟨w5, hw5⟩ : ∃ w5, w5 = wr := ⟨_, rfl⟩
          subst hw5
          by_cases hc : OX.key ds < OX.key es
          · have hc' : cv < 0 := by rw [← hcv]; exact cmpN_neg.2 hc
            have HS2 := hidF (HST.out hc)
            clear hd he hq hcv hc HST HDN
            go_upto_region 4 with fail
            go_cut [34] (fun v wx => v = .bool true ∧ Hid (SoAt w wx g n D s))
            case first =>
              go_region_held3 (fun wx => wx.cell? ⟨g, j, none⟩ = some (.int .i64 ds) ∧ wx.cell? ⟨g, q, none⟩ = some (.int .i64 es)) (go_keep)
                ((refine step_callFc _ (by kernel_rfl) (.tmp 22) [.tmp 26, .tmp 31] #[3, 3] (by rfl) 34 #[.pointer (some ⟨OX.mb, 0, none⟩)] (by simp [Act.eval]) Tryz.func34 (by kernel_rfl) rfl [.int .i64 ds, .int .i64 es] (by simp [Act.eval]) (.int .i64 cv) (NC.out _ (HZ.out.1.held (W := w5.drew) (Below.refl _ _).drew).mp) ?_; intro w7 hb7; have HX := hidF ((HZ.out.1.held (W := w5.drew) (Below.refl _ _).drew).held hb7); have m1 := HX.out.row.at (k := j) (by omega); have m4 := HX.out.row.at (k := q) (by omega); rw [HDE.out.1] at m1; rw [HDE.out.2] at m4; clear hb7))
              all_goals
                go_wp2_with fail
                go_meet
                case rel => go_light; exact ⟨rfl, HX.out⟩
            case rest =>
            obtain ⟨rfl, HX⟩ := hcut
            have HD := HDE.out
            have gl2 := HX.out.row.lt
            have a1' := HX.out.row.at (k := j) (by omega)
            have b1' := HX.out.row.at (k := q) (by omega)
            rw [HD.1] at a1'
            rw [HD.2] at b1'
            have f1 := HX.out.row.frz j
            have f4 := HX.out.row.frz q
            have HN2 := hidF (HN.out wc HX.out)
            obtain ⟨w6, hw6⟩ : ∃ w6, w6 = wc := ⟨_, rfl⟩
            subst hw6
            clear HD a1 b1 NC HN gl
            go_upto_region 6 with fail
            go_region
            all_goals
              go_wp2_with fail
              go_roundw
              case rel => go_light; exact ⟨q, _, rfl, by omega, by omega, HN2.out.held (Below.refl _ _).drew, HS2.out⟩
              case measure => simp [intOf]; have := HQ.out; omega
          · have hc' : ¬ cv < 0 := by rw [← hcv]; exact fun e => hc (cmpN_neg.1 e)
            have HS2 := hidF (HDN.out hc)
            clear hd he hq hcv hc HST HDN
            go_upto_region 4 with fail
            go_cut [34] (fun v wx => v = .bool false ∧ Hid (SoAt w wx g n D s))
            case first =>
              go_region_held3 (fun wx => wx.cell? ⟨g, j, none⟩ = some (.int .i64 ds) ∧ wx.cell? ⟨g, q, none⟩ = some (.int .i64 es)) (go_keep)
                ((refine step_callFc _ (by kernel_rfl) (.tmp 22) [.tmp 26, .tmp 31] #[3, 3] (by rfl) 34 #[.pointer (some ⟨OX.mb, 0, none⟩)] (by simp [Act.eval]) Tryz.func34 (by kernel_rfl) rfl [.int .i64 ds, .int .i64 es] (by simp [Act.eval]) (.int .i64 cv) (NC.out _ (HZ.out.1.held (W := w5.drew) (Below.refl _ _).drew).mp) ?_; intro w7 hb7; have HX := hidF ((HZ.out.1.held (W := w5.drew) (Below.refl _ _).drew).held hb7); have m1 := HX.out.row.at (k := j) (by omega); have m4 := HX.out.row.at (k := q) (by omega); rw [HDE.out.1] at m1; rw [HDE.out.2] at m4; clear hb7))
              all_goals
                go_wp2_with fail
                go_meet
                case rel => go_light; exact ⟨rfl, HX.out⟩
            case rest =>
            obtain ⟨rfl, HX⟩ := hcut
            go_wp2_with fail
            go_roundw
            case rel => go_light; exact ⟨i + 1, s, by omega, by go_num, .inl (by omega), HX.out, HS2.out, HZ.out.2.prm, fun e => by omega⟩
            case measure => simp [intOf]; omega
        · obtain rfl : a = j := by omega
          have hd : decide ((a : Int) < (a : Int)) = false := decide_eq_false (by omega)
          have HS2 := hidF (HZ.out.2.done (.inl rfl))
          go_wp2_with fail
          go_quiet (fail)
          go_wp2_with fail
          go_roundw
          case rel => go_light; exact ⟨i + 1, s, by omega, by go_num, .inl (by omega), HZ.out.1.held ⟨rfl, rfl, rfl, Nat.le_refl _, fun _ _ => rfl⟩, HS2.out, HZ.out.2.prm, fun e => by omega⟩
          case measure => simp [intOf]; omega
    · have hlt' : ¬ (i : Int) < (b : Int) := by omega
      have HFIN : Hid (Srt (keyD D) s a b ∧ Prm a b t s) := by
        rcases i2 with e | e
        · obtain rfl : i = b := by omega
          exact ⟨HZ.out.2.1, HZ.out.2.2.1⟩
        · have es := HZ.out.2.2.2 e
          subst es
          exact ⟨fun p q e1 e2 e3 => by omega, Prm.refl _ _ _⟩
      go_wp2_with fail
      go_returns
      exact ⟨rfl, s, HZ.out.1, HFIN.out.1, HFIN.out.2⟩
end Go.Proofs.YtlfepdecgfcifaaGreatDoor

/- slices' symMerge, at numbers: the first block of one element. -/
namespace Go.Proofs.YtlfepdecgfcifaaGreatDoor
open Go.RowKit
set_option linter.unusedVariables false      -- bounds that are for the walk
set_option linter.unusedSectionVars false
variable [OX : OrdX]

/-- half of a sum, as the program reckons it -/
theorem half_sum {x : Nat} (h : x ≤ 1000000) : IntKind.u64.wrap (x : Int) = (x : Int) := by rw [IntKind.wrap_u64]; omega

set_option maxHeartbeats 4000000 in
set_option maxRecDepth 100000 in
theorem sym_one {w : World} {g n cap : Nat} {D : Nat → Int} {t : Tg} (h : SoAt w w g n D t) (hn : n ≤ 100000) {a b : Nat} (hs : Sym (keyD D) t a (a + 1) b) (h2 : b ≤ n) :
    Calls Tryz.prog 89 #[.slice (some ⟨g, 0, none⟩) n cap, .int .i64 (a : Int), .int .i64 ((a + 1 : Nat) : Int), .int .i64 (b : Int), ordF] w fun e w' => e = .returned (.tuple #[]) ∧ ∃ t', SoAt w w' g n D t' ∧ Srt (keyD D) t' a b ∧ Prm a b t t' := by
  have H0 := hidF h
  have HS := hidF hs
  have DM := hidF h.dm
  have NF := hidF (fun (x y : Int) (x0 : 0 ≤ x) (x1 : x ≤ 1000000) (y0 : 0 ≤ y) (y1 : y ≤ 1000000) (W : World) (hm : MapK W) => ordF_any x0 x1 y0 y1 hm)
  have hmb := hs.mb
  obtain ⟨m, hm⟩ : ∃ m, a + 1 = m := ⟨_, rfl⟩
  have HM := hidF hm
  rw [hm] at hmb HS ⊢
  have W1 : IntKind.i64.wrap ((m : Int) - (a : Int)) = 1 := by rw [wrapT (by omega) (by omega)]; omega
  clear h hs
  unfold ordF
  go_enter Tryz.func89, Tryz.ntmps89
  go_wp2_with fail
  go_loopw [10, 11] (fun iv jv wr => ∃ (i j : Nat), m ≤ i ∧ i ≤ j ∧ j ≤ b ∧ iv = .int .i64 i ∧ jv = .int .i64 j ∧ Hid (SoAt w wr g n D t ∧ (∀ q, a < q → q < i → keyD D (t q) < keyD D (t a)) ∧ (∀ q, j ≤ q → q < b → ¬ keyD D (t q) < keyD D (t a)))) (fun iv jv _ => (intOf jv).toNat - (intOf iv).toNat)
  case atStart => exact ⟨m, b, Nat.le_refl _, by omega, Nat.le_refl _, rfl, rfl, H0.out, (fun q e1 e2 => by omega), (fun q e1 e2 => by omega)⟩
  case round =>
    obtain ⟨i, j, i1, i2, i3, rfl, rfl, HZ⟩ := hrel
    by_cases hlt : i < j
    · have hlt' : (i : Int) < (j : Int) := by omega
      obtain ⟨x, hx⟩ : ∃ x, (i + j) / 2 = x := ⟨_, rfl⟩
      have W2 : IntKind.i64.wrap ((i : Int) + (j : Int)) = ((i + j : Nat) : Int) := by rw [wrapT (by omega) (by omega)]; omega
      have W3 : IntKind.u64.wrap ((i + j : Nat) : Int) = ((i + j : Nat) : Int) := half_sum (by omega)
      have x1 : i ≤ x := by omega
      have x2 : x < j := by omega
      have W4 : ((i : Int) + (j : Int)) / 2 = (x : Int) := by omega
      have W5 : IntKind.u64.wrap (x : Int) = (x : Int) := half_sum (by omega)
      have W6 : IntKind.i64.wrap (x : Int) = (x : Int) := wrapT (by omega) (by omega)
      have k1 : (0 : Int) ≤ (x : Int) := by omega
      have k2 : (x : Int) < (n : Int) := by omega
      have k3 : (0 : Int) ≤ (a : Int) := by omega
      have k4 : (a : Int) < (n : Int) := by omega
      have gl := HZ.out.1.row.lt
      have a1 := HZ.out.1.row.at (k := x) (by omega)
      have b1 := HZ.out.1.row.at (k := a) (by omega)
      have HKE : Hid (keyD D (t x) = OX.key (D (t x)) ∧ keyD D (t a) = OX.key (D (t a))) := ⟨rfl, rfl⟩
      obtain ⟨ds, hd⟩ : ∃ d, D (t x) = d := ⟨_, rfl⟩
      obtain ⟨es, he⟩ : ∃ d, D (t a) = d := ⟨_, rfl⟩
      rw [hd] at a1 HKE
      rw [he] at b1 HKE
      have NC := hidF (NF.out ds es (by rw [← hd]; exact (DM.out _).1) (by rw [← hd]; exact (DM.out _).2) (by rw [← he]; exact (DM.out _).1) (by rw [← he]; exact (DM.out _).2))
      have HDE := hidF (And.intro hd he)
      obtain ⟨cv, hcv⟩ : ∃ c, cmpN (OX.key ds) (OX.key es) = c := ⟨_, rfl⟩
      rw [hcv] at NC
      obtain ⟨w5, hw5⟩ : ∃ w5, w5 = wr := ⟨_, rfl⟩
      subst hw5
      by_cases hc : OX.key ds < OX.key es
      · have hc' : cv < 0 := by rw [← hcv]; exact cmpN_neg.2 hc
        have HLT : Hid (keyD D (t x) < keyD D (t a)) := by show _ < _; rw [HKE.out.1, HKE.out.2]; exact hc
        clear hd he hcv hc
        go_upto_region 5 with fail
        go_cut [50] (fun v wx => v = .bool true ∧ Hid (SoAt w wx g n D t))
        case first =>
          go_region_held3 (fun wx => wx.cell? ⟨g, x, none⟩ = some (.int .i64 ds) ∧ wx.cell? ⟨g, a, none⟩ = some (.int .i64 es)) (go_keep)
            ((refine step_callFc _ (by kernel_rfl) (.tmp 40) [.tmp 44, .tmp 48] #[3, 3] (by rfl) 34 #[.pointer (some ⟨OX.mb, 0, none⟩)] (by simp [Act.eval]) Tryz.func34 (by kernel_rfl) rfl [.int .i64 ds, .int .i64 es] (by simp [Act.eval]) (.int .i64 cv) (NC.out _ (HZ.out.1.held (W := w5.drew) (Below.refl _ _).drew).mp) ?_; intro w7 hb7; have HX := hidF ((HZ.out.1.held (W := w5.drew) (Below.refl _ _).drew).held hb7); have m1 := HX.out.row.at (k := x) (by omega); have m4 := HX.out.row.at (k := a) (by omega); rw [HDE.out.1] at m1; rw [HDE.out.2] at m4; clear hb7))
          all_goals
            go_wp2_with fail
            go_meet
            case rel => go_light; exact ⟨by first | rfl | simp [hc'], HX.out⟩
        case rest =>
        obtain ⟨rfl, HX⟩ := hcut
        clear a1 b1 NC gl
        go_wp2_with fail
        go_roundw
        case rel =>
          go_light
          refine ⟨x + 1, j, by omega, by omega, i3, by go_num, rfl, HX.out, fun q e1 e2 => ?_, HZ.out.2.2⟩
          have := HS.out.s2.le (i := q) (j := x) (by omega) (by omega) (by omega)
          have := HLT.out
          omega
        case measure => simp [intOf]; omega
      · have hc' : ¬ cv < 0 := by rw [← hcv]; exact fun e => hc (cmpN_neg.1 e)
        have HLT : Hid (¬ keyD D (t x) < keyD D (t a)) := by show ¬ _ < _; rw [HKE.out.1, HKE.out.2]; exact hc
        clear hd he hcv hc
        go_upto_region 5 with fail
        go_cut [50] (fun v wx => v = .bool false ∧ Hid (SoAt w wx g n D t))
        case first =>
          go_region_held3 (fun wx => wx.cell? ⟨g, x, none⟩ = some (.int .i64 ds) ∧ wx.cell? ⟨g, a, none⟩ = some (.int .i64 es)) (go_keep)
            ((refine step_callFc _ (by kernel_rfl) (.tmp 40) [.tmp 44, .tmp 48] #[3, 3] (by rfl) 34 #[.pointer (some ⟨OX.mb, 0, none⟩)] (by simp [Act.eval]) Tryz.func34 (by kernel_rfl) rfl [.int .i64 ds, .int .i64 es] (by simp [Act.eval]) (.int .i64 cv) (NC.out _ (HZ.out.1.held (W := w5.drew) (Below.refl _ _).drew).mp) ?_; intro w7 hb7; have HX := hidF ((HZ.out.1.held (W := w5.drew) (Below.refl _ _).drew).held hb7); have m1 := HX.out.row.at (k := x) (by omega); have m4 := HX.out.row.at (k := a) (by omega); rw [HDE.out.1] at m1; rw [HDE.out.2] at m4; clear hb7))
          all_goals
            go_wp2_with fail
            go_meet
            case rel => go_light; exact ⟨by first | rfl | simp [hc'], HX.out⟩
        case rest =>
        obtain ⟨rfl, HX⟩ := hcut
        clear a1 b1 NC gl
        go_wp2_with fail
        go_roundw
        case rel =>
          go_light
          refine ⟨i, x, i1, x1, by omega, rfl, rfl, HX.out, HZ.out.2.1, fun q e1 e2 => ?_⟩
          have := HS.out.s2.le (i := x) (j := q) (by omega) e1 e2
          have := HLT.out
          omega
        case measure => simp [intOf]; omega
    · obtain rfl : i = j := by omega
      have hlt' : ¬ (i : Int) < (i : Int) := by omega
      have HFIN : Hid (Srt (keyD D) (shL t a i) a b ∧ Prm a b t (shL t a i)) := merge_one (by rw [HM.out]; exact HS.out.s2) (fun q e1 e2 => HS.out.tag a q (Nat.le_refl _) (by omega) (by omega) e2) (by omega) i3 HZ.out.2.1 HZ.out.2.2
      have HST := hidF HZ.out.1
      have W9 : IntKind.i64.wrap ((i : Int) - 1) = ((i - 1 : Nat) : Int) := by rw [wrapT (by omega) (by omega)]; omega
      obtain ⟨e, he⟩ : ∃ e, i - 1 = e := ⟨_, rfl⟩
      rw [he] at W9
      clear HZ
      go_wp2_with fail
      go_loopw [13] (fun kv wr => ∃ k : Nat, a ≤ k ∧ k ≤ e ∧ kv = .int .i64 k ∧ Hid (SoAt w wr g n D (shL t a (k + 1)))) (fun kv _ => e - (intOf kv).toNat)
      case atStart => exact ⟨a, Nat.le_refl _, by omega, rfl, by show SoAt _ _ _ _ _ _; rw [shL_start]; exact HST.out⟩
      case round =>
        obtain ⟨k, k1, k2, rfl, HY⟩ := hrel
        by_cases hke : k < e
        · have hke' : (k : Int) < (e : Int) := by omega
          obtain ⟨q, hq⟩ : ∃ q, k + 1 = q := ⟨_, rfl⟩
          have W8 : IntKind.i64.wrap ((k : Int) + 1) = (q : Int) := by rw [wrapT (by omega) (by omega)]; omega
          have HSH := hidF (shL_step t a k k1)
          rw [hq] at HSH HY
          have v1 : (0 : Int) ≤ (k : Int) := by omega
          have v2 : (k : Int) < (n : Int) := by omega
          have v3 : (0 : Int) ≤ (q : Int) := by omega
          have v4 : (q : Int) < (n : Int) := by omega
          have gl := HY.out.row.lt
          have a1 := HY.out.row.at (k := k) (by omega)
          have b1 := HY.out.row.at (k := q) (by omega)
          have HN := hidF (HY.out.swap (x := k) (y := q) (by omega) (by omega))
          obtain ⟨ds, hd⟩ : ∃ d, D (shL t a q k) = d := ⟨_, rfl⟩
          obtain ⟨es, he⟩ : ∃ d, D (shL t a q q) = d := ⟨_, rfl⟩
          rw [hd] at a1 HN
          rw [he] at b1 HN
          have f1 := HY.out.row.frz k
          have f4 := HY.out.row.frz q
          have n1 : ¬ q = k := by omega
          have n2 : ¬ k = q := by omega
          clear hd he
          obtain ⟨w5, hw5⟩ : ∃ w5, w5 = wr := ⟨_, rfl⟩
          subst hw5
          go_upto_region 11 with fail
          go_region
          all_goals
            go_wp2_with fail
            go_roundw
            case rel =>
              go_light
              refine ⟨q, by omega, by omega, by first | rfl | go_num, ?_⟩
              have := HN.out
              rw [HSH.out] at this
              exact this.held (Below.refl _ _).drew
            case measure => simp [intOf]; omega
        · obtain rfl : k = e := by omega
          have hke' : ¬ (k : Int) < (k : Int) := by omega
          have HE : Hid (k + 1 = i) := by show _ = _; omega
          rw [HE.out] at HY
          go_wp2_with fail
          go_returns
          exact ⟨rfl, _, HY.out, HFIN.out.1, HFIN.out.2⟩
end Go.Proofs.YtlfepdecgfcifaaGreatDoor
