/- For every text: InkBreaks answers true and leaves its argument as it was. No conditions beyond the row's own. -/
import Derived.Test.YtpembplhhgimeaaRows
import Derived.Test.YtpembplhhgimeaaBreaks
import Derived.WalkKit
import Derived.ProofKit
import Derived.OpenShut
import Derived.ShutString
namespace Go.Proofs.Ytpembplhhgimeaa.inkBreaks
open Go.ChangeShapes Go.WideShapes Go.ChangeAt Go.RowKit
open Go.ChangeMaps (open_string shut_string)
set_option linter.unusedVariables false      -- a walk need not use every 'w<i>' (that an integer argument fits its kind)

theorem own : ownKnob Try.prog.godebug = none := by kernel_rfl

set_option maxHeartbeats 2000000 in
set_option maxRecDepth 100000 in
theorem same_any (l : List Nat) (v u : Value) (B B2 : Nat) (w : World) (hv : w.ownsRow B 3 1 v l.length (l.map natV)) (hu : w.ownsRow B2 3 1 u l.length (l.map natV)) (hl : l.length ≤ 3000) :
    Calls Try.prog 12 #[v, u] w fun e w' => e = .returned (.bool true) ∧ ∃ n, w' = w.drewN n := by
  rcases row_open hv with ⟨rfl, h0⟩ | ⟨g, cap, rfl, hBg, hg, hcap, hcv⟩
  · clear hv
    rcases row_open hu with ⟨rfl, _⟩ | ⟨g2, cap2, rfl, hBg2, hg2, hcap2, hcu⟩
    · clear hu
      go_enter Try.func12, Try.ntmps12
      go_wp2
      go_loop [5] (fun i => i = .int .i64 0) (fun _ => 0)
      case atStart => rfl
      case round =>
        subst hrel
        go_wp2
        go_ret
        exact ⟨rfl, 0, rfl⟩
    · clear hu hcu
      have e0 : (l.length : Int) = 0 := by omega
      rw [h0]
      clear hcap2 h0 hl e0
      go_enter Try.func12, Try.ntmps12
      go_wp2
      go_loop [5] (fun i => i = .int .i64 0) (fun _ => 0)
      case atStart => rfl
      case round =>
        subst hrel
        go_wp2
        go_ret
        exact ⟨rfl, 0, rfl⟩
  · clear hv
    rcases row_open hu with ⟨rfl, h0⟩ | ⟨g2, cap2, rfl, hBg2, hg2, hcap2, hcu⟩
    · clear hu hcv
      rw [h0]
      clear hcap h0 hl
      go_enter Try.func12, Try.ntmps12
      go_wp2
      go_loop [5] (fun i => i = .int .i64 0) (fun _ => 0)
      case atStart => rfl
      case round =>
        subst hrel
        go_wp2
        go_ret
        exact ⟨rfl, 0, rfl⟩
    · clear hu
      have hc1 : ∀ k (h : k < l.length), w.cell? ⟨g, k, none⟩ = some (.int .i64 (l[k] : Int)) := fun k h => hcv k _ (by simp [natV, List.getElem?_eq_getElem h])
      have hc2 : ∀ k (h : k < l.length), w.cell? ⟨g2, k, none⟩ = some (.int .i64 (l[k] : Int)) := fun k h => hcu k _ (by simp [natV, List.getElem?_eq_getElem h])
      clear hcv hcu
      go_enter Try.func12, Try.ntmps12
      go_wp2
      go_loopw [5] (fun i wr => ∃ k : Nat, k ≤ l.length ∧ i = .int .i64 k ∧ Hid (∃ nq, wr = w.drewN nq)) (fun i _ => l.length - (intOf i).toNat)
      case atStart => exact ⟨0, Nat.zero_le _, rfl, ⟨0, rfl⟩⟩
      case round =>
        obtain ⟨k, hk, rfl, hW⟩ := hrel
        by_cases hlt : k < l.length
        · have ca : wr.cell? ⟨g, k, none⟩ = some (.int .i64 (l[k] : Int)) := by obtain ⟨q, rfl⟩ := hW.out; exact hc1 k hlt
          have cb : wr.cell? ⟨g2, k, none⟩ = some (.int .i64 (l[k] : Int)) := by obtain ⟨q, rfl⟩ := hW.out; exact hc2 k hlt
          generalize l[k] = x at ca cb
          clear hc1 hc2
          go_wp2
          go_quiet (fail)
          go_wp2
          go_roundw
          case rel =>
            go_light
            exact ⟨k + 1, by omega, by go_num, by obtain ⟨q, rfl⟩ := hW.out; exact ⟨q + nq, by rw [World.drewN_drewN]⟩⟩
          case measure => go_light; simp [intOf]; omega
        · clear hc1 hc2
          go_wp2
          go_ret
          exact ⟨rfl, hW.out⟩

theorem one_is : (brkOf (runes ⟨#[97, 32, 98]⟩)).2 = [2] := by decide +kernel

theorem lit_owned (w : World) (base n : Nat) (hb : base ≤ w.heap.size) : (w.alloc (.cells #[.int .i64 (n : Int)] 3)).ownsRow base 3 1 (.slice (some ⟨w.heap.size, 0, none⟩) 1 1) 1 [natV n] :=
  ⟨rfl, .inr ⟨w.heap.size, 1, _, rfl, hb, heap_alloc_new w _, Nat.le_refl _, by decide, rfl, rfl⟩⟩

set_option maxHeartbeats 2000000 in
set_option maxRecDepth 100000 in
theorem walk (a0 : ByteArray) (w0 : a0.size ≤ maxLen) (w : World) :
    Calls Try.prog 4 #[.string a0] w fun e w' => e = .returned (.bool true) ∧ Below w.heap.size w w' := by
  unfold maxLen at w0
  go_enter Try.func4, Try.ntmps4
  go_wp2_with fail
  refine (inkBreaks_any ⟨#[97, 32, 98]⟩ (by decide) _).mono ?_
  rw [one_is]
  rintro e W1 ⟨v, rfl, hv, b1⟩
  go_wp2_with fail
  refine (same_any [2] v _ w.heap.size w.heap.size _ (hv.alloc _) (lit_owned W1 w.heap.size 2 b1.size) (by decide)).mono ?_
  rintro e W2 ⟨rfl, n2, hW2⟩
  have b2 : Below w.heap.size w W2 := by rw [hW2]; exact below_drewN (b1.alloc b1.size _) _
  clear hW2 hv
  by_cases hs : a0.size ≤ 3000
  · go_wp2_with fail
    refine (inkBreaks_any a0 hs _).mono ?_
    rintro e W3 ⟨v3, rfl, hv3, b3⟩
    go_wp2_with fail
    refine (refBreaks_any a0 hs _).mono ?_
    rintro e W4 ⟨v4, rfl, hv4, b4⟩
    have hl := Nat.le_trans (brk_len (runes a0)) (Nat.le_trans (runes_length a0) hs)
    have hv3' := own_below hv3 b4
    clear hv3
    go_wp2_with fail
    refine (same_any _ _ _ _ _ _ hv3' hv4 hl).mono ?_
    rintro e W5 ⟨rfl, n5, hW5⟩
    have b5 : Below w.heap.size w W5 := by rw [hW5]; exact below_drewN (b2.trans ((b3.mono b2.size).trans (b4.mono (Nat.le_trans b2.size b3.size)))) _
    clear hW5 hv3' hv4
    go_wp2_with fail
    go_ret
    exact ⟨rfl, b5⟩
  · go_wp2_with fail
    go_ret
    exact ⟨rfl, b2⟩

/-! ### The row's step -/
set_option maxRecDepth 100000 in
theorem lifted (os : Os) (started : os.Started) (H : Type) (enc : TypeId × Value → H) :
    ReturnsInHanded {} Try.checked os 4 .any (Rows.inkBreaksSpec.pre6 enc Try.prog Try.f4 Rows.inkBreaksRow.domain false) (Rows.inkBreaksSpec.post enc Try.prog Try.f4 false true false false) := by
  refine returnsInHanded_of_change (C := Try.checked) own started (by kernel_rfl) Try.func4
    (ChangeSpec.witness6 (enc := enc) (C := Try.checked) false ⟨#[], #[.string ByteArray.empty], []⟩ 8 (by kernel_rfl) (by kernel_rfl) (by kernel_rfl) (by kernel_rfl)) ?_
  intro W base args ds gs before hval0 hW hcnd _
  have hval : ∀ (j : Nat) t v, Try.f4.params[j]? = some t → args[j]? = some v → Value.okWide Try.prog W .any base t v := hval0
  have hW' := hW
  obtain ⟨p, q, hA0, hV, rfl, hfz, hnd⟩ := hW
  have hA : DataW.TrodAll enc Try.prog W 0 (fun _ => true) true Try.f4.params.toList args.toList ds p := hA0
  rw [Try.params4] at hA hval
  obtain ⟨v0, vs0, d0, ds0, p0, q0, hargs, rfl, rfl, h0, r0⟩ := trodAll_cons hA
  obtain ⟨rfl, rfl, rfl⟩ := trodAll_nil r0
  obtain rfl : args = #[v0] := by cases args; simp_all
  obtain ⟨rfl, rfl⟩ := trodVars_none hV
  obtain ⟨a0, rfl, rfl, rfl, w0⟩ := open_string Try.underlying9 (hval 0 9 v0 rfl rfl) h0
  clear hA0 hval0
  refine (walk a0 w0 W).mono fun e W' ⟨he, bel⟩ => ?_
  subst he
  exact ⟨_, rfl, _, _, _, [], _, [], hW', trodAll_mk1 (shut_bool Try.underlying4 _), (trodAll_cons_mk (shut_string Try.underlying9 w0) trodAll_mk0), rfl, bel.frame _, fun h => by cases h⟩

theorem over : Rows.inkBreaksRow.holds Try.pinned (OpenSpec.ofChange Rows.inkBreaksSpec) :=
  OpenClaim.holds_of_wide 4 Try.f4 rfl rfl rfl rfl rfl rfl rfl ⟨rfl, rfl, rfl, rfl, rfl⟩ rfl rfl rfl rfl rfl (by kernel_rfl) Try.func4 (by kernel_rfl)
    (of_decide_eq_true (by kernel_rfl)) (by unfold Func.isWrapper; first | (rw [if_pos (by decide +kernel)]; kernel_rfl) | (rw [if_neg (by decide +kernel)]; exact ⟨rfl, rfl⟩))
    (fun os started H enc _ => lifted os started H enc)

/-- The statement. -/
theorem proved : Rows.InkBreaksSaid :=
  over
#print axioms proved
end Go.Proofs.Ytpembplhhgimeaa.inkBreaks
