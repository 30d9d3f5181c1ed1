/- FlowsFixed: the law's own walk, over what both answer. -/
import Derived.Test.YtpbnijmnplfgmaaFXTail
import Derived.Deep.DeepCutAuto
import Derived.Deep.Light
namespace Go.Proofs.Ytpbnijmnplfgmaa
open Go.RowKit

set_option maxHeartbeats 2000000 in
set_option maxRecDepth 100000 in
theorem fixed_walk (Rm Fr To L I T A Fi Mn Mx At p q r s : Int) (aF aT aL aI aR : Bool)
    (hP : ∀ w, Calls Try.prog 25 #[.agg #[.int .i64 Rm, .int .i64 Fr, .int .i64 To, .int .i64 L, .int .i64 I, .int .i64 T, .int .i64 A, .int .i64 Fi, .int .i64 Mn, .int .i64 Mx, .int .i64 At, .bool aF, .bool aT, .bool aL, .bool aI, .bool aR]] w fun e w' => e = .returned (.tuple #[.int .i64 p, .int .i64 q, .int .i64 r, .int .i64 s]) ∧ Below w.heap.size w w')
    (hQ : ∀ w, Calls Try.prog 26 #[.agg #[.int .i64 Rm, .int .i64 Fr, .int .i64 To, .int .i64 L, .int .i64 I, .int .i64 T, .int .i64 A, .int .i64 Fi, .int .i64 Mn, .int .i64 Mx, .int .i64 At, .bool aF, .bool aT, .bool aL, .bool aI, .bool aR]] w fun e w' => e = .returned (.tuple #[.int .i64 p, .int .i64 q, .int .i64 r, .int .i64 s]) ∧ Below w.heap.size w w')
    (hO : ∀ w, Calls Try.prog 25 #[.agg #[.int .i64 10, .int .i64 0, .int .i64 0, .int .i64 0, .int .i64 0, .int .i64 0, .int .i64 0, .int .i64 0, .int .i64 0, .int .i64 (-1), .int .i64 0, .bool false, .bool false, .bool false, .bool true, .bool false]] w fun e w' => e = .returned (.tuple #[.int .i64 0, .int .i64 0, .int .i64 10, .int .i64 0]) ∧ Below w.heap.size w w') (w : World) :
    Calls Try.prog 7 #[.agg #[.int .i64 Rm, .int .i64 Fr, .int .i64 To, .int .i64 L, .int .i64 I, .int .i64 T, .int .i64 A, .int .i64 Fi, .int .i64 Mn, .int .i64 Mx, .int .i64 At, .bool aF, .bool aT, .bool aL, .bool aI, .bool aR]] w fun e w' => e = .returned (.bool true) ∧ Below w.heap.size w w' := by
  have HP : Hid (∀ w, Calls Try.prog 25 #[.agg #[.int .i64 Rm, .int .i64 Fr, .int .i64 To, .int .i64 L, .int .i64 I, .int .i64 T, .int .i64 A, .int .i64 Fi, .int .i64 Mn, .int .i64 Mx, .int .i64 At, .bool aF, .bool aT, .bool aL, .bool aI, .bool aR]] w fun e w' => e = .returned (.tuple #[.int .i64 p, .int .i64 q, .int .i64 r, .int .i64 s]) ∧ Below w.heap.size w w') := hP
  have HQ : Hid (∀ w, Calls Try.prog 26 #[.agg #[.int .i64 Rm, .int .i64 Fr, .int .i64 To, .int .i64 L, .int .i64 I, .int .i64 T, .int .i64 A, .int .i64 Fi, .int .i64 Mn, .int .i64 Mx, .int .i64 At, .bool aF, .bool aT, .bool aL, .bool aI, .bool aR]] w fun e w' => e = .returned (.tuple #[.int .i64 p, .int .i64 q, .int .i64 r, .int .i64 s]) ∧ Below w.heap.size w w') := hQ
  have HO : Hid (∀ w, Calls Try.prog 25 #[.agg #[.int .i64 10, .int .i64 0, .int .i64 0, .int .i64 0, .int .i64 0, .int .i64 0, .int .i64 0, .int .i64 0, .int .i64 0, .int .i64 (-1), .int .i64 0, .bool false, .bool false, .bool false, .bool true, .bool false]] w fun e w' => e = .returned (.tuple #[.int .i64 0, .int .i64 0, .int .i64 10, .int .i64 0]) ∧ Below w.heap.size w w') := hO
  clear hP hQ hO
  go_enter Try.func7, Try.ntmps7
  go_upto_region 1 with fail
  go_cut [3] (fun s3 wx => s3 = .pointer (some ⟨w.heap.size + 1, 0, none⟩) ∧ Hid (AskAt w wx #[.int .i64 Rm, .int .i64 Fr, .int .i64 To, .int .i64 L, .int .i64 I, .int .i64 T, .int .i64 A, .int .i64 Fi, .int .i64 Mn, .int .i64 Mx, .int .i64 At, .bool aF, .bool aT, .bool aL, .bool aI, .bool aR] ∧ wx.heap[w.heap.size + 1]? = some (.cells #[.int .i64 Rm, .int .i64 Fr, .int .i64 To, .int .i64 L, .int .i64 I, .int .i64 T, .int .i64 A, .int .i64 Fi, .int .i64 Mn, .int .i64 Mx, .int .i64 At, .bool aF, .bool aT, .bool aL, .bool aI, .bool aR] 65 (0, 0))))
  case first =>
    go_wp2
    go_meet
    case rel =>
      go_light
      refine ⟨rfl, ⟨⟨by go_grown, ?_⟩, ?_⟩⟩
      · rw [Below.heap_alloc _ _ _ (by simp)]; exact heap_alloc_new w _
      · have := heap_alloc_new (w.alloc (.cells #[.int .i64 Rm, .int .i64 Fr, .int .i64 To, .int .i64 L, .int .i64 I, .int .i64 T, .int .i64 A, .int .i64 Fi, .int .i64 Mn, .int .i64 Mx, .int .i64 At, .bool aF, .bool aT, .bool aL, .bool aI, .bool aR] 64)) (.cells #[.int .i64 Rm, .int .i64 Fr, .int .i64 To, .int .i64 L, .int .i64 I, .int .i64 T, .int .i64 A, .int .i64 Fi, .int .i64 Mn, .int .i64 Mx, .int .i64 At, .bool aF, .bool aT, .bool aL, .bool aI, .bool aR] 65)
        simpa using this
  case rest =>
  obtain ⟨rfl, hA⟩ := hcut
  obtain ⟨w1, h1⟩ : ∃ w1, w1 = wc := ⟨_, rfl⟩
  subst h1
  have c0 := cellL hA.out.2 0 (v := .int .i64 Rm) rfl
  have c1 := cellL hA.out.2 1 (v := .int .i64 Fr) rfl
  have c2 := cellL hA.out.2 2 (v := .int .i64 To) rfl
  have c3 := cellL hA.out.2 3 (v := .int .i64 L) rfl
  have c4 := cellL hA.out.2 4 (v := .int .i64 I) rfl
  have c5 := cellL hA.out.2 5 (v := .int .i64 T) rfl
  have c6 := cellL hA.out.2 6 (v := .int .i64 A) rfl
  have c7 := cellL hA.out.2 7 (v := .int .i64 Fi) rfl
  have c8 := cellL hA.out.2 8 (v := .int .i64 Mn) rfl
  have c9 := cellL hA.out.2 9 (v := .int .i64 Mx) rfl
  have c10 := cellL hA.out.2 10 (v := .int .i64 At) rfl
  have c11 := cellL hA.out.2 11 (v := .bool aF) rfl
  have c12 := cellL hA.out.2 12 (v := .bool aT) rfl
  have c13 := cellL hA.out.2 13 (v := .bool aL) rfl
  have c14 := cellL hA.out.2 14 (v := .bool aI) rfl
  have c15 := cellL hA.out.2 15 (v := .bool aR) rfl
  go_upto_region 2 with fail
  go_cut [4, 5, 6, 7] (fun s4 s5 s6 s7 wx => s4 = .int .i64 p ∧ s5 = .int .i64 q ∧ s6 = .int .i64 r ∧ s7 = .int .i64 s ∧ Hid (AskAt w wx #[.int .i64 Rm, .int .i64 Fr, .int .i64 To, .int .i64 L, .int .i64 I, .int .i64 T, .int .i64 A, .int .i64 Fi, .int .i64 Mn, .int .i64 Mx, .int .i64 At, .bool aF, .bool aT, .bool aL, .bool aI, .bool aR]))
  case first =>
    go_wp2_with fail
    refine (HP.out _).mono ?_
    rintro e w2 ⟨rfl, b2⟩
    clear c0 c1 c2 c3 c4 c5 c6 c7 c8 c9 c10 c11 c12 c13 c14 c15
    go_wp2_with fail
    go_meet
    case rel => go_light; exact ⟨rfl, rfl, rfl, rfl, ⟨hA.out.1.below.trans (b2.mono hA.out.1.below.size), (b2.block _ (lt_of_heap hA.out.1.f)).trans hA.out.1.f⟩⟩
  case rest =>
  clear c0 c1 c2 c3 c4 c5 c6 c7 c8 c9 c10 c11 c12 c13 c14 c15
  clear hA
  obtain ⟨rfl, rfl, rfl, rfl, hA⟩ := hcut
  refine (by assumption : ∀ (a : Act) (w : World), Code.wp _ _ _ a w → _) _ _ ?_
  exact fixed_tail Rm Fr To L I T A Fi Mn Mx At p q r s aF aT aL aI aR HQ.out HO.out w wc _ _ _ _ _ _ _ _ _ _ _ _ _ _ _ _ _ _ _ _ _ _ _ _ _ _ _ _ _ _ _ _ _ _ _ _ _ _ _ _ _ _ _ _ _ _ _ _ _ _ _ _ _ _ _ _ _ _ _ _ _ _ _ _ _ _ _ _ _ _ _ _ _ _ _ _ _ _ _ hA.out
end Go.Proofs.Ytpbnijmnplfgmaa
