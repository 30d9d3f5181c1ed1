/- fall: the least height at which something may lie, and the gap there. -/
import Derived.Test.YthpffpgbmgnkcaaFLGap
import Derived.Test.YthpffpgbmgnkcaaFLHeights
import Derived.Test.YthpffpgbmgnkcaaFLPure2
import Derived.Deep.Light
namespace Go.Proofs.Ythpffpgbmgnkcaa
open Go.RowKit
set_option linter.unusedVariables false      -- bounds that are for the walk

/-- how many numbers are still to be told -/
def leftAt (w : World) (cb : Nat) : Nat := match w.cell? ⟨cb, 0, none⟩ with
  | some (.slice _ n _) => n
  | _ => 0

theorem HtAt.left {w : World} {base top cb : Nat} {zs : List Int} (h : HtAt w base top cb zs) : leftAt w cb = zs.length := by
  obtain ⟨g, off, cap, h1, _⟩ := h.ex
  unfold leftAt
  rw [(one_c h1).1]
theorem HtAt.up {w : World} {base top top' cb : Nat} {zs : List Int} (h : HtAt w base top cb zs) (ht : top ≤ top') : HtAt w base top' cb zs := by
  obtain ⟨q, off, cap, h1, h2, h3, h3', h4⟩ := h.ex
  exact ⟨q, off, cap, h1, h2, h3, by omega, h4⟩

/-- while the height is looked for -/
structure FaAt (w wr : World) (cb gb : Nat) (zs : List Int) (g : Gp) : Prop where
  below : Below w.heap.size w wr
  out : wr.heap[w.heap.size]? = some (.cells #[.int .i64 0, .int .i64 0, .bool false] 55 (0, 0))
  ht : HtAt wr (w.heap.size + 1) gb cb zs
  gc : wr.heap[gb]? = some (.cells #[.int .i64 g.l, .int .i64 g.r, .bool g.whole] 55 (0, 0))
  gn : gb ≠ cb
  gh : w.heap.size + 1 ≤ gb
theorem FaAt.more {w wr wy : World} {cb gb : Nat} {zs : List Int} {g : Gp} (h : FaAt w wr cb gb zs g) (hb : Below wr.heap.size wr wy) : FaAt w wy cb gb zs g :=
  ⟨h.below.trans (hb.mono h.below.size), (hb.block _ (lt_of_heap h.out)).trans h.out, h.ht.below hb, (hb.block _ (lt_of_heap h.gc)).trans h.gc, h.gn, h.gh⟩
theorem FaAt.next {w wr wy : World} {cb gb : Nat} {zs zs' : List Int} {g : Gp} (h : FaAt w wr cb gb zs g) (hh : HtAt wy (w.heap.size + 1) gb cb zs') (hb : Below (w.heap.size + 1) wr wy) (hf : ∀ b, b ≠ cb → wy.heap[b]? = wr.heap[b]?) : FaAt w wy cb gb zs' g := by
  obtain ⟨_, _, _, _, hc, _⟩ := hh.ex
  exact ⟨h.below.trans (hb.mono (by omega)), (hf _ (by omega)).trans h.out, hh, (hf _ h.gn).trans h.gc, h.gn, h.gh⟩
theorem FaAt.put {w wr : World} {cb gb : Nat} {zs : List Int} {g : Gp} (h : FaAt w wr cb gb zs g) (g' : Gp) :
    FaAt w (((wr.setCell ⟨gb, 0, none⟩ (.int .i64 g'.l)).setCell ⟨gb, 1, none⟩ (.int .i64 g'.r)).setCell ⟨gb, 2, none⟩ (.bool g'.whole)) cb gb zs g' := by
  have far : ∀ b, b ≠ gb → (((wr.setCell ⟨gb, 0, none⟩ (.int .i64 g'.l)).setCell ⟨gb, 1, none⟩ (.int .i64 g'.r)).setCell ⟨gb, 2, none⟩ (.bool g'.whole)).heap[b]? = wr.heap[b]? := fun b hb => by
    rw [Below.heap_setCell _ _ _ b hb, Below.heap_setCell _ _ _ b hb, Below.heap_setCell _ _ _ b hb]
  have hs : (((wr.setCell ⟨gb, 0, none⟩ (.int .i64 g'.l)).setCell ⟨gb, 1, none⟩ (.int .i64 g'.r)).setCell ⟨gb, 2, none⟩ (.bool g'.whole)).heap.size = wr.heap.size := by simp [World.setCell]
  have hgh := h.gh
  refine ⟨((h.below.setCell (by show w.heap.size ≤ gb; omega) _).setCell (by show w.heap.size ≤ gb; omega) _).setCell (by show w.heap.size ≤ gb; omega) _, (far _ (by omega)).trans h.out, ?_, ?_, h.gn, h.gh⟩
  · obtain ⟨q, off, cap, h1, h2, h3, ht, h4, h5, h6, h8⟩ := h.ht.ex
    exact ⟨q, off, cap, (far cb (Ne.symm h.gn)).trans h1, h2, h3, ht, by rw [hs]; exact h4, h5, h6, fun i z hz => (World.cell?_of_block (a := ⟨q, off + i, none⟩) (far q (by omega))).trans (h8 i z hz)⟩
  · exact heap_set _ _ 2 (.bool g'.whole) _ _ _ (heap_set _ _ 1 (.int .i64 g'.r) _ _ _ (heap_set _ _ 0 (.int .i64 g'.l) _ _ _ h.gc))

set_option maxHeartbeats 2000000 in
set_option maxRecDepth 100000 in
theorem fall_any {w : World} {M : Nat → Lab} {lb fb : Nat} {sv : Value} {fs : List Fl} {lo hi : Int} (h : FlAt w M lb sv fs) (hr : RmAt w M fb lb lo hi) (hl : fs.length ≤ 200) (hb : Bd fs) (l1 : -16777216 ≤ lo) (l2 : lo ≤ hi) (l3 : hi ≤ 16777216) (W H tp : Int) (w1 : 0 ≤ W) (w2 : W ≤ 16777216) (h1 : 0 ≤ H) (h2 : H ≤ 16777216) (hcd : ∀ z ∈ cands fs tp, -10000000000 ≤ z ∧ z ≤ 10000000000) :
    Calls Try.prog 21 #[.pointer (some ⟨fb, 0, none⟩), .int .i64 W, .int .i64 H, .int .i64 tp] w fun e w' => ∃ y, FitAt lo hi fs W H tp y ∧ (-10000000000 ≤ y ∧ y ≤ 10000000000) ∧
      e = .returned (.tuple #[.int .i64 y, .agg #[.int .i64 (gapN lo hi fs y H).l, .int .i64 (gapN lo hi fs y H).r, .bool (gapN lo hi fs y H).whole]]) ∧ Below w.heap.size w w' := by
  obtain ⟨f0, f1, f2, _, _, _⟩ := three_c hr.head
  have hfb := lt_of_heap hr.head
  have hlb := lt_of_heap h.head
  have H0 := hidF h
  have HR := hidF hr
  have HB := hidF hb
  have HCD := hidF hcd
  obtain ⟨t1, t2⟩ := hcd tp (by unfold cands; simp)
  have hfb1 : fb < w.heap.size + 1 := by omega
  clear h hr hb hcd
  go_enter Try.func21, Try.ntmps21
  go_wp2_with fail
  have hbw : Below w.heap.size w (w.alloc (.cells #[.int .i64 0, .int .i64 0, .bool false] 55)) := by go_grown
  refine (heights_any (H0.out.below hbw) (HR.out.below hbw) (by omega) HB.out tp t1 t2).mono ?_
  rintro e w3 ⟨cb, rfl, hht, hb3⟩
  obtain ⟨L, hL⟩ : ∃ L, L = (cands fs tp).mergeSort fun x y => decide (x ≤ y) := ⟨_, rfl⟩
  rw [← hL] at hht
  have HLL := hidF hL
  have B3 : Below w.heap.size w w3 := hbw.trans (hb3.mono hbw.size)
  have a0 := (hb3.block w.heap.size (by simp)).trans (heap_alloc_new w (.cells #[.int .i64 0, .int .i64 0, .bool false] 55))
  have hht4 : HtAt w3 (w.heap.size + 1) w3.heap.size cb L := by simpa using hht
  have hLm : ∀ z ∈ L, -10000000000 ≤ z ∧ z ≤ 10000000000 := fun z hz => HCD.out z (by rw [hL] at hz; exact List.mem_mergeSort.1 hz)
  obtain ⟨y0, zs0, hy0⟩ : ∃ y zs, L = y :: zs := by
    cases L with
    | cons y zs => exact ⟨y, zs, rfl⟩
    | nil =>
      have := congrArg List.length hL
      simp [cands] at this
  have HY0 := hidF hy0
  rw [hy0] at hht4 hLm
  have hgb : ∀ y, -20000000000 ≤ (gapN lo hi fs y H).l ∧ (gapN lo hi fs y H).l ≤ 20000000000 ∧ -20000000000 ≤ (gapN lo hi fs y H).r ∧ (gapN lo hi fs y H).r ≤ 20000000000 := fun y =>
    gapN_bd lo hi 20000000000 fs y H (by omega) (by omega) (by omega) (by omega) (fun o ho => by have := HB.out.at (by omega) ho; omega)
  have HGB := hidF hgb
  have HT := hidF hht4
  have HLM := hidF hLm
  have A0 := hidF a0
  have B3' := hidF B3
  clear hL hy0 hht hht4 hb3 hbw hLm hgb a0 B3
  go_wp2_with fail
  refine (next_any HT.out).mono ?_
  rintro e w4 ⟨rfl, hh4, hb4, hs4, hf4⟩
  have hcb : w.heap.size + 1 ≤ cb := by obtain ⟨_, _, _, _, q, _⟩ := hh4.ex; exact q
  have B4 := hidF (B3'.out.trans (hb4.mono (by omega)))
  have A04 := hidF ((hf4 w.heap.size (by omega)).trans A0.out)
  have HT4 := hidF hh4
  have hs43 : w3.heap.size ≤ w4.heap.size := by omega
  obtain ⟨yb1, yb2⟩ := HLM.out y0 (by simp)
  clear hh4 hb4 hs4 hf4
  go_wp2_with fail
  refine (gap_any (H0.out.below B4.out) (HR.out.below B4.out) (by omega) HB.out y0 H yb1 yb2 (by omega) (by omega)).mono ?_
  rintro e w5 ⟨rfl, hb5⟩
  obtain ⟨g0, hg0⟩ : ∃ g, g = gapN lo hi fs y0 H := ⟨_, rfl⟩
  rw [← hg0]
  have HG0 := hidF hg0
  have hsz5 : w.heap.size + 1 ≤ w5.heap.size := by
    have h1 := hb5.size
    obtain ⟨_, _, _, q1, q2, _⟩ := HT4.out.ex
    have := lt_of_heap q1
    omega
  have D0 : Hid (FaAt w (w5.alloc (.cells #[.int .i64 g0.l, .int .i64 g0.r, .bool g0.whole] 55)) cb w5.heap.size zs0 g0) := by
    have hb5a := ((Below.refl w4.heap.size w4).trans hb5).alloc hb5.size (.cells #[.int .i64 g0.l, .int .i64 g0.r, .bool g0.whole] 55)
    refine ⟨B4.out.trans (hb5a.mono B4.out.size), (hb5a.block _ (lt_of_heap A04.out)).trans A04.out, (HT4.out.below hb5a).up (by have := hb5.size; omega), heap_alloc_new w5 _, ?_, hsz5⟩
    obtain ⟨_, _, _, q1, _⟩ := HT4.out.ex
    have := lt_of_heap q1
    have := hb5.size
    omega
  clear hb5 hg0
  go_wp2_with fail
  go_loopw [3] (fun yv wr => ∃ (y : Int) (pre zs : List Int) (g : Gp), yv = .int .i64 y ∧ Hid (pre ++ y :: zs = L ∧ (∀ z ∈ pre, fits lo hi fs W H z = false) ∧ g = gapN lo hi fs y H ∧ FaAt w wr cb w5.heap.size zs g)) (fun _ wr => leftAt wr cb)
  case atStart => exact ⟨y0, [], zs0, g0, rfl, HY0.out.symm, (fun z hz => by cases hz), HG0.out, D0.out⟩
  case round =>
    obtain ⟨y, pre, zs, g, rfl, hrel⟩ := hrel
    have hA := hidF hrel.out.2.2.2
    obtain ⟨c0, c1, c2, e0, e1, e2⟩ := three_c hA.out.gc
    obtain ⟨o0, o1, o2, p0, p1, p2⟩ := three_c hA.out.out
    obtain ⟨gb1, gb2, gb3, gb4⟩ := HGB.out y
    have hg := hrel.out.2.2.1
    rw [← hg] at gb1 gb2 gb3 gb4
    have hyL : y ∈ L := by rw [← hrel.out.1]; simp
    have HFI : Hid (fits lo hi fs W H y = (g.whole || decide (W ≤ g.r - g.l))) := by show _ = _; unfold fits; rw [← hg]
    have z5 : w5.heap.size < wr.heap.size := lt_of_heap hA.out.gc
    have z0 : w.heap.size < wr.heap.size := lt_of_heap hA.out.out
    have z6 : w5.heap.size < wr.heap.size + 1 := by omega
    have z7 : w.heap.size < wr.heap.size + 1 := by omega
    have hgh := hA.out.gh
    have zn : ¬ w.heap.size = w5.heap.size := by omega
    have zm : ¬ w5.heap.size = w.heap.size := by omega
    clear hg
    by_cases ct : (g.whole || decide (W ≤ g.r - g.l)) = true
    · have CT := hidF ct
      have T := hidF (takes_any g.l g.r W g.whole gb1 gb2 gb3 gb4)
      rw [ct] at T
      clear ct
      have HFIT := hidF (fit_first (hrel.out.1.trans HLL.out) hrel.out.2.1 (HFI.out.trans CT.out))
      have HYB : Hid (-10000000000 ≤ y ∧ y ≤ 10000000000) := HLM.out y (by rw [← HY0.out]; exact hyL)
      have HGE := hidF hrel.out.2.2.1
      have HB6 := hidF (((hA.out.below.setCell (p := ⟨w.heap.size, 0, none⟩) (Nat.le_refl _) (.int .i64 g.l)).setCell (p := ⟨w.heap.size, 1, none⟩) (Nat.le_refl _) (.int .i64 g.r)).setCell (p := ⟨w.heap.size, 2, none⟩) (Nat.le_refl _) (.bool g.whole))
      have HO6 := hidF (heap_set _ _ 2 (.bool g.whole) _ _ _ (heap_set _ _ 1 (.int .i64 g.r) _ _ _ (heap_set _ _ 0 (.int .i64 g.l) _ _ _ hA.out.out)))
      clear hyL
      go_wp2_with (go_at_call 26; refine (T.out _).mono ?_; rintro e w6 ⟨rfl, rfl⟩)
      go_region
      all_goals
        go_wp2_with fail
        refine bodyPost_ret (v := .tuple #[.int .i64 y, .agg #[.int .i64 g.l, .int .i64 g.r, .bool g.whole]]) ?_ rfl ⟨y, HFIT.out, HYB.out, by rw [HGE.out], ?_⟩
        · have h3 := (Below.heap_alloc _ (.cells #[.int .i64 g.l, .int .i64 g.r, .bool g.whole] 55) _ (lt_of_heap HO6.out)).trans HO6.out
          obtain ⟨y0, y1, y2, _, _, _⟩ := three_c (u := .int .i64 g.l) (v := .int .i64 g.r) (x := .bool g.whole) h3
          simp [results, Try.results21, go_sem, y0, y1, y2]
        · exact (HB6.out.alloc HB6.out.size _).drew
    · have cf : (g.whole || decide (W ≤ g.r - g.l)) = false := by simpa using ct
      obtain ⟨z, zs', hz⟩ := fit_more (hrel.out.1.trans HLL.out) hrel.out.2.1 (HFI.out.trans cf)
      subst hz
      have T := hidF (takes_any g.l g.r W g.whole gb1 gb2 gb3 gb4)
      rw [cf] at T
      have hzL : z ∈ L := by rw [← hrel.out.1]; simp
      obtain ⟨zb1, zb2⟩ : -10000000000 ≤ z ∧ z ≤ 10000000000 := HLM.out z (by rw [← HY0.out]; exact hzL)
      have FY := hidF (HFI.out.trans cf)
      clear ct cf hzL hyL
      go_wp2_with (go_at_call 26; refine (T.out _).mono ?_; rintro e w6 ⟨rfl, rfl⟩)
      have hA6 := hidF (hA.out.more ((Below.refl wr.heap.size wr).alloc (Nat.le_refl _) (.cells #[.int .i64 g.l, .int .i64 g.r, .bool g.whole] 55)))
      refine (next_any hA6.out.ht).mono ?_
      rintro e w7 ⟨rfl, hh7, hb7, hs7, hf7⟩
      have D7 := hidF (hA6.out.next hh7 hb7 hf7)
      clear hh7 hb7 hs7 hf7
      go_wp2_with fail
      refine (gap_any (H0.out.below D7.out.below) (HR.out.below D7.out.below) (by omega) HB.out z H zb1 zb2 (by omega) (by omega)).mono ?_
      rintro e w8 ⟨rfl, hb8⟩
      obtain ⟨g8, hg8⟩ : ∃ g, g = gapN lo hi fs z H := ⟨_, rfl⟩
      rw [← hg8]
      have HG8 := hidF hg8
      have D8 := hidF (D7.out.more hb8)
      obtain ⟨n0, n1, n2, n3, n4, n5⟩ := three_c D8.out.gc
      clear hb8 hg8
      go_wp2_with fail
      go_roundw
      case rel =>
        go_light
        refine ⟨z, pre ++ [y], zs', g8, rfl, by rw [← hrel.out.1]; simp, ?_, HG8.out, D8.out.put g8⟩
        intro x hx
        rcases List.mem_append.1 hx with h1 | h1
        · exact hrel.out.2.1 x h1
        · rw [List.mem_singleton.1 h1]; exact FY.out
      case measure =>
        go_light
        rw [(D8.out.put g8).ht.left, hA.out.ht.left]
        simp
end Go.Proofs.Ythpffpgbmgnkcaa
