/- gap: what the floats leave between two heights. -/
import Derived.Test.YthpffpgbmgnkcaaFLMem
import Derived.BigRegion
import Derived.Deep.Light
namespace Go.Proofs.Ythpffpgbmgnkcaa
open Go.RowKit

/-- what lies there while the floats are gone through -/
structure GapAt (w wr : World) (u v x : Value) : Prop where
  below : Below w.heap.size w wr
  out : wr.heap[w.heap.size]? = some (.cells #[.int .i64 0, .int .i64 0, .bool false] 55 (0, 0))
  cur : wr.heap[w.heap.size + 1]? = some (.cells #[u, v, x] 55 (0, 0))

theorem GapAt.lt {w wr : World} {u v x : Value} (h : GapAt w wr u v x) : w.heap.size + 1 < wr.heap.size := lt_of_heap h.cur
theorem GapAt.alloc {w wr : World} {u v x : Value} (h : GapAt w wr u v x) (o : Obj) : GapAt w (wr.alloc o) u v x :=
  ⟨h.below.alloc h.below.size o, (Below.heap_alloc wr o _ (by have := h.lt; omega)).trans h.out, (Below.heap_alloc wr o _ h.lt).trans h.cur⟩
theorem GapAt.put {w wr : World} {u v x : Value} (h : GapAt w wr u v x) (j : Nat) (c : Value) {u' v' x' : Value} (e : (#[u, v, x] : Array Value).setIfInBounds j c = #[u', v', x']) : GapAt w (wr.setCell ⟨w.heap.size + 1, j, none⟩ c) u' v' x' :=
  ⟨h.below.setCell (by show w.heap.size ≤ w.heap.size + 1; omega) c, (Below.heap_setCell wr _ c _ (by show w.heap.size ≠ w.heap.size + 1; omega)).trans h.out, by rw [heap_set wr _ j c _ _ _ h.cur, e]⟩

/-- a step's world -/
theorem gapS_no (y h : Int) (g : Gp) (o : Fl) (e : meets o y h = false) : gapS y h g o = g := by unfold gapS; rw [e]; rfl
theorem gapS_r (y h : Int) (g : Gp) (o : Fl) (e : meets o y h = true) (r : o.r = true) : gapS y h g o = ⟨g.l, min g.r o.x, false⟩ := by unfold gapS; rw [e, r]; rfl
theorem gapS_l (y h : Int) (g : Gp) (o : Fl) (e : meets o y h = true) (r : o.r = false) : gapS y h g o = ⟨max g.l (o.x + o.w), g.r, false⟩ := by unfold gapS; rw [e, r]; rfl

set_option maxHeartbeats 2000000 in
set_option maxRecDepth 100000 in
theorem gap_any {w : World} {M : Nat → Lab} {lb fb : Nat} {sv : Value} {fs : List Fl} {lo hi : Int} (h : FlAt w M lb sv fs) (hr : RmAt w M fb lb lo hi) (hl : fs.length ≤ 200) (hb : Bd fs) (y ht : Int) (y1 : -10000000000 ≤ y) (y2 : y ≤ 10000000000) (t1 : -16777216 ≤ ht) (t2 : ht ≤ 16777216) :
    Calls Try.prog 17 #[.pointer (some ⟨fb, 0, none⟩), .int .i64 y, .int .i64 ht] w fun e w' => e = .returned (.agg #[.int .i64 (gapN lo hi fs y ht).l, .int .i64 (gapN lo hi fs y ht).r, .bool (gapN lo hi fs y ht).whole]) ∧ Below w.heap.size w w' := by
  obtain ⟨f0, f1, f2, _, _, _⟩ := three_c hr.head
  obtain ⟨l0, _⟩ := one_c h.head
  have hfb := lt_of_heap hr.head
  have hlb := lt_of_heap h.head
  obtain ⟨a, cap, rfl, hc, hm⟩ := h.row.shape
  unfold maxLen at hm
  have H : Hid (FlAt w M lb (.slice a fs.length cap) fs) := h
  have HB : Hid (Bd fs) := hb
  clear h hr hb
  go_enter Try.func17, Try.ntmps17
  go_wp2_with fail
  go_region
  go_wp2_with fail
  go_loopw [26] (fun i wr => ∃ (k : Nat) (g : Gp), k ≤ fs.length ∧ i = .int .i64 k ∧ Hid (g = gapN lo hi (fs.take k) y ht ∧ GapAt w wr (.int .i64 g.l) (.int .i64 g.r) (.bool g.whole))) (fun i _ => fs.length - (intV i).toNat)
  case atStart =>
    refine ⟨0, ⟨lo, hi, true⟩, Nat.zero_le _, rfl, rfl, ⟨?_, ?_, ?_⟩⟩
    · exact ((((Below.refl _ w).alloc (Nat.le_refl _) _).alloc (by simp) _).drew)
    · show ((w.alloc _).alloc _).heap[w.heap.size]? = _
      rw [Below.heap_alloc _ _ _ (by simp)]
      exact heap_alloc_new w _
    · show ((w.alloc _).alloc _).heap[w.heap.size + 1]? = _
      have := heap_alloc_new (w.alloc (.cells #[.int .i64 0, .int .i64 0, .bool false] 55)) (.cells #[.int .i64 lo, .int .i64 hi, .bool true] 55)
      simpa using this
  case round =>
    obtain ⟨k, g, hk, rfl, hg⟩ := hrel
    obtain ⟨c0, c1, c2, d0, d1, d2⟩ := three_c hg.out.2.cur
    obtain ⟨e0, e1, e2, p0, p1, p2⟩ := three_c hg.out.2.out
    have hz := hg.out.2.lt
    have hz2 : w.heap.size < wr.heap.size := by omega
    have n1 : ¬ w.heap.size + 1 = wr.heap.size := by omega
    have n2 : ¬ wr.heap.size = w.heap.size + 1 := by omega
    have n3 : ¬ w.heap.size = wr.heap.size := by omega
    have n4 : ¬ wr.heap.size = w.heap.size := by omega
    by_cases hlt : k < fs.length
    · obtain ⟨gb, cap', hv, _, _, _, hgb⟩ := H.out.row.form (by omega)
      obtain ⟨rfl, rfl⟩ : a = some ⟨gb, 0, none⟩ ∧ cap = cap' := by cases hv; exact ⟨rfl, rfl⟩
      obtain ⟨o, ho⟩ : ∃ o, fs[k]? = some o := ⟨_, List.getElem?_eq_getElem hlt⟩
      have hmem : o ∈ fs := List.mem_of_getElem? ho
      have HN : Hid (gapN lo hi (fs.take (k + 1)) y ht = gapS y ht g o) := by
        show _ = _
        rw [List.take_add_one, ho, hg.out.1]
        exact gapN_snoc lo hi _ o y ht
      obtain ⟨q1, q2, q3, q4, q5, q6, q7, q8⟩ := HB.out.at hl hmem
      obtain ⟨r0, r1, r2, r3, r4⟩ := (H.out.below hg.out.2.below).at ho
      have i1 : (0 : Int) ≤ (k : Int) := by omega
      have i2 : (k : Int) < (fs.length : Int) := by omega
      have HF := hidF (foot_any o q3 q4 q7 q8)
      have hft : Hid (foot o = foot o) := rfl
      obtain ⟨ft, hft2⟩ : ∃ f, f = foot o := ⟨_, rfl⟩
      have FT : Hid (ft = foot o) := hft2
      rw [← hft2] at HF
      have f3 : -20000000000 ≤ ft := by rw [hft2]; unfold foot; omega
      have f4 : ft ≤ 20000000000 := by rw [hft2]; unfold foot; omega
      clear hft hft2 hv ho hmem
      rcases (by omega : 1 ≤ ht ∨ ht < 1) with hh | hh
      · by_cases m1 : o.y - ht < y
        · by_cases m2 : y < ft
          · have ME : Hid (meets o y ht = true) := by
              show _ = _
              unfold meets
              rw [← FT.out]
              rw [(show max ht 1 = ht by omega), decide_eq_true (by omega), decide_eq_true m2]; rfl
            obtain ⟨r, x, yy, wd, hh2⟩ := o
            simp only at q3 q4 m1
            cases r
            · go_wp2_with (go_at_call 24; refine (HF.out _).mono ?_; rintro e w2 ⟨rfl, rfl⟩)
              all_goals
                go_roundw
                case rel =>
                  go_light
                  refine ⟨k + 1, gapS y ht g ⟨false, x, yy, wd, hh2⟩, by omega, by go_num, HN.out.symm, ?_⟩
                  rw [gapS_l _ _ _ _ ME.out rfl]; exact (((hg.out.2.put 2 _ rfl).put 0 _ (by rw [show max g.l (x + wd) = (if g.l < x + wd then x + wd else g.l) from by split <;> omega]; rfl)).alloc _).alloc _
                case measure => simp [intV]; omega
            · go_wp2_with (go_at_call 24; refine (HF.out _).mono ?_; rintro e w2 ⟨rfl, rfl⟩)
              all_goals
                go_roundw
                case rel =>
                  go_light
                  refine ⟨k + 1, gapS y ht g ⟨true, x, yy, wd, hh2⟩, by omega, by go_num, HN.out.symm, ?_⟩
                  rw [gapS_r _ _ _ _ ME.out rfl]; exact (((hg.out.2.put 2 _ rfl).put 1 _ (by rw [show min g.r x = (if x < g.r then x else g.r) from by split <;> omega]; rfl)).alloc _).alloc _
                case measure => simp [intV]; omega
          · have ME : Hid (meets o y ht = false) := by
              show _ = _
              unfold meets
              rw [← FT.out]
              rw [decide_eq_false m2, Bool.and_false]
            obtain ⟨r, x, yy, wd, hh2⟩ := o
            simp only at q3 q4 m1
            go_wp2_with (go_at_call 24; refine (HF.out _).mono ?_; rintro e w2 ⟨rfl, rfl⟩)
            all_goals
              go_roundw
              case rel =>
                go_light
                refine ⟨k + 1, gapS y ht g ⟨r, x, yy, wd, hh2⟩, by omega, by go_num, HN.out.symm, ?_⟩
                rw [gapS_no _ _ _ _ ME.out]; exact (hg.out.2.alloc _).alloc _
              case measure => simp [intV]; omega
        · have ME : Hid (meets o y ht = false) := by
            show _ = _
            unfold meets
            rw [← FT.out]
            rw [(show max ht 1 = ht by omega), decide_eq_false (by omega)]; rfl
          obtain ⟨r, x, yy, wd, hh2⟩ := o
          simp only at q3 q4 m1
          go_wp2_with (go_at_call 24; refine (HF.out _).mono ?_; rintro e w2 ⟨rfl, rfl⟩)
          all_goals
            go_roundw
            case rel =>
              go_light
              refine ⟨k + 1, gapS y ht g ⟨r, x, yy, wd, hh2⟩, by omega, by go_num, HN.out.symm, ?_⟩
              rw [gapS_no _ _ _ _ ME.out]; exact hg.out.2.alloc _
            case measure => simp [intV]; omega
      · by_cases m1 : o.y - 1 < y
        · by_cases m2 : y < ft
          · have ME : Hid (meets o y ht = true) := by
              show _ = _
              unfold meets
              rw [← FT.out]
              rw [(show max ht 1 = 1 by omega), decide_eq_true (by omega), decide_eq_true m2]; rfl
            obtain ⟨r, x, yy, wd, hh2⟩ := o
            simp only at q3 q4 m1
            cases r
            · go_wp2_with (go_at_call 24; refine (HF.out _).mono ?_; rintro e w2 ⟨rfl, rfl⟩)
              all_goals
                go_roundw
                case rel =>
                  go_light
                  refine ⟨k + 1, gapS y ht g ⟨false, x, yy, wd, hh2⟩, by omega, by go_num, HN.out.symm, ?_⟩
                  rw [gapS_l _ _ _ _ ME.out rfl]; exact (((hg.out.2.put 2 _ rfl).put 0 _ (by rw [show max g.l (x + wd) = (if g.l < x + wd then x + wd else g.l) from by split <;> omega]; rfl)).alloc _).alloc _
                case measure => simp [intV]; omega
            · go_wp2_with (go_at_call 24; refine (HF.out _).mono ?_; rintro e w2 ⟨rfl, rfl⟩)
              all_goals
                go_roundw
                case rel =>
                  go_light
                  refine ⟨k + 1, gapS y ht g ⟨true, x, yy, wd, hh2⟩, by omega, by go_num, HN.out.symm, ?_⟩
                  rw [gapS_r _ _ _ _ ME.out rfl]; exact (((hg.out.2.put 2 _ rfl).put 1 _ (by rw [show min g.r x = (if x < g.r then x else g.r) from by split <;> omega]; rfl)).alloc _).alloc _
                case measure => simp [intV]; omega
          · have ME : Hid (meets o y ht = false) := by
              show _ = _
              unfold meets
              rw [← FT.out]
              rw [decide_eq_false m2, Bool.and_false]
            obtain ⟨r, x, yy, wd, hh2⟩ := o
            simp only at q3 q4 m1
            go_wp2_with (go_at_call 24; refine (HF.out _).mono ?_; rintro e w2 ⟨rfl, rfl⟩)
            all_goals
              go_roundw
              case rel =>
                go_light
                refine ⟨k + 1, gapS y ht g ⟨r, x, yy, wd, hh2⟩, by omega, by go_num, HN.out.symm, ?_⟩
                rw [gapS_no _ _ _ _ ME.out]; exact (hg.out.2.alloc _).alloc _
              case measure => simp [intV]; omega
        · have ME : Hid (meets o y ht = false) := by
            show _ = _
            unfold meets
            rw [← FT.out]
            rw [(show max ht 1 = 1 by omega), decide_eq_false (by omega)]; rfl
          obtain ⟨r, x, yy, wd, hh2⟩ := o
          simp only at q3 q4 m1
          go_wp2_with (go_at_call 24; refine (HF.out _).mono ?_; rintro e w2 ⟨rfl, rfl⟩)
          all_goals
            go_roundw
            case rel =>
              go_light
              refine ⟨k + 1, gapS y ht g ⟨r, x, yy, wd, hh2⟩, by omega, by go_num, HN.out.symm, ?_⟩
              rw [gapS_no _ _ _ _ ME.out]; exact hg.out.2.alloc _
            case measure => simp [intV]; omega
    · have E : Hid (gapN lo hi fs y ht = g) := by
        show _ = _
        rw [hg.out.1, List.take_of_length_le (by omega)]
      go_wp2_with fail
      refine bodyPost_ret (v := .agg #[.int .i64 g.l, .int .i64 g.r, .bool g.whole]) ?_ rfl ⟨by rw [E.out], ((hg.out.2.below.setCell (Nat.le_refl _) _).setCell (Nat.le_refl _) _).setCell (Nat.le_refl _) _⟩
      have h3 := heap_set _ _ 2 (.bool g.whole) _ _ _ (heap_set _ _ 1 (.int .i64 g.r) _ _ _ (heap_set _ _ 0 (.int .i64 g.l) _ _ _ hg.out.2.out))
      obtain ⟨z0, z1, z2, _, _, _⟩ := three_c (u := .int .i64 g.l) (v := .int .i64 g.r) (x := .bool g.whole) h3
      simp [results, Try.results17, go_sem, z0, z1, z2]
end Go.Proofs.Ythpffpgbmgnkcaa
