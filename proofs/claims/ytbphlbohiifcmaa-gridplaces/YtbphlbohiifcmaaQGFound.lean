/- The document's grid: the first place from a cursor on. -/
import Derived.Test.YtbphlbohiifcmaaQGFree
namespace Go.Proofs.Ytbphlbohiifcmaa
open Go.RowKit
set_option linter.unusedVariables false      -- bounds that are for the walk

/-- within found: the item's own block, the answer's block -/
structure FdAt (w wr : World) (g g2 : Nat) (i : Gi) : Prop where
  below : Below w.heap.size w wr
  lo : w.heap.size ≤ g
  lo2 : w.heap.size ≤ g2
  ne : g ≠ g2
  box : QxAt wr g i
  res : QxAt wr g2 ⟨0, 0, 0, 0⟩
theorem FdAt.held {w wr W : World} {g g2 : Nat} {i : Gi} (h : FdAt w wr g g2 i) (hb : Below wr.heap.size wr W) : FdAt w W g g2 i :=
  ⟨h.below.trans (hb.mono h.below.size), h.lo, h.lo2, h.ne, h.box.held hb, h.res.held hb⟩
theorem QxAt.setC {w : World} {g : Nat} {i : Gi} (h : QxAt w g i) (x : Int) : QxAt (w.setCell ⟨g, 0, none⟩ (.int .i64 x)) g (i.atC x) := by
  unfold QxAt
  rw [heap_setCell_same w g 0 _ 48 _ h]
  rfl
theorem QxAt.setR {w : World} {g : Nat} {i : Gi} (h : QxAt w g i) (x : Int) : QxAt (w.setCell ⟨g, 2, none⟩ (.int .i64 x)) g (i.atR x) := by
  unfold QxAt
  rw [heap_setCell_same w g 2 _ 48 _ h]
  rfl
theorem QxAt.other {w : World} {g g2 k : Nat} {i : Gi} {v : Value} (h : QxAt w g i) (hg : g ≠ g2) : QxAt (w.setCell ⟨g2, k, none⟩ v) g i := (heap_setCell_other w ⟨g2, k, none⟩ g v hg).trans h
theorem FdAt.setRC {w wr : World} {g g2 : Nat} {i : Gi} (h : FdAt w wr g g2 i) (r c : Int) : FdAt w ((wr.setCell ⟨g, 2, none⟩ (.int .i64 r)).setCell ⟨g, 0, none⟩ (.int .i64 c)) g g2 ⟨c, i.cs, r, i.rs⟩ :=
  ⟨(h.below.setCell h.lo _).setCell h.lo _, h.lo, h.lo2, h.ne, (h.box.setR r).setC c, (h.res.other (Ne.symm h.ne)).other (Ne.symm h.ne)⟩
theorem four_setQ {w : World} {g : Nat} {i : Gi} (h : QxAt w g i) (a b c d : Int) : QxAt ((((w.setCell ⟨g, 0, none⟩ (.int .i64 a)).setCell ⟨g, 1, none⟩ (.int .i64 b)).setCell ⟨g, 2, none⟩ (.int .i64 c)).setCell ⟨g, 3, none⟩ (.int .i64 d)) g ⟨a, b, c, d⟩ := by
  have h0 := heap_setCell_same w g 0 _ 48 (.int .i64 a) h
  have h1 := heap_setCell_same _ g 1 _ 48 (.int .i64 b) h0
  have h2 := heap_setCell_same _ g 2 _ 48 (.int .i64 c) h1
  have h3 := heap_setCell_same _ g 3 _ 48 (.int .i64 d) h2
  unfold QxAt
  rw [h3]
  rfl
theorem two_blocks (w : World) (a b : Obj) : ((w.alloc a).alloc b).heap[w.heap.size]? = some a ∧ ((w.alloc a).alloc b).heap[w.heap.size + 1]? = some b := by
  refine ⟨?_, ?_⟩
  · show ((w.heap.push a).push b)[w.heap.size]? = some a
    rw [Array.getElem?_push, if_neg (by simp), Array.getElem?_push, if_pos rfl]
  · show ((w.heap.push a).push b)[w.heap.size + 1]? = some b
    rw [Array.getElem?_push, if_pos (by simp)]

set_option maxHeartbeats 8000000 in
set_option maxRecDepth 100000 in
theorem found_any {w : World} {lv sv : Value} {its : List Gi} {st : Nat → Bool} (hl : GsL w lv its) (hs : StL w sv its.length st) (hi : ∀ i ∈ its, i.Sm) {x : Gi} (s1 : 1 ≤ x.cs) (s2 : x.cs ≤ 20) (s3 : 1 ≤ x.rs) (s4 : x.rs ≤ 20) (hn : its.length ≤ 200)
    {cols cc cr c r : Int} (hO : OrdL its (fun j => st j = true) x.cs x.rs cols cc cr c r) (q1 : 1 ≤ cc) (q2 : cc ≤ 80000) (q3 : 1 ≤ cr) (q4 : r ≤ 90000) (q5 : cols ≤ 80000) :
    Calls Try.prog 50 #[lv, sv, gV x, .int .i64 cr, .int .i64 cc, .int .i64 cols] w fun e w' => e = .returned (gV ⟨c, x.cs, r, x.rs⟩) ∧ Below w.heap.size w w' := by
  obtain ⟨xc, xcs, xr, xrs⟩ := x
  simp only at s1 s2 s3 s4 hO ⊢
  have HO := hidF hO
  have o1 := hO.within
  have o2 := hO.c1
  have o3 := hO.r1
  have HF := hidF (fun (W : World) (hb : Below w.heap.size w W) (z y : Int) (z1 : 1 ≤ z) (z2 : z ≤ 100000) (y1 : 1 ≤ y) (y2 : y ≤ 100000) => free_any (w := W) (hl.below hb) (hs.below hb) hi (x := ⟨z, xcs, y, xrs⟩) ⟨by show 0 ≤ z; omega, by show z ≤ 1000000; omega, s1, s2, by show 0 ≤ y; omega, by show y ≤ 1000000; omega, s3, s4⟩ hn)
  have HT : Hid (FdAt w ((w.alloc (.cells #[.int .i64 xc, .int .i64 xcs, .int .i64 xr, .int .i64 xrs] 48)).alloc (.cells #[.int .i64 0, .int .i64 0, .int .i64 0, .int .i64 0] 48)) w.heap.size (w.heap.size + 1) ⟨xc, xcs, xr, xrs⟩) := by
    have hh := two_blocks w (.cells #[.int .i64 xc, .int .i64 xcs, .int .i64 xr, .int .i64 xrs] 48) (.cells #[.int .i64 0, .int .i64 0, .int .i64 0, .int .i64 0] 48)
    exact ⟨by go_grown, Nat.le_refl _, by omega, by omega, hh.1, hh.2⟩
  clear hl hs hi hO
  unfold gV at *
  simp only at HF ⊢
  go_enter Try.func50, Try.ntmps50
  go_wp2_with fail
  obtain ⟨g, hg⟩ : ∃ g, w.heap.size = g := ⟨_, rfl⟩
  obtain ⟨g2, hg2⟩ : ∃ g2, g + 1 = g2 := ⟨_, rfl⟩
  rw [hg, hg2] at HT ⊢
  have HG := hidF hg
  clear hg hg2
  go_loopw [3, 4] (fun yv zv wr => ∃ (y z c0 r0 : Int), cr ≤ y ∧ y ≤ r ∧ yv = .int .i64 y ∧ zv = .int .i64 z ∧ z = (if y = cr then cc else 1) ∧ Hid (FdAt w wr g g2 ⟨c0, xcs, r0, xrs⟩)) (fun yv _ _ => (r - intV yv).toNat)
  case atStart => exact ⟨cr, cc, xc, xr, by omega, by omega, rfl, rfl, by rw [if_pos rfl], HT.out⟩
  case round =>
    obtain ⟨y, z, c0, r0, y1, y2, rfl, rfl, hz, HZ⟩ := hrel
    have hz1 : 1 ≤ z := by rw [hz]; split <;> omega
    have hz2 : z ≤ 80000 := by rw [hz]; split <;> omega
    have HZ0 : Hid (y = cr → cc ≤ z) := fun e => by rw [hz, if_pos e]; omega
    have HZC : Hid (y = r → z ≤ c) := fun e => by
      rw [hz]
      split
      · rename_i h; exact HO.out.from_ (by omega)
      · exact o2
    clear hz
    obtain ⟨w5, hw5⟩ : ∃ w5, w5 = wr := ⟨_, rfl⟩
    subst hw5
    go_wp2_with fail
    go_loopw [4] (fun zv wx => ∃ (z' c1 r1 : Int), z ≤ z' ∧ z' ≤ 80001 ∧ zv = .int .i64 z' ∧ Hid ((y = r → z' ≤ c) ∧ FdAt w wx g g2 ⟨c1, xcs, r1, xrs⟩)) (fun zv _ => (80002 - intV zv).toNat)
    case atStart => exact ⟨z, c0, r0, by omega, by omega, rfl, HZC.out, HZ.out⟩
    case round =>
      obtain ⟨z', c1, r1, p1, p2, rfl, HY⟩ := hrel
      obtain ⟨x0, x1, x2, x3, x4⟩ := HY.out.2.box.cells
      have xf0 := HY.out.2.box.frz 0
      have xf2 := HY.out.2.box.frz 2
      simp only at x1 x2 x3 x4
      by_cases hin : z' + xcs - 1 ≤ cols
      · have HS := hidF (HY.out.2.setRC y z')
        have HP := hidF (show cr ≤ y ∧ y ≤ r ∧ (y = cr → cc ≤ z') ∧ 1 ≤ z' ∧ z' + xcs - 1 ≤ cols from ⟨y1, y2, fun e => by have := HZ0.out e; omega, by omega, hin⟩)
        obtain ⟨w6, hw6⟩ : ∃ w6, w6 = wr := ⟨_, rfl⟩
        subst hw6
        have HF2 := hidF (HF.out _ HS.out.below z' y (by omega) (by omega) (by omega) (by omega))
        obtain ⟨k0, k1, k2, k3, k4⟩ := HS.out.box.cells
        simp only at k1 k2 k3 k4
        go_wp2_with fail
        refine HF2.out.mono ?_
        rintro e w7 ⟨v, rfl, hb, hb7⟩
        have HX := hidF (HS.out.held hb7)
        have HB := hidF hb
        clear hb hb7
        by_cases hf : FreeL its (fun j => st j = true) ⟨z', xcs, y, xrs⟩
        · obtain rfl : v = .bool true := by
            rcases HB.out with h | h
            · exact h.1
            · exact absurd hf h.2
          have e2 : y = r ∧ z' = c := by
            have hp := HP.out
            have hy := HY.out.1
            by_cases e : y = r ∧ z' = c
            · exact e
            · exact absurd hf (HO.out.least y z' hp.1 hp.2.1 hp.2.2.1 hp.2.2.2.1 (fun e1 => by have := hy e1; omega) hp.2.2.2.2)
          obtain ⟨rfl, rfl⟩ := e2
          obtain ⟨v0, v1, v2, v3, v4⟩ := HX.out.box.cells
          obtain ⟨t0, t1, t2, t3, t4⟩ := HX.out.res.cells
          have f0 := HX.out.res.frz 0
          have f1 := HX.out.res.frz 1
          have f2 := HX.out.res.frz 2
          have f3 := HX.out.res.frz 3
          have ne := HX.out.ne
          have l6 := HX.out.lo2
          simp only at v1 v2 v3 v4 t1 t2 t3 t4
          clear hf k0 k1 k2 k3 k4 x0 x1 x2 x3 x4 xf0 xf2
          go_wp2_with fail
          obtain ⟨_, m1, m2, m3, m4⟩ := (four_setQ HX.out.res z' xcs y xrs).cells
          simp only at m1 m2 m3 m4
          refine bodyPost_ret (v := .agg #[.int .i64 z', .int .i64 xcs, .int .i64 y, .int .i64 xrs]) ?_ rfl ⟨rfl, (((HX.out.below.setCell l6 _).setCell l6 _).setCell l6 _).setCell l6 _⟩
          simp [results, Try.results50, go_sem, m1, m2, m3, m4]
        · obtain rfl : v = .bool false := by
            rcases HB.out with h | h
            · exact absurd h.2 hf
            · exact h.1
          have HN : Hid (y = r → z' + 1 ≤ c) := fun e => by
            have := HY.out.1 e
            by_cases e2 : z' = c
            · subst e2; subst e; exact absurd HO.out.free hf
            · omega
          clear hf
          go_wp2_with fail
          go_roundw
          case rel => go_light; exact ⟨z' + 1, z', y, by omega, by omega, by go_num, HN.out, HX.out⟩
          case measure => simp [intV]; omega
      · have hlt : y < r := by
          by_cases e : y = r
          · have := HY.out.1 e; omega
          · omega
        have hin' : ¬ z' + xcs - 1 ≤ cols := hin
        go_wp2_with fail
        go_roundw
        case rel => go_light; exact ⟨y + 1, 1, c1, r1, by omega, by omega, by go_num, rfl, by rw [if_neg (by omega)], HY.out.2⟩
        case measure => simp [intV]; omega
end Go.Proofs.Ytbphlbohiifcmaa
