/- A table in memory; inCol: where an item stands whose column is told. -/
import Derived.Test.YtbphlbohiifcmaaGTab
namespace Go.Proofs.Ytbphlbohiifcmaa
open Go.RowKit
set_option linter.unusedVariables false      -- bounds that are for the walk

structure TbAt (w wr : World) (tb mb : Nat) (sv : Value) (F : Tk) (cols : Int) (its : List Gi) : Prop where
  below : Below w.heap.size w wr
  tab : wr.heap[tb]? = some (.cells #[sv, .map (some mb), .int .i64 cols] 91 (0, 0))
  lot : w.heap.size ≤ tb
  lom : w.heap.size ≤ mb
  row : wr.ownsRow w.heap.size 47 4 sv its.length (gsC its)
  map : MapF wr mb F
  ntm : tb ≠ mb
  nst : sv.ownBlock ≠ some tb
  nsm : sv.ownBlock ≠ some mb
section
variable {w wr W : World} {tb mb : Nat} {sv : Value} {F : Tk} {cols : Int} {its : List Gi}
theorem TbAt.held (h : TbAt w wr tb mb sv F cols its) (hb : Below wr.heap.size wr W) : TbAt w W tb mb sv F cols its :=
  ⟨h.below.trans (hb.mono h.below.size), (hb.block tb (ltH h.tab)).trans h.tab, h.lot, h.lom, h.row.kept (row := none) ⟨hb.os, hb.tape, hb.output, hb.size, fun k hk _ => hb.block k hk⟩ (by cases sv.ownBlock <;> simp), h.map.keep (hb.block mb h.map.lt), h.ntm, h.nst, h.nsm⟩
theorem TbAt.cells (h : TbAt w wr tb mb sv F cols its) : tb < wr.heap.size ∧ wr.cell? ⟨tb, 0, none⟩ = some sv ∧ wr.cell? ⟨tb, 1, none⟩ = some (.map (some mb)) ∧ wr.cell? ⟨tb, 2, none⟩ = some (.int .i64 cols) := by
  refine ⟨ltH h.tab, ?_, ?_, ?_⟩ <;> rw [cell_of_row wr tb _ _ _ _ h.tab] <;> rfl
theorem TbAt.frz (h : TbAt w wr tb mb sv F cols its) (k : Nat) : wr.frozen? ⟨tb, k, none⟩ = false := by simp [World.frozen?, h.tab]
end

/-- within inCol and inOrder: the item's own block, the answer's block -/
structure IcAt (wr wx : World) (g4 g6 : Nat) (i : Gi) : Prop where
  below : Below wr.heap.size wr wx
  lo4 : wr.heap.size ≤ g4
  lo6 : wr.heap.size ≤ g6
  ne : g4 ≠ g6
  box : BxAt wx g4 i
  res : BxAt wx g6 ⟨0, 0, 0, 0⟩
theorem IcAt.held {wr wx W : World} {g4 g6 : Nat} {i : Gi} (h : IcAt wr wx g4 g6 i) (hb : Below wx.heap.size wx W) : IcAt wr W g4 g6 i :=
  ⟨h.below.trans (hb.mono h.below.size), h.lo4, h.lo6, h.ne, (hb.block g4 h.box.cells.1).trans h.box, (hb.block g6 h.res.cells.1).trans h.res⟩
theorem IcAt.setC {wr wx : World} {g4 g6 : Nat} {i : Gi} (h : IcAt wr wx g4 g6 i) (x : Int) : IcAt wr (wx.setCell ⟨g4, 0, none⟩ (.int .i64 x)) g4 g6 (i.atC x) := by
  refine ⟨h.below.setCell h.lo4 _, h.lo4, h.lo6, h.ne, ?_, (heap_setCell_other wx ⟨g4, 0, none⟩ g6 _ (Ne.symm h.ne)).trans h.res⟩
  unfold BxAt
  rw [heap_setCell_same wx g4 0 _ 47 _ h.box]
  rfl
theorem IcAt.setR {wr wx : World} {g4 g6 : Nat} {i : Gi} (h : IcAt wr wx g4 g6 i) (x : Int) : IcAt wr (wx.setCell ⟨g4, 2, none⟩ (.int .i64 x)) g4 g6 (i.atR x) := by
  refine ⟨h.below.setCell h.lo4 _, h.lo4, h.lo6, h.ne, ?_, (heap_setCell_other wx ⟨g4, 2, none⟩ g6 _ (Ne.symm h.ne)).trans h.res⟩
  unfold BxAt
  rw [heap_setCell_same wx g4 2 _ 47 _ h.box]
  rfl
theorem four_set {w : World} {g : Nat} {i : Gi} (h : BxAt w g i) (a b c d : Int) : BxAt ((((w.setCell ⟨g, 0, none⟩ (.int .i64 a)).setCell ⟨g, 1, none⟩ (.int .i64 b)).setCell ⟨g, 2, none⟩ (.int .i64 c)).setCell ⟨g, 3, none⟩ (.int .i64 d)) g ⟨a, b, c, d⟩ := by
  have h0 := heap_setCell_same w g 0 _ 47 (.int .i64 a) h
  have h1 := heap_setCell_same _ g 1 _ 47 (.int .i64 b) h0
  have h2 := heap_setCell_same _ g 2 _ 47 (.int .i64 c) h1
  have h3 := heap_setCell_same _ g 3 _ 47 (.int .i64 d) h2
  unfold BxAt
  rw [h3]
  rfl
theorem three_blocks (w : World) (a b c : Obj) : (((w.alloc a).alloc b).alloc c).heap[w.heap.size]? = some a ∧ (((w.alloc a).alloc b).alloc c).heap[w.heap.size + 1]? = some b ∧ (((w.alloc a).alloc b).alloc c).heap[w.heap.size + 1 + 1]? = some c := by
  refine ⟨?_, ?_, ?_⟩
  · show (((w.heap.push a).push b).push c)[w.heap.size]? = some a
    rw [Array.getElem?_push, if_neg (by simp; omega), Array.getElem?_push, if_neg (by simp), Array.getElem?_push, if_pos rfl]
  · show (((w.heap.push a).push b).push c)[w.heap.size + 1]? = some b
    rw [Array.getElem?_push, if_neg (by simp), Array.getElem?_push, if_pos (by simp)]
  · show (((w.heap.push a).push b).push c)[w.heap.size + 1 + 1]? = some c
    rw [Array.getElem?_push, if_pos (by simp)]

set_option maxHeartbeats 4000000 in
set_option maxRecDepth 100000 in
theorem inCol_any {w wr : World} {tb mb : Nat} {sv : Value} {F : Tk} {cols B : Int} {its : List Gi} (h : TbAt w wr tb mb sv F cols its) (ok : TkOk F B) (hB0 : 0 ≤ B) (hB : B ≤ 80000) {i : Gi} (hi : (i.atR 1).Ok) (hc : i.c ≤ 80000) {cc cr : Int} (q1 : 0 ≤ cc) (q2 : cc ≤ 80000) (q3 : 1 ≤ cr) (q4 : cr ≤ 80000) :
    Calls Try.prog 72 #[.pointer (some ⟨tb, 0, none⟩), gV i, cellV cc cr] wr fun e w' => ∃ r, e = .returned (gV (i.atR r)) ∧ RowIs F (i.atR (if i.c < cc then cr + 1 else cr)) B r ∧ Below wr.heap.size wr w' := by
  obtain ⟨tl, t0, t1, t2⟩ := h.cells
  obtain ⟨r0, hr0⟩ : ∃ r, (if i.c < cc then cr + 1 else cr) = r := ⟨_, rfl⟩
  have r01 : 1 ≤ r0 := by rw [← hr0]; split <;> omega
  have r02 : r0 ≤ 80001 := by rw [← hr0]; split <;> omega
  have CR := hidF (fun (W : World) (hb : Below wr.heap.size wr W) => clearRow_any (w := W) (h.held hb).map ok hB0 (by omega) (i := i.atR r0) ⟨hi.c1, hi.c2, hi.cs1, hi.cs2, r01, by show r0 ≤ 100000; omega, hi.rs1, hi.rs2⟩ (by show r0 ≤ 90000; omega))
  have HR0 := hidF hr0
  have HI := hidF hi
  rw [hr0]
  obtain ⟨bc, bcs, br, brs⟩ := i
  unfold gV cellV Gi.atR at *
  simp only at CR HR0 hc ⊢
  have HT : Hid (∀ r : Int, IcAt wr (((wr.alloc (.cells #[.int .i64 bc, .int .i64 bcs, .int .i64 r, .int .i64 brs] 47)).alloc (.cells #[.int .i64 cc, .int .i64 cr] 116)).alloc (.cells #[.int .i64 0, .int .i64 0, .int .i64 0, .int .i64 0] 47)) wr.heap.size (wr.heap.size + 1 + 1) ⟨bc, bcs, r, brs⟩) := by
    intro r
    have hh := three_blocks wr (.cells #[.int .i64 bc, .int .i64 bcs, .int .i64 r, .int .i64 brs] 47) (.cells #[.int .i64 cc, .int .i64 cr] 116) (.cells #[.int .i64 0, .int .i64 0, .int .i64 0, .int .i64 0] 47)
    exact ⟨by go_grown, Nat.le_refl _, by omega, by omega, hh.1, hh.2.2⟩
  clear h hi hr0
  go_enter Try.func72, Try.ntmps72
  go_upto_if 14 with fail
  go_cut [] (fun wx => Hid (IcAt wr wx wr.heap.size (wr.heap.size + 1 + 1) ⟨bc, bcs, r0, brs⟩))
  case first =>
    by_cases hcc : bc < cc
    · have E := hidF (show cr + 1 = r0 by have := HR0.out; rw [if_pos hcc] at this; exact this)
      go_wp2_with fail
      go_meet
      case rel => go_light; rw [← E.out]; exact HT.out _
    · have E := hidF (show cr = r0 by have := HR0.out; rw [if_neg hcc] at this; exact this)
      go_wp2_with fail
      go_meet
      case rel => go_light; rw [← E.out]; exact HT.out _
  case rest =>
  have HC := hidF hcut.out
  obtain ⟨z0, z1, z2, z3, z4⟩ := HC.out.box.cells
  simp only at z1 z2 z3 z4
  have tl2 : tb < wc.heap.size := Nat.lt_of_lt_of_le tl HC.out.below.size
  have t12 := (HC.out.below.cell (p := ⟨tb, 1, none⟩) tl).trans t1
  obtain ⟨w1, hw1⟩ : ∃ w9, w9 = wc := ⟨_, rfl⟩
  subst hw1
  have CR2 := hidF (CR.out w1.drew (HC.out.below.drew))
  have HD := hidF (HC.out.held (Below.refl w1.heap.size w1).drew)
  obtain ⟨g4, hg4⟩ : ∃ g, wr.heap.size = g := ⟨_, rfl⟩
  obtain ⟨g6, hg6⟩ : ∃ g, g4 + 1 + 1 = g := ⟨_, rfl⟩
  rw [hg4, hg6] at HC HD
  rw [hg4] at z0 z1 z2 z3 z4
  have HG := hidF hg4
  clear hcut t0 t1 t2 HT CR
  go_upto_region 4 with fail
  rw [hg4, hg6]
  go_cut [] (fun wx => Hid (∃ r, RowIs F ⟨bc, bcs, r0, brs⟩ B r ∧ IcAt wr wx g4 g6 ⟨bc, bcs, r, brs⟩))
  case first =>
    clear hg4 hg6
    go_region_with ((go_at_call 88; refine CR2.out.mono ?_; rintro e w7 ⟨r, rfl, hr, hb7⟩
                     have HX := hidF (And.intro hr (HD.out.held hb7))
                     obtain ⟨y0, y1, y2, y3, y4⟩ := HX.out.2.box.cells
                     have y5 := HX.out.2.box.frz 2
                     clear hr hb7))
    all_goals
      go_wp2_with fail
      go_meet
      case rel => go_light; exact ⟨r, HX.out.1, HX.out.2.setR r⟩
  case rest =>
  obtain ⟨r, hr, hI⟩ := hcut.out
  have HF := hidF (And.intro hr hI)
  obtain ⟨y0, y1, y2, y3, y4⟩ := hI.box.cells
  obtain ⟨x0, x1, x2, x3, x4⟩ := hI.res.cells
  have f0 := hI.res.frz 0
  have f1 := hI.res.frz 1
  have f2 := hI.res.frz 2
  have f3 := hI.res.frz 3
  have ne := hI.ne
  have l6 := hI.lo6
  simp only at y1 y2 y3 y4 x1 x2 x3 x4
  clear hcut hr hI hg4 hg6
  go_wp2_with fail
  obtain ⟨_, k1, k2, k3, k4⟩ := (four_set HF.out.2.res bc bcs r brs).cells
  simp only at k1 k2 k3 k4
  refine bodyPost_ret (v := .agg #[.int .i64 bc, .int .i64 bcs, .int .i64 r, .int .i64 brs]) ?_ rfl ⟨r, rfl, HF.out.1, (((HF.out.2.below.setCell l6 _).setCell l6 _).setCell l6 _).setCell l6 _⟩
  simp [results, Try.results72, go_sem, k1, k2, k3, k4]
end Go.Proofs.Ytbphlbohiifcmaa
