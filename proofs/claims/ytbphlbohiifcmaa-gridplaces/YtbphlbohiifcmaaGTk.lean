/- take: the cells of an item; inWay: what has a cell of it. -/
import Derived.Test.YtbphlbohiifcmaaGPl
namespace Go.Proofs.Ytbphlbohiifcmaa
open Go.RowKit
set_option linter.unusedVariables false      -- bounds that are for the walk

/-- while cells are taken: those ahead of row y, and in it those ahead of column x -/
def takeTo (F : Tk) (i : Gi) (y x : Int) : Tk := fun a b => if i.has a b ∧ (b < y ∨ (b = y ∧ a < x)) then some i.lc else F a b
theorem takeTo_start (F : Tk) (i : Gi) : takeTo F i i.r i.c = F := by
  funext a b
  unfold takeTo
  rw [if_neg]
  rintro ⟨⟨h1, h2, h3, h4⟩, h | h⟩ <;> omega
theorem takeTo_row (F : Tk) (i : Gi) (y : Int) : takeTo F i y (i.lc + 1) = takeTo F i (y + 1) i.c := by
  funext a b
  unfold takeTo
  by_cases h : i.has a b
  · obtain ⟨h1, h2, h3, h4⟩ := h
    by_cases hb : b < y + 1
    · rw [if_pos ⟨⟨h1, h2, h3, h4⟩, by omega⟩, if_pos ⟨⟨h1, h2, h3, h4⟩, by omega⟩]
    · rw [if_neg (by rintro ⟨_, h | h⟩ <;> omega), if_neg (by rintro ⟨_, h | h⟩ <;> omega)]
  · rw [if_neg (fun e => h e.1), if_neg (fun e => h e.1)]
theorem takeTo_next (F : Tk) (i : Gi) (y x : Int) (h1 : i.c ≤ x) (h2 : x ≤ i.lc) (h3 : i.r ≤ y) (h4 : y ≤ i.lr) : (fun a b => if a = x ∧ b = y then some i.lc else takeTo F i y x a b) = takeTo F i y (x + 1) := by
  funext a b
  unfold takeTo
  by_cases h : a = x ∧ b = y
  · rw [if_pos h, if_pos]
    obtain ⟨rfl, rfl⟩ := h
    exact ⟨⟨h1, h2, h3, h4⟩, by omega⟩
  · rw [if_neg h]
    by_cases hh : i.has a b
    · by_cases hb : b < y ∨ (b = y ∧ a < x)
      · rw [if_pos ⟨hh, hb⟩, if_pos ⟨hh, by omega⟩]
      · rw [if_neg (fun e => hb e.2), if_neg (by rintro ⟨_, e⟩; omega)]
    · rw [if_neg (fun e => hh e.1), if_neg (fun e => hh e.1)]
theorem takeTo_all (F : Tk) (i : Gi) : takeTo F i (i.lr + 1) i.c = takeF F i := by
  funext a b
  unfold takeTo takeF
  by_cases h : i.has a b
  · rw [if_pos h, if_pos ⟨h, by have := h.2.2.2; omega⟩]
  · rw [if_neg h, if_neg (fun e => h e.1)]

/-- while cells are taken, in memory -/
structure TaAt (w wr : World) (b g : Nat) (F : Tk) (i : Gi) : Prop where
  map : MapF wr b F
  keep : KeepM w b wr
  box : BxAt wr g i
theorem TaAt.held {w wr W : World} {b g : Nat} {F : Tk} {i : Gi} (h : TaAt w wr b g F i) (hb : Below wr.heap.size wr W) : TaAt w W b g F i :=
  ⟨h.map.keep (hb.block b h.map.lt), h.keep.trans (KeepM.of_below hb), (hb.block g h.box.cells.1).trans h.box⟩

set_option maxHeartbeats 4000000 in
set_option maxRecDepth 100000 in
theorem take_any {w : World} {b : Nat} {F : Tk} (h : MapF w b F) {i : Gi} (hi : i.Ok) :
    Calls Try.prog 70 #[.map (some b), gV i] w fun e w' => e = .returned (.tuple #[]) ∧ MapF w' b (takeF F i) ∧ KeepM w b w' := by
  have hlt := h.lt
  have HI := hidF hi
  have LC := hidF (fun W => lastCol_any (i := i) (by have := hi.c1; omega) (by have := hi.c2; omega) (by have := hi.cs1; omega) (by have := hi.cs2; omega) W)
  have LR := hidF (fun W => lastRow_any (i := i) (by have := hi.r1; omega) (by have := hi.r2; omega) (by have := hi.rs1; omega) (by have := hi.rs2; omega) W)
  have HT : Hid (TaAt w (w.alloc (.cells #[.int .i64 i.c, .int .i64 i.cs, .int .i64 i.r, .int .i64 i.rs] 47)) b w.heap.size (takeTo F i i.r i.c) i) := by
    have hb : Below w.heap.size w (w.alloc (.cells #[.int .i64 i.c, .int .i64 i.cs, .int .i64 i.r, .int .i64 i.rs] 47)) := (Below.refl _ _).alloc (Nat.le_refl _) _
    refine ⟨?_, KeepM.of_below hb, heap_alloc_new w _⟩
    rw [takeTo_start]
    exact h.keep (hb.block b hlt)
  have hgb : w.heap.size ≠ b := by omega
  obtain ⟨g, hg⟩ : ∃ g, w.heap.size = g := ⟨_, rfl⟩
  have c1 := hi.c1; have c2 := hi.c2; have s1 := hi.cs1; have s2 := hi.cs2
  have r1 := hi.r1; have r2 := hi.r2; have t1 := hi.rs1; have t2 := hi.rs2
  have HLC := hidF (takeTo_row F i)
  have HNX := hidF (takeTo_next F i)
  have HAL := hidF (takeTo_all F i)
  have elc : i.lc = i.c + i.cs - 1 := rfl
  have elr : i.lr = i.r + i.rs - 1 := rfl
  obtain ⟨lc, hlc⟩ : ∃ t, i.lc = t := ⟨_, rfl⟩
  obtain ⟨lr, hlr⟩ : ∃ t, i.lr = t := ⟨_, rfl⟩
  rw [hlc] at LC elc HLC HNX
  rw [hlr] at LR elr HAL HNX
  have HE : Hid (∀ x y, TaAt w x b g y i → TaAt w x b g y i) := fun _ _ h => h
  clear h hi hlc hlr
  unfold gV at *
  go_enter Try.func70, Try.ntmps70
  rw [hg] at HT hgb
  obtain ⟨bc, bcs, br, brs, rfl⟩ : ∃ a1 a2 a3 a4, i = Gi.mk a1 a2 a3 a4 := ⟨i.c, i.cs, i.r, i.rs, rfl⟩
  obtain ⟨z0, z1, z2, z3, z4⟩ := HT.out.box.cells
  simp only at c1 c2 s1 s2 r1 r2 t1 t2 elc elr LC LR z1 z2 z3 z4 HT
  have el1 : bc ≤ lc := by omega
  have el2 : lc ≤ 100020 := by omega
  have er1 : br ≤ lr := by omega
  have er2 : lr ≤ 100020 := by omega
  clear elc elr
  go_wp2_with fail
  go_loopw [4] (fun yv wr => ∃ y : Int, br ≤ y ∧ y ≤ lr + 1 ∧ yv = .int .i64 y ∧ Hid (TaAt w wr b g (takeTo F ⟨bc, bcs, br, brs⟩ y bc) ⟨bc, bcs, br, brs⟩)) (fun yv _ => (lr + 1 - intV yv).toNat)
  case atStart => exact ⟨br, by omega, by omega, rfl, HT.out⟩
  case round =>
    obtain ⟨y, y1, y2, rfl, HZ⟩ := hrel
    obtain ⟨z0, z1, z2, z3, z4⟩ := HZ.out.box.cells
    simp only at z1 z2 z3 z4
    by_cases hy : y ≤ lr
    · go_wp2_with fail
      refine (LR.out _).mono ?_
      rintro e w5 ⟨rfl, hb5⟩
      have HZ5 := hidF (HZ.out.held hb5)
      clear hb5 z1 z2 z3 z4
      obtain ⟨z0, z1, z2, z3, z4⟩ := HZ5.out.box.cells
      simp only at z1 z2 z3 z4
      go_wp2_with fail
      go_loopw [5] (fun xv wr => ∃ x : Int, bc ≤ x ∧ x ≤ lc + 1 ∧ xv = .int .i64 x ∧ Hid (TaAt w wr b g (takeTo F ⟨bc, bcs, br, brs⟩ y x) ⟨bc, bcs, br, brs⟩)) (fun xv _ => (lc + 1 - intV xv).toNat)
      case atStart => exact ⟨bc, by omega, by omega, rfl, HZ5.out⟩
      case round =>
        obtain ⟨x, x1, x2, rfl, HY⟩ := hrel
        clear z1 z2 z3 z4
        obtain ⟨z0, z1, z2, z3, z4⟩ := HY.out.box.cells
        simp only at z1 z2 z3 z4
        by_cases hx : x ≤ lc
        · go_wp2_with fail
          refine (LC.out _).mono ?_
          rintro e w7 ⟨rfl, hb7⟩
          have HY7 := hidF (HY.out.held hb7)
          clear hb7 z1 z2 z3 z4
          obtain ⟨z0, z1, z2, z3, z4⟩ := HY7.out.box.cells
          simp only at z1 z2 z3 z4
          go_wp2_with fail
          refine (LC.out _).mono ?_
          rintro e w8 ⟨rfl, hb8⟩
          have HY8 := hidF (HY7.out.held hb8)
          clear hb8 z1 z2 z3 z4
          obtain ⟨o, mk, hM⟩ := run_upd HY8.out.map x y lc
          unfold cellV at mk
          rw [HNX.out y x x1 hx y1 hy] at hM
          have HM := hidF hM
          clear hM
          go_wp2_with fail
          go_roundw
          case rel => go_light; exact ⟨x + 1, by omega, by omega, by go_num, HM.out, HY8.out.keep.trans (KeepM.putO _ _ _), HY8.out.box.keep (KeepM.putO _ _ _) hgb⟩
          case measure => simp [intV]; omega
        · obtain rfl : x = lc + 1 := by omega
          go_wp2_with fail
          refine (LC.out _).mono ?_
          rintro e w7 ⟨rfl, hb7⟩
          have HY7 := hidF (HY.out.held hb7)
          rw [HLC.out] at HY7
          clear hb7 z1 z2 z3 z4
          go_wp2_with fail
          go_roundw
          case rel => go_light; exact ⟨y + 1, by omega, by omega, by go_num, HY7.out⟩
          case measure => simp [intV]; omega
    · obtain rfl : y = lr + 1 := by omega
      go_wp2_with fail
      refine (LR.out _).mono ?_
      rintro e w5 ⟨rfl, hb5⟩
      have HZ5 := hidF (HZ.out.held hb5)
      rw [HAL.out] at HZ5
      clear hb5 z1 z2 z3 z4
      go_wp2_with fail
      go_returns
      exact ⟨rfl, HZ5.out.map, HZ5.out.keep⟩
end Go.Proofs.Ytbphlbohiifcmaa
