/- inWay: what has a cell of an item's. -/
import Derived.Test.YtbphlbohiifcmaaGTk
namespace Go.Proofs.Ytbphlbohiifcmaa
open Go.RowKit
set_option linter.unusedVariables false      -- bounds that are for the walk

structure WyAt (w wr : World) (b g : Nat) (F : Tk) (i : Gi) (y x : Int) : Prop where
  below : Below w.heap.size w wr
  map : MapF wr b F
  box : BxAt wr g i
  free : ∀ a d, i.has a d → (d < y ∨ (d = y ∧ a < x)) → F a d = none
theorem WyAt.held {w wr W : World} {b g : Nat} {F : Tk} {i : Gi} {y x : Int} (h : WyAt w wr b g F i y x) (hb : Below wr.heap.size wr W) : WyAt w W b g F i y x :=
  ⟨h.below.trans (hb.mono h.below.size), h.map.keep (hb.block b h.map.lt), (hb.block g h.box.cells.1).trans h.box, h.free⟩
/-- what inWay answers -/
def WayIs (F : Tk) (i : Gi) (v : Int) : Prop := (v = 0 ∧ FreeAt F i) ∨ (0 < v ∧ ∃ x y, i.has x y ∧ F x y = some v)

set_option maxHeartbeats 4000000 in
set_option maxRecDepth 100000 in
theorem inWay_any {w : World} {b : Nat} {F : Tk} (h : MapF w b F) (hv : ∀ x y v, F x y = some v → 0 < v) {i : Gi} (hi : i.Ok) :
    Calls Try.prog 87 #[.map (some b), gV i] w fun e w' => ∃ v, e = .returned (.int .i64 v) ∧ WayIs F i v ∧ Below w.heap.size w w' := by
  have hlt := h.lt
  have HV := hidF hv
  have LC := hidF (fun W => lastCol_any (i := i) (by have := hi.c1; omega) (by have := hi.c2; omega) (by have := hi.cs1; omega) (by have := hi.cs2; omega) W)
  have LR := hidF (fun W => lastRow_any (i := i) (by have := hi.r1; omega) (by have := hi.r2; omega) (by have := hi.rs1; omega) (by have := hi.rs2; omega) W)
  have HT : Hid (WyAt w (w.alloc (.cells #[.int .i64 i.c, .int .i64 i.cs, .int .i64 i.r, .int .i64 i.rs] 47)) b w.heap.size F i i.r i.c) := by
    have hb : Below w.heap.size w (w.alloc (.cells #[.int .i64 i.c, .int .i64 i.cs, .int .i64 i.r, .int .i64 i.rs] 47)) := (Below.refl _ _).alloc (Nat.le_refl _) _
    refine ⟨hb, h.keep (hb.block b hlt), heap_alloc_new w _, ?_⟩
    rintro a d ⟨h1, h2, h3, h4⟩ h5
    omega
  obtain ⟨g, hg⟩ : ∃ g, w.heap.size = g := ⟨_, rfl⟩
  have c1 := hi.c1; have c2 := hi.c2; have s1 := hi.cs1; have s2 := hi.cs2
  have r1 := hi.r1; have r2 := hi.r2; have t1 := hi.rs1; have t2 := hi.rs2
  have HH : Hid (∀ a d, i.has a d ↔ (i.c ≤ a ∧ a ≤ i.lc ∧ i.r ≤ d ∧ d ≤ i.lr)) := fun a d => Iff.rfl
  have elc : i.lc = i.c + i.cs - 1 := rfl
  have elr : i.lr = i.r + i.rs - 1 := rfl
  obtain ⟨lc, hlc⟩ : ∃ t, i.lc = t := ⟨_, rfl⟩
  obtain ⟨lr, hlr⟩ : ∃ t, i.lr = t := ⟨_, rfl⟩
  rw [hlc] at LC elc HH
  rw [hlr] at LR elr HH
  clear h hi hlc hlr hv
  unfold gV at *
  go_enter Try.func87, Try.ntmps87
  rw [hg] at HT
  obtain ⟨bc, bcs, br, brs, rfl⟩ : ∃ a1 a2 a3 a4, i = Gi.mk a1 a2 a3 a4 := ⟨i.c, i.cs, i.r, i.rs, rfl⟩
  obtain ⟨z0, z1, z2, z3, z4⟩ := HT.out.box.cells
  simp only at c1 c2 s1 s2 r1 r2 t1 t2 elc elr LC LR z1 z2 z3 z4 HT HH
  have el1 : bc ≤ lc := by omega
  have el2 : lc ≤ 100020 := by omega
  have er1 : br ≤ lr := by omega
  have er2 : lr ≤ 100020 := by omega
  clear elc elr
  go_wp2_with fail
  go_loopw [5] (fun yv wr => ∃ y : Int, br ≤ y ∧ y ≤ lr + 1 ∧ yv = .int .i64 y ∧ Hid (WyAt w wr b g F ⟨bc, bcs, br, brs⟩ y bc)) (fun yv _ => (lr + 1 - intV yv).toNat)
  case atStart => exact ⟨br, by omega, by omega, rfl, HT.out⟩
  case round =>
    obtain ⟨y, y1, y2, rfl, HZ⟩ := hrel
    obtain ⟨z0, z1, z2, z3, z4⟩ := HZ.out.box.cells
    simp only at z1 z2 z3 z4
    by_cases hy : y ≤ lr
    · go_wp2_with fail
      refine (LR.out _).mono ?_
      rintro e w5 ⟨rfl, hb5⟩
      have HZ5 := hidF (HZ.out.held hb5)
      clear hb5 z1 z2 z3 z4
      obtain ⟨z0, z1, z2, z3, z4⟩ := HZ5.out.box.cells
      simp only at z1 z2 z3 z4
      go_wp2_with fail
      go_loopw [6] (fun xv wr => ∃ x : Int, bc ≤ x ∧ x ≤ lc + 1 ∧ xv = .int .i64 x ∧ Hid (WyAt w wr b g F ⟨bc, bcs, br, brs⟩ y x)) (fun xv _ => (lc + 1 - intV xv).toNat)
      case atStart => exact ⟨bc, by omega, by omega, rfl, HZ5.out⟩
      case round =>
        obtain ⟨x, x1, x2, rfl, HY⟩ := hrel
        clear z1 z2 z3 z4
        obtain ⟨z0, z1, z2, z3, z4⟩ := HY.out.box.cells
        simp only at z1 z2 z3 z4
        by_cases hx : x ≤ lc
        · go_wp2_with fail
          refine (LC.out _).mono ?_
          rintro e w7 ⟨rfl, hb7⟩
          have HY7 := hidF (HY.out.held hb7)
          clear hb7 z1 z2 z3 z4
          have lk := run_look HY7.out.map x y
          unfold cellV at lk
          cases hF : F x y with
          | none =>
            rw [hF] at lk
            simp only [Option.getD_none, Option.isSome_none] at lk
            have HY8 : Hid (WyAt w w7 b g F ⟨bc, bcs, br, brs⟩ y (x + 1)) := by
              refine ⟨HY7.out.below, HY7.out.map, HY7.out.box, fun a d hh h5 => ?_⟩
              by_cases h6 : d < y ∨ (d = y ∧ a < x)
              · exact HY7.out.free a d hh h6
              · obtain ⟨rfl, rfl⟩ : a = x ∧ d = y := by omega
                exact hF
            clear hF
            go_wp2_with fail
            go_roundw
            case rel => go_light; exact ⟨x + 1, by omega, by omega, by go_num, HY8.out⟩
            case measure => simp [intV]; omega
          | some v =>
            rw [hF] at lk
            simp only [Option.getD_some, Option.isSome_some] at lk
            have HW : Hid (WayIs F ⟨bc, bcs, br, brs⟩ v) := .inr ⟨HV.out x y v hF, x, y, (HH.out x y).2 ⟨x1, hx, y1, hy⟩, hF⟩
            clear hF
            go_wp2_with fail
            go_returns
            exact ⟨v, rfl, HW.out, HY7.out.below⟩
        · obtain rfl : x = lc + 1 := by omega
          go_wp2_with fail
          refine (LC.out _).mono ?_
          rintro e w7 ⟨rfl, hb7⟩
          have HY7 := hidF (HY.out.held hb7)
          have HY8 : Hid (WyAt w w7 b g F ⟨bc, bcs, br, brs⟩ (y + 1) bc) := by
            refine ⟨HY7.out.below, HY7.out.map, HY7.out.box, fun a d hh h5 => ?_⟩
            have := (HH.out a d).1 hh
            exact HY7.out.free a d hh (by omega)
          clear hb7 z1 z2 z3 z4
          go_wp2_with fail
          go_roundw
          case rel => go_light; exact ⟨y + 1, by omega, by omega, by go_num, HY8.out⟩
          case measure => simp [intV]; omega
    · obtain rfl : y = lr + 1 := by omega
      go_wp2_with fail
      refine (LR.out _).mono ?_
      rintro e w5 ⟨rfl, hb5⟩
      have HZ5 := hidF (HZ.out.held hb5)
      have HW : Hid (WayIs F ⟨bc, bcs, br, brs⟩ 0) := by
        refine .inl ⟨rfl, fun a d hh => HZ5.out.free a d hh ?_⟩
        have := (HH.out a d).1 hh
        omega
      clear hb5 z1 z2 z3 z4
      go_wp2_with fail
      go_returns
      exact ⟨0, rfl, HW.out, HZ5.out.below⟩
end Go.Proofs.Ytbphlbohiifcmaa
