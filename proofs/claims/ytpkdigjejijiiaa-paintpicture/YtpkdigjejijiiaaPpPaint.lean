/- Pictures: a mark is painted. -/
import Derived.Test.YtpkdigjejijiiaaPpLeaf
namespace Go.Proofs.Ytpkdigjejijiiaa
open Go.RowKit
set_option linter.unusedVariables false      -- bounds that are for the walk

/-- a rect in a box of its own -/
structure RcAt (w : World) (g : Nat) (m : Mk) : Prop where
  blk : w.heap[g]? = some (.cells #[.int .i64 m.x, .int .i64 m.y, .int .i64 m.wd, .int .i64 m.h] 25 (0, 0))
theorem RcAt.cells {w : World} {g : Nat} {m : Mk} (h : RcAt w g m) : g < w.heap.size ∧ w.cell? ⟨g, 0, none⟩ = some (.int .i64 m.x) ∧ w.cell? ⟨g, 1, none⟩ = some (.int .i64 m.y) ∧ w.cell? ⟨g, 2, none⟩ = some (.int .i64 m.wd) ∧ w.cell? ⟨g, 3, none⟩ = some (.int .i64 m.h) :=
  ⟨ltH h.blk, by rw [cell_of_row _ _ _ _ _ _ h.blk]; rfl, by rw [cell_of_row _ _ _ _ _ _ h.blk]; rfl, by rw [cell_of_row _ _ _ _ _ _ h.blk]; rfl, by rw [cell_of_row _ _ _ _ _ _ h.blk]; rfl⟩

/-- while a mark is painted: k whole rows, and of the next one j pixels -/
structure PnAt (w wr : World) (B r H W : Nat) (rb : Nat → Nat) (F : Nat → Nat → Int) (m : Mk) (k j : Nat) : Prop where
  below : Below B w wr
  pic : Pic wr B r H W rb (fun y x => if y < k ∨ (y = k ∧ x < j) then pixS x y (F y x) m else F y x)
  size : wr.heap.size = w.heap.size + 2
  mkc : wr.heap[w.heap.size]? = some (.cells #[.int .i64 m.nd, .int .i64 m.c, .int .i64 m.x, .int .i64 m.y, .int .i64 m.wd, .int .i64 m.h, .string m.s] 28 (0, 0))
  rc : RcAt wr (w.heap.size + 1) m
  tl : r < w.heap.size
  tls : ∀ y, y < H → rb y < w.heap.size
section
variable {w wr : World} {B r H W k j : Nat} {rb : Nat → Nat} {F : Nat → Nat → Int} {m : Mk}
theorem PnAt.color (h : PnAt w wr B r H W rb F m k j) : wr.cell? ⟨w.heap.size, 1, none⟩ = some (.int .i64 m.c) := by
  rw [cell_of_row _ _ _ _ _ _ h.mkc]; rfl
/-- a row that the mark doesn't reach -/
theorem PnAt.skip (h : PnAt w wr B r H W rb F m k 0) (hn : ¬ rchP k m.y (topN m) m.h) : PnAt w wr B r H W rb F m (k + 1) 0 := by
  refine ⟨h.below, h.pic.congr (fun y x hy hx => ?_), h.size, h.mkc, h.rc, h.tl, h.tls⟩
  by_cases e : y = k
  · subst e
    rw [if_neg (by omega), if_pos (by omega)]
    unfold pixS
    rw [if_neg (fun hi => hn hi.1)]
  · by_cases e2 : y < k
    · rw [if_pos (by omega), if_pos (by omega)]
    · rw [if_neg (by omega), if_neg (by omega)]
/-- a row that is done -/
theorem PnAt.next (h : PnAt w wr B r H W rb F m k W) : PnAt w wr B r H W rb F m (k + 1) 0 := by
  refine ⟨h.below, h.pic.congr (fun y x hy hx => ?_), h.size, h.mkc, h.rc, h.tl, h.tls⟩
  by_cases e2 : y < k ∨ (y = k ∧ x < W)
  · rw [if_pos e2, if_pos (by omega)]
  · rw [if_neg e2, if_neg (by omega)]
/-- a pixel that the mark doesn't reach -/
theorem PnAt.stay (h : PnAt w wr B r H W rb F m k j) (hn : ¬ rchP j m.x 0 m.wd) : PnAt w wr B r H W rb F m k (j + 1) := by
  refine ⟨h.below, h.pic.congr (fun y x hy hx => ?_), h.size, h.mkc, h.rc, h.tl, h.tls⟩
  by_cases e : y = k ∧ x = j
  · obtain ⟨rfl, rfl⟩ := e
    rw [if_neg (by omega), if_pos (by omega)]
    unfold pixS
    rw [if_neg (fun hi => hn hi.2)]
  · by_cases e2 : y < k ∨ (y = k ∧ x < j)
    · rw [if_pos e2, if_pos (by omega)]
    · rw [if_neg e2, if_neg (by omega)]
/-- a pixel that it reaches -/
theorem PnAt.dot (h : PnAt w wr B r H W rb F m k j) (hk : k < H) (h1 : rchP k m.y (topN m) m.h) (h2 : rchP j m.x 0 m.wd) : PnAt w (wr.setCell ⟨rb k, j, none⟩ (.int .i64 m.c)) B r H W rb F m k (j + 1) := by
  have hl := h.tls k hk
  refine ⟨h.below.setCell (h.pic.los k hk) _, (h.pic.set (x := j) hk m.c).congr (fun y x hy hx => ?_), by simpa [World.setCell] using h.size, (Below.heap_setCell wr _ _ _ (by show w.heap.size ≠ rb k; omega)).trans h.mkc, ⟨(Below.heap_setCell wr _ _ _ (by show w.heap.size + 1 ≠ rb k; omega)).trans h.rc.blk⟩, h.tl, h.tls⟩
  by_cases e : y = k ∧ x = j
  · obtain ⟨rfl, rfl⟩ := e
    rw [if_pos ⟨rfl, rfl⟩, if_pos (by omega)]
    unfold pixS
    rw [if_pos ⟨h1, h2⟩]
  · rw [if_neg e]
    by_cases e2 : y < k ∨ (y = k ∧ x < j)
    · rw [if_pos e2, if_pos (by omega)]
    · rw [if_neg e2, if_neg (by omega)]
end

theorem paint_start {w : World} {B r H W : Nat} {rb : Nat → Nat} {F : Nat → Nat → Int} (h : Pic w B r H W rb F) (hB : B ≤ w.heap.size) {m : Mk} :
    PnAt w ((w.alloc (.cells #[.int .i64 m.nd, .int .i64 m.c, .int .i64 m.x, .int .i64 m.y, .int .i64 m.wd, .int .i64 m.h, .string m.s] 28)).alloc (.cells #[.int .i64 m.x, .int .i64 m.y, .int .i64 m.wd, .int .i64 m.h] 25)) B r H W rb F m 0 0 := by
  have b1 : ∀ o o2 : Obj, Below w.heap.size w ((w.alloc o).alloc o2) := fun o o2 => ((Below.refl _ w).alloc (Nat.le_refl _) _).alloc (by simp) _
  refine ⟨(b1 _ _).mono hB, (h.held (b1 _ _)).congr (fun y x _ _ => by rw [if_neg (by omega)]), by simp, ?_, ⟨?_⟩, h.top.lt, fun y hy => (h.row y hy).lt⟩
  · rw [Below.heap_alloc _ _ _ (by simp)]
    exact heap_alloc_new w _
  · have := heap_alloc_new (w.alloc (.cells #[.int .i64 m.nd, .int .i64 m.c, .int .i64 m.x, .int .i64 m.y, .int .i64 m.wd, .int .i64 m.h, .string m.s] 28)) (.cells #[.int .i64 m.x, .int .i64 m.y, .int .i64 m.wd, .int .i64 m.h] 25)
    simpa using this

set_option maxHeartbeats 4000000 in
set_option maxRecDepth 100000 in
theorem paint_any {w : World} {B r H W : Nat} {rb : Nat → Nat} {F : Nat → Nat → Int} (h : Pic w B r H W rb F) (hH : H ≤ 64) (hW : W ≤ 64) (hB : B ≤ w.heap.size) {m : Mk} (ok : MkOk m) :
    Calls Try.prog 9 #[.agg #[.int .i64 m.nd, .int .i64 m.c, .int .i64 m.x, .int .i64 m.y, .int .i64 m.wd, .int .i64 m.h, .string m.s], .slice (some ⟨r, 0, none⟩) H H] w fun e w' => e = .returned (.tuple #[]) ∧ Below B w w' ∧ Pic w' B r H W rb (fun y x => pixS x y (F y x) m) := by
  have HP := hidF h
  obtain ⟨x1, x2, y1, y2, w1, w2, h1, h2⟩ := ok
  have hr := h.top.lt
  clear h
  by_cases hz : m.s.toList.isEmpty = true
  · have hz' : topN m = 0 := by unfold topN; rw [if_pos hz]
    have HT : Hid (∀ k : Nat, rchP k m.y 0 m.h ↔ rchP k m.y (topN m) m.h) := by rw [hz']; exact fun _ => Iff.rfl
    obtain ⟨nd, c, x, y, wd, hh, s⟩ := m
    simp only at x1 x2 y1 y2 w1 w2 h1 h2 hz HT ⊢
    clear hz'
    go_enter Try.func9, Try.ntmps9
    go_wp2_with fail
    go_loopw [19] (fun iv wr => ∃ k : Nat, k ≤ H ∧ iv = .int .i64 k ∧ Hid (PnAt w wr B r H W rb F ⟨nd, c, x, y, wd, hh, s⟩ k 0)) (fun iv _ => H - (intV iv).toNat)
    case atStart => exact ⟨0, Nat.zero_le _, rfl, paint_start (m := ⟨nd, c, x, y, wd, hh, s⟩) HP.out hB⟩
    case round =>
      obtain ⟨k, hk, rfl, HQ⟩ := hrel
      obtain ⟨w5, hw5⟩ : ∃ w5, w5 = wr := ⟨_, rfl⟩
      subst hw5
      by_cases hlt : k < H
      · obtain ⟨g0, c0, c1, c2, c3⟩ := HQ.out.rc.cells
        have cr := HQ.out.pic.top.cell hlt
        have r1 := HQ.out.pic.top.lt
        have i1 : (0 : Int) ≤ (k : Int) := by omega
        have i2 : (k : Int) < (H : Int) := by omega
        simp only at c0 c1 c2 c3
        by_cases hy : rchP k y (0) hh
        · go_wp2_with (go_at_call 14; refine (reaches_any _ _ _ _ (by omega) (by omega) (by omega) (by omega) (by omega) (by omega) (by omega) (by omega) true (by simp [hy]) _).mono ?_; rintro e w6 ⟨rfl, rfl⟩)
          go_loopw [34] (fun jv wx => ∃ j : Nat, j ≤ W ∧ jv = .int .i64 j ∧ Hid (PnAt w wx B r H W rb F ⟨nd, c, x, y, wd, hh, s⟩ k j)) (fun jv _ => W - (intV jv).toNat)
          case atStart => exact ⟨0, Nat.zero_le _, rfl, HQ.out⟩
          case round =>
            obtain ⟨j, hj, rfl, HY⟩ := hrel
            by_cases hjl : j < W
            · obtain ⟨g0', c0', c1', c2', c3'⟩ := HY.out.rc.cells
              have cc := HY.out.color
              have m1 := ltH HY.out.mkc
              have cx := (HY.out.pic.row k hlt).cell hjl
              have fx := (HY.out.pic.row k hlt).frz j
              have rl := (HY.out.pic.row k hlt).lt
              have j1 : (0 : Int) ≤ (j : Int) := by omega
              have j2 : (j : Int) < (W : Int) := by omega
              simp only at c0' c1' c2' c3' cc
              by_cases hx : rchP j x 0 wd
              · go_wp2_with (go_at_call 14; refine (reaches_any _ _ _ _ (by omega) (by omega) (by omega) (by omega) (by omega) (by omega) (by omega) (by omega) true (by simp [hx]) _).mono ?_; rintro e w6 ⟨rfl, rfl⟩)
                go_roundw
                case rel => go_light; exact ⟨j + 1, by omega, by go_num, HY.out.dot hlt ((HT.out k).1 hy) hx⟩
                case measure => simp [intV]; omega
              · go_wp2_with (go_at_call 14; refine (reaches_any _ _ _ _ (by omega) (by omega) (by omega) (by omega) (by omega) (by omega) (by omega) (by omega) false (by simp [hx]) _).mono ?_; rintro e w6 ⟨rfl, rfl⟩)
                go_roundw
                case rel => go_light; exact ⟨j + 1, by omega, by go_num, HY.out.stay hx⟩
                case measure => simp [intV]; omega
            · obtain rfl : j = W := by omega
              have hl3 : ¬ (j : Int) < (j : Int) := by omega
              go_wp2_with fail
              go_roundw
              case rel => go_light; exact ⟨k + 1, by omega, by go_num, HY.out.next⟩
              case measure => simp [intV]; omega
        · go_wp2_with (go_at_call 14; refine (reaches_any _ _ _ _ (by omega) (by omega) (by omega) (by omega) (by omega) (by omega) (by omega) (by omega) false (by simp [hy]) _).mono ?_; rintro e w6 ⟨rfl, rfl⟩)
          go_roundw
          case rel => go_light; exact ⟨k + 1, by omega, by go_num, HQ.out.skip (fun h => hy ((HT.out k).2 h))⟩
          case measure => simp [intV]; omega
      · obtain rfl : k = H := by omega
        have hl3 : ¬ (k : Int) < (k : Int) := by omega
        go_wp2_with fail
        go_returns
        exact ⟨rfl, HQ.out.below, HQ.out.pic.congr (fun a b ha _ => by rw [if_pos (by omega)])⟩
  · have hz' : topN m = m.h / 2 := by unfold topN; rw [if_neg hz]
    obtain ⟨d1, d2⟩ := tdiv_two m.h
    obtain ⟨q, hq⟩ : ∃ q, Int.tdiv m.h 2 = q := ⟨_, rfl⟩
    rw [hq] at d1 d2
    have q1 : 0 < m.h → 0 ≤ q := fun h => by have := d1 (by omega); omega
    have q0 : -16777216 ≤ q := by
      rcases (by omega : 0 ≤ m.h ∨ m.h < 0) with h | h
      · have := d1 h; omega
      · have := d2 h; omega
    have q2 : q ≤ 16777216 := by
      rcases (by omega : 0 ≤ m.h ∨ m.h < 0) with h | h
      · have := d1 h; omega
      · have := d2 h; omega
    have HT : Hid (∀ k : Nat, rchP k m.y q m.h ↔ rchP k m.y (topN m) m.h) := by
      intro k
      rw [hz']
      unfold rchP
      constructor <;> (rintro ⟨a1, a2, a3, a4⟩; have := d1 (by omega); exact ⟨a1, a2, by omega, a4⟩)
    have hz2 : m.s.toList.isEmpty = false := by simpa using hz
    obtain ⟨nd, c, x, y, wd, hh, s⟩ := m
    simp only at x1 x2 y1 y2 w1 w2 h1 h2 hz2 HT hq q1 ⊢
    clear hz' hz d1 d2
    go_enter Try.func9, Try.ntmps9
    go_wp2_with fail
    go_loopw [19] (fun iv wr => ∃ k : Nat, k ≤ H ∧ iv = .int .i64 k ∧ Hid (PnAt w wr B r H W rb F ⟨nd, c, x, y, wd, hh, s⟩ k 0)) (fun iv _ => H - (intV iv).toNat)
    case atStart => exact ⟨0, Nat.zero_le _, rfl, paint_start (m := ⟨nd, c, x, y, wd, hh, s⟩) HP.out hB⟩
    case round =>
      obtain ⟨k, hk, rfl, HQ⟩ := hrel
      obtain ⟨w5, hw5⟩ : ∃ w5, w5 = wr := ⟨_, rfl⟩
      subst hw5
      by_cases hlt : k < H
      · obtain ⟨g0, c0, c1, c2, c3⟩ := HQ.out.rc.cells
        have cr := HQ.out.pic.top.cell hlt
        have r1 := HQ.out.pic.top.lt
        have i1 : (0 : Int) ≤ (k : Int) := by omega
        have i2 : (k : Int) < (H : Int) := by omega
        simp only at c0 c1 c2 c3
        by_cases hy : rchP k y (q) hh
        · go_wp2_with (go_at_call 14; refine (reaches_any _ _ _ _ (by omega) (by omega) (by omega) (by omega) (by omega) (by omega) (by omega) (by omega) true (by simp [hy]) _).mono ?_; rintro e w6 ⟨rfl, rfl⟩)
          go_loopw [34] (fun jv wx => ∃ j : Nat, j ≤ W ∧ jv = .int .i64 j ∧ Hid (PnAt w wx B r H W rb F ⟨nd, c, x, y, wd, hh, s⟩ k j)) (fun jv _ => W - (intV jv).toNat)
          case atStart => exact ⟨0, Nat.zero_le _, rfl, HQ.out⟩
          case round =>
            obtain ⟨j, hj, rfl, HY⟩ := hrel
            by_cases hjl : j < W
            · obtain ⟨g0', c0', c1', c2', c3'⟩ := HY.out.rc.cells
              have cc := HY.out.color
              have m1 := ltH HY.out.mkc
              have cx := (HY.out.pic.row k hlt).cell hjl
              have fx := (HY.out.pic.row k hlt).frz j
              have rl := (HY.out.pic.row k hlt).lt
              have j1 : (0 : Int) ≤ (j : Int) := by omega
              have j2 : (j : Int) < (W : Int) := by omega
              simp only at c0' c1' c2' c3' cc
              by_cases hx : rchP j x 0 wd
              · go_wp2_with (go_at_call 14; refine (reaches_any _ _ _ _ (by omega) (by omega) (by omega) (by omega) (by omega) (by omega) (by omega) (by omega) true (by simp [hx]) _).mono ?_; rintro e w6 ⟨rfl, rfl⟩)
                go_roundw
                case rel => go_light; exact ⟨j + 1, by omega, by go_num, HY.out.dot hlt ((HT.out k).1 hy) hx⟩
                case measure => simp [intV]; omega
              · go_wp2_with (go_at_call 14; refine (reaches_any _ _ _ _ (by omega) (by omega) (by omega) (by omega) (by omega) (by omega) (by omega) (by omega) false (by simp [hx]) _).mono ?_; rintro e w6 ⟨rfl, rfl⟩)
                go_roundw
                case rel => go_light; exact ⟨j + 1, by omega, by go_num, HY.out.stay hx⟩
                case measure => simp [intV]; omega
            · obtain rfl : j = W := by omega
              have hl3 : ¬ (j : Int) < (j : Int) := by omega
              go_wp2_with fail
              go_roundw
              case rel => go_light; exact ⟨k + 1, by omega, by go_num, HY.out.next⟩
              case measure => simp [intV]; omega
        · go_wp2_with (go_at_call 14; refine (reaches_any _ _ _ _ (by omega) (by omega) (by omega) (by omega) (by omega) (by omega) (by omega) (by omega) false (by simp [hy]) _).mono ?_; rintro e w6 ⟨rfl, rfl⟩)
          go_roundw
          case rel => go_light; exact ⟨k + 1, by omega, by go_num, HQ.out.skip (fun h => hy ((HT.out k).2 h))⟩
          case measure => simp [intV]; omega
      · obtain rfl : k = H := by omega
        have hl3 : ¬ (k : Int) < (k : Int) := by omega
        go_wp2_with fail
        go_returns
        exact ⟨rfl, HQ.out.below, HQ.out.pic.congr (fun a b ha _ => by rw [if_pos (by omega)])⟩
end Go.Proofs.Ytpkdigjejijiiaa
