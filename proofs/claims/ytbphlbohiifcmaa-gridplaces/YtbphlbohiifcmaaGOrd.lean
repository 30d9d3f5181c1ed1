/- inOrder: where an item stands of which nothing is told. -/
import Derived.Test.YtbphlbohiifcmaaGTb
import Derived.BigRegion
namespace Go.Proofs.Ytbphlbohiifcmaa
open Go.RowKit
set_option linter.unusedVariables false      -- bounds that are for the walk

theorem wrapJ9 {p : Int} (h0 : -9000000000000000000 ≤ p) (h1 : p ≤ 9000000000000000000) : IntKind.i64.wrap p = p := by rw [IntKind.wrap_i64]; omega
/-- where an item stands from a cursor on -/
structure OrdIs (F : Tk) (cs rs cols B cc cr c r : Int) : Prop where
  free : FreeAt F ⟨c, cs, r, rs⟩
  within : c + cs - 1 ≤ cols
  c1 : 1 ≤ c
  r1 : cr ≤ r
  r2 : r ≤ max B cr + 1
  from_ : r = cr → cc ≤ c
  least : ∀ y z, cr ≤ y → y ≤ r → (y = cr → cc ≤ z) → 1 ≤ z → (y = r → z < c) → z + cs - 1 ≤ cols → ¬ FreeAt F ⟨z, cs, y, rs⟩
/-- while a place is looked for: in row y from column s on, nothing fits ahead of it -/
structure OrAt (F : Tk) (cs rs cols B cc cr y c : Int) : Prop where
  col : ColIs F ⟨if y = cr then cc else 1, cs, y, rs⟩ B c
  y1 : cr ≤ y
  y2 : y ≤ max B cr + 1
  prev : ∀ y' z, cr ≤ y' → y' < y → (y' = cr → cc ≤ z) → 1 ≤ z → z + cs - 1 ≤ cols → ¬ FreeAt F ⟨z, cs, y', rs⟩
theorem OrAt.done {F : Tk} {cs rs cols B cc cr y c : Int} (h : OrAt F cs rs cols B cc cr y c) (hc : ¬ cols < c + cs - 1) (c1 : 1 ≤ cc) : OrdIs F cs rs cols B cc cr c y := by
  have hge := h.col.ge
  refine ⟨h.col.free, by omega, ?_, h.y1, h.y2, fun e => ?_, fun y' z a1 a2 a3 a4 a5 a6 => ?_⟩
  · simp only at hge
    split at hge <;> omega
  · simp only at hge
    rw [if_pos e] at hge
    exact hge
  · by_cases e : y' = y
    · subst e
      have := h.col.least z (by
        simp only
        split
        · exact a3 (by assumption)
        · exact a4) (a5 rfl)
      exact this
    · exact h.prev y' z a1 (by omega) a3 a4 a6
theorem OrAt.more {F : Tk} {cs rs cols B cc cr y c c' : Int} (h : OrAt F cs rs cols B cc cr y c) (ok : TkOk F B) (hcs : 1 ≤ cs) (hco : cs ≤ cols) (hc : cols < c + cs - 1) (hn : ColIs F ⟨1, cs, y + 1, rs⟩ B c') : y ≤ max B cr ∧ OrAt F cs rs cols B cc cr (y + 1) c' := by
  have hy : y ≤ max B cr := by
    rcases Int.lt_or_le (max B cr) y with hlt | hle
    · exfalso
      have e : ¬ y = cr := by omega
      have hf : FreeAt F ⟨1, cs, y, rs⟩ := fun x z hh => by
        have h3 := hh.2.2.1
        simp only at h3
        cases hF : F x z with
        | none => rfl
        | some v =>
          have := ok.pos x z v hF
          omega
      have hl := h.col.least 1 (by simp only [if_neg e]; omega)
      have hge := h.col.ge
      simp only [if_neg e] at hge
      by_cases e1 : 1 < c
      · exact hl e1 hf
      · omega
    · exact hle
  refine ⟨hy, ?_, by have := h.y1; omega, by omega, fun y' z a1 a2 a3 a4 a5 => ?_⟩
  · have e : ¬ y + 1 = cr := by have := h.y1; omega
    rw [if_neg e]
    exact hn
  · by_cases e : y' = y
    · subst e
      have hl := h.col.least z (by
        simp only
        split
        · exact a3 (by assumption)
        · exact a4) (by omega)
      exact hl
    · exact h.prev y' z a1 (by omega) a3 a4 a5

set_option maxHeartbeats 8000000 in
set_option maxRecDepth 100000 in
theorem inOrder_any {w wq : World} {tb mb : Nat} {sv : Value} {F : Tk} {cols B : Int} {its : List Gi} (h : TbAt w wq tb mb sv F cols its) (ok : TkOk F B) (hB0 : 0 ≤ B) (hB : B ≤ 80000) {i : Gi} (s1 : 1 ≤ i.cs) (s2 : i.cs ≤ 20) (s3 : 1 ≤ i.rs) (s4 : i.rs ≤ 20) (hco : i.cs ≤ cols) (hco2 : cols ≤ 80000) {cc cr : Int} (q1 : 1 ≤ cc) (q2 : cc ≤ 80000) (q3 : 1 ≤ cr) (q4 : cr ≤ 80000) :
    Calls Try.prog 73 #[.pointer (some ⟨tb, 0, none⟩), gV i, cellV cc cr] wq fun e w' => ∃ c r, e = .returned (gV ⟨c, i.cs, r, i.rs⟩) ∧ OrdIs F i.cs i.rs cols B cc cr c r ∧ Below wq.heap.size wq w' := by
  obtain ⟨tl, t0, t1, t2⟩ := h.cells
  have HK := hidF ok
  obtain ⟨bc, bcs, br, brs⟩ := i
  simp only at s1 s2 s3 s4 hco
  have CC := hidF (fun (W : World) (hb : Below wq.heap.size wq W) (c r : Int) (c1 : 1 ≤ c) (c2 : c ≤ 90000) (r1 : 1 ≤ r) (r2 : r ≤ 90000) => clearCol_any (w := W) (h.held hb).map ok hB0 (by omega) (i := ⟨c, bcs, r, brs⟩) ⟨c1, by show c ≤ 100000; omega, s1, s2, r1, by show r ≤ 100000; omega, s3, s4⟩ c2)
  have LC := hidF (fun (W : World) (c r : Int) (c1 : 1 ≤ c) (c2 : c ≤ 100000) => lastCol_any (i := ⟨c, bcs, r, brs⟩) (by show -1000000 ≤ c; omega) (by show c ≤ 1000000; omega) (by show -1000000 ≤ bcs; omega) (by show bcs ≤ 1000000; omega) W)
  unfold gV cellV Gi.lc at *
  simp only at CC LC ⊢
  have HT : Hid (∀ c r : Int, IcAt wq (((wq.alloc (.cells #[.int .i64 c, .int .i64 bcs, .int .i64 r, .int .i64 brs] 47)).alloc (.cells #[.int .i64 cc, .int .i64 cr] 116)).alloc (.cells #[.int .i64 0, .int .i64 0, .int .i64 0, .int .i64 0] 47)) wq.heap.size (wq.heap.size + 1 + 1) ⟨c, bcs, r, brs⟩) := by
    intro c r
    have hh := three_blocks wq (.cells #[.int .i64 c, .int .i64 bcs, .int .i64 r, .int .i64 brs] 47) (.cells #[.int .i64 cc, .int .i64 cr] 116) (.cells #[.int .i64 0, .int .i64 0, .int .i64 0, .int .i64 0] 47)
    exact ⟨by go_grown, Nat.le_refl _, by omega, by omega, hh.1, hh.2.2⟩
  clear h ok
  go_enter Try.func73, Try.ntmps73
  go_upto_region 1 with fail
  go_cut [] (fun wx => Hid (IcAt wq wx wq.heap.size (wq.heap.size + 1 + 1) ⟨cc, bcs, cr, brs⟩))
  case first =>
    go_region
    all_goals
      go_wp2_with fail
      go_meet
      case rel => go_light; first | exact HT.out _ _ | exact (HT.out _ _).held (Below.refl _ _).drew | (have := (HT.out bc br).held (W := World.drew _) (Below.refl _ _).drew; exact (this.setC cc).setR cr)
  case rest =>
  have HC := hidF hcut.out
  obtain ⟨g4, hg4⟩ : ∃ g, wq.heap.size = g := ⟨_, rfl⟩
  obtain ⟨g6, hg6⟩ : ∃ g, g4 + 1 + 1 = g := ⟨_, rfl⟩
  rw [hg4, hg6] at HC
  rw [hg4, hg6]
  obtain ⟨z0, z1, z2, z3, z4⟩ := HC.out.box.cells
  simp only at z1 z2 z3 z4
  have tl2 : tb < wc.heap.size := Nat.lt_of_lt_of_le tl HC.out.below.size
  have t12 := (HC.out.below.cell (p := ⟨tb, 1, none⟩) tl).trans t1
  obtain ⟨w1, hw1⟩ : ∃ w9, w9 = wc := ⟨_, rfl⟩
  subst hw1
  have CW := hidF (CC.out w1.drew (HC.out.below.drew) cc cr q1 (by omega) q3 (by omega))
  have HD := hidF (HC.out.held (Below.refl w1.heap.size w1).drew)
  have HW := hidF (And.intro tl (And.intro t1 t2))
  clear hcut HT hg4 hg6 t1 t2 t0 tl
  go_upto_region 2 with fail
  go_cut [] (fun wx => Hid (∃ c', ColIs F ⟨cc, bcs, cr, brs⟩ B c' ∧ IcAt wq wx g4 g6 ⟨c', bcs, cr, brs⟩))
  case first =>
    go_region_with ((go_at_call 71; refine CW.out.mono ?_; rintro e w7 ⟨c', rfl, hcl, hb7⟩
                     have HX := hidF (And.intro hcl (HD.out.held hb7))
                     obtain ⟨y0, y1, y2, y3, y4⟩ := HX.out.2.box.cells
                     have y5 := HX.out.2.box.frz 0
                     clear hcl hb7))
    all_goals
      go_wp2_with fail
      go_meet
      case rel => go_light; exact ⟨c', HX.out.1, HX.out.2.setC c'⟩
  case rest =>
  obtain ⟨c0, hcl0, hI0⟩ := hcut.out
  have H0 : Hid (OrAt F bcs brs cols B cc cr cr c0 ∧ IcAt wq wc g4 g6 ⟨c0, bcs, cr, brs⟩) := by
    refine ⟨⟨?_, Int.le_refl _, by omega, fun y' z a1 a2 => by omega⟩, hI0⟩
    rw [if_pos rfl]
    exact hcl0
  have cb := hcl0.le
  have cg := hcl0.ge
  simp only at cb cg
  clear hcut hcl0 hI0 CW HD HC z1 z2 z3 z4 t12
  go_wp2_with fail
  go_loopw [] (fun wx => ∃ (y c : Int), 1 ≤ y ∧ y ≤ 80001 ∧ 1 ≤ c ∧ c ≤ 80001 ∧ Hid (OrAt F bcs brs cols B cc cr y c ∧ IcAt wq wx g4 g6 ⟨c, bcs, y, brs⟩)) (fun wx => (80003 - rowAt wx g4).toNat)
  case atStart => exact ⟨cr, c0, by omega, by omega, by omega, by omega, H0.out⟩
  case round =>
    obtain ⟨y, c, y1', y2', c1', c2', HZ⟩ := hrel
    obtain ⟨z0, z1, z2, z3, z4⟩ := HZ.out.2.box.cells
    simp only at z1 z2 z3 z4
    have HRA : Hid (rowAt wr g4 = y) := by show _ = _; unfold rowAt; rw [z3]
    obtain ⟨tl, t1, t2⟩ := HW.out
    have tl3 : tb < wr.heap.size := Nat.lt_of_lt_of_le tl HZ.out.2.below.size
    have t22 := (HZ.out.2.below.cell (p := ⟨tb, 2, none⟩) tl).trans t2
    have LW := hidF (fun W => LC.out W c y c1' (by omega))
    have W9 : IntKind.i64.wrap (c + bcs) = c + bcs := wrapJ9 (by omega) (by omega)
    obtain ⟨w2, hw2⟩ : ∃ w9, w9 = wr := ⟨_, rfl⟩
    subst hw2
    clear t1 t2
    go_upto_region 3 with fail
    go_cut [26] (fun s wx => s = .bool (decide (cols < c + bcs - 1)) ∧ Hid (IcAt wq wx g4 g6 ⟨c, bcs, y, brs⟩))
    case first =>
      go_region_held3 (fun wx => wx.cell? ⟨g4, 0, none⟩ = some (.int .i64 c) ∧ wx.cell? ⟨g4, 1, none⟩ = some (.int .i64 bcs) ∧ wx.cell? ⟨g4, 2, none⟩ = some (.int .i64 y) ∧ wx.cell? ⟨g4, 3, none⟩ = some (.int .i64 brs) ∧ wx.cell? ⟨tb, 2, none⟩ = some (.int .i64 cols)) (go_keep)
        ((go_at_call 69; refine (LW.out _).mono ?_; rintro e w7 ⟨rfl, hb7⟩
          have m0 := (hb7.cell (p := ⟨g4, 0, none⟩) z0).trans z1
          have m1 := (hb7.cell (p := ⟨g4, 1, none⟩) z0).trans z2
          have m2 := (hb7.cell (p := ⟨g4, 2, none⟩) z0).trans z3
          have m3 := (hb7.cell (p := ⟨g4, 3, none⟩) z0).trans z4
          have m4 := (hb7.cell (p := ⟨tb, 2, none⟩) tl3).trans t22
          have B7 := hidF (HZ.out.2.held ((Below.refl w2.heap.size w2).drew.trans hb7))
          clear hb7))
      all_goals
        go_wp2_with fail
        go_meet
        case rel => go_light; exact ⟨by first | rfl | simp, B7.out⟩
    case rest =>
    obtain ⟨rfl, HI2⟩ := hcut
    clear z1 z2 z3 z4
    obtain ⟨z0, z1, z2, z3, z4⟩ := HI2.out.box.cells
    simp only at z1 z2 z3 z4
    have zf0 := HI2.out.box.frz 0
    have zf2 := (HI2.out.setC 1).box.frz 2
    obtain ⟨x0, x1, x2, x3, x4⟩ := (HI2.out.setC 1).box.cells
    simp only [Gi.atC] at x1 x2 x3 x4
    by_cases hgo : cols < c + bcs - 1
    · have hd : decide (cols < c + bcs - 1) = true := by simpa using hgo
      have H5 := hidF ((HI2.out.setC 1).setR (y + 1))
      go_upto_region 5 with fail
      go_cut [] (fun wx => Hid (IcAt wq wx g4 g6 ⟨1, bcs, y + 1, brs⟩))
      case first =>
        go_wp2_with fail
        go_meet
        case rel => go_light; exact H5.out
      case rest =>
      have HC := hidF hcut.out
      clear z1 z2 z3 z4 x1 x2 x3 x4 hcut H5
      obtain ⟨z0, z1, z2, z3, z4⟩ := HC.out.box.cells
      simp only at z1 z2 z3 z4
      obtain ⟨tl, t1, t2⟩ := HW.out
      have tl4 : tb < wc.heap.size := Nat.lt_of_lt_of_le tl HC.out.below.size
      have t13 := (HC.out.below.cell (p := ⟨tb, 1, none⟩) tl).trans t1
      obtain ⟨w3, hw3⟩ : ∃ w9, w9 = wc := ⟨_, rfl⟩
      subst hw3
      have CW := hidF (CC.out w3.drew (HC.out.below.drew) 1 (y + 1) (by omega) (by omega) (by omega) (by omega))
      have HD := hidF (HC.out.held (Below.refl w3.heap.size w3).drew)
      clear t1 t2
      go_upto_region 6 with fail
      go_region_with ((go_at_call 71; refine CW.out.mono ?_; rintro e w7 ⟨c', rfl, hcl, hb7⟩
                       have HX := hidF (And.intro hcl (HD.out.held hb7))
                       obtain ⟨y0, y1, y2, y3, y4⟩ := HX.out.2.box.cells
                       have y5 := HX.out.2.box.frz 0
                       clear hcl hb7))
      all_goals
        have HN : Hid (OrAt F bcs brs cols B cc cr (y + 1) c' ∧ IcAt wq (w7.setCell ⟨g4, 0, none⟩ (.int .i64 c')) g4 g6 ⟨c', bcs, y + 1, brs⟩ ∧ y ≤ max B cr) := by
          obtain ⟨m1, m2⟩ := HZ.out.1.more HK.out s1 hco hgo HX.out.1
          exact ⟨m2, HX.out.2.setC c', m1⟩
        have HRB : Hid (rowAt (w7.setCell ⟨g4, 0, none⟩ (.int .i64 c')) g4 = y + 1) := by
          show _ = _
          unfold rowAt
          rw [HN.out.2.1.box.cells.2.2.2.1]
        have cb2 := HX.out.1.le
        have cg2 := HX.out.1.ge
        have yb := HN.out.2.2
        simp only at cb2 cg2
        go_wp2_with fail
        go_roundw
        case rel => go_light; exact ⟨y + 1, c', by omega, by omega, by omega, by omega, HN.out.1, HN.out.2.1⟩
        case measure => rw [HRB.out, HRA.out]; omega
    · have hd : decide (cols < c + bcs - 1) = false := by simpa using hgo
      have HOR := hidF (HZ.out.1.done hgo q1)
      obtain ⟨k0, _, _, _, _⟩ := HI2.out.res.cells
      have f0 := HI2.out.res.frz 0
      have f1 := HI2.out.res.frz 1
      have f2 := HI2.out.res.frz 2
      have f3 := HI2.out.res.frz 3
      obtain ⟨v0, v1, v2, v3, v4⟩ := HI2.out.res.cells
      simp only at v1 v2 v3 v4
      have ne := HI2.out.ne
      have l6 := HI2.out.lo6
      clear x1 x2 x3 x4 zf0 zf2
      go_wp2_with fail
      obtain ⟨_, k1, k2, k3, k4⟩ := (four_set HI2.out.res c bcs y brs).cells
      simp only at k1 k2 k3 k4
      refine bodyPost_ret (v := .agg #[.int .i64 c, .int .i64 bcs, .int .i64 y, .int .i64 brs]) ?_ rfl ⟨c, y, rfl, HOR.out, (((HI2.out.below.setCell l6 _).setCell l6 _).setCell l6 _).setCell l6 _⟩
      simp [results, Try.results73, go_sem, k1, k2, k3, k4]
end Go.Proofs.Ytbphlbohiifcmaa
