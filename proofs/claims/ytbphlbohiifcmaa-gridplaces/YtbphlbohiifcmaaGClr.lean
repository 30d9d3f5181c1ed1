/- clearCol, clearRow: the least column, the least row at which none of an item's cells is taken. -/
import Derived.Test.YtbphlbohiifcmaaGWay
namespace Go.Proofs.Ytbphlbohiifcmaa
open Go.RowKit
set_option linter.unusedVariables false      -- bounds that are for the walk

def Gi.atC (i : Gi) (c : Int) : Gi := ⟨c, i.cs, i.r, i.rs⟩
def Gi.atR (i : Gi) (r : Int) : Gi := ⟨i.c, i.cs, r, i.rs⟩
theorem Gi.Ok.atC {i : Gi} (h : i.Ok) {c : Int} (h1 : 1 ≤ c) (h2 : c ≤ 100000) : (i.atC c).Ok := ⟨h1, h2, h.cs1, h.cs2, h.r1, h.r2, h.rs1, h.rs2⟩
theorem Gi.Ok.atR {i : Gi} (h : i.Ok) {r : Int} (h1 : 1 ≤ r) (h2 : r ≤ 100000) : (i.atR r).Ok := ⟨h.c1, h.c2, h.cs1, h.cs2, h1, h2, h.rs1, h.rs2⟩
/-- the least column from the item's own on at which it is free -/
structure ColIs (F : Tk) (i : Gi) (B c : Int) : Prop where
  ge : i.c ≤ c
  free : FreeAt F (i.atC c)
  least : ∀ z, i.c ≤ z → z < c → ¬ FreeAt F (i.atC z)
  le : c ≤ max i.c (B + 1)
structure RowIs (F : Tk) (i : Gi) (B r : Int) : Prop where
  ge : i.r ≤ r
  free : FreeAt F (i.atR r)
  least : ∀ z, i.r ≤ z → z < r → ¬ FreeAt F (i.atR z)
  le : r ≤ max i.r (B + 1)
theorem TkOk.vpos {F : Tk} {B : Int} (h : TkOk F B) : ∀ x y v, F x y = some v → 0 < v := fun x y v e => by have := h.pos x y v e; omega

theorem WayIs.bd {F : Tk} {B : Int} {i : Gi} {v : Int} (h : WayIs F i v) (ok : TkOk F B) (hB : 0 ≤ B) : 0 ≤ v ∧ v ≤ B ∧ (v = 0 ∨ i.c ≤ v) := by
  rcases h with ⟨h, _⟩ | ⟨h, x, y, hh, hf⟩
  · omega
  · have := ok.pos x y v hf
    have := hh.1
    omega
theorem BxAt.frz {w : World} {g : Nat} {i : Gi} (h : BxAt w g i) (k : Nat) : w.frozen? ⟨g, k, none⟩ = false := by
  have hh : w.heap[g]? = _ := h
  simp [World.frozen?, hh]
/-- while a column is looked for -/
structure CcAt (w wr : World) (b g : Nat) (F : Tk) (i : Gi) (B c : Int) : Prop where
  below : Below w.heap.size w wr
  map : MapF wr b F
  box : BxAt wr g (i.atC c)
  ge : i.c ≤ c
  le : c ≤ max i.c (B + 1)
  least : ∀ z, i.c ≤ z → z < c → ¬ FreeAt F (i.atC z)
theorem CcAt.held {w wr W : World} {b g : Nat} {F : Tk} {i : Gi} {B c : Int} (h : CcAt w wr b g F i B c) (hb : Below wr.heap.size wr W) : CcAt w W b g F i B c :=
  ⟨h.below.trans (hb.mono h.below.size), h.map.keep (hb.block b h.map.lt), (hb.block g h.box.cells.1).trans h.box, h.ge, h.le, h.least⟩
theorem CcAt.next {w wr : World} {b g : Nat} {F : Tk} {i : Gi} {B c v : Int} (h : CcAt w wr b g F i B c) (ok : TkOk F B) (hcs : 1 ≤ i.cs) (hw : WayIs F (i.atC c) v) (hv : 0 < v) (hg : w.heap.size ≤ g) (hb : g ≠ b) :
    CcAt w (wr.setCell ⟨g, 0, none⟩ (.int .i64 (v + 1))) b g F i B (v + 1) ∧ c ≤ v ∧ v ≤ B := by
  rcases hw with ⟨h0, _⟩ | ⟨_, x, y, hh, hf⟩
  · omega
  · have hp := ok.pos x y v hf
    have hcx : c ≤ x := hh.1
    refine ⟨⟨h.below.setCell hg _, h.map.keep (heap_setCell_other wr ⟨g, 0, none⟩ b _ (Ne.symm hb)), ?_, by have := h.ge; omega, by omega, fun z h1 h2 => ?_⟩, by omega, by omega⟩
    · unfold BxAt
      rw [heap_setCell_same wr g 0 _ 47 _ h.box]
      rfl
    · by_cases hz : z < c
      · exact h.least z h1 hz
      · have := way_full ok hh hf hcs (z := z) (by show c ≤ z; omega) (by omega)
        exact this
theorem CcAt.done {w wr : World} {b g : Nat} {F : Tk} {i : Gi} {B c v : Int} (h : CcAt w wr b g F i B c) (hw : WayIs F (i.atC c) v) (hv : ¬ 0 < v) : ColIs F i B c := by
  rcases hw with ⟨_, hf⟩ | ⟨h0, _⟩
  · exact ⟨h.ge, hf, h.least, h.le⟩
  · omega

set_option maxHeartbeats 4000000 in
set_option maxRecDepth 100000 in
theorem clearCol_any {w : World} {b : Nat} {F : Tk} {B : Int} (h : MapF w b F) (ok : TkOk F B) (hB0 : 0 ≤ B) (hB : B ≤ 90000) {i : Gi} (hi : i.Ok) (hc : i.c ≤ 90000) :
    Calls Try.prog 71 #[.map (some b), gV i] w fun e w' => ∃ c, e = .returned (.int .i64 c) ∧ ColIs F i B c ∧ Below w.heap.size w w' := by
  have hlt := h.lt
  have HI := hidF hi
  have HK := hidF ok
  have HT : Hid (CcAt w (w.alloc (.cells #[.int .i64 i.c, .int .i64 i.cs, .int .i64 i.r, .int .i64 i.rs] 47)) b w.heap.size F i B i.c) := by
    have hb : Below w.heap.size w (w.alloc (.cells #[.int .i64 i.c, .int .i64 i.cs, .int .i64 i.r, .int .i64 i.rs] 47)) := (Below.refl _ _).alloc (Nat.le_refl _) _
    exact ⟨hb, h.keep (hb.block b hlt), heap_alloc_new w _, Int.le_refl _, by omega, fun z h1 h2 => by omega⟩
  have WY := hidF (fun (W : World) (hM : MapF W b F) (c : Int) (h1 : 1 ≤ c) (h2 : c ≤ 100000) => inWay_any hM ok.vpos (hi.atC h1 h2))
  have hgb : w.heap.size ≠ b := by omega
  obtain ⟨g, hg⟩ : ∃ g, w.heap.size = g := ⟨_, rfl⟩
  have HG := hidF (show w.heap.size ≤ g by omega)
  have c1 := hi.c1
  rw [hg] at HT hgb
  clear h hi ok
  unfold gV Gi.atC at *
  obtain ⟨bc, bcs, br, brs⟩ := i
  simp only at c1 hc WY HT
  obtain ⟨z0, z1, z2, z3, z4⟩ := HT.out.box.cells
  simp only [Gi.atC] at z1 z2 z3 z4
  have W0 := hidF (WY.out _ HT.out.map bc c1 (by omega))
  go_enter Try.func71, Try.ntmps71
  go_wp2_with fail
  refine W0.out.mono ?_
  rintro e w1 ⟨v, rfl, hw, hb1⟩
  have H1 := hidF (And.intro (HT.out.held hb1) hw)
  clear hb1 hw z1 z2 z3 z4 W0
  go_wp2_with fail
  go_loopw [5] (fun lv wr => ∃ (v c : Int), lv = .int .i64 v ∧ v ≤ 90000 ∧ 0 ≤ v ∧ Hid (CcAt w wr b g F ⟨bc, bcs, br, brs⟩ B c ∧ WayIs F ⟨c, bcs, br, brs⟩ v)) (fun lv _ => if intV lv = 0 then 0 else (90002 - intV lv).toNat)
  case atStart =>
    have := H1.out.2.bd HK.out hB0
    exact ⟨v, bc, rfl, by omega, by omega, H1.out⟩
  case round =>
    obtain ⟨v, c, rfl, v2, v1, HZ⟩ := hrel
    obtain ⟨z0, z1, z2, z3, z4⟩ := HZ.out.1.box.cells
    have zf := HZ.out.1.box.frz 0
    simp only [Gi.atC] at z1 z2 z3 z4
    by_cases hv : 0 < v
    · obtain ⟨hn, n1, n2⟩ := HZ.out.1.next HK.out (by have := HI.out.cs1; exact this) HZ.out.2 hv HG.out hgb
      have HN := hidF hn
      have cge := HZ.out.1.ge
      simp only at cge
      have W2 := hidF (WY.out _ hn.map (v + 1) (by omega) (by omega))
      obtain ⟨y0, y1, y2, y3, y4⟩ := hn.box.cells
      simp only [Gi.atC] at y1 y2 y3 y4
      clear hn
      go_wp2_with fail
      refine W2.out.mono ?_
      rintro e w2 ⟨v', rfl, hw', hb2⟩
      have HB := hidF (hw'.bd HK.out hB0)
      have H2 := hidF (And.intro (HN.out.held hb2) hw')
      clear hb2 hw' z1 z2 z3 z4 y1 y2 y3 y4 W2
      go_wp2_with fail
      go_roundw
      case rel =>
        go_light
        have := HB.out
        exact ⟨v', v + 1, rfl, by omega, by omega, H2.out⟩
      case measure =>
        have h9 := HB.out
        have h10 : v' = 0 ∨ v + 1 ≤ v' := h9.2.2
        obtain ⟨h11, h12, _⟩ := h9
        have e1 : v ≠ 0 := by omega
        by_cases hq : v' = 0
        · simp [intV, hq, e1]; omega
        · simp [intV, hq, e1]; omega
    · have HD := hidF (HZ.out.1.done HZ.out.2 hv)
      go_wp2_with fail
      go_returns
      exact ⟨c, rfl, HD.out, by first | exact HZ.out.1.below | (rw [← hg]; exact HZ.out.1.below)⟩

/-- while a row is looked for -/
structure CrAt (w wr : World) (b g : Nat) (F : Tk) (i : Gi) (B r : Int) : Prop where
  below : Below w.heap.size w wr
  map : MapF wr b F
  box : BxAt wr g (i.atR r)
  ge : i.r ≤ r
  le : r ≤ max i.r (B + 1)
  least : ∀ z, i.r ≤ z → z < r → ¬ FreeAt F (i.atR z)
theorem CrAt.held {w wr W : World} {b g : Nat} {F : Tk} {i : Gi} {B r : Int} (h : CrAt w wr b g F i B r) (hb : Below wr.heap.size wr W) : CrAt w W b g F i B r :=
  ⟨h.below.trans (hb.mono h.below.size), h.map.keep (hb.block b h.map.lt), (hb.block g h.box.cells.1).trans h.box, h.ge, h.le, h.least⟩
theorem CrAt.next {w wr : World} {b g : Nat} {F : Tk} {i : Gi} {B r v : Int} (h : CrAt w wr b g F i B r) (ok : TkOk F B) (hw : WayIs F (i.atR r) v) (hv : 0 < v) (hg : w.heap.size ≤ g) (hb : g ≠ b) :
    CrAt w (wr.setCell ⟨g, 2, none⟩ (.int .i64 (r + 1))) b g F i B (r + 1) ∧ r ≤ B := by
  rcases hw with ⟨h0, _⟩ | ⟨_, x, y, hh, hf⟩
  · omega
  · have hp := ok.pos x y v hf
    have hry : r ≤ y := hh.2.2.1
    refine ⟨⟨h.below.setCell hg _, h.map.keep (heap_setCell_other wr ⟨g, 2, none⟩ b _ (Ne.symm hb)), ?_, by have := h.ge; omega, by omega, fun z h1 h2 => ?_⟩, by omega⟩
    · unfold BxAt
      rw [heap_setCell_same wr g 2 _ 47 _ h.box]
      rfl
    · by_cases hz : z < r
      · exact h.least z h1 hz
      · obtain rfl : z = r := by omega
        intro hfr
        rw [hfr x y hh] at hf
        cases hf
theorem CrAt.done {w wr : World} {b g : Nat} {F : Tk} {i : Gi} {B r v : Int} (h : CrAt w wr b g F i B r) (hw : WayIs F (i.atR r) v) (hv : ¬ 0 < v) : RowIs F i B r := by
  rcases hw with ⟨_, hf⟩ | ⟨h0, _⟩
  · exact ⟨h.ge, hf, h.least, h.le⟩
  · omega
/-- the row that a block's item has -/
def rowAt (w : World) (g : Nat) : Int := match w.cell? ⟨g, 2, none⟩ with
  | some (.int _ r) => r
  | _ => 0

set_option maxHeartbeats 4000000 in
set_option maxRecDepth 100000 in
theorem clearRow_any {w : World} {b : Nat} {F : Tk} {B : Int} (h : MapF w b F) (ok : TkOk F B) (hB0 : 0 ≤ B) (hB : B ≤ 90000) {i : Gi} (hi : i.Ok) (hc : i.r ≤ 90000) :
    Calls Try.prog 88 #[.map (some b), gV i] w fun e w' => ∃ r, e = .returned (.int .i64 r) ∧ RowIs F i B r ∧ Below w.heap.size w w' := by
  have hlt := h.lt
  have HI := hidF hi
  have HK := hidF ok
  have HT : Hid (CrAt w (w.alloc (.cells #[.int .i64 i.c, .int .i64 i.cs, .int .i64 i.r, .int .i64 i.rs] 47)) b w.heap.size F i B i.r) := by
    have hb : Below w.heap.size w (w.alloc (.cells #[.int .i64 i.c, .int .i64 i.cs, .int .i64 i.r, .int .i64 i.rs] 47)) := (Below.refl _ _).alloc (Nat.le_refl _) _
    exact ⟨hb, h.keep (hb.block b hlt), heap_alloc_new w _, Int.le_refl _, by omega, fun z h1 h2 => by omega⟩
  have WY := hidF (fun (W : World) (hM : MapF W b F) (r : Int) (h1 : 1 ≤ r) (h2 : r ≤ 100000) => inWay_any hM ok.vpos (hi.atR h1 h2))
  have hgb : w.heap.size ≠ b := by omega
  obtain ⟨g, hg⟩ : ∃ g, w.heap.size = g := ⟨_, rfl⟩
  have HG := hidF (show w.heap.size ≤ g by omega)
  have c1 := hi.r1
  rw [hg] at HT hgb
  clear h hi ok
  unfold gV Gi.atR at *
  obtain ⟨bc, bcs, br, brs⟩ := i
  simp only at c1 hc WY HT
  go_enter Try.func88, Try.ntmps88
  go_wp2_with fail
  go_loopw [] (fun wr => ∃ (r : Int), r ≤ 90001 ∧ Hid (CrAt w wr b g F ⟨bc, bcs, br, brs⟩ B r)) (fun wr => (90002 - rowAt wr g).toNat)
  case atStart => exact ⟨br, by omega, HT.out⟩
  case round =>
    obtain ⟨r, r2, HZ⟩ := hrel
    obtain ⟨z0, z1, z2, z3, z4⟩ := HZ.out.box.cells
    simp only [Gi.atR] at z1 z2 z3 z4
    have rge := HZ.out.ge
    simp only at rge
    have W2 := hidF (WY.out _ HZ.out.map r (by omega) (by omega))
    have HRA : Hid (rowAt wr g = r) := by show _ = _; unfold rowAt; rw [z3]
    go_wp2_with fail
    refine W2.out.mono ?_
    rintro e w2 ⟨v, rfl, hw, hb2⟩
    have H2 := hidF (And.intro (HZ.out.held hb2) hw)
    clear hb2 hw z1 z2 z3 z4 W2
    obtain ⟨z0, z1, z2, z3, z4⟩ := H2.out.1.box.cells
    have zf := H2.out.1.box.frz 2
    simp only [Gi.atR] at z1 z2 z3 z4
    by_cases hv : 0 < v
    · obtain ⟨hn, n1⟩ := H2.out.1.next HK.out H2.out.2 hv HG.out hgb
      have HN := hidF hn
      obtain ⟨y0, y1, y2, y3, y4⟩ := hn.box.cells
      simp only [Gi.atR] at y3
      have HRB : Hid (rowAt (w2.setCell ⟨g, 2, none⟩ (.int .i64 (r + 1))) g = r + 1) := by show _ = _; unfold rowAt; rw [y3]
      clear hn y1 y2 y3 y4
      go_wp2_with fail
      go_roundw
      case rel => go_light; exact ⟨r + 1, by omega, HN.out⟩
      case measure => rw [HRB.out, HRA.out]; omega
    · have HD := hidF (H2.out.1.done H2.out.2 hv)
      go_wp2_with fail
      go_returns
      exact ⟨r, rfl, HD.out, by first | exact H2.out.1.below | (rw [← hg]; exact H2.out.1.below)⟩
end Go.Proofs.Ytbphlbohiifcmaa
