/- The document's floats in memory; meetsFloat, Edges, Clear. -/
import Derived.Test.YthpffpgbmgnkcaaFLMem
import Derived.Test.YthpffpgbmgnkcaaFWRef0
import Derived.Test.YthpffpgbmgnkcaaXBase
import Derived.StillTailTactics
import Derived.Deep.DeepCutAuto
namespace Go.Proofs.Ythpffpgbmgnkcaa
open Go.RowKit
set_option linter.unusedVariables false      -- bounds that are for the walk

structure QfAt (w : World) (B rb : Nat) (lv : Value) (fs : List Fl) (lo hi : Int) : Prop where
  head : w.heap[rb]? = some (.cells #[.int .i64 lo, .int .i64 hi, lv] 29 (0, 0))
  low : B ≤ rb
  row : w.ownsRow B 44 5 lv fs.length (fcells fs)
  ne : lv.ownBlock ≠ some rb
theorem QfAt.below {w w' : World} {B rb : Nat} {lv : Value} {fs : List Fl} {lo hi : Int} (h : QfAt w B rb lv fs lo hi) (hb : Below w.heap.size w w') : QfAt w' B rb lv fs lo hi :=
  ⟨(hb.block rb (ltH h.head)).trans h.head, h.low, h.row.kept (row := none) ⟨hb.os, hb.tape, hb.output, hb.size, fun k hk _ => hb.block k hk⟩ (by cases lv.ownBlock <;> simp), h.ne⟩
theorem QfAt.cells {w : World} {B rb : Nat} {lv : Value} {fs : List Fl} {lo hi : Int} (h : QfAt w B rb lv fs lo hi) :
    rb < w.heap.size ∧ w.cell? ⟨rb, 0, none⟩ = some (.int .i64 lo) ∧ w.cell? ⟨rb, 1, none⟩ = some (.int .i64 hi) ∧ w.cell? ⟨rb, 2, none⟩ = some lv := by
  refine ⟨ltH h.head, ?_, ?_, ?_⟩ <;> rw [cell_of_row w rb _ _ _ _ h.head] <;> rfl
theorem own_shapeQ {w : World} {B : Nat} {pv : Value} {n : Nat} {e : TypeId} {sz : Nat} {xs : List Value} (h : w.ownsRow B e sz pv n xs) : ∃ a c, pv = .slice a n c ∧ n ≤ c ∧ c ≤ 9223372036854775807 := by
  obtain ⟨_, ⟨rfl, hn0⟩ | ⟨gg, cp, cur, hv, _, _, q1, q2, _⟩⟩ := h
  · exact ⟨none, 0, by rw [hn0], by omega, by omega⟩
  · unfold maxLen at q2
    exact ⟨_, cp, hv, q1, by omega⟩
theorem QfAt.at {w : World} {B rb : Nat} {lv : Value} {fs : List Fl} {lo hi : Int} (h : QfAt w B rb lv fs lo hi) {k : Nat} {o : Fl} (hk : fs[k]? = some o) :
    ∃ b c, lv = .slice (some ⟨b, 0, none⟩) fs.length c ∧ b < w.heap.size ∧ w.cell? ⟨b, k * 5, none⟩ = some (.bool o.r) ∧ w.cell? ⟨b, k * 5 + 1, none⟩ = some (.int .i64 o.x) ∧ w.cell? ⟨b, k * 5 + 2, none⟩ = some (.int .i64 o.y) ∧ w.cell? ⟨b, k * 5 + 3, none⟩ = some (.int .i64 o.w) ∧ w.cell? ⟨b, k * 5 + 4, none⟩ = some (.int .i64 o.h) := by
  obtain ⟨hl, ⟨_, hn⟩ | ⟨g, cap, cur, rfl, hg, hh, h1, h2, h3, h4⟩⟩ := h.row
  · have := (List.getElem?_eq_some_iff.1 hk).1; omega
  · have hc : ∀ (i : Nat) u, i < 5 → (flv o)[i]? = some u → w.cell? ⟨g, k * 5 + i, none⟩ = some u := fun i u hi hu => by
      have e := fcells_get fs k i o hk hi
      rw [hu, ← h4, List.getElem?_take] at e
      rw [cell_of_row w g _ _ _ _ hh]
      split at e
      · simpa using e
      · cases e
    exact ⟨g, cap, rfl, ltH hh, hc 0 _ (by omega) rfl, hc 1 _ (by omega) rfl, hc 2 _ (by omega) rfl, hc 3 _ (by omega) rfl, hc 4 _ (by omega) rfl⟩

set_option maxHeartbeats 1000000 in
set_option maxRecDepth 100000 in
theorem meets_any (o : Fl) (y h : Int) (y1 : -20000000000 ≤ y) (y2 : y ≤ 20000000000) (h1 : -16777216 ≤ h) (h2 : h ≤ 16777216) (o1 : -20000000000 ≤ o.y) (o2 : o.y ≤ 20000000000) (o3 : 0 ≤ o.h) (o4 : o.h ≤ 16777216) (w : World) :
    Calls Try.prog 18 #[.agg #[.bool o.r, .int .i64 o.x, .int .i64 o.y, .int .i64 o.w, .int .i64 o.h], .int .i64 y, .int .i64 h] w fun e w' => e = .returned (.bool (meets o y h)) ∧ Below w.heap.size w w' := by
  obtain ⟨r, ox, oy, ow, oh⟩ := o
  unfold meets foot
  simp only at *
  have M1 := hidF (fun W => most_any h 1 W)
  have M2 := hidF (fun W => most_any oh 1 W)
  obtain ⟨mh, hmh⟩ : ∃ m, max h 1 = m := ⟨_, rfl⟩
  obtain ⟨mo, hmo⟩ : ∃ m, max oh 1 = m := ⟨_, rfl⟩
  have b1 : 1 ≤ mh := by omega
  have b2 : mh ≤ 16777217 := by omega
  have b3 : 1 ≤ mo := by omega
  have b4 : mo ≤ 16777217 := by omega
  rw [hmh] at M1 ⊢
  rw [hmo] at M2 ⊢
  have W1 : IntKind.i64.wrap (y + mh) = y + mh := by rw [IntKind.wrap_i64]; omega
  have W2 : IntKind.i64.wrap (oy + mo) = oy + mo := by rw [IntKind.wrap_i64]; omega
  clear hmh hmo
  by_cases c1 : oy < y + mh
  · have d1 : decide (oy < y + mh) = true := by simpa using c1
    rw [d1]
    go_enter Try.func18, Try.ntmps18
    go_wp2_with fail
    go_quiet (first | exact Calls.quiet_of_same (M1.out _) | exact Calls.quiet_of_same (M2.out _))
    go_wp2_with fail
    go_returns
    exact ⟨by simp, belD (by go_grown) _⟩
  · have d1 : decide (oy < y + mh) = false := by simpa using c1
    rw [d1]
    go_enter Try.func18, Try.ntmps18
    go_wp2_with fail
    go_quiet (first | exact Calls.quiet_of_same (M1.out _) | exact Calls.quiet_of_same (M2.out _))
    go_wp2_with fail
    go_returns
    exact ⟨by simp, belD (by go_grown) _⟩
end Go.Proofs.Ythpffpgbmgnkcaa
