/- Lists of numbers in memory; sameInts; the document's Held and Down; what is common to rows and tracks. -/
import Derived.Test.YthpffpgbmgnkcaaFHold
import Derived.Deep.QuietTactic
import Derived.BigQuiet
import Derived.OneCell
import Derived.Maps.AppendAt
import Derived.Deep.Light
namespace Go.Proofs.Ythpffpgbmgnkcaa
open Go.RowKit

theorem Try.infoInt : (Try.prog.info? 3).map (fun i => (i.zero, i.size, i.bytes)) = some (some (.int .i64 0), 1, 8) := by kernel_rfl
theorem hidF {p : Prop} (h : p) : Hid p := h
theorem ltH {w : World} {b : Nat} {o : Obj} (h : w.heap[b]? = some o) : b < w.heap.size := (Array.getElem?_eq_some_iff.1 h).1
theorem ret_i {a b : Int} (h : a = b) : Ending.returned (.int .i64 a) = .returned (.int .i64 b) := by rw [h]

/-- a list of numbers that is read -/
def IntL (w : World) (v : Value) (l : List Int) : Prop := ∃ a cap, v = .slice a l.length cap ∧ l.length ≤ cap ∧ cap ≤ 9223372036854775807 ∧ ∀ (j : Nat) (x : Int), l[j]? = some x → ∃ b o, a = some ⟨b, o, none⟩ ∧ b < w.heap.size ∧ w.cell? ⟨b, o + j, none⟩ = some (.int .i64 x)

theorem IntL.below {w w' : World} {v : Value} {l : List Int} (h : IntL w v l) (hb : Below w.heap.size w w') : IntL w' v l := by
  obtain ⟨a, cap, hv, h1, h2, hc⟩ := h
  refine ⟨a, cap, hv, h1, h2, fun j x hj => ?_⟩
  obtain ⟨b, o, e1, e2, e3⟩ := hc j x hj
  exact ⟨b, o, e1, Nat.lt_of_lt_of_le e2 hb.size, (hb.cell (p := ⟨b, o + j, none⟩) e2).trans e3⟩

theorem own_intL {w : World} {B : Nat} {v : Value} {xs : List Int} (h : w.ownsRow B 3 1 v xs.length (xs.map (Value.int .i64))) : IntL w v xs := by
  obtain ⟨hl, h | ⟨g, cap, cur, rfl, hg, hh, h1, h2, h3, h4⟩⟩ := h
  · obtain ⟨rfl, hn⟩ := h
    refine ⟨none, 0, by rw [hn], by omega, by omega, fun j x hj => ?_⟩
    have := (List.getElem?_eq_some_iff.1 hj).1
    omega
  · unfold maxLen at h2
    refine ⟨_, cap, rfl, h1, by omega, fun j x hj => ⟨g, 0, rfl, ltH hh, ?_⟩⟩
    have hjl := (List.getElem?_eq_some_iff.1 hj).1
    have e : (xs.map (Value.int .i64))[j]? = some (.int .i64 x) := by rw [List.getElem?_map, hj]; rfl
    rw [← h4, List.getElem?_take] at e
    rw [cell_of_row w g _ _ _ _ hh, Nat.zero_add]
    split at e
    · simpa using e
    · cases e

theorem belD {B : Nat} {a w : World} (h : Below B a w) (n : Nat) : Below B a (w.drewN n) := ⟨h.os, h.tape, h.output, h.size, h.block⟩

theorem heldN_cas (n : Int) : heldN n = if 16777216 < n then 16777216 else if n < -16777216 then -16777216 else n := by
  unfold heldN; repeat (first | omega | split)

set_option maxHeartbeats 400000 in
set_option maxRecDepth 100000 in
theorem qheld_any (n : Int) (w : World) :
    Calls Try.prog 6 #[.int .i64 n] w fun e w' => e = .returned (.int .i64 (heldN n)) ∧ w' = w := by
  rw [heldN_cas]
  by_cases h1 : 16777216 < n
  · rw [if_pos h1]
    go_enter Try.func6, Try.ntmps6
    go_wp2
    all_goals
      go_returns
      exact ⟨rfl, rfl⟩
  · rw [if_neg h1]
    by_cases h2 : n < -16777216
    · rw [if_pos h2]
      go_enter Try.func6, Try.ntmps6
      go_wp2
      all_goals
        go_returns
        exact ⟨rfl, rfl⟩
    · rw [if_neg h2]
      go_enter Try.func6, Try.ntmps6
      go_wp2
      all_goals
        go_returns
        exact ⟨rfl, rfl⟩
end Go.Proofs.Ythpffpgbmgnkcaa
