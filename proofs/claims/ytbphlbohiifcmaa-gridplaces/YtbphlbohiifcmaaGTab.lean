/- A table of items in memory; items as they count. -/
import Derived.Test.YtbphlbohiifcmaaGClr
import Derived.StillTailTactics
namespace Go.Proofs.Ytbphlbohiifcmaa
open Go.RowKit
set_option linter.unusedVariables false      -- bounds that are for the walk

def gC (i : Gi) : List Value := [.int .i64 i.c, .int .i64 i.cs, .int .i64 i.r, .int .i64 i.rs]
def gsC (l : List Gi) : List Value := l.flatMap gC
theorem gsC_snoc (l : List Gi) (x : Gi) : gsC (l ++ [x]) = gsC l ++ gC x := by simp [gsC]
theorem gsC_length (l : List Gi) : (gsC l).length = l.length * 4 := by
  unfold gsC
  induction l with
  | nil => rfl
  | cons a r ih => rw [List.flatMap_cons, List.length_append, ih]; simp [gC]; omega
theorem gsC_get : ∀ (l : List Gi) (j f : Nat) (x : Gi), l[j]? = some x → f < 4 → (gsC l)[j * 4 + f]? = (gC x)[f]?
  | [], j, f, x, h, _ => by simp at h
  | a :: r, 0, f, x, h, hf => by
    obtain rfl : a = x := by simpa using h
    unfold gsC
    rw [List.flatMap_cons, Nat.zero_mul, Nat.zero_add, List.getElem?_append_left (by simp [gC]; omega)]
  | a :: r, j + 1, f, x, h, hf => by
    have ih := gsC_get r j f x (by simpa using h) hf
    unfold gsC at ih ⊢
    rw [List.flatMap_cons, List.getElem?_append_right (by simp [gC]; omega), show (j + 1) * 4 + f - (gC a).length = j * 4 + f by simp [gC]; omega]
    exact ih

def placeN (n : Int) : Int := min (max n 0) 200
def spanN (n : Int) : Int := min (max n 1) 20
/-- an item as it counts -/
def cntN (i : Gi) : Gi := ⟨placeN i.c, spanN i.cs, placeN i.r, spanN i.rs⟩

set_option maxHeartbeats 400000 in
theorem place_any (n : Int) (w : World) : Calls Try.prog 85 #[.int .i64 n] w fun e w' => e = .returned (.int .i64 (placeN n)) ∧ w' = w := by
  unfold placeN
  go_enter Try.func85, Try.ntmps85
  go_wp2_with fail
  all_goals
    go_returns
    exact ⟨ret_i (by omega), rfl⟩
set_option maxHeartbeats 400000 in
theorem span_any (n : Int) (w : World) : Calls Try.prog 86 #[.int .i64 n] w fun e w' => e = .returned (.int .i64 (spanN n)) ∧ w' = w := by
  unfold spanN
  go_enter Try.func86, Try.ntmps86
  go_wp2_with fail
  all_goals
    go_returns
    exact ⟨ret_i (by omega), rfl⟩

set_option maxHeartbeats 2000000 in
set_option maxRecDepth 100000 in
theorem firstsG_any (a : Option Addr) (n cap : Nat) (h1 : n ≤ cap) (h2 : cap ≤ 9223372036854775807) (w : World) :
    Calls Try.prog 67 #[.slice a n cap, .int .i64 200] w fun e w' => e = .returned (.slice a (min n 200) cap) ∧ w' = w := by
  by_cases hc : n ≤ 200
  · have hc' : ¬ (200 : Int) < (n : Int) := by omega
    go_enter Try.func67, Try.ntmps67
    go_wp2_with fail
    all_goals
      go_returns
      exact ⟨rfl, rfl⟩
  · have hc' : (200 : Int) < (n : Int) := by omega
    have hn : min n 200 = 200 := by omega
    rw [hn]
    go_enter Try.func67, Try.ntmps67
    go_wp2_with fail
    all_goals
      go_returns
      exact ⟨rfl, rfl⟩

set_option maxHeartbeats 4000000 in
set_option maxRecDepth 100000 in
theorem counted_any (i : Gi) (w : World) : Calls Try.prog 68 #[gV i] w fun e w' => e = .returned (gV (cntN i)) ∧ Below w.heap.size w w' := by
  obtain ⟨c, cs, r, rs⟩ := i
  have HE : Hid (gV (cntN ⟨c, cs, r, rs⟩) = .agg #[.int .i64 (placeN c), .int .i64 (spanN cs), .int .i64 (placeN r), .int .i64 (spanN rs)]) := by
    show _ = _
    rfl
  unfold gV at *
  simp only
  go_enter Try.func68, Try.ntmps68
  go_wp2_with fail
  go_region_held3 (fun wx => wx.cell? ⟨w.heap.size, 0, none⟩ = some (.int .i64 c) ∧ wx.cell? ⟨w.heap.size, 1, none⟩ = some (.int .i64 cs) ∧ wx.cell? ⟨w.heap.size, 2, none⟩ = some (.int .i64 r) ∧ wx.cell? ⟨w.heap.size, 3, none⟩ = some (.int .i64 rs)) (go_keep)
    (first
      | (go_at_call 85; refine (place_any _ _).mono ?_; rintro e w7 ⟨rfl, rfl⟩)
      | (go_at_call 86; refine (span_any _ _).mono ?_; rintro e w7 ⟨rfl, rfl⟩))
  all_goals
    go_wp2_with fail
    refine bodyPost_ret (v := .agg #[.int .i64 (placeN c), .int .i64 (spanN cs), .int .i64 (placeN r), .int .i64 (spanN rs)]) ?_ rfl ⟨rfl, by go_grown⟩
    simp [results, Try.results68, go_sem]
end Go.Proofs.Ytbphlbohiifcmaa
