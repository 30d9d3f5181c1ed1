/- The document's grid: between, over. -/
import Derived.Test.YtbphlbohiifcmaaGHist
import Derived.Test.YtbphlbohiifcmaaFWRef0
namespace Go.Proofs.Ytbphlbohiifcmaa
open Go.RowKit
set_option linter.unusedVariables false      -- bounds that are for the walk

set_option maxHeartbeats 400000 in
theorem between_any (n a b : Int) (w : World) : Calls Try.prog 48 #[.int .i64 n, .int .i64 a, .int .i64 b] w fun e w' => e = .returned (.int .i64 (min (max n a) b)) ∧ w' = w := by
  have M := hidF (fun W => most_any n a W)
  have L := hidF (fun W => least_any (max n a) b W)
  go_enter Try.func48, Try.ntmps48
  go_wp2_with fail
  refine (M.out _).mono ?_
  rintro e w1 ⟨rfl, hw1⟩
  rw [hw1]
  go_wp2_with fail
  refine (L.out _).mono ?_
  rintro e w2 ⟨rfl, hw2⟩
  rw [hw2]
  go_wp2_with fail
  go_returns
  exact ⟨rfl, rfl⟩

set_option maxHeartbeats 2000000 in
set_option maxRecDepth 100000 in
theorem over_any (a b : Gi) (ha : a.Sm) (hb : b.Sm) (w : World) : Calls Try.prog 76 #[gV a, gV b] w fun e w' => e = .returned (.bool (decide (Ovl a b))) ∧ Below w.heap.size w w' := by
  have a1 := ha.c0; have a2 := ha.c2; have a3 := ha.cs1; have a4 := ha.cs2; have a5 := ha.r0; have a6 := ha.r2; have a7 := ha.rs1; have a8 := ha.rs2
  have b1 := hb.c0; have b2 := hb.c2; have b3 := hb.cs1; have b4 := hb.cs2; have b5 := hb.r0; have b6 := hb.r2; have b7 := hb.rs1; have b8 := hb.rs2
  clear ha hb
  obtain ⟨ac, acs, ar, ars⟩ := a
  obtain ⟨bc, bcs, br, brs⟩ := b
  unfold gV
  simp only at a1 a2 a3 a4 a5 a6 a7 a8 b1 b2 b3 b4 b5 b6 b7 b8 ⊢
  by_cases h1 : ac < bc + bcs
  · by_cases h2 : bc < ac + acs
    · by_cases h3 : ar < br + brs
      · by_cases h4 : br < ar + ars
        · rw [decide_eq_true (p := Ovl ⟨ac, acs, ar, ars⟩ ⟨bc, bcs, br, brs⟩) ⟨h1, h2, h3, h4⟩]
          go_enter Try.func76, Try.ntmps76
          go_wp2_with fail
          go_returns
          exact ⟨rfl, by go_grown⟩
        · rw [decide_eq_false (p := Ovl ⟨ac, acs, ar, ars⟩ ⟨bc, bcs, br, brs⟩) (fun h => h4 h.2.2.2)]
          go_enter Try.func76, Try.ntmps76
          go_wp2_with fail
          go_returns
          exact ⟨rfl, by go_grown⟩
      · rw [decide_eq_false (p := Ovl ⟨ac, acs, ar, ars⟩ ⟨bc, bcs, br, brs⟩) (fun h => h3 h.2.2.1)]
        go_enter Try.func76, Try.ntmps76
        go_wp2_with fail
        go_returns
        exact ⟨rfl, by go_grown⟩
    · rw [decide_eq_false (p := Ovl ⟨ac, acs, ar, ars⟩ ⟨bc, bcs, br, brs⟩) (fun h => h2 h.2.1)]
      go_enter Try.func76, Try.ntmps76
      go_wp2_with fail
      go_returns
      exact ⟨rfl, by go_grown⟩
  · rw [decide_eq_false (p := Ovl ⟨ac, acs, ar, ars⟩ ⟨bc, bcs, br, brs⟩) (fun h => h1 h.1)]
    go_enter Try.func76, Try.ntmps76
    go_wp2_with fail
    go_returns
    exact ⟨rfl, by go_grown⟩
end Go.Proofs.Ytbphlbohiifcmaa
