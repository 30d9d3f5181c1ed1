/- PaintPicture: pictures that are the same; the law, walked. -/
import Derived.Test.YtpkdigjejijiiaaPpPict
import Derived.Test.YtpkdigjejijiiaaPpDoc
import Derived.Test.YtpkdigjejijiiaaSStep
namespace Go.Proofs.Ytpkdigjejijiiaa
open Go.RowKit
set_option linter.unusedVariables false      -- bounds that are for the walk

theorem news_seven (w : World) (cs : Array Value) (t : TypeId) : ∀ j u, cs.toList[j]? = some u → (w.alloc (.cells cs t)).cell? ((⟨w.heap.size, 0, none⟩ : Addr).add j) = some u := by
  intro j u h
  have e : ((⟨w.heap.size, 0, none⟩ : Addr).add j) = ⟨w.heap.size, j, none⟩ := by
    unfold Addr.add
    split
    · simp_all
    · simp
  rw [e, cell_of_row _ w.heap.size _ _ _ _ (heap_alloc_new w _)]
  simpa using h

set_option maxHeartbeats 4000000 in
set_option maxRecDepth 100000 in
theorem samePic_any {w : World} {v u : Value} {ls : List (List Int)} (hv : RowsL w v ls) (hu : RowsL w u ls) :
    Calls Try.prog 4 #[v, u] w fun e w' => e = .returned (.bool true) ∧ Below w.heap.size w w' := by
  obtain ⟨a, c, rfl, h1, h2, ha⟩ := hv
  obtain ⟨b, d, rfl, h3, h4, hb⟩ := hu
  have HA := hidF ha
  have HB := hidF hb
  obtain ⟨n, hn⟩ : ∃ n, ls.length = n := ⟨_, rfl⟩
  have HN := hidF hn
  rw [hn] at h1 h3 ⊢
  clear ha hb hn
  go_enter Try.func4, Try.ntmps4
  go_wp2_with fail
  go_loopw [5] (fun i wr => ∃ k : Nat, k ≤ n ∧ i = .int .i64 k ∧ Hid (Below w.heap.size w wr)) (fun i _ => n - (intV i).toNat)
  case atStart => exact ⟨0, by omega, rfl, Below.refl _ _⟩
  case round =>
    obtain ⟨k, hk, rfl, hbel⟩ := hrel
    obtain ⟨w5, hw5⟩ : ∃ w5, w5 = wr := ⟨_, rfl⟩
    subst hw5
    by_cases hlt : k < n
    · obtain ⟨y, hy⟩ : ∃ y, ls[k]? = some y := ⟨_, List.getElem?_eq_getElem (by rw [HN.out]; exact hlt)⟩
      obtain ⟨g, o, q1, rfl, l1, e1, i1⟩ := HA.out k y hy
      obtain ⟨g2, o2, q2, rfl, l2, e2, i2⟩ := HB.out k y hy
      have f1 := (hbel.out.cell (p := ⟨g, o + k, none⟩) l1).trans e1
      have f2 := (hbel.out.cell (p := ⟨g2, o2 + k, none⟩) l2).trans e2
      obtain ⟨ra, rc, rfl, t1, t2, hra⟩ := i1.below hbel.out
      obtain ⟨sa, sc, rfl, t3, t4, hsa⟩ := i2.below hbel.out
      have HRA := hidF hra
      have HSA := hidF hsa
      obtain ⟨m, hm⟩ : ∃ n, y.length = n := ⟨_, rfl⟩
      have HM := hidF hm
      rw [hm] at t1 t3 f1 f2 e1 e2
      have z1 : (0 : Int) ≤ (k : Int) := by omega
      have z2 : (k : Int) < (n : Int) := by omega
      have hs5 := hbel.out.size
      have l3 : g < w5.heap.size := by omega
      have l4 : g2 < w5.heap.size := by omega
      clear hy hra hsa hm e1 e2 i1 i2
      go_wp2_with fail
      go_quiet (fail)
      go_wp2_with fail
      go_loopw [6] (fun i wr => ∃ j : Nat, j ≤ m ∧ i = .int .i64 j ∧ Hid (Below w5.heap.size w5 wr)) (fun i _ => m - (intV i).toNat)
      case atStart => exact ⟨0, by omega, rfl, belD (Below.refl _ _) _⟩
      case round =>
        obtain ⟨j, hj, rfl, HY⟩ := hrel
        have f3 := (HY.out.cell (p := ⟨g, o + k, none⟩) l3).trans f1
        have f4 := (HY.out.cell (p := ⟨g2, o2 + k, none⟩) l4).trans f2
        have hs6 := HY.out.size
        have l5 : g < wr.heap.size := by omega
        have l6 : g2 < wr.heap.size := by omega
        by_cases hjl : j < m
        · obtain ⟨x, hx⟩ : ∃ x, y[j]? = some x := ⟨_, List.getElem?_eq_getElem (by rw [HM.out]; exact hjl)⟩
          obtain ⟨rb, ro, rfl, rl, re⟩ := HRA.out j x hx
          obtain ⟨sb, so, rfl, sl, se⟩ := HSA.out j x hx
          have p1 := (HY.out.cell (p := ⟨rb, ro + j, none⟩) rl).trans re
          have p2 := (HY.out.cell (p := ⟨sb, so + j, none⟩) sl).trans se
          have l7 : rb < wr.heap.size := by omega
          have l8 : sb < wr.heap.size := by omega
          have j1 : (0 : Int) ≤ (j : Int) := by omega
          have j2 : (j : Int) < (m : Int) := by omega
          clear hx re se
          go_wp2_with fail
          go_quiet (fail)
          go_wp2_with fail
          go_roundw
          case rel => exact ⟨j + 1, by omega, by go_num, belD HY.out _⟩
          case measure => simp [intV]; omega
        · obtain rfl : j = m := by omega
          have hl3 : ¬ (j : Int) < (j : Int) := by omega
          go_wp2_with fail
          go_roundw
          case rel => exact ⟨k + 1, by omega, by go_num, hbel.out.trans (HY.out.mono hbel.out.size)⟩
          case measure => simp [intV]; omega
    · obtain rfl : k = n := by omega
      have hl3 : ¬ (k : Int) < (k : Int) := by omega
      go_wp2_with fail
      go_ret
      exact ⟨rfl, hbel.out⟩
end Go.Proofs.Ytpkdigjejijiiaa
