/- GridPlaces: the law, walked. -/
import Derived.Test.YtbphlbohiifcmaaGCells
import Derived.Test.YtbphlbohiifcmaaGPlace
import Derived.Test.YtbphlbohiifcmaaQGPlace
import Derived.BigQuiet
namespace Go.Proofs.Ytbphlbohiifcmaa
open Go.RowKit
set_option linter.unusedVariables false      -- bounds that are for the walk

set_option maxHeartbeats 4000000 in
set_option maxRecDepth 100000 in
theorem places_law {w : World} {v : Value} {l : List Gi} (h : GsL w v l) (c : Int) :
    Calls Try.prog 6 #[v, .int .i64 c] w fun e w' => e = .returned (.bool true) ∧ Below w.heap.size w w' := by
  have HI := hidF h
  obtain ⟨a, cap, rfl, hc1, hc2, hl⟩ := h
  clear hl
  by_cases hbig : 60 < l.length
  · have hbig' : (60 : Int) < (l.length : Int) := by omega
    go_enter Try.func6, Try.ntmps6
    go_wp2_with fail
    go_returns
    exact ⟨rfl, Below.refl _ _⟩
  · have hbig' : ¬ (60 : Int) < (l.length : Int) := by omega
    have HCe := hidF (cells_any HI.out (by omega))
    go_enter Try.func6, Try.ntmps6
    go_wp2_with fail
    refine HCe.out.mono ?_
    rintro e w1 ⟨v1, rfl, h1, b1⟩
    have H1 := hidF h1
    have B1 := hidF b1
    obtain ⟨a1, cap1, rfl, k1, k2, hl1⟩ := h1
    clear hl1 b1
    go_wp2_with fail
    refine (placeG_any H1.out c).mono ?_
    rintro e w2 ⟨tb, mb, sv, F, cols, its, B, rfl, h2, i2, hB, l1, cc, cr, hco, hR, hC⟩
    have hln : its.length = ((l.take 200).map cntN).length := i2.len
    have hlen : its.length ≤ 200 := by rw [hln, List.length_map, List.length_take]; omega
    have HPQ := hidF (placeQ_any (HI.out.below (B1.out.trans (h2.below.mono B1.out.size))) c hco hR hC)
    have BB : Hid (Below w.heap.size w w2) := B1.out.trans (h2.below.mono B1.out.size)
    obtain ⟨sa, sc, rfl, g1, g2⟩ := h2.shape
    obtain ⟨n, hn⟩ : ∃ n, its.length = n := ⟨_, rfl⟩
    have HN := hidF hn
    rw [hn] at h2 g1 hlen ⊢
    have H2 := hidF h2
    obtain ⟨rw0, hrw⟩ : ∃ r, rowsG its = r := ⟨_, rfl⟩
    have HRW := hidF hrw
    rw [hrw]
    clear h2 i2 hln hR hC hn hrw
    go_wp2_with fail
    refine HPQ.out.mono ?_
    rintro e w3 ⟨v3, rfl, hg3, hb3⟩
    rw [HRW.out]
    have H3 := hidF (And.intro (H2.out.held hb3) hg3)
    have B3 := hidF (BB.out.trans (hb3.mono BB.out.size))
    obtain ⟨a3, c3, rfl, t1, t2, hl3⟩ := hg3
    have HL3 := hidF hl3
    rw [HN.out] at t1 ⊢
    clear hl3 hb3 H2
    go_wp2_with fail
    go_loopw [11] (fun iv wr => ∃ k : Nat, k ≤ n ∧ iv = .int .i64 k ∧ Hid (Below w3.heap.size w3 wr)) (fun iv _ => n - (intV iv).toNat)
    case atStart => exact ⟨0, Nat.zero_le _, rfl, Below.refl _ _⟩
    case round =>
      obtain ⟨k, hk, rfl, HZ⟩ := hrel
      by_cases hlt : k < n
      · obtain ⟨i, hik⟩ : ∃ i, its[k]? = some i := ⟨_, List.getElem?_eq_getElem (by rw [HN.out]; exact hlt)⟩
        obtain ⟨g, c9, hsv, _, _, gl, x1, x2, x3, x4, fz⟩ := (H3.out.1.held HZ.out).at hik
        rw [HN.out] at hsv
        cases hsv
        obtain ⟨b, o, hab, y1, y2, y3, y4, y5⟩ := HL3.out k i hik
        subst hab
        have hkb := HZ.out.block b y1
        have z1 := Nat.lt_of_lt_of_le y1 HZ.out.size
        have z2 := (World.cell?_of_block (a := ⟨b, o + k * 4, none⟩) hkb).trans y2
        have z3 := (World.cell?_of_block (a := ⟨b, o + k * 4 + 1, none⟩) hkb).trans y3
        have z4 := (World.cell?_of_block (a := ⟨b, o + k * 4 + 2, none⟩) hkb).trans y4
        have z5 := (World.cell?_of_block (a := ⟨b, o + k * 4 + 3, none⟩) hkb).trans y5
        have i1 : (0 : Int) ≤ (k : Int) := by omega
        have i2 : (k : Int) < (n : Int) := by omega
        clear hik y1 y2 y3 y4 y5 hkb fz
        obtain ⟨ic, ics, ir, irs⟩ := i
        simp only at x1 x2 x3 x4 z2 z3 z4 z5
        go_upto_region 10 with fail
        go_quiet (fail)
        go_wp2_with fail
        go_roundw
        case rel => go_light; exact ⟨k + 1, by omega, by go_num, ⟨HZ.out.os, HZ.out.tape, HZ.out.output, HZ.out.size, HZ.out.block⟩⟩
        case measure => simp [intV]; omega
      · obtain rfl : k = n := by omega
        have hl2 : ¬ (k : Int) < (k : Int) := by omega
        go_wp2_with fail
        go_returns
        exact ⟨rfl, B3.out.trans (HZ.out.mono B3.out.size)⟩
end Go.Proofs.Ytbphlbohiifcmaa
