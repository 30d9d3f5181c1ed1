/- Place: all items stand, apart. -/
import Derived.Test.YtbphlbohiifcmaaGTof
import Derived.Test.YtbphlbohiifcmaaGTold
import Derived.Test.YtbphlbohiifcmaaGRowP
import Derived.Test.YtbphlbohiifcmaaGCurP
import Derived.Test.YtbphlbohiifcmaaGRws
namespace Go.Proofs.Ytbphlbohiifcmaa
open Go.RowKit
set_option linter.unusedVariables false      -- bounds that are for the walk

set_option maxHeartbeats 4000000 in
set_option maxRecDepth 100000 in
theorem placeG_any {w : World} {v : Value} {l : List Gi} (h : GsL w v l) (c : Int) :
    Calls Try.prog 19 #[v, .int .i64 c] w fun e w' => ∃ tb mb sv F cols its B, e = .returned (.tuple #[sv, .int .i64 cols, .int .i64 (rowsG its)]) ∧ TbAt w w' tb mb sv F cols its ∧ GInv ((l.take 200).map cntN) its F cols B (PCur ((l.take 200).map cntN) ((l.take 200).map cntN).length) ∧ B ≤ 10000 ∧ ∃ l1 cc cr, cols ≤ 5000 ∧ RowS ((l.take 200).map cntN) (colsG c (l.take 200)) ((l.take 200).map cntN).length l1 cols ∧ CurS ((l.take 200).map cntN) l1 cols ((l.take 200).map cntN).length its cc cr := by
  have HT := hidF (tableOf_any h c)
  obtain ⟨a, cap, rfl, hc1, hc2, hl⟩ := h
  obtain ⟨l0, hl0⟩ : ∃ l0, (l.take 200).map cntN = l0 := ⟨_, rfl⟩
  have HC := hidF (colsG_all c (l.take 200))
  have hok : ∀ i ∈ l0, GOk i := fun i hi => by rw [← hl0] at hi; obtain ⟨q, _, rfl⟩ := List.mem_map.1 hi; exact cntN_ok q
  have hlen : l0.length ≤ 200 := by rw [← hl0, List.length_map, List.length_take]; omega
  rw [hl0] at HT HC ⊢
  obtain ⟨c0, hc0⟩ : ∃ c0, colsG c (l.take 200) = c0 := ⟨_, rfl⟩
  rw [hc0] at HT HC ⊢
  have HOK := hidF hok
  clear hl0 hc0 hl hok
  go_enter Try.func19, Try.ntmps19
  go_wp2_with fail
  refine HT.out.mono ?_
  rintro e w1 ⟨tb, mb, sv, rfl, h1⟩
  have H1 := hidF h1
  clear h1
  have HI1 : Hid (GInv l0 l0 (fun _ _ => none) c0 220 (PTold l0 0)) := by
    have hs := GInv.start HOK.out HC.out.1 (fun i hi => (HC.out.2.2 i hi).1) (fun i hi => (HC.out.2.2 i hi).2)
    have h2 := hs.mono (P' := PTold l0 0) (fun j hj => ⟨fun e => e.elim, fun e => by have := e.1; omega⟩) (fun j e => by have := e.1; omega)
    exact ⟨h2.len, h2.ok0, ⟨(fun _ _ _ e => by cases e), (fun _ _ _ e => by cases e)⟩, by omega, h2.cov, h2.only, h2.apart, fun j i e => by have := e.1; omega, h2.un, h2.sp, h2.co1, h2.co2, h2.co3, h2.nP⟩
  have hc220 := HC.out.2.1
  go_wp2_with fail
  refine (standTold_any H1.out HI1.out hlen).mono ?_
  rintro e w2 ⟨F2, rfl, h2, i2⟩
  have H2 := hidF (And.intro h2 i2.rows_start)
  clear h2 i2
  go_wp2_with fail
  refine (standInRows_any H2.out.1 H2.out.2 (RowS.start (c0 := c0)) hlen hc220).mono ?_
  rintro e w3 ⟨rfl, F3, cols3, its3, B3, h3, i3, b1, b2, b3, hrs⟩
  have H3 := hidF (And.intro h3 i3.cur_start)
  clear h3 i3
  go_wp2_with fail
  refine (standFromCursor_any H3.out.1 H3.out.2 CurS.start hlen b1 b2 b3).mono ?_
  rintro e w4 ⟨rfl, F4, its4, B4, h4, i4, b4, cc4, cr4, hcs⟩
  have H4 := hidF (And.intro h4 i4)
  have HRC := hidF (And.intro hrs hcs)
  clear hrs hcs
  obtain ⟨tl, t0, t1, t2⟩ := h4.cells
  have HD := hidF (h4.held (Below.refl w4.heap.size w4).drew)
  have hlen4 : its4.length ≤ 200 := by rw [i4.len]; exact hlen
  have HB : Hid (∀ i ∈ its4, 1 ≤ i.r ∧ i.r ≤ 100000 ∧ 1 ≤ i.rs ∧ i.rs ≤ 20) := by
    intro i hi
    obtain ⟨j, hj⟩ := List.getElem?_of_mem hi
    have hjl : j < l0.length := by rw [← i4.len]; exact (List.getElem?_eq_some_iff.1 hj).1
    have ho : l0[j]? = some l0[j] := List.getElem?_eq_getElem hjl
    have hP : PCur l0 l0.length j := ⟨_, ho, .inr hjl⟩
    have hs := i4.st j i hP hj
    have hp := i4.sp j i _ hj ho
    have hg := HOK.out _ (List.mem_of_getElem? ho)
    have g1 := hg.rs1
    have g2 := hg.rs2
    have e : i.lr = i.r + i.rs - 1 := rfl
    omega
  have RW := hidF (rows_anyG HD.out HB.out hlen4)
  clear h4 i4
  go_upto_region 5 with fail
  go_region_held3 (fun wx => wx.cell? ⟨tb, 0, none⟩ = some sv ∧ wx.cell? ⟨tb, 2, none⟩ = some (.int .i64 cols3)) (go_keep)
    ((go_at_call 46; refine RW.out.mono ?_; rintro e w7 ⟨rfl, hb7⟩
      have HX := hidF (HD.out.held hb7)
      have m0 := HX.out.cells.2.1
      have m2 := HX.out.cells.2.2.2
      clear hb7))
  all_goals
    go_wp2_with fail
    refine bodyPost_ret (v := .tuple #[sv, .int .i64 cols3, .int .i64 (rowsG its4)]) ?_ rfl ⟨tb, mb, sv, F4, cols3, its4, B4, rfl, HX.out, H4.out.2, b4, its3, cc4, cr4, by omega, HRC.out.1, HRC.out.2⟩
    simp [results, Try.results19, go_sem]
end Go.Proofs.Ytbphlbohiifcmaa
