/- The document's PlaceCells, as a whole. -/
import Derived.Test.YtbphlbohiifcmaaQGRow
namespace Go.Proofs.Ytbphlbohiifcmaa
open Go.RowKit
set_option linter.unusedVariables false      -- bounds that are for the walk

theorem own_shape {w : World} {B n : Nat} {e : TypeId} {v : Value} {xs : List Value} (h : w.ownsRow B e 4 v n xs) : ∃ a c, v = .slice a n c ∧ n ≤ c ∧ c ≤ 9223372036854775807 := by
  obtain ⟨hl, ⟨rfl, hn⟩ | ⟨g, cap, cur, rfl, hg, hh, h1, h2, h3, h4⟩⟩ := h
  · exact ⟨none, 0, by rw [hn], by omega, by omega⟩
  · unfold maxLen at h2
    exact ⟨_, cap, rfl, h1, by omega⟩
theorem Try.infoQ : (Try.prog.info? 48).map (fun i => (i.zero, i.size, i.bytes)) = some (some (.agg #[.int .i64 0, .int .i64 0, .int .i64 0, .int .i64 0]), 4, 32) := by kernel_rfl
theorem news_fourQ (w : World) (cs : Array Value) (t : TypeId) (B : Nat) (hB : w.heap.size = B) : ∀ j u, cs.toList[j]? = some u → (w.alloc (.cells cs t)).cell? ((⟨B, 0, none⟩ : Addr).add j) = some u := by
  subst hB
  exact news_six w cs t
/-- while items are told anew -/
structure PtAt (w wx : World) (v : Value) (k cb : Nat) (xs : List Gi) (i : Gi) : Prop where
  below : Below w.heap.size w wx
  row : wx.ownsRow w.heap.size 48 4 v k (gsC xs)
  box : QxAt wx cb i
  nl : v.ownBlock ≠ some cb

set_option maxHeartbeats 8000000 in
set_option maxRecDepth 100000 in
theorem placeQ_any {w : World} {v : Value} {l : List Gi} (h : GsL w v l) (c : Int) {l1 its2 : List Gi} {cols cc2 cr2 : Int} (hcols : cols ≤ 5000) (hR : RowS ((l.take 200).map cntN) (colsG c (l.take 200)) ((l.take 200).map cntN).length l1 cols) (hC : CurS ((l.take 200).map cntN) l1 cols ((l.take 200).map cntN).length its2 cc2 cr2) :
    Calls Try.prog 21 #[v, .int .i64 c] w (PcPost w its2 cols) := by
  obtain ⟨i0, hi, hz0, hz1, hz2⟩ := info_parts Try.infoQ
  obtain ⟨a, cap, rfl, hc1, hc2, hl⟩ := h
  have HL := hidF hl
  obtain ⟨n, hn⟩ : ∃ n, min l.length 200 = n := ⟨_, rfl⟩
  have hn2 : n ≤ 200 := by omega
  have hnl : n ≤ l.length := by omega
  have HN := hidF hn
  have HRC := hidF (And.intro hR hC)
  have BT := hidF (fun W => between_any c 0 20 W)
  have MT := hidF (fun W => most_any (min (max c 0) 20) 1 W)
  have HC0 : Hid (max (min (max c 0) 20) 1 = colsG c (l.take 0)) := by show _ = _; simp [colsG]; omega
  have HCB : Hid (∀ k, 1 ≤ colsG c (l.take k) ∧ colsG c (l.take k) ≤ 220) := fun k => ⟨(colsG_all c (l.take k)).1, (colsG_all c (l.take k)).2.1⟩
  clear hl hn hR hC
  go_enter Try.func21, Try.ntmps21
  go_wp2_with fail
  refine (BT.out _).mono ?_
  rintro e w1 ⟨rfl, hw1⟩
  rw [hw1]
  clear hw1 BT
  go_wp2_with fail
  refine (MT.out _).mono ?_
  rintro e w2 ⟨rfl, hw2⟩
  rw [hw2]
  clear hw2 MT
  go_wp2_with fail
  go_loopw [1, 7, 8] (fun cv pv i wr => ∃ (k : Nat) (m : Int), k ≤ n ∧ i = .int .i64 k ∧ cv = .int .i64 m ∧ Hid (m = colsG c (l.take k) ∧ Below w.heap.size w wr ∧ wr.ownsRow w.heap.size 48 4 pv k (gsC ((l.take k).map cntN)))) (fun _ _ i _ => n - (intV i).toNat)
  case atStart => exact ⟨0, _, Nat.zero_le _, rfl, rfl, HC0.out, Below.refl _ _, World.ownsRow_nil _ _ _ _⟩
  case round =>
    obtain ⟨k, m, hk, rfl, rfl, H⟩ := hrel
    by_cases hlt : k < n
    · obtain ⟨x, hx⟩ : ∃ x, l[k]? = some x := ⟨_, List.getElem?_eq_getElem (by omega)⟩
      have HX := hidF hx
      obtain ⟨b, o, rfl, e2, e3, e4, e5, e6⟩ := HL.out k x hx
      have hkb := H.out.2.1.block b e2
      have x1 := Nat.lt_of_lt_of_le e2 H.out.2.1.size
      have x2 := (World.cell?_of_block (a := ⟨b, o + k * 4, none⟩) hkb).trans e3
      have x3 := (World.cell?_of_block (a := ⟨b, o + k * 4 + 1, none⟩) hkb).trans e4
      have x4 := (World.cell?_of_block (a := ⟨b, o + k * 4 + 2, none⟩) hkb).trans e5
      have x5 := (World.cell?_of_block (a := ⟨b, o + k * 4 + 3, none⟩) hkb).trans e6
      have i1 : (0 : Int) ≤ (k : Int) := by omega
      have i2 : (k : Int) < (l.length : Int) := by omega
      have i3 : (k : Int) < 200 := by omega
      have HT : Hid (gsC ((l.take (k + 1)).map cntN) = gsC ((l.take k).map cntN) ++ gC (cntN x)) := by
        show _ = _
        rw [List.take_add_one, hx]
        simp only [Option.toList_some, List.map_append, List.map_cons, List.map_nil]
        exact gsC_snoc _ _
      have HCT := hidF (colsG_take c hx)
      have hgo := cntN_ok x
      have s1 := hgo.cs1; have s2 := hgo.cs2; have s3 := hgo.c0; have s4 := hgo.c2
      clear hx hkb e2 e3 e4 e5 e6
      obtain ⟨xc, xcs, xr, xrs⟩ := x
      have HE : Hid (cntN ⟨xc, xcs, xr, xrs⟩ = ⟨min (max xc 0) 200, min (max xcs 1) 20, min (max xr 0) 200, min (max xrs 1) 20⟩) := rfl
      rw [HE.out] at s1 s2 s3 s4
      simp only at x2 x3 x4 x5 s1 s2 s3 s4
      go_upto_region 7 with fail
      obtain ⟨w5, hw5⟩ : ∃ w5, w5 = wr := ⟨_, rfl⟩
      subst hw5
      generalize hw9 : w5.alloc (Obj.cells #[.int .i64 xc, .int .i64 xcs, .int .i64 xr, .int .i64 xrs] 48) = w9
      have h9 : w9.heap[w5.heap.size]? = some (.cells #[.int .i64 xc, .int .i64 xcs, .int .i64 xr, .int .i64 xrs] 48 (0, 0)) := by rw [← hw9]; exact heap_alloc_new w5 _
      have b9 : Below w5.heap.size w5 w9 := by rw [← hw9]; go_grown
      have s9 : w5.heap.size < w9.heap.size := ltH h9
      have c0 : w9.cell? ⟨w5.heap.size, 0, none⟩ = some (.int .i64 xc) := by rw [cell_of_row _ _ _ _ _ _ h9]; rfl
      have c1 : w9.cell? ⟨w5.heap.size, 1, none⟩ = some (.int .i64 xcs) := by rw [cell_of_row _ _ _ _ _ _ h9]; rfl
      have c2 : w9.cell? ⟨w5.heap.size, 2, none⟩ = some (.int .i64 xr) := by rw [cell_of_row _ _ _ _ _ _ h9]; rfl
      have c3 : w9.cell? ⟨w5.heap.size, 3, none⟩ = some (.int .i64 xrs) := by rw [cell_of_row _ _ _ _ _ _ h9]; rfl
      have H9 := hidF (And.intro (H.out.2.1.trans (b9.mono H.out.2.1.size)) (World.ownsRow.kept H.out.2.2 (row := none) ⟨b9.os, b9.tape, b9.output, b9.size, fun k hk _ => b9.block k hk⟩ (by cases u7.ownBlock <;> simp)))
      clear hw9 h9 b9 x2 x3 x4 x5
      go_cut [10] (fun p wx => ∃ cb, p = .pointer (some ⟨cb, 0, none⟩) ∧ Hid (PtAt w wx u7 k cb ((l.take k).map cntN) ⟨min (max xc 0) 200, min (max xcs 1) 20, min (max xr 0) 200, min (max xrs 1) 20⟩))
      case first =>
        have HNEW : Hid (∀ W : World, W.heap.size = w9.heap.size → Below w9.heap.size w9 W → PtAt w (W.alloc (.cells #[.int .i64 (min (max xc 0) 200), .int .i64 (min (max xcs 1) 20), .int .i64 (min (max xr 0) 200), .int .i64 (min (max xrs 1) 20)] 48)) u7 k w9.heap.size ((l.take k).map cntN) ⟨min (max xc 0) 200, min (max xcs 1) 20, min (max xr 0) 200, min (max xrs 1) 20⟩) := by
          intro W hW hb
          have hb2 : Below w9.heap.size w9 (W.alloc (.cells #[.int .i64 (min (max xc 0) 200), .int .i64 (min (max xcs 1) 20), .int .i64 (min (max xr 0) 200), .int .i64 (min (max xrs 1) 20)] 48)) := hb.alloc hb.size _
          refine ⟨H9.out.1.trans (hb2.mono H9.out.1.size), World.ownsRow.kept H9.out.2 (row := none) ⟨hb2.os, hb2.tape, hb2.output, hb2.size, fun k hk _ => hb2.block k hk⟩ (by cases u7.ownBlock <;> simp), ?_, fun e => ?_⟩
          · rw [← hW]; exact heap_alloc_new W _
          · have := (H9.out.2.lt _ e).2; omega
        go_region_held3 (fun wx => wx.cell? ⟨w5.heap.size, 0, none⟩ = some (.int .i64 xc) ∧ wx.cell? ⟨w5.heap.size, 1, none⟩ = some (.int .i64 xcs) ∧ wx.cell? ⟨w5.heap.size, 2, none⟩ = some (.int .i64 xr) ∧ wx.cell? ⟨w5.heap.size, 3, none⟩ = some (.int .i64 xrs)) (go_keep)
          ((go_at_call 48; refine (between_any _ _ _ _).mono ?_; rintro e w7 ⟨rfl, rfl⟩))
        all_goals
          go_wp2_with fail
          go_meet
          case rel => go_light; exact ⟨_, rfl, HNEW.out w9.drew rfl (Below.refl _ _).drew⟩
      case rest =>
      obtain ⟨cb, rfl, HQ⟩ := hcut
      clear c0 c1 c2 c3 s9 H9
      obtain ⟨q0, q1, q2, q3, q4⟩ := HQ.out.box.cells
      simp only at q1 q2 q3 q4
      obtain ⟨yc, hyc⟩ : ∃ y, min (max xc 0) 200 = y := ⟨_, rfl⟩
      obtain ⟨ycs, hycs⟩ : ∃ y, min (max xcs 1) 20 = y := ⟨_, rfl⟩
      obtain ⟨yr, hyr⟩ : ∃ y, min (max xr 0) 200 = y := ⟨_, rfl⟩
      obtain ⟨yrs, hyrs⟩ : ∃ y, min (max xrs 1) 20 = y := ⟨_, rfl⟩
      rw [HE.out] at HT HCT
      rw [hyc] at q1 s3 s4 HQ HT HCT
      rw [hycs] at q2 s1 s2 HQ HT HCT
      rw [hyr] at q3 HQ HT HCT
      rw [hyrs] at q4 HQ HT HCT
      clear hyc hycs hyr hyrs HE
      obtain ⟨wb, hwb⟩ : ∃ wb, wb = wc := ⟨_, rfl⟩
      subst hwb
      have H9 := hidF (fun (o : Obj) => And.intro (HQ.out.below.alloc HQ.out.below.size o) (HQ.out.row.alloc o))
      have hsz := HQ.out.below.size
      have MO1 := hidF (fun W => most_any m ycs W)
      have MO2 := hidF (fun W => most_any (max m ycs) (yc + ycs - 1) W)
      have W1 : IntKind.i64.wrap (yc + ycs) = yc + ycs := wrapJ (by omega) (by omega)
      have W2 : IntKind.i64.wrap (yc + ycs - 1) = yc + ycs - 1 := wrapJ (by omega) (by omega)
      go_wp2_with (at_builtin; refine wpList_append_own_at _ rfl (.tmp 52) (.tmp 54) 39 rfl w.heap.size 48 i0 _ 4 32 Try.underlying39 hi hz0 hz1 hz2 rfl (by decide) _ _ _ rfl ((H9.out _).2) ⟨_, 0, none⟩ 1 1 [.int .i64 yc, .int .i64 ycs, .int .i64 yr, .int .i64 yrs] rfl rfl (fun j u hj => news_fourQ _ _ _ _ (by simp) j u hj) (by simp [Value.oneCell']) (by unfold maxLen; omega) (by omega) (by simp; omega) ?_; intro v1 w1 hv1 hg1 hx1 hx2; clear hx1 hx2; have H3 := hidF (And.intro ((H9.out _).1.grown hg1 (by simp; omega) (fun q hq => (HQ.out.row.lt q hq).1)) hv1); have m1 : w1.cell? ⟨cb, 0, none⟩ = some (.int .i64 yc) := hg1.cell ((World.cell?_of_block (a := ⟨cb, 0, none⟩) (Below.heap_alloc wb _ _ q0)).trans q1) (fun e => HQ.out.nl e.symm); have m2 : w1.cell? ⟨cb, 1, none⟩ = some (.int .i64 ycs) := hg1.cell ((World.cell?_of_block (a := ⟨cb, 1, none⟩) (Below.heap_alloc wb _ _ q0)).trans q2) (fun e => HQ.out.nl e.symm); clear hv1 hg1)
      refine (MO1.out _).mono ?_
      rintro e w7 ⟨rfl, hw7⟩
      rw [hw7]
      clear hw7 w7 MO1
      by_cases hc : 0 < yc
      · have HCS : Hid (max (max m ycs) (yc + ycs - 1) = colsG c (l.take (k + 1))) := by
          show _ = _
          rw [HCT.out]
          unfold colS Gi.lc
          rw [if_pos hc, ← H.out.1]
        go_wp2_with fail
        refine (MO2.out _).mono ?_
        rintro e w7 ⟨rfl, hw7⟩
        rw [hw7]
        clear hw7 w7 MO2
        go_wp2_with fail
        go_roundw
        case rel =>
          go_light
          refine ⟨k + 1, _, by omega, by go_num, rfl, by have := HCS.out; omega, H3.out.1, ?_⟩
          rw [HT.out]
          exact H3.out.2
        case measure => simp [intV]; omega
      · have HCS : Hid (max m ycs = colsG c (l.take (k + 1))) := by
          show _ = _
          rw [HCT.out]
          unfold colS
          rw [if_neg hc, ← H.out.1]
        go_wp2_with fail
        go_roundw
        case rel =>
          go_light
          refine ⟨k + 1, _, by omega, by go_num, rfl, HCS.out, H3.out.1, ?_⟩
          rw [HT.out]
          exact H3.out.2
        case measure => simp [intV]; omega
    · obtain rfl : k = n := by omega
      have e1 : l.take k = l.take 200 := by
        rw [← HN.out]
        rcases Nat.le_total l.length 200 with h | h
        · rw [Nat.min_eq_left h, List.take_of_length_le (Nat.le_refl _), List.take_of_length_le h]
        · rw [Nat.min_eq_right h]
      have e2 : ((l.take 200).map cntN).length = k := by rw [← e1]; simp; omega
      have HP : Hid (m = colsG c (l.take 200) ∧ Below w.heap.size w wr ∧ wr.ownsRow w.heap.size 48 4 u7 k (gsC ((l.take 200).map cntN))) := by
        rw [← e1]; exact H.out
      rw [e2] at HRC
      have HE2 := hidF e2
      obtain ⟨a7, c7, rfl, d1, d2⟩ := own_shape HP.out.2.2
      have i1 : (0 : Int) ≤ (k : Int) := by omega
      obtain ⟨w5, hw5⟩ : ∃ w5, w5 = wr := ⟨_, rfl⟩
      subst hw5
      obtain ⟨wa, mk1, ba, bwa⟩ := make_boolsG w5 k (by omega)
      have HPC : Hid (PcAt w wa (.slice a7 k c7) w5.heap.size k ((l.take 200).map cntN) (fun _ => false)) :=
        ⟨HP.out.2.1.trans (bwa.mono HP.out.2.1.size), e2, HP.out.2.2.kept (row := none) ⟨bwa.os, bwa.tape, bwa.output, bwa.size, fun k hk _ => bwa.block k hk⟩ (by cases (Value.slice a7 k c7).ownBlock <;> simp), ba, HP.out.2.1.size, fun e => by have := (HP.out.2.2.lt _ e).2; omega⟩
      have HM := hidF HP.out.1
      clear e1 e2 H HP ba bwa
      by_cases hq : (k : Int) < (l.length : Int)
      · have hq2 : ¬ (k : Int) < 200 := by have := HN.out; omega
        go_upto_region 12 with fail
        go_cut [11] (fun s wx => s = .slice (some ⟨w5.heap.size, 0, none⟩) k k ∧ wx = wa)
        case first =>
          go_wp2_with fail
          go_meet
          case rel => go_light; exact ⟨rfl, rfl⟩
        case rest =>
        obtain ⟨rfl, hwx⟩ := hcut
        have hwy := hwx.symm
        clear hwx
        subst hwy
        have hm := HM.out
        subst hm
        refine (by assumption : ∀ (a : Act) (w : World), Code.wp _ _ _ a w → _) _ _ ?_
        exact qp_row HPC.out hn2 (fun i hi => by obtain ⟨q, _, rfl⟩ := List.mem_map.1 hi; exact cntN_ok q) hcols HRC.out.1 HRC.out.2 _ _ _ _ _ _ _ _ _ _ _ _ _ _ _ _ _ _ _ _ _ _ _ _ _ _ _ _ _ _ _ _ _ _ _ _ _ _ _ _ _ _ _ _ _ _ _ _ _ _ _ _ _ _ _ _ _ _ _ _ _ _ _ _ _ _ _ _ _ _ _ _ _ _ _ _ _ _ _ _ _ _ _ _ _ _ _ _ _ _ _ _ _ _ _ _ _ _ _ _ _ _ _ _ _ _ _ _ _ _ _ _ _ _ _ _ _ _ _ _ _ _ _ _ _ _ _ _ _ _ _ _ _ _ _ _ _ _ _ _ _ _ _ _ _ _ _ _ _ _ _ _ _ _ _ _ _ _ _ _ _ _ _ _ _ _ _ _ _ _ _ _ _ _ _ _ _ _ _ _ _ _ _ _ _ _ _ _ _ _ _ _ _ _ _ _ _ _ _ _ _ _ _ _ _ _ _ _ _ _ _ _ _ _ _ _ _ _ _ _ _ _ _ _ _ _ _ _ _ _ _ _ _ _ _ _ _ _ _
      · go_upto_region 12 with fail
        go_cut [11] (fun s wx => s = .slice (some ⟨w5.heap.size, 0, none⟩) k k ∧ wx = wa)
        case first =>
          go_wp2_with fail
          go_meet
          case rel => go_light; exact ⟨rfl, rfl⟩
        case rest =>
        obtain ⟨rfl, hwx⟩ := hcut
        have hwy := hwx.symm
        clear hwx
        subst hwy
        have hm := HM.out
        subst hm
        refine (by assumption : ∀ (a : Act) (w : World), Code.wp _ _ _ a w → _) _ _ ?_
        exact qp_row HPC.out hn2 (fun i hi => by obtain ⟨q, _, rfl⟩ := List.mem_map.1 hi; exact cntN_ok q) hcols HRC.out.1 HRC.out.2 _ _ _ _ _ _ _ _ _ _ _ _ _ _ _ _ _ _ _ _ _ _ _ _ _ _ _ _ _ _ _ _ _ _ _ _ _ _ _ _ _ _ _ _ _ _ _ _ _ _ _ _ _ _ _ _ _ _ _ _ _ _ _ _ _ _ _ _ _ _ _ _ _ _ _ _ _ _ _ _ _ _ _ _ _ _ _ _ _ _ _ _ _ _ _ _ _ _ _ _ _ _ _ _ _ _ _ _ _ _ _ _ _ _ _ _ _ _ _ _ _ _ _ _ _ _ _ _ _ _ _ _ _ _ _ _ _ _ _ _ _ _ _ _ _ _ _ _ _ _ _ _ _ _ _ _ _ _ _ _ _ _ _ _ _ _ _ _ _ _ _ _ _ _ _ _ _ _ _ _ _ _ _ _ _ _ _ _ _ _ _ _ _ _ _ _ _ _ _ _ _ _ _ _ _ _ _ _ _ _ _ _ _ _ _ _ _ _ _ _ _ _ _ _ _ _ _ _ _ _ _ _ _ _ _ _ _ _ _
end Go.Proofs.Ytbphlbohiifcmaa
