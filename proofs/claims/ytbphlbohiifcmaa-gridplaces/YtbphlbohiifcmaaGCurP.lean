/- standFromCursor, walked. -/
import Derived.Test.YtbphlbohiifcmaaGRowP
import Derived.BigRegion
namespace Go.Proofs.Ytbphlbohiifcmaa
open Go.RowKit
set_option linter.unusedVariables false      -- bounds that are for the walk

set_option maxHeartbeats 8000000 in
set_option maxRecDepth 100000 in
theorem standFromCursor_any {w wq : World} {tb mb : Nat} {sv : Value} {F : Tk} {cols B : Int} {its l0 : List Gi} (h : TbAt w wq tb mb sv F cols its) (hi : GInv l0 its F cols B (PCur l0 0)) {l1 : List Gi} (hcs : CurS l0 l1 cols 0 its 1 1) (hl : l0.length ≤ 200) (B1 : 220 ≤ B) (B2 : B ≤ 5000) (B3 : cols ≤ B) :
    Calls Try.prog 45 #[.pointer (some ⟨tb, 0, none⟩)] wq fun e w' => e = .returned (.tuple #[]) ∧ ∃ F' its' B', TbAt w w' tb mb sv F' cols its' ∧ GInv l0 its' F' cols B' (PCur l0 l0.length) ∧ B' ≤ 10000 ∧ ∃ cc cr, CurS l0 l1 cols l0.length its' cc cr := by
  obtain ⟨tl, t0, t1, t2⟩ := h.cells
  obtain ⟨sa, sc, rfl, g1, g2⟩ := h.shape
  obtain ⟨n, hn⟩ : ∃ n, its.length = n := ⟨_, rfl⟩
  have HL : Hid (l0.length = n) := by show _ = _; rw [← hi.len]; exact hn
  have hn2 : n ≤ 200 := by rw [← HL.out]; exact hl
  have hcm : wq.heap.size ≠ tb ∧ wq.heap.size ≠ mb := by have := h.map.lt; omega
  have hcg : ∀ g o, sa = some ⟨g, o, none⟩ → wq.heap.size ≠ g := fun g o e => by
    have := (h.row.lt g (by rw [e]; rfl)).2
    omega
  have HG := hidF (And.intro hi hcs)
  have HT := hidF h
  rw [hn] at t0 g1 HT ⊢
  have HB0 := hidF (HT.out.held (W := wq.alloc (.cells #[.int .i64 1, .int .i64 1] 116)) ((Below.refl _ _).alloc (Nat.le_refl _) _))
  have HCU : Hid (CuAt (wq.alloc (.cells #[.int .i64 1, .int .i64 1] 116)) wq.heap.size 1 1) := heap_alloc_new wq _
  have HCG := hidF hcg
  have HCM := hidF hcm
  have hlow : w.heap.size ≤ wq.heap.size := h.below.size
  have tl' : tb < wq.heap.size + 1 := by omega
  clear h hi hn hcg hcm hcs
  go_enter Try.func45, Try.ntmps45
  go_wp2_with fail
  obtain ⟨cb, hcb⟩ : ∃ c, wq.heap.size = c := ⟨_, rfl⟩
  rw [hcb] at HCU HCG HCM hlow ⊢
  clear hcb tl'
  go_loopw [11] (fun iv wr => ∃ (k : Nat) (F' : Tk) (B' cc cr : Int) (its' : List Gi), k ≤ n ∧ iv = .int .i64 k ∧ 220 ≤ B' ∧ B' ≤ 5000 + 21 * (k : Int) ∧ cols ≤ B' ∧ 1 ≤ cc ∧ cc ≤ B' ∧ 1 ≤ cr ∧ cr ≤ B' ∧ Hid (TbAt w wr tb mb (.slice sa n sc) F' cols its' ∧ CuAt wr cb cc cr ∧ GInv l0 its' F' cols B' (PCur l0 k) ∧ CurS l0 l1 cols k its' cc cr)) (fun iv _ => n - (intV iv).toNat)
  case atStart => exact ⟨0, F, B, 1, 1, its, Nat.zero_le _, rfl, B1, by omega, B3, by omega, by omega, by omega, by omega, HB0.out, HCU.out, HG.out⟩
  case round =>
    obtain ⟨k, F', B', cc, cr, its', hk, rfl, b1, b2, b3, p1, p2, p3, p4, HZ⟩ := hrel
    have hln : its'.length = n := by rw [HZ.out.2.2.1.len]; exact HL.out
    have HLN := hidF hln
    by_cases hlt : k < n
    · obtain ⟨i, hik⟩ : ∃ i, its'[k]? = some i := ⟨_, List.getElem?_eq_getElem (by omega)⟩
      obtain ⟨o, ho⟩ : ∃ o, l0[k]? = some o := ⟨_, List.getElem?_eq_getElem (by rw [HL.out]; exact hlt)⟩
      have hgo := HZ.out.2.2.1.ok0 o (List.mem_of_getElem? ho)
      obtain ⟨g, c9, hsv, _, _, gl, x1, x2, x3, x4, fz⟩ := HZ.out.1.at hik
      rw [hln] at hsv
      cases hsv
      obtain ⟨tl2, t02, t12, t22⟩ := HZ.out.1.cells
      obtain ⟨ul, u1, u2⟩ := HZ.out.2.1.cells
      have HZC : Hid (TcAt w wr tb mb cb g n sc F' cols its' cc cr) := ⟨HZ.out.1, HZ.out.2.1, HCG.out g 0 rfl, HCM.out.1, HCM.out.2, hlow⟩
      have i1 : (0 : Int) ≤ (k : Int) := by omega
      have i2 : (k : Int) < (n : Int) := by omega
      have HIK := hidF hik
      have HO := hidF ho
      have HGO := hidF hgo
      have HSK : Hid (0 < i.r → GInv l0 its' F' cols B' (PCur l0 (k + 1))) := by
        intro hc
        by_cases hor : 0 < o.r
        · refine HZ.out.2.2.1.cur_next HO.out (fun j => ⟨.inl, ?_⟩)
          rintro (hj | rfl)
          · exact hj
          · exact ⟨o, HO.out, .inl hor⟩
        · exfalso
          have hP : ¬ PCur l0 k k := by
            rintro ⟨q, e1, e2⟩
            rw [HO.out] at e1
            cases e1
            omega
          have e : its'[k]? = l0[k]? := HZ.out.2.2.1.un k hP
          rw [HIK.out, HO.out] at e
          cases e
          omega
      have HST : Hid (¬ 0 < i.r → i = o ∧ ¬ PCur l0 k k) := by
        intro hc
        have hP : ¬ PCur l0 k k := fun hP => by
          have := HZ.out.2.2.1.st k i hP HIK.out
          omega
        have e : its'[k]? = l0[k]? := HZ.out.2.2.1.un k hP
        rw [HIK.out, HO.out] at e
        cases e
        exact ⟨rfl, hP⟩
      have HRS : Hid (0 < i.r → GInv l0 its' F' cols B' (PCur l0 (k + 1)) → CurS l0 l1 cols (k + 1) its' cc cr) := by
        intro hc _
        by_cases hor : 0 < o.r
        · exact .skip HZ.out.2.2.2 HO.out hor
        · exfalso
          have hP : ¬ PCur l0 k k := by
            rintro ⟨q, e1, e2⟩
            rw [HO.out] at e1
            cases e1
            omega
          have e : its'[k]? = l0[k]? := HZ.out.2.2.1.un k hP
          rw [HIK.out, HO.out] at e
          cases e
          omega
      clear hik ho hgo
      obtain ⟨ic, ics, ir, irs⟩ := i
      simp only at x1 x2 x3 x4 HSK HST HRS
      by_cases hc : 0 < ir
      · have HS := hidF (And.intro (HSK.out hc) (HRS.out hc (HSK.out hc)))
        go_wp2_with fail
        go_roundw
        case rel => go_light; exact ⟨k + 1, F', B', cc, cr, its', by omega, by go_num, b1, by omega, b3, p1, p2, p3, p4, HZ.out.1, HZ.out.2.1, HS.out⟩
        case measure => simp [intV]; omega
      · obtain ⟨hoe, hnP⟩ := HST.out hc
        subst hoe
        have HNP := hidF hnP
        have s1 := HGO.out.cs1
        have s2 := HGO.out.cs2
        have s3 := HGO.out.rs1
        have s4 := HGO.out.rs2
        have s5 := HGO.out.r0
        have s6 := HGO.out.c0
        have s7 := HGO.out.c2
        simp only at s1 s2 s3 s4 s5 s6 s7
        have hco := HZ.out.2.2.1.co2 _ (List.mem_of_getElem? HO.out)
        simp only at hco
        obtain ⟨w1, hw1⟩ : ∃ w9, w9 = wr := ⟨_, rfl⟩
        subst hw1
        have HD := hidF (HZC.out.held (Below.refl w1.heap.size w1).drew)
        have HNR := hidF hc
        clear hnP HST HSK HRS
        go_upto_if 29 with fail
        go_cut [] (fun wx => Hid (∃ i', (Stp F' cols B' ⟨ic, ics, ir, irs⟩ i' ∧ CurS l0 l1 cols (k + 1) (its'.set k i') i'.c i'.r) ∧ TcAt w wx tb mb cb g n sc F' cols (its'.set k i') cc cr))
        case first =>
          by_cases hic : 0 < ic
          · have IC := hidF (inCol_any HD.out.t HZ.out.2.2.1.tk (by omega) (by omega) (i := ⟨ic, ics, ir, irs⟩) ⟨by show 1 ≤ ic; omega, by show ic ≤ 100000; omega, s1, s2, by show (1 : Int) ≤ 1; omega, by show (1 : Int) ≤ 100000; omega, s3, s4⟩ (by show ic ≤ 80000; omega) (cc := cc) (cr := cr) (by omega) (by omega) p3 (by omega))
            unfold gV cellV Gi.atR at IC
            simp only at IC
            go_upto_region 7 with fail
            go_region_with ((go_at_call 72; refine IC.out.mono ?_; rintro e w7 ⟨r, rfl, hr, hb7⟩
                             have HX := hidF (And.intro (And.intro (stp_col HZ.out.2.2.1 (List.mem_of_getElem? HO.out) hic b1 (by omega) (by split <;> omega) (by split <;> omega) hr) (CurS.col HZ.out.2.2.2 HO.out HNR.out hic (RowIs.leastL HZ.out.2.2.1 (o := ⟨ic, ics, ir, irs⟩) s1 s3 hr) (by have hle := hr.le; simp only at hle; split at hle <;> omega))) (HD.out.held hb7))
                             obtain ⟨g', c9, hsv, _, _, vl, v1, v2, v3, v4, vf⟩ := HX.out.2.t.at HIK.out
                             rw [HLN.out] at hsv
                             cases hsv
                             have vf0 := vf (k * 4)
                             have vf1 := vf (k * 4 + 1)
                             have vf2 := vf (k * 4 + 2)
                             have vf3 := vf (k * 4 + 3)
                             clear hr hb7 vf))
            all_goals
              go_wp2_with fail
              go_meet
              case rel => go_light; exact ⟨_, HX.out.1, HX.out.2.put4 HLN.out HIK.out _ _ _ _⟩
          · have IC := hidF (inOrder_any HD.out.t HZ.out.2.2.1.tk (by omega) (by omega) (i := ⟨ic, ics, ir, irs⟩) s1 s2 s3 s4 hco (by omega) (cc := cc) (cr := cr) p1 (by omega) p3 (by omega))
            unfold gV cellV at IC
            simp only at IC
            go_upto_region 8 with fail
            go_region_with ((go_at_call 73; refine IC.out.mono ?_; rintro e w7 ⟨c, r, rfl, hr, hb7⟩
                             have HX := hidF (And.intro (And.intro (stp_ord HZ.out.2.2.1 (List.mem_of_getElem? HO.out) (by omega) b3 p3 p4 hr) (CurS.ord HZ.out.2.2.2 HO.out HNR.out hic (OrdIs.ordL HZ.out.2.2.1 s1 s3 hr) (by have hle := hr.r2; omega))) (HD.out.held hb7))
                             obtain ⟨g', c9, hsv, _, _, vl, v1, v2, v3, v4, vf⟩ := HX.out.2.t.at HIK.out
                             rw [HLN.out] at hsv
                             cases hsv
                             have vf0 := vf (k * 4)
                             have vf1 := vf (k * 4 + 1)
                             have vf2 := vf (k * 4 + 2)
                             have vf3 := vf (k * 4 + 3)
                             clear hr hb7 vf))
            all_goals
              go_wp2_with fail
              go_meet
              case rel => go_light; exact ⟨_, HX.out.1, HX.out.2.put4 HLN.out HIK.out _ _ _ _⟩
        case rest =>
        obtain ⟨⟨jc, jcs, jr, jrs⟩, ⟨hst, hcu⟩, hT2⟩ := hcut.out
        have HCU := hidF hcu
        clear hcu
        have H2 := hidF hT2
        have HSP := hidF hst
        have hk2 : (its'.set k ⟨jc, jcs, jr, jrs⟩)[k]? = some ⟨jc, jcs, jr, jrs⟩ := by rw [List.getElem?_set, if_pos rfl, if_pos (List.getElem?_eq_some_iff.1 HIK.out).1]
        have HK2 := hidF hk2
        have hl2 : (its'.set k ⟨jc, jcs, jr, jrs⟩).length = n := by rw [List.length_set]; exact HLN.out
        have HL2 := hidF hl2
        have o1 := hst.ok.c1
        have o2 := hst.ok.r1
        have o3 := hst.lc
        have o4 := hst.lr
        have o5 := hst.ok.cs1
        have o6 := hst.ok.rs1
        unfold Gi.lc at o3
        unfold Gi.lr at o4
        simp only at o1 o2 o3 o4 o5 o6
        clear x1 x2 x3 x4 u1 u2 t02 t12 t22 fz HD
        obtain ⟨g', c9, hsv, _, _, gl2, y1, y2, y3, y4, fy⟩ := hT2.t.at hk2
        rw [hl2] at hsv
        cases hsv
        obtain ⟨tl4, t04, t14, t24⟩ := hT2.t.cells
        obtain ⟨ul2, u3, u4⟩ := hT2.u.cells
        have uf0 := hT2.u.frz 0
        have uf1 := hT2.u.frz 1
        have ung := hT2.ng
        simp only at y1 y2 y3 y4
        obtain ⟨w2, hw2⟩ : ∃ w9, w9 = wc := ⟨_, rfl⟩
        subst hw2
        have HD2 := hidF (H2.out.held (Below.refl w2.heap.size w2).drew)
        clear hcut hk2 hl2 hT2 hst fy
        go_upto_region 9 with fail
        go_cut [] (fun wx => Hid (TcAt w wx tb mb cb g n sc F' cols (its'.set k ⟨jc, jcs, jr, jrs⟩) jc jr))
        case first =>
          go_region
          all_goals
            go_wp2_with fail
            go_meet
            case rel => go_light; exact HD2.out.setCu jc jr
        case rest =>
        have H3 := hidF hcut.out
        clear y1 y2 y3 y4 t04 t14 t24 u3 u4 uf0 uf1 HD2 H2
        obtain ⟨g', c9, hsv, _, _, gl3, y1, y2, y3, y4, fy⟩ := H3.out.t.at HK2.out
        rw [HL2.out] at hsv
        cases hsv
        obtain ⟨tl5, t05, t15, t25⟩ := H3.out.t.cells
        simp only at y1 y2 y3 y4
        have HS : Hid (GInv l0 (its'.set k ⟨jc, jcs, jr, jrs⟩) (takeF F' ⟨jc, jcs, jr, jrs⟩) cols (B' + 21) (PCur l0 (k + 1)) ∧ CurS l0 l1 cols (k + 1) (its'.set k ⟨jc, jcs, jr, jrs⟩) jc jr) := by
          have hm := HZ.out.2.2.1.more (cols' := cols) (B' := B' + 21) HO.out HNP.out HSP.out.ok HSP.out.sp (.inl HSP.out.free) HSP.out.lc HSP.out.lr (by omega) (Int.le_refl _) HSP.out.co
          exact ⟨hm.cur_next HO.out (fun j => Iff.rfl), HCU.out⟩
        obtain ⟨w3, hw3⟩ : ∃ w9, w9 = wc := ⟨_, rfl⟩
        subst hw3
        have HD := hidF (H3.out.held (Below.refl w3.heap.size w3).drew)
        have TA := hidF (take_any HD.out.t.map HSP.out.ok)
        unfold gV at TA
        simp only at TA
        clear hcut fy t05 t25
        go_upto_region 10 with fail
        go_region_held3 (fun wx => wx.cell? ⟨tb, 1, none⟩ = some (.map (some mb)) ∧ wx.cell? ⟨g, k * 4, none⟩ = some (.int .i64 jc) ∧ wx.cell? ⟨g, k * 4 + 1, none⟩ = some (.int .i64 jcs) ∧ wx.cell? ⟨g, k * 4 + 2, none⟩ = some (.int .i64 jr) ∧ wx.cell? ⟨g, k * 4 + 3, none⟩ = some (.int .i64 jrs)) (go_keep)
          ((go_at_call 70; refine TA.out.mono ?_; rintro e w7 ⟨rfl, hm7, hk7⟩
            have HX := hidF (HD.out.taken hm7 hk7)
            obtain ⟨g', c9, hsv, _, _, vl, m1, m2, m3, m4, vf⟩ := HX.out.t.at HK2.out
            rw [HL2.out] at hsv
            cases hsv
            have m0 := HX.out.t.cells.2.2.1
            simp only at m1 m2 m3 m4
            clear hm7 hk7 vf))
        all_goals
          go_wp2_with fail
          go_roundw
          case rel => go_light; exact ⟨k + 1, _, B' + 21, jc, jr, _, by omega, by go_num, by omega, by omega, by omega, o1, by omega, o2, by omega, HX.out.t, HX.out.u, HS.out⟩
          case measure => simp [intV]; omega
    · obtain rfl : k = n := by omega
      have hl2 : ¬ (k : Int) < (k : Int) := by omega
      go_wp2_with fail
      go_returns
      refine ⟨rfl, F', its', ?_⟩
      first
        | exact ⟨HZ.out.1, ⟨B', by rw [HL.out]; exact HZ.out.2.2.1, by omega⟩, cc, cr, by rw [HL.out]; exact HZ.out.2.2.2⟩
        | exact ⟨HZ.out.1, B', by rw [HL.out]; exact HZ.out.2.2.1, by omega, cc, cr, by rw [HL.out]; exact HZ.out.2.2.2⟩
end Go.Proofs.Ytbphlbohiifcmaa
