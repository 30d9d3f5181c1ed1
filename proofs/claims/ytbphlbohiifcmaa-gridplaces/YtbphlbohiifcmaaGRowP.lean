/- standInRows, walked. -/
import Derived.Test.YtbphlbohiifcmaaGHist
namespace Go.Proofs.Ytbphlbohiifcmaa
open Go.RowKit
set_option linter.unusedVariables false      -- bounds that are for the walk

set_option maxHeartbeats 8000000 in
set_option maxRecDepth 100000 in
theorem standInRows_any {w wq : World} {tb mb : Nat} {sv : Value} {F : Tk} {cols : Int} {its l0 : List Gi} (h : TbAt w wq tb mb sv F cols its) (hi : GInv l0 its F cols 220 (PRow l0 0)) {c0 : Int} (hrs : RowS l0 c0 0 its cols) (hl : l0.length ≤ 200) (hcb : cols ≤ 220) :
    Calls Try.prog 44 #[.pointer (some ⟨tb, 0, none⟩)] wq fun e w' => e = .returned (.tuple #[]) ∧ ∃ F' cols' its' B', TbAt w w' tb mb sv F' cols' its' ∧ GInv l0 its' F' cols' B' (PRow l0 l0.length) ∧ 220 ≤ B' ∧ B' ≤ 5000 ∧ cols' ≤ B' ∧ RowS l0 c0 l0.length its' cols' := by
  obtain ⟨tl, t0, t1, t2⟩ := h.cells
  obtain ⟨sa, sc, rfl, g1, g2⟩ := h.shape
  have HT := hidF h
  have HG := hidF (And.intro hi hrs)
  obtain ⟨n, hn⟩ : ∃ n, its.length = n := ⟨_, rfl⟩
  have HL : Hid (l0.length = n) := by show _ = _; rw [← hi.len]; exact hn
  have hn2 : n ≤ 200 := by rw [← HL.out]; exact hl
  rw [hn] at t0 g1 HT ⊢
  clear h hi hn hrs
  go_enter Try.func44, Try.ntmps44
  go_wp2_with fail
  go_loopw [9] (fun iv wr => ∃ (k : Nat) (F' : Tk) (cols' B' : Int) (its' : List Gi), k ≤ n ∧ iv = .int .i64 k ∧ 220 ≤ B' ∧ B' ≤ 220 + 21 * (k : Int) ∧ cols' ≤ B' ∧ Hid (TbAt w wr tb mb (.slice sa n sc) F' cols' its' ∧ GInv l0 its' F' cols' B' (PRow l0 k) ∧ RowS l0 c0 k its' cols')) (fun iv _ => n - (intV iv).toNat)
  case atStart => exact ⟨0, F, cols, 220, its, Nat.zero_le _, rfl, by omega, by omega, hcb, HT.out, HG.out⟩
  case round =>
    obtain ⟨k, F', cols', B', its', hk, rfl, b1, b2, b3, HZ⟩ := hrel
    have hln : its'.length = n := by rw [HZ.out.2.1.len]; exact HL.out
    have HLN := hidF hln
    by_cases hlt : k < n
    · obtain ⟨i, hik⟩ : ∃ i, its'[k]? = some i := ⟨_, List.getElem?_eq_getElem (by omega)⟩
      obtain ⟨o, ho⟩ : ∃ o, l0[k]? = some o := ⟨_, List.getElem?_eq_getElem (by rw [HL.out]; exact hlt)⟩
      have hgo := HZ.out.2.1.ok0 o (List.mem_of_getElem? ho)
      obtain ⟨g, c9, hsv, _, _, gl, x1, x2, x3, x4, fz⟩ := HZ.out.1.at hik
      rw [hln] at hsv
      cases hsv
      obtain ⟨tl2, t02, t12, t22⟩ := HZ.out.1.cells
      have i1 : (0 : Int) ≤ (k : Int) := by omega
      have i2 : (k : Int) < (n : Int) := by omega
      have HIK := hidF hik
      have HO := hidF ho
      have HGO := hidF hgo
      -- what stands, and what it was told
      have HSK : Hid ((i.r = 0 ∨ 0 < i.c) → GInv l0 its' F' cols' B' (PRow l0 (k + 1))) := by
        intro hc
        by_cases hP : PRow l0 k k
        · refine HZ.out.2.1.mono (fun j hj => ?_) (fun j hj => hj.lt)
          obtain ⟨q, e1, e2⟩ := hP
          have hqt : q.told := by rcases e2 with e2 | ⟨e2, _⟩; exact e2; omega
          constructor
          · rintro ⟨p, p1, p2⟩
            exact ⟨p, p1, by rcases p2 with p2 | ⟨p2, p3⟩; exact .inl p2; exact .inr ⟨by omega, p3⟩⟩
          · rintro ⟨p, p1, p2⟩
            refine ⟨p, p1, ?_⟩
            rcases p2 with p2 | ⟨p2, p3⟩
            · exact .inl p2
            · by_cases e : j = k
              · subst e
                rw [e1] at p1
                cases p1
                exact .inl hqt
              · exact .inr ⟨by omega, p3⟩
        · have e : its'[k]? = l0[k]? := HZ.out.2.1.un k hP
          rw [HIK.out, HO.out] at e
          cases e
          exact HZ.out.2.1.row_skip HO.out hc HGO.out.r0
      have HST : Hid (¬ (i.r = 0 ∨ 0 < i.c) → i = o ∧ 0 < o.r ∧ o.c = 0) := by
        intro hc
        have hP : ¬ PRow l0 k k := fun hP => by
          have := HZ.out.2.1.st k i hP HIK.out
          omega
        have e : its'[k]? = l0[k]? := HZ.out.2.1.un k hP
        rw [HIK.out, HO.out] at e
        cases e
        have := HGO.out.r0
        have := HGO.out.c0
        exact ⟨rfl, by omega, by omega⟩
      have HRS : Hid ((i.r = 0 ∨ 0 < i.c) → RowS l0 c0 (k + 1) its' cols') := by
        intro hc
        have e := HZ.out.2.2.un (.inl (Nat.le_refl k))
        rw [HIK.out, HO.out] at e
        cases e
        exact .skip HZ.out.2.2 HO.out hc
      clear hik ho hgo
      obtain ⟨ic, ics, ir, irs⟩ := i
      simp only at x1 x2 x3 x4 HSK HST HRS
      by_cases hc : ir = 0 ∨ 0 < ic
      · have HS := hidF (And.intro (HSK.out hc) (HRS.out hc))
        rcases hc with hc | hc
        · have hc' : (ir == 0) = true := by simpa using hc
          clear hc
          go_wp2_with fail
          go_roundw
          case rel => go_light; exact ⟨k + 1, F', cols', B', its', by omega, by go_num, by omega, by omega, b3, HZ.out.1, HS.out⟩
          case measure => simp [intV]; omega
        · by_cases hr : ir = 0
          · have hc' : (ir == 0) = true := by simpa using hr
            clear hr
            go_wp2_with fail
            go_roundw
            case rel => go_light; exact ⟨k + 1, F', cols', B', its', by omega, by go_num, by omega, by omega, b3, HZ.out.1, HS.out⟩
            case measure => simp [intV]; omega
          · have hc' : (ir == 0) = false := by simpa using hr
            clear hr
            go_wp2_with fail
            go_roundw
            case rel => go_light; exact ⟨k + 1, F', cols', B', its', by omega, by go_num, by omega, by omega, b3, HZ.out.1, HS.out⟩
            case measure => simp [intV]; omega
      · obtain ⟨ho, hr1, hc0⟩ := HST.out hc
        subst ho
        simp only at hr1 hc0
        have hc' : (ir == 0) = false := by simp; omega
        have hc2 : ¬ 0 < ic := by omega
        have HC0 := hidF hc0
        have fz0 := fz (k * 4)
        have HP1 := hidF (HZ.out.1.put (f := 0) (i' := ⟨1, ics, ir, irs⟩) (v := .int .i64 1) HLN.out HIK.out (by omega) rfl)
        have HNC := hidF hc
        clear hc hc0 fz HST HSK HRS
        go_upto_region 5 with fail
        go_cut [] (fun wx => Hid (TbAt w wx tb mb (.slice (some ⟨g, 0, none⟩) n sc) F' cols' (its'.set k ⟨1, ics, ir, irs⟩)))
        case first =>
          go_wp2_with fail
          go_meet
          case rel => go_light; exact HP1.out
        case rest =>
        have H1 := hidF hcut.out
        have hk1 : (its'.set k ⟨1, ics, ir, irs⟩)[k]? = some ⟨1, ics, ir, irs⟩ := by rw [List.getElem?_set, if_pos rfl, if_pos (List.getElem?_eq_some_iff.1 HIK.out).1]
        have HK1 := hidF hk1
        have hl1 : (its'.set k ⟨1, ics, ir, irs⟩).length = n := by rw [List.length_set]; exact HLN.out
        have HL1 := hidF hl1
        obtain ⟨g', c9, hsv, _, _, gl1, y1, y2, y3, y4, fy⟩ := H1.out.at hk1
        rw [hl1] at hsv
        cases hsv
        obtain ⟨tl3, t03, t13, t23⟩ := H1.out.cells
        simp only at y1 y2 y3 y4
        have s1 := HGO.out.cs1
        have s2 := HGO.out.cs2
        have s3 := HGO.out.rs1
        have s4 := HGO.out.rs2
        have s5 := HGO.out.r2
        simp only at s1 s2 s3 s4 s5
        obtain ⟨w1, hw1⟩ : ∃ w9, w9 = wc := ⟨_, rfl⟩
        subst hw1
        have HD := hidF (H1.out.held (Below.refl w1.heap.size w1).drew)
        have CW := hidF (clearCol_any HD.out.map HZ.out.2.1.tk (by omega) (by omega) (i := ⟨1, ics, ir, irs⟩) ⟨by show (1 : Int) ≤ 1; omega, by show (1 : Int) ≤ 100000; omega, s1, s2, by show 1 ≤ ir; omega, by show ir ≤ 100000; omega, s3, s4⟩ (by show (1 : Int) ≤ 90000; omega))
        unfold gV at CW
        simp only at CW
        clear hcut hk1 hl1 HP1 x1 x2 x3 x4 t02 t12 t22 fz0
        go_upto_region 6 with fail
        go_cut [] (fun wx => Hid (∃ c, ColIs F' ⟨1, ics, ir, irs⟩ B' c ∧ TbAt w wx tb mb (.slice (some ⟨g, 0, none⟩) n sc) F' cols' (its'.set k ⟨c, ics, ir, irs⟩)))
        case first =>
          go_region_with ((go_at_call 71; refine CW.out.mono ?_; rintro e w7 ⟨c, rfl, hcl, hb7⟩
                           have HX := hidF (And.intro hcl (HD.out.held hb7))
                           obtain ⟨g', c9, hsv, _, _, vl, v1, v2, v3, v4, vf⟩ := HX.out.2.at HK1.out
                           rw [HL1.out] at hsv
                           cases hsv
                           have vf0 := vf (k * 4)
                           clear hcl hb7 vf))
          all_goals
            go_wp2_with fail
            go_meet
            case rel =>
              go_light
              refine ⟨c, HX.out.1, ?_⟩
              have := HX.out.2.put (f := 0) (i' := ⟨c, ics, ir, irs⟩) (v := .int .i64 c) HL1.out HK1.out (by omega) rfl
              rw [List.set_set] at this
              exact this
        case rest =>
        obtain ⟨c, hcl, hT2⟩ := hcut.out
        have H2 := hidF hT2
        have HCL := hidF hcl
        have cge := hcl.ge
        have cle := hcl.le
        simp only at cge cle
        have hk2 : (its'.set k ⟨c, ics, ir, irs⟩)[k]? = some ⟨c, ics, ir, irs⟩ := by rw [List.getElem?_set, if_pos rfl, if_pos (List.getElem?_eq_some_iff.1 HIK.out).1]
        have HK2 := hidF hk2
        have hl2 : (its'.set k ⟨c, ics, ir, irs⟩).length = n := by rw [List.length_set]; exact HLN.out
        have HL2 := hidF hl2
        clear y1 y2 y3 y4 t03 t13 t23 fy HD CW H1
        obtain ⟨g', c9, hsv, _, _, gl2, y1, y2, y3, y4, fy⟩ := hT2.at hk2
        rw [hl2] at hsv
        cases hsv
        obtain ⟨tl4, t04, t14, t24⟩ := hT2.cells
        simp only at y1 y2 y3 y4
        have LW := hidF (fun W => lastCol_any (i := ⟨c, ics, ir, irs⟩) (by show -1000000 ≤ c; omega) (by show c ≤ 1000000; omega) (by show -1000000 ≤ ics; omega) (by show ics ≤ 1000000; omega) W)
        unfold gV Gi.lc at LW
        simp only at LW
        obtain ⟨lc, hlc⟩ : ∃ t, c + ics - 1 = t := ⟨_, rfl⟩
        rw [hlc] at LW
        have HLC := hidF hlc
        obtain ⟨w2, hw2⟩ : ∃ w9, w9 = wc := ⟨_, rfl⟩
        subst hw2
        have HD := hidF (H2.out.held (Below.refl w2.heap.size w2).drew)
        clear hcut hk2 hl2 hT2 hcl hlc
        go_upto_region 7 with fail
        go_cut [] (fun wx => Hid (TbAt w wx tb mb (.slice (some ⟨g, 0, none⟩) n sc) F' (max cols' lc) (its'.set k ⟨c, ics, ir, irs⟩)))
        case first =>
          go_region_with ((go_at_call 69; refine (LW.out _).mono ?_; rintro e w7 ⟨rfl, hb7⟩
                           have HX := hidF (HD.out.held hb7)
                           obtain ⟨vl, v0, v1, v2⟩ := HX.out.cells
                           have vf := HX.out.frz 2
                           clear hb7))
          all_goals go_wp2_with fail
          all_goals
            go_meet
            case rel => first | (rw [show max cols' lc = lc by omega]; exact HX.out.setCols _) | (rw [show max cols' lc = cols' by omega]; exact HX.out.setCols _)
        case rest =>
        have H3 := hidF hcut.out
        clear y1 y2 y3 y4 t04 t14 t24 fy HD LW H2
        obtain ⟨g', c9, hsv, _, _, gl3, y1, y2, y3, y4, fy⟩ := H3.out.at HK2.out
        rw [HL2.out] at hsv
        cases hsv
        obtain ⟨tl5, t05, t15, t25⟩ := H3.out.cells
        simp only at y1 y2 y3 y4
        obtain ⟨hst, hok⟩ := HZ.out.2.1.row_step HO.out hr1 HC0.out b1 (by omega) HCL.out
        have HS : Hid (GInv l0 (its'.set k ⟨c, ics, ir, irs⟩) (takeF F' ⟨c, ics, ir, irs⟩) (max cols' lc) (B' + 21) (PRow l0 (k + 1)) ∧ RowS l0 c0 (k + 1) (its'.set k ⟨c, ics, ir, irs⟩) (max cols' lc)) := by
          rw [← HLC.out]
          exact ⟨hst, .put HZ.out.2.2 HO.out HNC.out (ColIs.leastL HZ.out.2.1 (o := ⟨ic, ics, ir, irs⟩) s1 s3 HCL.out) (by omega)⟩
        obtain ⟨w3, hw3⟩ : ∃ w9, w9 = wc := ⟨_, rfl⟩
        subst hw3
        have HD := hidF (H3.out.held (Below.refl w3.heap.size w3).drew)
        have TA := hidF (take_any HD.out.map hok)
        unfold gV Gi.atC at TA
        simp only at TA
        have hmx9 : max cols' lc ≤ B' + 21 := by have := HLC.out; omega
        clear hcut hst hok fy t05 t25
        go_upto_region 8 with fail
        go_region_held3 (fun wx => wx.cell? ⟨tb, 1, none⟩ = some (.map (some mb)) ∧ wx.cell? ⟨g, k * 4, none⟩ = some (.int .i64 c) ∧ wx.cell? ⟨g, k * 4 + 1, none⟩ = some (.int .i64 ics) ∧ wx.cell? ⟨g, k * 4 + 2, none⟩ = some (.int .i64 ir) ∧ wx.cell? ⟨g, k * 4 + 3, none⟩ = some (.int .i64 irs)) (go_keep)
          ((go_at_call 70; refine TA.out.mono ?_; rintro e w7 ⟨rfl, hm7, hk7⟩
            have HX := hidF (HD.out.taken hm7 hk7)
            obtain ⟨g', c9, hsv, _, _, vl, m1, m2, m3, m4, vf⟩ := HX.out.at HK2.out
            rw [HL2.out] at hsv
            cases hsv
            have m0 := HX.out.cells.2.2.1
            simp only at m1 m2 m3 m4
            clear hm7 hk7 vf))
        all_goals
          go_wp2_with fail
          go_roundw
          case rel => go_light; exact ⟨k + 1, _, _, B' + 21, _, by omega, by go_num, by omega, by omega, hmx9, HX.out, HS.out⟩
          case measure => simp [intV]; omega
    · obtain rfl : k = n := by omega
      have hl2 : ¬ (k : Int) < (k : Int) := by omega
      go_wp2_with fail
      go_returns
      refine ⟨rfl, F', cols', its', ?_⟩
      first
        | exact ⟨HZ.out.1, B', by rw [HL.out]; exact HZ.out.2.1, b1, by omega, b3, by rw [HL.out]; exact HZ.out.2.2⟩
        | exact ⟨HZ.out.1, ⟨B', by rw [HL.out]; exact HZ.out.2.1, b1, by omega, b3⟩, by rw [HL.out]; exact HZ.out.2.2⟩
end Go.Proofs.Ytbphlbohiifcmaa
