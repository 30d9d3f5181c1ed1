/- EventsSent, walked: along any ears and events the program's calls are the document's. -/
import Derived.Test.YtlfepdecgfcifaaDoorEvLawB
import Derived.Deep.RegionHeld3
namespace Go.Proofs.YtlfepdecgfcifaaDoor
open Go.RowKit Go.BigFrame
set_option linter.unusedVariables false
attribute [local go_sem] Oper.semAt_some

/-- both ears have heard -/
def CutS (W w2 : World) (eb wb : Nat) (n0 : Nat) (st : EvT) (E : List EvS) (gv : Value) (s1 s2 : Value) (wx : World) : Prop :=
  s2 = .bool (!st.barred) ∧ ∃ v xb lv, LwSt w2 eb wb v xb lv gv st.E E wx ∧ wx.ownsRow n0 99 3 s1 st.calls.length (callsC st.calls) ∧ (∀ b, gv.ownBlock = some b → b < n0)
def CutT (W w2 : World) (eb wb : Nat) (n0 : Nat) (st : EvT) (c1 s1 s2 : Value) (wx : World) : Prop :=
  s2 = .bool (!st.barred) ∧ ∃ v xb lv gv, LwSt w2 eb wb v xb lv gv st.E st.E wx ∧ wx.ownsRow n0 99 3 c1 st.calls.length (callsC st.calls) ∧ ∃ n1, wx.ownsRow n1 98 3 s1 st.calls.length (callsC st.calls)

set_option maxHeartbeats 20000000 in
set_option maxRecDepth 100000 in
theorem eventsSent_any {W : World} {cap scap : Nat} {ad sa : Option Addr} {ts : List Tw} {ss : List StepR} (h : TwigsIn W W.heap.size ad ts) (hs : StepsL W W.heap.size sa ss) (hE : Errs W M0) :
    Calls Tryd.prog 3 #[.slice ad ts.length cap, .slice sa ss.length scap] W fun e w' => e = .returned (.bool true) ∧ Below W.heap.size W w' := by
  have H := hid h
  have HS := hid hs
  have HE := hid hE
  have hmx : Tryd.prog.follows Departure.mixedOrders = true := by kernel_rfl
  clear h hs hE
  have HP1 := hid (pes_new W)
  have HB1 : Hid (Below W.heap.size W (W.alloc (.cells #[.slice none 0 0] 57))) := (Below.refl _ W).alloc (Nat.le_refl _) _
  go_enter Tryd.func3, Tryd.ntmps3
  go_wp2_with fail
  refine (evNew_any W).mono ?_
  rintro e W1 ⟨rfl, hW1⟩
  rw [← hW1] at HP1
  rw [← hW1] at HB1
  have hs1 : W1.heap.size = W.heap.size + 1 := by rw [hW1]; simp
  clear hW1
  go_wp2_with fail
  refine (fewTwigsE_any (H.out.same (w' := W1) (fun b hb => HB1.out.block b hb)) (by omega)).mono ?_
  rintro e W2 ⟨⟨r, rfl, hr⟩, hB2⟩
  have HB2 := hid hB2
  have hs2 : W1.heap.size ≤ W2.heap.size := hB2.size
  have HB12 := hid (HB1.out.trans (hB2.mono (by omega)))
  clear hB2
  cases r
  · clear hr
    go_wp2_with fail
    all_goals go_ret
    all_goals exact ⟨rfl, HB12.out⟩
  have HFew := hid (hr rfl)
  have HF : Hid (Fair ts) := ⟨by have := HFew.out.1; omega, fun j t ht => by have := HFew.out.2 j t ht; exact ⟨by have := this.2.2.1; omega, by have := this.2.2.2; omega⟩⟩
  clear hr
  by_cases h250 : 250 < ss.length
  · have h250' : (250 : Int) < (ss.length : Int) := by omega
    go_wp2_with fail
    all_goals go_ret
    all_goals exact ⟨rfl, HB12.out⟩
  have h250' : ¬ (250 : Int) < (ss.length : Int) := by omega
  go_wp2_with fail
  refine (treeG_any ((H.out.same (w' := W2) (fun b hb => HB12.out.block b hb)).wideE (by omega)) (HE.out.below HB12.out) HF.out).mono ?_
  intro e W3 hq
  rcases hq with ⟨_, hnf, _⟩ | ⟨tb, M, nv, uv, ps, us, rfl, hL, hmv, hns, hlen, hsz⟩
  · exact absurd HFew.out hnf
  have hB3 : Below W2.heap.size W2 W3 := ⟨hmv.os, hmv.tape, hmv.output, hmv.size, fun b hb => hmv.far b hb rfl⟩
  have HB13 := hid (HB12.out.trans (hB3.mono (by omega)))
  have hs3 : W2.heap.size ≤ W3.heap.size := hB3.size
  have HB23 := hid hB3
  have HLs := hid (And.intro hL (And.intro hns (hmv.lab W.heap.size (by omega))))
  clear hL hmv hns hsz hB3
  go_wp2_with fail
  refine (fromTwigs_any ((H.out.same (w' := W3) (fun b hb => HB13.out.block b hb)).wideE (by omega)) HFew.out).mono ?_
  rintro e W4 ⟨na, nn, nc, M2, tb2, qs, rfl, hR, hq, hB4⟩
  have hs4 : W3.heap.size ≤ W4.heap.size := hB4.size
  have HB14 := hid (HB13.out.trans (hB4.mono (by omega)))
  have HRs := hid (And.intro hR (And.intro hq hB4))
  clear hR hq hB4
  have HX : Hid (∃ w6, w6 = (W4.alloc (.cells #[.slice na nn nc, .slice none 0 0] 32)).alloc (.cells #[.slice none 0 0, .slice none 0 0] 38)) := ⟨_, rfl⟩
  have hs5 : (W4.alloc (.cells #[.slice na nn nc, .slice none 0 0] 32)).heap.size = W4.heap.size + 1 := by simp
  have HBN : Hid (Below W1.heap.size W1 (W4.alloc (.cells #[.slice na nn nc, .slice none 0 0] 32))) := ((HB2.out.trans (HB23.out.mono (by omega))).trans (HRs.out.2.2.mono (by omega))).trans (((Below.refl _ W4).alloc (Nat.le_refl _) _).mono (by omega))
  have HL0 := hid (lwSt_mk HP1.out HBN.out)
  rw [hs5] at HL0
  have hsN : (treeS ts).length = ts.length + 1 := lastS_length ts _
  have h60 := HFew.out.1
  have FX : Hid (FixAll W ((W4.alloc (.cells #[.slice na nn nc, .slice none 0 0] 32)).alloc (.cells #[.slice none 0 0, .slice none 0 0] 38)) W.heap.size (W4.heap.size + 1) W4.heap.size (.pointer (some ⟨tb, 0, none⟩)) na nn nc sa ss (treeS ts)) := by
    obtain ⟨g1, g2, g3⟩ := HLs.out
    obtain ⟨r1, r2, r3⟩ := HRs.out
    have hq0 : 0 < qs.length := by have := congrArg List.length r2; simp [nodesOf] at this; omega
    obtain ⟨t1, t2⟩ := r1.tqv hq0
    have hb5 : Below W4.heap.size W4 ((W4.alloc (.cells #[.slice na nn nc, .slice none 0 0] 32)).alloc (.cells #[.slice none 0 0, .slice none 0 0] 38)) := ((Below.refl _ W4).alloc (Nat.le_refl _) _).alloc (by simp) _
    have hL6 := (g1.below r3).below (hb5)
    have hrow : ((W4.alloc (.cells #[.slice na nn nc, .slice none 0 0] 32)).alloc (.cells #[.slice none 0 0, .slice none 0 0] 38)).heap[W4.heap.size]? = some (.cells #[.slice na nn nc, .slice none 0 0] 32 (0, 0)) := (Below.heap_alloc _ _ _ (by simp)).trans (heap_alloc_new W4 _)
    have hNe : ∀ b, W4.heap.size ≤ b → (Value.slice na nn nc).ownBlock ≠ some b := fun b hb => t2 b (r1.fresh b hb)
    obtain ⟨nb, ncap, e1, p1, p2, p3, p4, p5⟩ := t1
    have hEb : (Value.slice na nn nc).ownBlock ≠ some W.heap.size := r1.nodes_ne hq0 ((((HB2.out.trans (HB23.out.mono (by omega))).trans (r3.mono (by omega))).block W.heap.size (by omega)).trans HP1.out.head) (by decide)
    refine fixAll_mk HS.out (HB14.out.trans (hb5.mono (by omega))) (by omega) (by omega) hL6 g2 g3 (g1.fresh (W4.heap.size + 1) (by omega)) ?_ hEb (hNe _ (by omega)) (by rw [cell_of_row _ _ _ _ _ _ hrow]; rfl) (by rw [cell_of_row _ _ _ _ _ _ hrow]; rfl) (by omega) (by omega)
    rw [← r2]
    exact ⟨nb, ncap, e1, p1, p2, p3, by have := hb5.size; omega, fun i n hi => (hb5.cell (p := ⟨nb, _, none⟩) p4).trans (p5 i n hi)⟩
  have HA := hid (treeS_asc ts)
  have HW := hid (treeS_wayD ts)
  generalize hns : treeS ts = ns at FX HA HW hsN
  obtain ⟨w6, hw6⟩ := HX.out
  have HBW : Hid (Below W.heap.size W w6) := by
    rw [hw6]
    exact HB14.out.trans ((((Below.refl _ W4).alloc (Nat.le_refl _) _).alloc (by simp) _).mono (by omega))
  rw [← hw6] at HL0 FX
  clear HLs HRs HBN HB14 HB13 HB23 HB12 HB2 HB1 HP1 HX HFew HF HE H HS hs5 hns
  go_wp2_with fail
  have hw6' : (W4.alloc (.cells #[.slice na nn nc, .slice none 0 0] 32)).alloc (.cells #[.slice none 0 0, .slice none 0 0] 38) = w6 := hw6.symm
  rw [hw6']
  go_loopw [10] (fun i wr => ∃ k : Nat, k ≤ ss.length ∧ i = .int .i64 k ∧ Hid (LwI w6 W.heap.size (W4.heap.size + 1) wr)) (fun i _ => ss.length - (intOf i).toNat)
  case atStart => exact ⟨0, by omega, rfl, _, _, _, _, [], by simp, HL0.out⟩
  case round =>
    obtain ⟨k, hk, rfl, HI⟩ := hrel
    by_cases hlt : k < ss.length
    · have hlt' : (k : Int) < (ss.length : Int) := by omega
      obtain ⟨s, hsj⟩ : ∃ s, ss[k]? = some s := ⟨_, List.getElem?_eq_getElem hlt⟩
      obtain ⟨v, xb, lv, gv, E, hE200, hL⟩ := HI.out
      have HL := hid hL
      obtain ⟨b, o, rfl, hbS, hS⟩ := (FX.out.at hL).st k s hsj
      have HS := hid hS
      have HSJ := hid hsj
      have hszr := hL.size
      clear hL hsj
      by_cases k1 : s.kind = 1
      · have c0 := hS.c0
        rw [k1] at c0
        have c1 := hS.c1
        have c2 := hS.c2
        have c3 := hS.c3
        have c4 := hS.c4
        have c5 := hS.c5
        have c6 := hS.c6
        have c7 := hS.c7
        have c8 := hS.c8
        have z1 := hS.z1
        clear hS
        have HQ := hid (evAdd_any (HL.out.alloc (.cells ⟨earC s.ear⟩ 40)).pe (by omega) s.ear z1)
        go_wp2_with fail
        refine HQ.out.mono ?_
        intro e wa hpost
        have hrow := HL.out.ear_row hpost
        obtain ⟨rfl, v', xb', hL1⟩ := (HL.out.alloc _).addP hpost
        have HL1 := hid hL1
        have d0 : wa.cell? ⟨wr.heap.size, 0, none⟩ = some (.int .i64 s.ear.node) := by rw [cell_of_row _ _ _ _ _ _ hrow]; rfl
        have d1 : wa.cell? ⟨wr.heap.size, 1, none⟩ = some (.string s.ear.name) := by rw [cell_of_row _ _ _ _ _ _ hrow]; rfl
        have d2 : wa.cell? ⟨wr.heap.size, 2, none⟩ = some (.bool s.ear.down) := by rw [cell_of_row _ _ _ _ _ _ hrow]; rfl
        have d3 : wa.cell? ⟨wr.heap.size, 3, none⟩ = some (.bool s.ear.once) := by rw [cell_of_row _ _ _ _ _ _ hrow]; rfl
        have d4 : wa.cell? ⟨wr.heap.size, 4, none⟩ = some (.bool s.ear.calm) := by rw [cell_of_row _ _ _ _ _ _ hrow]; rfl
        have d5 : wa.cell? ⟨wr.heap.size, 5, none⟩ = some (.bool s.ear.stop) := by rw [cell_of_row _ _ _ _ _ _ hrow]; rfl
        have d6 : wa.cell? ⟨wr.heap.size, 6, none⟩ = some (.bool s.ear.now) := by rw [cell_of_row _ _ _ _ _ _ hrow]; rfl
        have d7 : wa.cell? ⟨wr.heap.size, 7, none⟩ = some (.bool s.ear.bar) := by rw [cell_of_row _ _ _ _ _ _ hrow]; rfl
        have HQ2 := hid (qadd_any hL1.qe s.ear z1 (by omega))
        have HLen := hid (addR_len hE200 s.ear)
        clear hpost hrow hL1 HQ c0 c1 c2 c3 c4 c5 c6 c7 c8
        go_wp2_with fail
        refine HQ2.out.mono ?_
        intro e wq hq
        obtain ⟨rfl, lv', gv', hL2⟩ := HL1.out.addQ hq
        have HL2 := hid hL2
        clear hL2 hq HQ2 HL1 d0 d1 d2 d3 d4 d5 d6 d7
        generalize (addR E s.ear).2 = zz
        have j1 : (zz != zz) = false := by simp
        go_wp2_with fail
        go_roundw
        case rel => exact ⟨k + 1, by omega, by go_num, _, _, _, _, _, HLen.out, HL2.out⟩
        case measure => simp [intOf]; omega
      by_cases k2 : s.kind = 2
      · have c0 := hS.c0
        rw [k2] at c0
        have c9 := hS.c9
        clear hS
        have HQ := hid (drop_any HL.out.pe s.k)
        go_wp2_with fail
        refine HQ.out.mono ?_
        rintro e wa ⟨rfl, p1, p2⟩
        have HL1 := hid (HL.out.dropP p1 p2)
        have c9' := (FX.out.step HL1.out HSJ.out).c9
        have HQ2 := hid (qdrop_any HL1.out.qe s.k)
        have HLen := hid (dropR_len hE200 s.k)
        clear p1 p2 HQ c0 c9
        go_wp2_with fail
        refine HQ2.out.mono ?_
        rintro e wq ⟨rfl, p1, p2⟩
        have HL2 := hid (HL1.out.dropQ p1 p2)
        clear p1 p2 HQ2 HL1 c9'
        cases hd : (dropR E s.k).2
        all_goals
          clear hd
          go_wp2_with fail
          go_roundw
          case rel => exact ⟨k + 1, by omega, by go_num, _, _, _, _, _, HLen.out, HL2.out⟩
          case measure => simp [intOf]; omega
      · have c0 := hS.c0
        have c9 := hS.c9
        have c10 := hS.c10
        have c11 := hS.c11
        clear hS
        obtain ⟨st, hst⟩ : ∃ st, st = sendT s.name s.rises (wayI ns s.k) (st0E E) := ⟨_, rfl⟩
        have HLen : Hid (st.E.length ≤ 200) := by rw [hst]; exact sendE_len hE200 _ _ _
        have HLd := hid (HL.out.drewN 1)
        have FD := FX.out.at HLd.out
        have SD := hid (send_any HLd.out.pe (by omega) FD.tr (fun _ => HA.out) (by omega) (.inr ⟨tb, rfl⟩) s.k s.name s.rises)
        rw [← hst] at SD
        have HG : Hid (∀ b, gv.ownBlock = some b → b < wr.heap.size) := HL.out.qe.lt.2.2
        have HST := hid hst
        clear FD hst
        have e1 : (s.kind == 1) = false := by simpa using k1
        have e2 : (s.kind == 2) = false := by simpa using k2
        go_upto_region 14 with fail
        clear k1 k2 e1 e2
        go_cut [14, 15] (fun s1 s2 wx => Hid (CutS W w6 W.heap.size (W4.heap.size + 1) wr.heap.size st E gv s1 s2 wx))
        case first =>
          go_region_held3 (fun wx => wx.cell? ⟨b, o + k * 12 + 9, none⟩ = some (.int .i64 s.k) ∧ wx.cell? ⟨b, o + k * 12 + 10, none⟩ = some (.string s.name) ∧ wx.cell? ⟨b, o + k * 12 + 11, none⟩ = some (.bool s.rises)) (go_keep)
            ((go_at_call 12; refine SD.out.mono ?_; rintro e w7 ⟨cv, rfl, p1, p2, p3⟩
              have HC := hid (And.intro (HLd.out.prog p3 (fun b hb => .inr hb) p1 (.inl rfl) (fun b hb => .inl hb)) p2)
              have hS7 := FX.out.step HC.out.1 HSJ.out
              have m0 := hS7.c9
              have m1 := hS7.c10
              have m2 := hS7.c11
              clear p1 p2 p3 hS7))
          all_goals
            go_wp2_with fail
            go_meet
            case rel => go_light; exact ⟨rfl, _, _, _, HC.out.1, HC.out.2, HG.out⟩
        case rest =>
        obtain ⟨rfl, v1, xb1, lv1, hL1, hr1, hg1⟩ := hcut.out
        have HL1 := hid hL1
        have HR1 := hid hr1
        obtain ⟨ca, cc, rfl, _, _, _⟩ := own_shapeF hr1
        have hS1 := FX.out.step hL1 HSJ.out
        have c9' := hS1.c9
        have c10' := hS1.c10
        have c11' := hS1.c11
        have FD := FX.out.at (HL1.out.drewN 1)
        have r0 := (FX.out.at hL1).r0
        have r1 := (FX.out.at hL1).r1
        have SD2 := hid (qs_any (HL1.out.drewN 1).qe (by omega) HA.out (by omega) FD.tq ⟨none, 0, 0, rfl⟩ s.k s.name s.rises)
        rw [HW.out, ← HST.out] at SD2
        clear FD hS1 hL1 hr1 hcut SD c0 c9 c10 c11 HLd
        go_upto_region 15 with fail
        go_cut [16, 17] (fun s1 s2 wx => Hid (CutT W w6 W.heap.size (W4.heap.size + 1) wr.heap.size st (.slice ca st.calls.length cc) s1 s2 wx))
        case first =>
          go_region_held3 (fun wx => wx.cell? ⟨b, o + k * 12 + 9, none⟩ = some (.int .i64 s.k) ∧ wx.cell? ⟨b, o + k * 12 + 10, none⟩ = some (.string s.name) ∧ wx.cell? ⟨b, o + k * 12 + 11, none⟩ = some (.bool s.rises) ∧ wx.cell? ⟨W4.heap.size, 0, none⟩ = some (.slice na nn nc) ∧ wx.cell? ⟨W4.heap.size, 1, none⟩ = some (.slice none 0 0)) (go_keep)
            ((go_at_call 13; refine SD2.out.mono ?_; rintro e w7 ⟨cv, rfl, p1, p2, p3⟩
              have HC := hid (And.intro ((HL1.out.drewN 1).doc p3 (fun b hb => .inr (.inr hb)) p1 (.inl rfl) (.inl rfl)) (And.intro (calls_stay (wr := wr) (HR1.out) hg1 (Chg.mk p3.os p3.tape p3.output p3.size p3.block ⟨p3.kept.size, p3.kept.same⟩)) p2))
              have hS7 := FX.out.step HC.out.1 HSJ.out
              have m0 := hS7.c9
              have m1 := hS7.c10
              have m2 := hS7.c11
              have m3 := (FX.out.at HC.out.1).r0
              have m4 := (FX.out.at HC.out.1).r1
              clear p1 p2 p3 hS7))
          all_goals
            go_wp2_with fail
            go_meet
            case rel => go_light; exact ⟨rfl, _, _, _, _, HC.out.1, HC.out.2.1, _, HC.out.2.2⟩
        case rest =>
        obtain ⟨rfl, v2, xb2, lv2, gv2, hL2, hr2, n1, hr3⟩ := hcut.out
        have HL2 := hid hL2
        have SC := hid (sameCalls_any hr2 hr3)
        have j1 : ((!st.barred) != (!st.barred)) = false := by simp
        clear hL2 hr2 hr3 hcut SD2 HL1 HR1 r0 r1 c9' c10' c11' hg1
        go_wp2_with fail
        refine SC.out.mono ?_
        rintro e w8 ⟨rfl, HM⟩
        obtain ⟨m, rfl⟩ := HM.out
        go_wp2_with fail
        go_roundw
        case rel => exact ⟨k + 1, by omega, by go_num, _, _, _, _, _, HLen.out, HL2.out.drewN m⟩
        case measure => simp [intOf]; omega
    · obtain rfl : k = ss.length := by omega
      obtain ⟨v, xb, lv, gv, E, hE200, hL⟩ := HI.out
      have SD := hid (send_any hL.pe (by omega) (ns := []) (tv := .pointer none) (.inl ⟨rfl, rfl⟩) (by simp) (by simp) (.inl rfl) 0 ⟨#[97]⟩ true)
      have hz : sendT ⟨#[97]⟩ true (wayI [] 0) (st0E E) = st0E E := by
        unfold wayI
        rw [if_pos (by unfold kindI; split <;> simp)]
        rfl
      rw [hz] at SD
      have HFin : Hid (∀ w', Chg (fun b => v.ownBlock = some b) wr w' → PEs w' W.heap.size v xb E → Below W.heap.size W w') := fun w' hc hp => (hL.dropP hp hc).fin HBW.out (Nat.le_refl _) (by omega)
      clear hL hz
      go_wp2_with fail
      refine SD.out.mono ?_
      rintro e w7 ⟨cv, rfl, p1, p2, p3⟩
      have HB7 := hid (HFin.out w7 p3 p1)
      obtain ⟨ca, cc, rfl, _, _, _⟩ := own_shapeF p2
      clear p1 p2 p3 SD
      go_wp2_with fail
      go_ret
      exact ⟨rfl, HB7.out⟩
end Go.Proofs.YtlfepdecgfcifaaDoor
