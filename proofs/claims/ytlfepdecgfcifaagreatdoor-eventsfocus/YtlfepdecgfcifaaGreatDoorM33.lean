/- EventsRound, walked: going on comes round, past each once, and back again. -/
import Derived.Test.YtlfepdecgfcifaaGreatDoorM19
import Derived.Test.YtlfepdecgfcifaaGreatDoorM30
import Derived.Test.YtlfepdecgfcifaaGreatDoorM32
import Derived.Test.YtlfepdecgfcifaaGreatDoorM08
import Derived.Test.YtlfepdecgfcifaaGreatDoorM09
import Derived.Test.YtlfepdecgfcifaaGreatDoorM12
namespace Go.Proofs.YtlfepdecgfcifaaGreatDoor
open Go.RowKit
set_option linter.unusedVariables false
attribute [local go_sem] Oper.semAt_some

theorem TwAt.wideE {w : World} {S S' b c : Nat} {t : Tw} (h : TwAt w S b c t) (hs : S ≤ S') : TwAt w S' b c t := by
  refine ⟨Nat.lt_of_lt_of_le h.blk hs, h.kind, h.tag, h.text, h.attrs, h.kids, h.al, h.kl, h.tl, h.xl, ?_, ?_⟩
  · intro j x hx
    obtain ⟨b', o', e1, e2, e3⟩ := h.att j x hx
    exact ⟨b', o', e1, Nat.lt_of_lt_of_le e2 hs, e3⟩
  · intro j x hx
    obtain ⟨b', o', e1, e2, e3⟩ := h.kid j x hx
    exact ⟨b', o', e1, Nat.lt_of_lt_of_le e2 hs, e3⟩
theorem TwigsIn.wideE {w : World} {S S' : Nat} {a : Option Addr} {ts : List Tw} (h : TwigsIn w S a ts) (hs : S ≤ S') : TwigsIn w S' a ts := fun i t ht => by
  obtain ⟨b, o, e, hT⟩ := h i t ht
  exact ⟨b, o, e, hT.wideE hs⟩

set_option maxHeartbeats 8000000 in
set_option maxRecDepth 100000 in
theorem eventsRound_any {W : World} {cap : Nat} {ad : Option Addr} {ts : List Tw} (h : TwigsIn W W.heap.size ad ts) (hE : Errs W M0) (hx : ErrSx W) :
    Calls Tryz.prog 4 #[.slice ad ts.length cap] W fun e w' => e = .returned (.bool true) ∧ Below W.heap.size W w' := by
  have H := hidF h
  have HE := hidF hE
  have HX := hidF hx
  have hmx : Tryz.prog.follows Departure.mixedOrders = true := by kernel_rfl
  clear h hE hx
  go_enter Tryz.func4, Tryz.ntmps4
  go_wp2_with fail
  refine (fewTwigsE_any H.out (Nat.le_refl _)).mono ?_
  rintro e W2 ⟨⟨⟨r, rfl, hr⟩, hr24⟩, hB2⟩
  have HB2 := hidF hB2
  have hs2 : W.heap.size ≤ W2.heap.size := hB2.size
  clear hB2
  cases r
  · clear hr hr24
    go_wp2_with fail
    all_goals go_ret
    all_goals exact ⟨rfl, HB2.out⟩
  have HFew := hidF (hr rfl)
  have HF : Hid (Fair ts) := ⟨by have := HFew.out.1; omega, fun j t ht => by have := HFew.out.2 j t ht; exact ⟨by have := this.2.2.1; omega, by have := this.2.2.2; omega⟩⟩
  have h24 := hr24 rfl
  clear hr hr24
  go_wp2_with fail
  refine (treeG_any ((H.out.same (w' := W2) (fun b hb => HB2.out.block b hb)).wideE (by omega)) (HE.out.below HB2.out) HF.out).mono ?_
  intro e W3 hq
  rcases hq with ⟨_, hnf, _⟩ | ⟨tb, M, nv, uv, ps, us, rfl, hL, hmv, hns, hlen, hsz⟩
  · exact absurd HFew.out hnf
  have hB3 : Below W2.heap.size W2 W3 := ⟨hmv.os, hmv.tape, hmv.output, hmv.size, fun b hb => hmv.far b hb rfl⟩
  have HB3 := hidF (HB2.out.trans (hB3.mono (by omega)))
  have hs3 : W2.heap.size ≤ W3.heap.size := hB3.size
  have hsN : ps.length = ts.length + 1 := by have := congrArg List.length hns; rw [show (treeS ts).length = ts.length + 1 from lastS_length ts _] at this; simpa [nodesOf] using this
  have hs : Sound (nodesOf ps) := hns ▸ lastS_sound ts _
  have hn : Neat (nodesOf ps) := hns ▸ lastS_neat ts _
  obtain ⟨l, hl⟩ : ∃ l, orderP (nodesOf ps) (undZ (nodesOf ps) 0) = l := ⟨_, rfl⟩
  have OR : Hid (∀ V, Below W3.heap.size W3 V → Calls Tryz.prog 9 #[.pointer (some ⟨tb, 0, none⟩), .int .i64 0] V (UndPost V l)) := fun V hV => by
    rw [← hl]
    exact order_any (hL.below hV) hs hn (by omega) ((HX.out.held HB3.out).held hV) 0
  have hll : l.length ≤ 100 := by
    rw [← hl]
    refine Nat.le_trans (orderP_len _ _) (Nat.le_trans (undZ_len hs hn 0) ?_)
    simp [nodesOf]
    omega
  have NX : Hid (∀ V, Below W3.heap.size W3 V → ∀ z back, Calls Tryz.prog 11 #[.pointer (some ⟨tb, 0, none⟩), .int .i64 0, .int .i64 z, .bool back] V fun e w' => e = .returned (.int .i64 (nextP l z back)) ∧ Below V.heap.size V w') := fun V hV z back => next_any (by omega) (OR.out V hV) z back
  have HND : Hid l.Nodup := by rw [← hl]; exact orderP_nodup (undZ_nodup hs hn 0)
  have HLO : Hid (∀ x ∈ l, 0 ≤ x) := fun x hx => by rw [← hl] at hx; exact orderP_low hs hx
  clear hL hmv hns hsz hB3 hs hn hl hsN
  go_wp2_with fail
  refine (OR.out W3 (Below.refl _ _)).mono ?_
  rintro e W4 ⟨v, rfl, hv, hb4⟩
  have HB4 := hidF hb4
  have hs4 : W3.heap.size ≤ W4.heap.size := hb4.size
  have HV := hidF hv
  obtain ⟨va, vc, rfl, _, _, _⟩ := own_shapeG hv
  clear hv hb4
  have N0 := hidF (NX.out W4 HB4.out (-1) false)
  go_wp2_with fail
  refine N0.out.mono ?_
  rintro e W5 ⟨rfl, hb5⟩
  have HB5 := hidF (HB4.out.trans (hb5.mono hs4))
  have HB45 := hidF hb5
  have hs5 : W4.heap.size ≤ W5.heap.size := hb5.size
  clear hb5 N0
  by_cases hl0 : l.length = 0
  · have e0 : nextP l (-1) false = -1 := by unfold nextP; rw [if_pos hl0]
    rw [e0, hl0]
    go_wp2_with fail
    go_ret
    exact ⟨rfl, HB3.out.trans (HB5.out.mono (by omega))⟩
  have hz' : ((l.length : Int) == 0) = false := by rw [beq_eq_false_iff_ne]; omega
  have hz2 : ¬ (l.length : Int) = 0 := by omega
  obtain ⟨A, hA⟩ : ∃ A : Nat → Int, (fun i => l.getD i 0) = A := ⟨_, rfl⟩
  have hA' : ∀ i, l.getD i 0 = A i := fun i => congrFun hA i
  have e0 : nextP l (-1) false = A 0 := by rw [← hA' 0]; exact next_start (by omega) (fun q => by have := HLO.out _ q; omega)
  have F1 : Hid (∀ i, i < l.length → nextP l (A i) false = A ((i + 1) % l.length)) := fun i hi => by rw [← hA', ← hA']; exact next_fwd HND.out hi
  have F2 : Hid (∀ i, i < l.length → nextP l (A ((i + 1) % l.length)) true = A i) := fun i hi => by rw [← hA', ← hA']; exact next_back HND.out hi
  have F3 : Hid (∀ i j, i < l.length → j < l.length → A i = A j → i = j) := fun i j hi hj e => getD_inj HND.out hi hj (by rw [hA', hA']; exact e)
  rw [e0]
  clear e0
  obtain ⟨g, c, hvv, hg0, hg1, hg2, hg3⟩ := own_cells HV.out (by omega)
  cases hvv
  have HG : Hid (∀ j, j < l.length → W4.cell? ⟨g, j, none⟩ = some (.int .i64 (A j))) := fun j hj => by
    have := hg3 j hj
    rw [Nat.zero_add, hA'] at this
    exact this
  obtain ⟨n, hn⟩ : ∃ n, l.length = n := ⟨_, rfl⟩
  rw [hn] at hz' hz2 hll hl0 F1 F2 F3 HG ⊢
  clear hg2 hg3 hA hA' hn HND HLO HV
  go_wp2_with fail
  go_loopw [8, 7, 9, 10] (fun iv av _ _ wr => ∃ k : Nat, k ≤ n ∧ iv = .int .i64 k ∧ av = .int .i64 (A (k % n)) ∧ Hid (Below W4.heap.size W4 wr)) (fun iv _ _ _ _ => n - (intOf iv).toNat)
  case atStart => exact ⟨0, by omega, rfl, by rw [Nat.zero_mod], HB45⟩
  case round =>
    obtain ⟨k, hk, rfl, rfl, HR⟩ := hrel
    by_cases hlt : k < n
    · have hlt' : (k : Int) < (n : Int) := by omega
      have hgr := Nat.lt_of_lt_of_le hg1 HR.out.size
      have c0 := (HR.out.cell (p := ⟨g, k, none⟩) hg1).trans (HG.out k hlt)
      have ek : k % n = k := Nat.mod_eq_of_lt hlt
      rw [ek]
      have j1 : (A k != A k) = false := by simp
      go_wp2_with fail
      go_loopw [9] (fun jv wx => ∃ j : Nat, j ≤ k ∧ jv = .int .i64 j ∧ Hid (Below W4.heap.size W4 wx)) (fun jv _ => k - (intOf jv).toNat)
      case atStart => exact ⟨0, by omega, rfl, HR⟩
      case round =>
        obtain ⟨j, hj, rfl, HS⟩ := hrel
        by_cases hjk : j < k
        · have hjk' : (j : Int) < (k : Int) := by omega
          have hjn : (j : Int) < (n : Int) := by omega
          have d0 := (HS.out.cell (p := ⟨g, k, none⟩) hg1).trans (HG.out k hlt)
          have d1 := (HS.out.cell (p := ⟨g, j, none⟩) hg1).trans (HG.out j (by omega))
          have hne : (A j == A k) = false := by
            rw [beq_eq_false_iff_ne]
            intro e
            have := F3.out j k (by omega) hlt e
            omega
          have hne2 : ¬ A j = A k := by simpa using hne
          clear c0
          go_wp2_with fail
          go_quiet (fail)
          go_wp2_with fail
          go_roundw
          case rel => go_light; exact ⟨j + 1, by omega, by go_num, belD HS.out _⟩
          case measure => simp [intOf]; omega
        · obtain rfl : j = k := by omega
          have hs6 := HS.out.size
          have N1 := hidF (NX.out _ (HB4.out.trans (HS.out.mono hs4)) (A j) false)
          rw [F1.out j hlt] at N1
          go_wp2_with fail
          refine N1.out.mono ?_
          rintro e W6 ⟨rfl, hb6⟩
          have HB6 := hidF (HS.out.trans (hb6.mono hs6))
          clear hb6 N1
          have hs7 := HB6.out.size
          have N2 := hidF (NX.out _ (HB4.out.trans (HB6.out.mono hs4)) (A ((j + 1) % n)) true)
          rw [F2.out j hlt] at N2
          go_wp2_with fail
          refine N2.out.mono ?_
          rintro e W7 ⟨rfl, hb7⟩
          have HB7 := hidF (HB6.out.trans (hb7.mono hs7))
          clear hb7 N2
          go_wp2_with fail
          go_roundw
          case rel => exact ⟨j + 1, by omega, by go_num, rfl, HB7.out⟩
          case measure => simp [intOf]; omega
    · obtain rfl : k = n := by omega
      have c0 := (HR.out.cell (p := ⟨g, 0, none⟩) hg1).trans (HG.out 0 (by omega))
      have ek : k % k = 0 := Nat.mod_self k
      rw [ek]
      have j1 : (A 0 == A 0) = true := by simp
      have hk0 : (0 : Int) < (k : Int) := by omega
      go_wp2_with fail
      go_ret
      exact ⟨rfl, HB3.out.trans ((HB4.out.mono (by omega)).trans (HR.out.mono (by omega)))⟩
end Go.Proofs.YtlfepdecgfcifaaGreatDoor

/- The document's answer: what Set makes of a tree. -/
namespace Go.Proofs.YtlfepdecgfcifaaGreatDoor
open Go.RowKit

set_option maxHeartbeats 8000000 in
set_option maxRecDepth 100000 in
theorem rset_any {w : World} {M : Nat → Lab} {tb : Nat} {nv uv : Value} {ps : List Pn} {us : List Value} (h : RLies w M tb nv uv ps us) (hs : Small ps) (hn : ps.length ≤ 1000000) (hu : us.length ≤ 1000000000) {i : Nat} {p : Pn} (hp : ps[i]? = some p) (ha : p.n.attrs.length ≤ 1000000000) (name value : ByteArray) (hvs : value.size ≤ 9223372036854775807) :
    Calls Tryz.prog 29 #[.pointer (some ⟨tb, 0, none⟩), .int .i64 i, .string name, .string value, .bool false] w (RSetPost w M tb nv ps us i name value) := by
  obtain ⟨i0, hi, hz0, hz1, hz2⟩ := info_parts Tryz.infoAttr
  have hb : hasB ps.length i = true := hasB_of hp
  obtain ⟨nb, nc, rfl, hc, hm, hnM, hnl, hil⟩ := h.form hp
  obtain ⟨aa, ac, hav, hac1, hac2⟩ := (h.node i p hp).1.shape
  have hlt : tb < w.heap.size := lt_of_heap h.head
  have c0 := h.cell0
  have k0 := (h.cellN rfl (f := 0) hp (by omega) rfl).1
  rw [Nat.add_zero] at k0
  have k3 := (h.cellN rfl (f := 3) hp (by omega) rfl).1
  rw [hav] at k3
  have HRow : Hid (Row w M (.attrs i) 51 2 (.slice aa p.n.attrs.length ac) p.n.attrs.length (attrCells p.n.attrs)) := hav ▸ (h.node i p hp).1
  have H : Hid (RLies w M tb (.slice (some ⟨nb, 0, none⟩) ps.length nc) uv ps us) := h
  have HS : Hid (Small ps) := hs
  have HP : Hid (ps[i]? = some p) := hp
  have i1 : (0 : Int) ≤ (i : Int) := by omega
  have i2 : (i : Int) < (ps.length : Int) := by omega
  unfold maxLen at hm hac2
  clear h hs hp
  by_cases q1 : p.n.kind = 2
  case neg =>
    have q1b : (p.n.kind != 2) = true := by simp [q1]
    go_enter Tryz.func29, Tryz.ntmps29
    go_wp2_with (go_at_call 45; refine (rhas_any H.out _).mono ?_; rintro e w' ⟨rfl, rfl⟩; rw [hb])
    go_ret
    exact RSetPost.stay H.out HP.out (fun h => q1 h.1) _
  by_cases q2 : nameB name = true
  case neg =>
    have q2b : nameB name = false := by simpa using q2
    go_enter Tryz.func29, Tryz.ntmps29
    go_wp2_with (first
      | (go_at_call 45; refine (rhas_any H.out _).mono ?_; rintro e w' ⟨rfl, rfl⟩; rw [hb])
      | (go_at_call 60; refine (at_any HRow.out name).mono ?_; rintro e w' ⟨rfl, rfl⟩)
      | (go_at_call 27; refine (isName_any _ _).mono ?_; rintro e w' ⟨rfl, rfl⟩; rw [q2b]))
    go_ret
    exact RSetPost.stay H.out HP.out (fun h => q2 h.2.1) _
  by_cases q3 : value.size ≤ 20000
  case neg =>
    go_enter Tryz.func29, Tryz.ntmps29
    go_wp2_with (first
      | (go_at_call 45; refine (rhas_any H.out _).mono ?_; rintro e w' ⟨rfl, rfl⟩; rw [hb])
      | (go_at_call 60; refine (at_any HRow.out name).mono ?_; rintro e w' ⟨rfl, rfl⟩)
      | (go_at_call 27; refine (isName_any _ _).mono ?_; rintro e w' ⟨rfl, rfl⟩; rw [q2]))
    go_ret
    exact RSetPost.stay H.out HP.out (fun h => q3 h.2.2) _
  cases hf : findA p.n.attrs name with
  | none =>
    have hfi : findI p.n.attrs name = -1 := by simp only [findI, hf]
    have hsa : Hid (setAttr p.n.attrs name value = p.n.attrs ++ [(name, value)]) := by
      show setAttr _ _ _ = _
      simp only [setAttr, hf]
    clear hf
    go_enter Tryz.func29, Tryz.ntmps29
    go_wp2_with (first
      | (go_at_call 45; refine (rhas_any H.out _).mono ?_; rintro e w' ⟨rfl, rfl⟩; rw [hb])
      | (go_at_call 60; refine (at_any HRow.out name).mono ?_; rintro e w' ⟨rfl, rfl⟩; rw [hfi])
      | (go_at_call 27; refine (isName_any _ _).mono ?_; rintro e w' ⟨rfl, rfl⟩; rw [q2])
      | (go_at_call 59; refine (rkeep_any H.out HS.out hn hu).mono ?_; rintro e w1 ⟨rfl, M1, uv1, v1, l1, m1⟩
         have H1 : Hid _ := And.intro l1 m1
         have d0 := l1.cell0
         have d3 := (l1.cellN rfl (f := 3) HP.out (by omega) rfl).1
         rw [hav] at d3
         have hl1 : tb < w1.heap.size := lt_of_heap l1.head
         have hl2 : nb < w1.heap.size := World.block_lt_of_cell? w1 _ d3
         have HR1 : Hid (∀ o, Row (w1.alloc o).drew M1 (.attrs i) 51 2 (.slice aa p.n.attrs.length ac) p.n.attrs.length (attrCells p.n.attrs)) := fun o => hav ▸ ((l1.alloc o).drew.node i p HP.out).1
         clear l1 m1))
    go_region_law ((refine step_app_row _ (by rfl) (.tmp 99) (.tmp 103) 43 (by rfl) M1 (.attrs i) 51 i0 _ 2 32 Tryz.underlying43 hi hz0 hz1 hz2 rfl (by decide) (.slice aa p.n.attrs.length ac) p.n.attrs.length (attrCells p.n.attrs) (by simp [Act.eval]) (HR1.out _) ⟨w1.heap.size, 0, none⟩ 1 1 [.string name, .string value] (by simp [Act.eval]) rfl (news_new _ #[.string name, .string value] 51 _ rfl) (by simp [Value.oneCell']) (by decide) (by unfold maxLen; omega) (by omega) (H1.out.1.alloc _).drew.fresh ?_
                    intro g cap1 w2 M2 hr st
                    obtain ⟨e1, e2, ⟨u3, e3⟩, e4⟩ := (H1.out.1.alloc _).drew.setAttrs rfl HP.out st (at' := p.n.attrs ++ [(name, value)]) (by rw [List.length_append, attrCells_append]; exact hr)
                    have e0 := World.cell?_of_block (w := w1) (w' := w2) (a := ⟨tb, 0, none⟩) ((st.far tb (by simp; omega) (by rw [H1.out.1.tree]; intro e; cases e)).trans (Below.heap_alloc w1 _ tb hl1))
                    rw [d0] at e0
                    have HQ : Hid _ := And.intro e1 (((H1.out.2.alloc _).drew).trans e2)
                    clear e1 e2 hr st))
    all_goals go_wp2
    all_goals go_ret
    all_goals exact RSetPost.done HP.out ⟨q1, q2, q3⟩ (hsa.out ▸ HQ.out.1) HQ.out.2 (by simp) _
  | some k =>
    have hfi : findI p.n.attrs name = k := by simp only [findI, hf]
    have hkl : k < p.n.attrs.length := by
      unfold findA at hf
      rw [List.findIdx?_eq_some_iff_getElem] at hf
      exact hf.1
    obtain ⟨x, hx⟩ : ∃ x, p.n.attrs[k]? = some x := ⟨_, List.getElem?_eq_getElem hkl⟩
    have hsa : Hid (setAttr p.n.attrs name value = p.n.attrs.set k (x.1, value)) := by
      show setAttr _ _ _ = _
      simp only [setAttr, hf]
      rw [List.getD_eq_getElem?_getD, hx]
      rfl
    have HX : Hid (p.n.attrs[k]? = some x) := hx
    have i3 : (0 : Int) ≤ (k : Int) := by omega
    have i4 : (k : Int) < (p.n.attrs.length : Int) := by omega
    obtain ⟨ag, ac', hav', _, _, hagM, hagl⟩ := HRow.out.form (by omega)
    cases hav'
    clear hf hx
    go_enter Tryz.func29, Tryz.ntmps29
    go_wp2_with (first
      | (go_at_call 45; refine (rhas_any H.out _).mono ?_; rintro e w' ⟨rfl, rfl⟩; rw [hb])
      | (go_at_call 60; refine (at_any HRow.out name).mono ?_; rintro e w' ⟨rfl, rfl⟩; rw [hfi])
      | (go_at_call 27; refine (isName_any _ _).mono ?_; rintro e w' ⟨rfl, rfl⟩; rw [q2])
      | (go_at_call 59; refine (rkeep_any H.out HS.out hn hu).mono ?_; rintro e w1 ⟨rfl, M1, uv1, v1, l1, m1⟩
         have d0 := l1.cell0
         have d3 := (l1.cellN rfl (f := 3) HP.out (by omega) rfl).1
         rw [hav] at d3
         obtain ⟨cx, cxf⟩ := (l1.node i p HP.out).1.cell hav (attrCells_get p.n.attrs k x HX.out).2
         have st : Step w1 M1 (w1.setCell ⟨ag, k * 2 + 1, none⟩ (.string value)) M1 (.attrs i) := step_setCell _ ((m1.lab ag hagl).trans hagM) l1.fresh
         have hrs := (l1.node i p HP.out).1.set hav (k * 2 + 1) (.string value) (by rw [attrCells_length]; omega)
         have HQ : Hid _ := l1.turnAttrs HP.out st (at' := p.n.attrs.set k (x.1, value)) (by rw [List.length_set, attrCells_set p.n.attrs k x value HX.out]; exact hrs)
         have HM : Hid _ := m1
         clear l1 m1 st hrs))
    go_ret
    exact RSetPost.done HP.out ⟨q1, q2, q3⟩ (hsa.out ▸ HQ.out.1) (HM.out.trans HQ.out.2) (by simp) _
end Go.Proofs.YtlfepdecgfcifaaGreatDoor

/- The document's answer: a tree of a document alone. -/
namespace Go.Proofs.YtlfepdecgfcifaaGreatDoor
open Go.RowKit

def docCells : Array Value := #[.int .i64 1, .string ⟨#[]⟩, .string ⟨#[]⟩, .slice none 0 0, .int .i64 (-1), .slice none 0 0]

theorem rlies_doc {w0 w : World} {tb nb : Nat} (hb : Below w0.heap.size w0 w) (ht : w.heap[tb]? = some (.cells #[.slice (some ⟨nb, 0, none⟩) 1 1, .slice none 0 0] 29 (0, 0))) (hn : w.heap[nb]? = some (.cells docCells 62 (0, 0))) (hne : tb ≠ nb) (h1 : w0.heap.size ≤ tb) (h2 : w0.heap.size ≤ nb) :
    ∃ M, RLies w M tb (.slice (some ⟨nb, 0, none⟩) 1 1) (.slice none 0 0) [docP] [] ∧ Moved w0 (fun _ => .other) w M := by
  have lt := lt_of_heap ht
  have ln := lt_of_heap hn
  refine ⟨fun b => if b = nb then .nodes else if b = tb then .tree else .other, ⟨?_, ?_, ht, ?_, Row.nil _ _ _ _ _, ?_⟩, ⟨hb.os, hb.tape, hb.output, hb.size, ?_, fun b hb' _ => hb.block b hb'⟩⟩
  · intro b hb'
    simp [show b ≠ nb by omega, show b ≠ tb by omega]
  · simp [hne]
  · exact ⟨rfl, some ⟨nb, 0, none⟩, 1, rfl, by decide, by unfold maxLen; omega, .inr ⟨nb, docCells, rfl, by simp, hn, by decide, rfl⟩⟩
  · intro i p hp
    have : i = 0 := by
      rcases Nat.eq_zero_or_pos i with e | e
      · exact e
      · rw [List.getElem?_eq_none (by simp; omega)] at hp; cases hp
    subst this
    cases hp
    exact ⟨Row.nil _ _ _ _ _, Row.nil _ _ _ _ _⟩
  · intro b hb'
    simp [show b ≠ nb by omega, show b ≠ tb by omega]

set_option maxHeartbeats 1000000 in
theorem newTree_any (w : World) : Calls Tryz.prog 26 #[] w fun e w' => ∃ nb, e = .returned (.agg #[.slice (some ⟨nb, 0, none⟩) 1 1, .slice none 0 0]) ∧ w'.heap[nb]? = some (.cells docCells 62 (0, 0)) ∧ w.heap.size ≤ nb ∧ nb < w'.heap.size ∧ Below w.heap.size w w' := by
  go_enter Tryz.func26, Tryz.ntmps26
  go_wp2
  refine bodyPost_ret (v := .agg #[.slice (some ⟨w.heap.size + 1, 0, none⟩) 1 1, .slice none 0 0]) ?_ rfl ⟨w.heap.size + 1, rfl, ?_, by omega, by simp, ((Below.refl _ _).alloc (Nat.le_refl _) _).alloc (by simp) _⟩
  · simp [results, Tryz.results26, go_sem]
  · have := heap_alloc_new (w.alloc (.cells #[.slice (some ⟨w.heap.size + 1, 0, none⟩) 1 1, .slice none 0 0] 29)) (.cells docCells 62)
    simpa [docCells] using this

/-- the node that Make makes -/
def makeN (kind : Int) (s : ByteArray) : Nd := if kind = 2 then ⟨2, s, ⟨#[]⟩, [], -1, []⟩ else ⟨kind, ⟨#[]⟩, s, [], -1, []⟩

theorem rmake_any {w : World} {M : Nat → Lab} {tb : Nat} {nv uv : Value} {ps : List Pn} {us : List Value} (h : RLies w M tb nv uv ps us) (hs : Small ps) (hn : ps.length < 400) (hu : us.length ≤ 1000000000) (kind : Int) (s : ByteArray) (hg : (kind = 2 ∧ nameB s = true) ∨ (¬ kind = 2 ∧ s.size ≤ 20000)) :
    Calls Tryz.prog 28 #[.pointer (some ⟨tb, 0, none⟩), .int .i64 kind, .string s] w (RMade w M tb ps us ⟨makeN kind s, .slice none 0 0, .slice none 0 0⟩) := by
  rcases hg with ⟨rfl, h1⟩ | ⟨h1, h2⟩
  · exact rmake_elem h hs hn hu s h1
  · unfold makeN
    rw [if_neg h1]
    exact rmake_other h hs hn hu s kind h1 h2

theorem rset_at {w : World} {M : Nat → Lab} {tb : Nat} {nv uv : Value} {ps : List Pn} {us : List Value} (h : RLies w M tb nv uv ps us) (hs : Small ps) (hn : ps.length ≤ 1000000) (hu : us.length ≤ 1000000000) {i : Nat} {p : Pn} (hp : ps[i]? = some p) (ha : p.n.attrs.length ≤ 1000000000) (name value : ByteArray) (hvs : value.size ≤ 9223372036854775807) (x : Int) (hx : x = i) :
    Calls Tryz.prog 29 #[.pointer (some ⟨tb, 0, none⟩), .int .i64 x, .string name, .string value, .bool false] w (RSetPost w M tb nv ps us i name value) := by
  subst hx
  exact rset_any h hs hn hu hp ha name value hvs

/-- a tree of these nodes lies there, and not too much was done -/
def RAt (B : World) (tb : Nat) (ns : List Nd) (U A K : Nat) (w : World) : Prop :=
  ∃ M nv uv ps us, RLies w M tb nv uv ps us ∧ Moved B (fun _ => .other) w M ∧ nodesOf ps = ns ∧ us.length ≤ U ∧ SizedN ns A K

theorem RAt.parts {B : World} {tb : Nat} {ns : List Nd} {U A K : Nat} {w : World} (h : RAt B tb ns U A K w) : ∃ M nv uv ps us, RLies w M tb nv uv ps us ∧ Moved B (fun _ => .other) w M ∧ nodesOf ps = ns ∧ us.length ≤ U ∧ SizedN ns A K ∧ ps.length = ns.length := by
  obtain ⟨M, nv, uv, ps, us, h1, h2, h3, h4, h5⟩ := h
  exact ⟨M, nv, uv, ps, us, h1, h2, h3, h4, h5, by rw [← h3]; simp [nodesOf]⟩
theorem RAt.below {B : World} {tb : Nat} {ns : List Nd} {U A K : Nat} {w w' : World} (h : RAt B tb ns U A K w) (hb : Below w.heap.size w w') : RAt B tb ns U A K w' := by
  obtain ⟨M, nv, uv, ps, us, h1, h2, h3, h4, h5⟩ := h
  exact ⟨M, nv, uv, ps, us, h1.below hb, h2.below hb, h3, h4, h5⟩
theorem RAt.old {B : World} {tb : Nat} {ns : List Nd} {U A K : Nat} {w : World} (h : RAt B tb ns U A K w) : Below B.heap.size B w := by
  obtain ⟨M, nv, uv, ps, us, h1, h2, _⟩ := h
  exact ⟨h2.os, h2.tape, h2.output, h2.size, fun b hb => h2.far b hb rfl⟩

/-- Set, of such a tree -/
theorem RAt.set {B : World} {tb : Nat} {ns : List Nd} {U A K : Nat} {w : World} (h : RAt B tb ns U A K w) (hl : ns.length ≤ 400) (hU : U ≤ 1000000) (hA : A ≤ 1000000) (hK : K ≤ 1000000) {i : Nat} (hi : i < ns.length) (name value : ByteArray) (hvs : value.size ≤ 9223372036854775807) (x : Int) (hx : x = i) :
    Calls Tryz.prog 29 #[.pointer (some ⟨tb, 0, none⟩), .int .i64 x, .string name, .string value, .bool false] w fun e w' => (∃ c, e = .returned (.int .i64 c)) ∧ RAt B tb (setS ns i name value) (U + 1) (A + 1) K w' := by
  obtain ⟨M, nv, uv, ps, us, h1, h2, h3, h4, h5, h6⟩ := h.parts
  obtain ⟨p, hp⟩ : ∃ p, ps[i]? = some p := ⟨ps[i]'(by omega), List.getElem?_eq_getElem _⟩
  have hsz := h5 i p.n (h3 ▸ nodes_get hp)
  refine (rset_at h1 (SizedN.small (h3 ▸ h5) (by omega) (by omega)) (by omega) (by omega) hp (by omega) name value hvs x hx).mono ?_
  rintro e w' ⟨⟨c, rfl⟩, M', uv', ps', us', g1, g2, g3, g4⟩
  exact ⟨⟨c, rfl⟩, M', nv, uv', ps', us', g1, h2.trans g2, by rw [g3, h3], by omega, h5.set i name value⟩

/-- Put, of such a tree -/
theorem RAt.put {B : World} {tb : Nat} {ns : List Nd} {U A K : Nat} {w : World} (h : RAt B tb ns U A K w) (hl : ns.length ≤ 400) (hU : U ≤ 1000000) (hA : A ≤ 1000000) (hK : K ≤ 1000000) {a b : Nat} {na nb : Nd} (hs : Sound ns) (hn : Neat ns) (ha : ns[a]? = some na) (hb : ns[b]? = some nb) (hab : a ≠ b) (hb0 : 0 < b) (hra : na.parent = -1) (hrb : nb.parent = -1) (x y : Int) (hx : x = a) (hy : y = b) :
    Calls Tryz.prog 30 #[.pointer (some ⟨tb, 0, none⟩), .int .i64 x, .int .i64 y, .int .i64 na.kids.length] w fun e w' => (∃ c, e = .returned (.int .i64 c)) ∧ RAt B tb (putS ns a b) (U + 1) A (K + 1) w' := by
  obtain ⟨M, nv, uv, ps, us, h1, h2, h3, h4, h5, h6⟩ := h.parts
  obtain ⟨pa, hpa, ea⟩ := nodesOf_get (ps := ps) (h3 ▸ ha)
  obtain ⟨pb, hpb, eb⟩ := nodesOf_get (ps := ps) (h3 ▸ hb)
  subst ea
  subst eb
  have hsz := h5 a pa.n ha
  refine (rput_any h1 (SizedN.small (h3 ▸ h5) (by omega) (by omega)) (by omega) (by omega) hpa hpb hab hb0 (by omega) hra hrb (hs.notKid ha hb hrb) (hn.kin a pa.n ha) x y hx hy).mono ?_
  rintro e w' ⟨⟨c, rfl⟩, M', uv', ps', us', g1, g2, g3, g4⟩
  exact ⟨⟨c, rfl⟩, M', nv, uv', ps', us', g1, h2.trans g2, by rw [g3, h3], by omega, h5.put a b⟩

/-- Make, of such a tree -/
theorem RAt.make {B : World} {tb : Nat} {ns : List Nd} {U A K : Nat} {w : World} (h : RAt B tb ns U A K w) (hl : ns.length < 400) (hU : U ≤ 1000000) (hA : A ≤ 1000000) (hK : K ≤ 1000000) (kind : Int) (s : ByteArray) (hg : (kind = 2 ∧ nameB s = true) ∨ (¬ kind = 2 ∧ s.size ≤ 20000)) :
    Calls Tryz.prog 28 #[.pointer (some ⟨tb, 0, none⟩), .int .i64 kind, .string s] w fun e w' => e = .returned (.tuple #[.int .i64 ns.length, .int .i64 0]) ∧ RAt B tb (ns ++ [makeN kind s]) (U + 1) A K w' := by
  obtain ⟨M, nv, uv, ps, us, h1, h2, h3, h4, h5, h6⟩ := h.parts
  refine (rmake_any h1 (SizedN.small (h3 ▸ h5) (by omega) (by omega)) (by omega) (by omega) kind s hg).mono ?_
  rintro e w' ⟨rfl, M', nv', uv', v, g1, g2⟩
  refine ⟨by rw [h6], M', nv', uv', _, _, g1, h2.trans g2, by rw [← h3]; simp [nodesOf], by simp; omega, h5.snoc _ ?_ ?_⟩
  · unfold makeN; split <;> rfl
  · unfold makeN; split <;> rfl

/-- what a walk reads of such a tree: where the nodes lie, and a field of one -/
theorem RAt.read {B : World} {tb : Nat} {ns : List Nd} {U A K : Nat} {w : World} (h : RAt B tb ns U A K w) {i : Nat} {n : Nd} (hi : ns[i]? = some n) :
    ∃ nb cap ka kc, w.cell? ⟨tb, 0, none⟩ = some (.slice (some ⟨nb, 0, none⟩) ns.length cap) ∧ ns.length ≤ cap ∧ cap ≤ 9223372036854775807 ∧ w.cell? ⟨nb, i * 6 + 4, none⟩ = some (.int .i64 n.parent) ∧ w.cell? ⟨nb, i * 6 + 5, none⟩ = some (.slice ka n.kids.length kc) := by
  obtain ⟨M, nv, uv, ps, us, h1, h2, h3, h4, h5, h6⟩ := h.parts
  obtain ⟨p, hp, e⟩ := nodesOf_get (ps := ps) (h3 ▸ hi)
  subst e
  obtain ⟨nb, cap, rfl, g1, g2, _⟩ := h1.form hp
  obtain ⟨ka, kc, hkv, _⟩ := (h1.node i p hp).2.shape
  have k5 := (h1.cellN rfl (f := 5) hp (by omega) rfl).1
  rw [hkv] at k5
  unfold maxLen at g2
  exact ⟨nb, cap, ka, kc, h6 ▸ h1.cell0, by omega, by omega, (h1.cellN rfl (f := 4) hp (by omega) rfl).1, k5⟩
end Go.Proofs.YtlfepdecgfcifaaGreatDoor
