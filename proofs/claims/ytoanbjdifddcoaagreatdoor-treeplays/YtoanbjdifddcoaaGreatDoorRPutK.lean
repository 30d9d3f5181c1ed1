/- The document's answer: what Put makes of any tree: a kid. -/
import Derived.Test.YtoanbjdifddcoaaGreatDoorM30
namespace Go.Proofs.YtoanbjdifddcoaaGreatDoor
open Go.RowKit

set_option maxHeartbeats 16000000 in
set_option maxRecDepth 100000 in
theorem rput_kid {w : World} {M : Nat → Lab} {tb : Nat} {nv uv : Value} {ps : List Pn} {us : List Value} (h : RLies w M tb nv uv ps us) (hs : Small ps) (hn : ps.length ≤ 1000000) (hu : us.length ≤ 1000000000) {a i c : Nat} {p m : Pn} (hp : ps[i]? = some p) (hm : ps[a]? = some m) (h0 : i ≠ 0) (h3 : m.n.kind ≠ 3) (h4 : m.n.kind ≠ 4) {la : List Nat} (hup : Up (nodesOf ps) a la) (hno : i ∉ la) (hc : c ≤ (outOf m.n.kids i).length) (hk : m.n.kids.length ≤ 1000000000) {q : Nat} {mq : Pn} (hr : p.n.parent = q) (hq : ps[q]? = some mq) (hqi : q ≠ i) (hkq : mq.n.kids.length ≤ 1000000000) :
    Calls Tryz.prog 27 #[.pointer (some ⟨tb, 0, none⟩), .int .i64 a, .int .i64 i, .int .i64 c] w fun e w' => e = .returned (.int .i64 0) ∧ RDone w M tb us (nodesOf ps) ((((nodesOf ps).set q { mq.n with kids := outOf mq.n.kids i }).set a { m.n with kids := insK (outOf m.n.kids i) c i }).set i { p.n with parent := a }) w' := by
  have hai : a ≠ i := fun e => hno (e ▸ hup.head)
  obtain ⟨i0, hi, hz0, hz1, hz2⟩ := info_parts Tryz.infoInt
  have hha : hasB ps.length a = true := hasB_of hm
  have hhb : hasB ps.length i = true := hasB_of hp
  obtain ⟨nb, nc, rfl, hcp, hmx, hnM, hnl, hal⟩ := h.form hm
  have hil : i < ps.length := (List.getElem?_eq_some_iff.1 hp).1
  have c0 := h.cell0
  have k0 := (h.cellN rfl (f := 0) hm (by omega) rfl).1
  rw [Nat.add_zero] at k0
  have k5 := (h.cellN rfl (f := 5) hm (by omega) rfl).1
  obtain ⟨ka, kc, hkv, _, _⟩ := (h.node a m hm).2.shape
  rw [hkv] at k5
  have HRow : Hid (Row w M (.kids a) 3 1 (.slice ka m.n.kids.length kc) m.n.kids.length (m.n.kids.map intV)) := hkv ▸ (h.node a m hm).2
  have hlt : tb < w.heap.size := lt_of_heap h.head
  have H : Hid (RLies w M tb (.slice (some ⟨nb, 0, none⟩) ps.length nc) uv ps us) := h
  have HS : Hid (Small ps) := hs
  have HA : Hid (ps[a]? = some m) := hm
  have HB : Hid (ps[i]? = some p) := hp
  have HU : Hid (Up (nodesOf ps) a la) := hup
  have i1 : (0 : Int) ≤ (a : Int) := by omega
  have i2 : (a : Int) < (ps.length : Int) := by omega
  have i3 : (0 : Int) ≤ (i : Int) := by omega
  have i4 : (i : Int) < (ps.length : Int) := by omega
  have i5 : (0 : Int) ≤ (c : Int) := by omega
  have b0 : ((i : Int) == 0) = false := by rw [beq_eq_false_iff_ne]; omega
  have b0' : ¬ ((i : Int) = 0) := by omega
  have n3 : (m.n.kind == 3) = false := by rw [beq_eq_false_iff_ne]; exact h3
  have n4 : (m.n.kind == 4) = false := by rw [beq_eq_false_iff_ne]; exact h4
  have hwi : decide (i ∈ la) = false := by simpa using hno
  have hol : (outOf m.n.kids i).length ≤ m.n.kids.length := List.length_filter_le _ _
  obtain ⟨O, hO⟩ : ∃ O, outOf m.n.kids i = O := ⟨_, rfl⟩
  rw [hO] at hol hc
  have HO : Hid (outOf m.n.kids i = O) := hO
  obtain ⟨nO, hnO⟩ : ∃ nO, O.length = nO := ⟨_, rfl⟩
  rw [hnO] at hol hc
  have HnO : Hid (O.length = nO) := hnO
  have i6 : (c : Int) ≤ (nO : Int) := by omega
  have hql : q < ps.length := (List.getElem?_eq_some_iff.1 hq).1
  have i7 : (0 : Int) ≤ (q : Int) := by omega
  have i8 : (q : Int) < (ps.length : Int) := by omega
  have HQQ : Hid (ps[q]? = some mq) := hq
  obtain ⟨qa, qc, hqv, _, _⟩ := (h.node q mq hq).2.shape
  unfold maxLen at hmx
  rw [hO]
  clear h hs hm hp hup hO hnO h3 h4 hno hq
  go_enter Tryz.func27, Tryz.ntmps27
  go_wp2_with (first
    | (go_at_call 43; refine (rhas_any H.out _).mono ?_; rintro e w' ⟨rfl, hw'⟩; subst hw'; first | rw [hha] | rw [hhb])
    | (go_at_call 58; refine (in_any H.out HU.out i).mono ?_; rintro e w' ⟨rfl, hw'⟩; subst hw'; rw [hwi]))
  refine (without_any HRow.out i (by omega)).mono ?_
  rintro e w2 ⟨v13, rfl, ho, hBq⟩
  rw [HO.out, HnO.out] at ho
  obtain ⟨a13, c13, hv13⟩ := own_shape ho
  subst hv13
  have HO2 : Hid (w2.ownsRow w'.heap.size 3 1 (.slice a13 nO c13) nO (O.map intV)) := ho
  have HL2 : Hid (RLies w2 M tb (.slice (some ⟨nb, 0, none⟩) ps.length nc) uv ps us ∧ Below w'.heap.size w' w2) := ⟨H.out.below hBq, hBq⟩
  have hc13 : nO ≤ c13 ∧ c13 ≤ 9223372036854775807 ∧ (a13 = none → nO = 0 ∧ c13 = 0) ∧ (∀ ad, a13 = some ad → ∃ g, ad = ⟨g, 0, none⟩ ∧ w'.heap.size ≤ g) := by
    rcases ho.2 with ⟨e, e0⟩ | ⟨g, cap, cur, e, hbg, _, e1, e2, _⟩
    · injection e with f1 f2 f3
      subst f1
      subst f3
      exact ⟨by omega, by omega, fun _ => ⟨e0, rfl⟩, fun ad h => by cases h⟩
    · injection e with f1 f2 f3
      subst f1
      subst f3
      exact ⟨e1, by unfold maxLen at e2; omega, fun h => (by cases h), fun ad h => ⟨g, by cases h; rfl, hbg⟩⟩
  obtain ⟨t1, t2, t3, t4⟩ := hc13
  clear ho hBq
  go_wp2_with fail
  refine (rkeepE_any HL2.out.1 HS.out hn hu).mono ?_
  rintro e w3 ⟨rfl, M3, uv3, v3, l3, m3, kk⟩
  have ho3 : w3.ownsRow w'.heap.size 3 1 (.slice a13 nO c13) nO (O.map intV) := own_moved' HO2.out m3 (fun k hk => H.out.fresh k (HO2.out.lt k hk).1)
  have hM3 : ∀ k, (Value.slice a13 nO c13).ownBlock = some k → M3 k = .other := fun k hk => (m3.lab k (HO2.out.lt k hk).2).trans (H.out.fresh k (HO2.out.lt k hk).1)
  have hw2 : w'.heap.size ≤ w2.heap.size := HL2.out.2.size
  have hw3 : w2.heap.size ≤ w3.heap.size := m3.size
  have kk' : CopyOf w' w3 M3 v3 (nodesOf ps) := (by
    obtain ⟨L, x1, x2⟩ := kk
    exact ⟨L, x1, fun b hb => ⟨Nat.le_trans hw2 (x2 b hb).1, (x2 b hb).2⟩⟩)
  have H3 : Hid (RLies w3 M3 tb (.slice (some ⟨nb, 0, none⟩) ps.length nc) uv3 ps (us ++ [v3]) ∧ Moved w' M w3 M3 ∧ CopyOf w' w3 M3 v3 (nodesOf ps) ∧ w3.ownsRow w'.heap.size 3 1 (.slice a13 nO c13) nO (O.map intV) ∧ (∀ k, (Value.slice a13 nO c13).ownBlock = some k → M3 k = .other)) := ⟨l3, ((Moved.refl w' M).below HL2.out.2).trans m3, kk', ho3, hM3⟩
  have d0 := l3.cell0
  have d4 := (l3.cellN rfl (f := 4) HB.out (by omega) rfl).1
  rw [hr] at d4
  have dq5 := (l3.cellN rfl (f := 5) HQQ.out (by omega) rfl).1
  rw [hqv] at dq5
  have hl1 : nb < w3.heap.size := World.block_lt_of_cell? w3 _ dq5
  have hl0 : tb < w3.heap.size := World.block_lt_of_cell? w3 _ d0
  have HR3 : Hid (Row w3.drew M3 (.kids q) 3 1 (.slice qa mq.n.kids.length qc) mq.n.kids.length (mq.n.kids.map intV)) := hqv ▸ (l3.drew.node q mq HQQ.out).2
  clear l3 m3 kk kk' ho3 hM3
  go_wp2
  go_region_law ((refine step_call _ (by rfl) 59 [.tmp 100, .tmp 101] #[38, 3] (by rfl) Tryz.func59 (by kernel_rfl) (by rfl) [.slice qa mq.n.kids.length qc, .int .i64 i] (by simp [Act.eval]) (without_any HR3.out i (by omega)) ?_
                  rintro e w4 ⟨v4, rfl, ho, hB4⟩
                  refine ⟨_, rfl, ?_⟩
                  obtain ⟨a4, e4, hv4⟩ := own_shape ho
                  subst hv4
                  have l4 := H3.out.1.drew.below hB4
                  have mv4 : Moved w3 M3 w4 M3 := ((Moved.refl w3 M3).drew).below hB4
                  have q0 := l4.cell0
                  obtain ⟨q5, q5f⟩ := l4.cellN rfl (f := 5) HQQ.out (by omega) rfl
                  rw [hqv] at q5
                  obtain ⟨M4, r1, r2, r3⟩ := l4.ownKids0 mv4 rfl HQQ.out ho (by exact Nat.le_refl _) (fun g hg => H3.out.1.fresh g (ho.lt g hg).1)
                  have HQ4 : Hid _ := And.intro r1 r2
                  clear ho hB4 l4 mv4 r1 r2 r3))
  all_goals
    obtain ⟨ps4, m4, hps4⟩ : ∃ ps4 m4, ps4 = ps.set q ⟨{ mq.n with kids := outOf mq.n.kids i }, mq.av, .slice a4 (outOf mq.n.kids i).length e4⟩ ∧ ps4[a]? = some m4 ∧ ({ m4.n with kids := insK O c i } : Nd) = { m.n with kids := insK O c i } ∧ ps4[i]? = some p := by
      by_cases haq : q = a
      · subst haq
        have e1 : m = mq := Option.some.inj (HA.out.symm.trans HQQ.out)
        subst e1
        exact ⟨_, _, rfl, List.getElem?_set_self hql, rfl, by rw [List.getElem?_set_ne hqi]; exact HB.out⟩
      · exact ⟨_, m, rfl, by rw [List.getElem?_set_ne haq]; exact HA.out, rfl, by rw [List.getElem?_set_ne hqi]; exact HB.out⟩
    obtain ⟨e4', ha4, hm4, hb4⟩ := hps4
    have hq4 := HQ4.out
    rw [← e4'] at hq4
    have HE4 : Hid _ := e4'
    obtain ⟨w5, hw5⟩ : ∃ w5, w5 = w4.setCell ⟨nb, q * 6 + 5, none⟩ (.slice a4 (outOf mq.n.kids i).length e4) := ⟨_, rfl⟩
    rw [← hw5] at hq4 ⊢
    have hlen4 : ps4.length = ps.length := by rw [e4', List.length_set]
    have mv5 := hq4.2
    have ho5 : w5.ownsRow w'.heap.size 3 1 (.slice a13 nO c13) nO (O.map intV) := own_moved' H3.out.2.2.2.1 mv5 H3.out.2.2.2.2
    have hM5 : ∀ k, (Value.slice a13 nO c13).ownBlock = some k → M4 k = .other := fun k hk => (mv5.lab k (H3.out.2.2.2.1.lt k hk).2).trans (H3.out.2.2.2.2 k hk)
    have H5 : Hid (RLies w5 M4 tb (.slice (some ⟨nb, 0, none⟩) ps.length nc) uv3 ps4 (us ++ [v3]) ∧ Moved w' M w5 M4 ∧ CopyOf w' w5 M4 v3 (nodesOf ps)) := ⟨hq4.1, H3.out.2.1.trans mv5, CopyOf.moved H3.out.2.2.1 mv5⟩
    have HA4 : Hid (ps4[a]? = some m4) := ha4
    have HB4 : Hid (ps4[i]? = some p) := hb4
    have HM4 : Hid _ := hm4
    have z0 := hq4.1.cell0
    have HSrc : Hid (SrcOf w5 1 (.slice a13 nO c13) nO (O.map intV)) := own_src ho5 (one_int _)
    have hw35 : w3.heap.size ≤ w5.heap.size := mv5.size
    clear hq4 mv5 ho5 hM5 e4' ha4 hm4 hb4 HQ4 hw5
    have fin : ∀ (v6 : Value) (w6 : World), w6.ownsRow w5.heap.size 3 1 v6 (c + 1 + (nO - c)) ((O.take c).map intV ++ [.int .i64 i] ++ (O.drop c).map intV) → Below w5.heap.size w5 w6 → ∃ a6 c6, v6 = .slice a6 (c + 1 + (nO - c)) c6 ∧ w6.cell? ⟨tb, 0, none⟩ = some (.slice (some ⟨nb, 0, none⟩) ps.length nc) ∧ w6.cell? ⟨nb, a * 6 + 5, none⟩ = some m4.kv ∧ w6.frozen? ⟨nb, a * 6 + 5, none⟩ = false ∧
        ∃ M6, RLies (w6.setCell ⟨nb, a * 6 + 5, none⟩ (.slice a6 (c + 1 + (nO - c)) c6)) M6 tb (.slice (some ⟨nb, 0, none⟩) ps.length nc) uv3 (ps4.set a ⟨{ m4.n with kids := insK O c i }, m4.av, .slice a6 (c + 1 + (nO - c)) c6⟩) (us ++ [v3]) ∧ Moved w5 M4 (w6.setCell ⟨nb, a * 6 + 5, none⟩ (.slice a6 (c + 1 + (nO - c)) c6)) M6 := by
      intro v6 w6 hv6 hb6
      have l6 := H5.out.1.below hb6
      obtain ⟨f1, f2⟩ := l6.cellN rfl (f := 5) HA4.out (by omega) rfl
      have eK : (insK O c i).length = c + 1 + (nO - c) := by rw [insK_length O c i (by rw [HnO.out]; exact hc), HnO.out]
      have hv6' : w6.ownsRow w5.heap.size 3 1 v6 (insK O c i).length ((insK O c i).map intV) := by
        rw [eK]
        have : (insK O c i).map intV = (O.take c).map intV ++ [.int .i64 i] ++ (O.drop c).map intV := by simp [insK, intV]
        rw [this]
        exact hv6
      obtain ⟨M6, r1, r2, _⟩ := l6.ownKids0 ((Moved.refl w5 M4).below hb6) rfl HA4.out hv6' (Nat.le_refl _) (fun g hg => H5.out.1.fresh g (hv6.lt g hg).1)
      obtain ⟨a6, c6, rfl⟩ := own_shape hv6
      exact ⟨a6, c6, rfl, l6.cell0, f1, f2, M6, r1, r2⟩
    have FIN : Hid _ := fin
    clear fin
    cases a13 with
    | none =>
      obtain ⟨z1, z2⟩ := t3 rfl
      subst z2
      subst z1
      obtain rfl : c = 0 := by omega
      obtain rfl : O = [] := List.length_eq_zero_iff.1 HnO.out
      have fin := FIN.out
      simp only [List.take_nil, List.drop_nil, List.map_nil, List.nil_append, List.append_nil, Nat.zero_add, Nat.sub_self, Nat.add_zero] at fin
      have FIN2 : Hid _ := fin
      clear fin FIN t1 t2 t3 t4
      go_wp2_with (first
        | (at_builtin; refine wpList_app_own _ (by rfl) _ _ 38 (by rfl) w5.heap.size 3 i0 (.int .i64 0) 1 8 Tryz.underlying38 hi hz0 hz1 hz2 rfl (by decide) (.slice none 0 0) 0 [] (by rfl) (World.ownsRow_nil _ _ _ _) (.slice none 0 0) 0 [] (by rfl) (srcOf_zero' _ _ _ _) (by unfold maxLen; omega) (by omega) (Nat.le_refl _) ?_
           intro u4 x4 hu4 hg4 _
           rw [Nat.zero_add, List.nil_append] at hu4
           have HV4 : Hid (x4.ownsRow w5.heap.size 3 1 u4 0 [] ∧ Below w5.heap.size w5 x4) := ⟨hu4, below_grown hg4⟩
           have hx4 : w5.heap.size ≤ x4.heap.size := hg4.size
           clear hu4 hg4)
        | (at_builtin; refine wpList_app_own _ (by rfl) _ _ 38 (by rfl) w5.heap.size 3 i0 (.int .i64 0) 1 8 Tryz.underlying38 hi hz0 hz1 hz2 rfl (by decide) u4 0 [] (by rfl) (HV4.out.1.alloc _) _ 1 [.int .i64 i] (by rfl) ⟨rfl, by simp [Value.oneCell'], _, _, rfl, .inr ⟨_, rfl, cell_one_new _ _ _⟩⟩ (by unfold maxLen; omega) (by omega) (by simp; omega) ?_
           intro u5 x5 hu5 hg5 _
           have HV5 : Hid (x5.ownsRow w5.heap.size 3 1 u5 1 [.int .i64 i] ∧ Below w5.heap.size w5 x5) := ⟨hu5, (HV4.out.2.alloc hx4 _).grown hg5 (by simp; omega) (fun k hk => (HV4.out.1.lt k hk).1)⟩
           have hx5 : w5.heap.size ≤ x5.heap.size := HV5.out.2.size
           clear hu5 hg5)
        | (at_builtin; refine wpList_app_own _ (by rfl) _ _ 38 (by rfl) w5.heap.size 3 i0 (.int .i64 0) 1 8 Tryz.underlying38 hi hz0 hz1 hz2 rfl (by decide) u5 1 [.int .i64 i] (by rfl) HV5.out.1 _ 0 [] (by rfl) (srcOf_zero' _ _ _ _) (by unfold maxLen; omega) (by omega) hx5 ?_
           intro u6 x6 hu6 hg6 _
           obtain ⟨a6, c6, hu6', f0, f1, f2, M6, r1, r2⟩ := FIN2.out u6 x6 hu6 (HV5.out.2.grown hg6 hx5 (fun k hk => (HV5.out.1.lt k hk).1))
           subst hu6'
           have hb2 : (ps4.set a ⟨{ m4.n with kids := insK [] 0 i }, m4.av, .slice a6 1 c6⟩)[i]? = some p := (by rw [List.getElem?_set_ne hai]; exact HB4.out)
           have y0 := r1.cell0
           obtain ⟨y4, y4f⟩ := r1.cellN rfl (f := 4) hb2 (by omega) rfl
           have HQ : Hid _ := And.intro (r1.setNode rfl (f := 4) (c := .int .i64 a) hb2 (by omega) (p' := ⟨{ p.n with parent := a }, p.av, p.kv⟩) rfl (r1.node i p hb2).1 (r1.node i p hb2).2) r2
           clear hu6 hg6 r1 r2 hb2))
      go_ret
      have mv := HQ.out.2.trans (HQ.out.1.2.moved (by intro e; cases e))
      exact ⟨rfl, M6, _, uv3, _, v3, HQ.out.1.1, (by rw [← HM4.out, HE4.out]; simp [nodesOf, List.map_set]), H5.out.2.1.trans mv, CopyOf.moved H5.out.2.2 mv⟩
    | some ad =>
      obtain ⟨g13, rfl, hg13⟩ := t4 ad rfl
      clear t3 t4
      go_wp2_with (first
        | (at_builtin; refine wpList_app_own _ (by rfl) _ _ 38 (by rfl) w5.heap.size 3 i0 (.int .i64 0) 1 8 Tryz.underlying38 hi hz0 hz1 hz2 rfl (by decide) (.slice none 0 0) 0 [] (by rfl) (World.ownsRow_nil _ _ _ _) _ c ((O.take c).map intV) (by rfl) (by simp [Act.eval]; simpa using srcOf_take (cap' := c13) HSrc.out hc) (by unfold maxLen; omega) (by omega) (Nat.le_refl _) ?_
           intro u4 x4 hu4 hg4 _
           rw [Nat.zero_add, List.nil_append] at hu4
           have HV4 : Hid (x4.ownsRow w5.heap.size 3 1 u4 c ((O.take c).map intV) ∧ Below w5.heap.size w5 x4) := ⟨hu4, below_grown hg4⟩
           have hx4 : w5.heap.size ≤ x4.heap.size := hg4.size
           clear hu4 hg4)
        | (at_builtin; refine wpList_app_own _ (by rfl) _ _ 38 (by rfl) w5.heap.size 3 i0 (.int .i64 0) 1 8 Tryz.underlying38 hi hz0 hz1 hz2 rfl (by decide) u4 c ((O.take c).map intV) (by rfl) (HV4.out.1.alloc _) _ 1 [.int .i64 i] (by rfl) ⟨rfl, by simp [Value.oneCell'], _, _, rfl, .inr ⟨_, rfl, cell_one_new _ _ _⟩⟩ (by unfold maxLen; omega) (by omega) (by simp; omega) ?_
           intro u5 x5 hu5 hg5 _
           have HV5 : Hid (x5.ownsRow w5.heap.size 3 1 u5 (c + 1) ((O.take c).map intV ++ [.int .i64 i]) ∧ Below w5.heap.size w5 x5) := ⟨hu5, (HV4.out.2.alloc hx4 _).grown hg5 (by simp; omega) (fun k hk => (HV4.out.1.lt k hk).1)⟩
           have hx5 : w5.heap.size ≤ x5.heap.size := HV5.out.2.size
           clear hu5 hg5)
        | (at_builtin; refine wpList_app_own _ (by rfl) _ _ 38 (by rfl) w5.heap.size 3 i0 (.int .i64 0) 1 8 Tryz.underlying38 hi hz0 hz1 hz2 rfl (by decide) u5 (c + 1) ((O.take c).map intV ++ [.int .i64 i]) (by rfl) HV5.out.1 _ (nO - c) ((O.drop c).map intV) (by rfl) (by simp [Act.eval]; exact srcOf_dropI (HSrc.out.below HV5.out.2) hc t1) (by unfold maxLen; omega) (by omega) hx5 ?_
           intro u6 x6 hu6 hg6 _
           obtain ⟨a6, c6, hu6', f0, f1, f2, M6, r1, r2⟩ := FIN.out u6 x6 hu6 (HV5.out.2.grown hg6 hx5 (fun k hk => (HV5.out.1.lt k hk).1))
           subst hu6'
           have hb2 : (ps4.set a ⟨{ m4.n with kids := insK O c i }, m4.av, .slice a6 (c + 1 + (nO - c)) c6⟩)[i]? = some p := (by rw [List.getElem?_set_ne hai]; exact HB4.out)
           have y0 := r1.cell0
           obtain ⟨y4, y4f⟩ := r1.cellN rfl (f := 4) hb2 (by omega) rfl
           have HQ : Hid _ := And.intro (r1.setNode rfl (f := 4) (c := .int .i64 a) hb2 (by omega) (p' := ⟨{ p.n with parent := a }, p.av, p.kv⟩) rfl (r1.node i p hb2).1 (r1.node i p hb2).2) r2
           clear hu6 hg6 r1 r2 hb2))
      all_goals go_ret
      all_goals
        have mv := HQ.out.2.trans (HQ.out.1.2.moved (by intro e; cases e))
        exact ⟨rfl, M6, _, uv3, _, v3, HQ.out.1.1, (by rw [← HM4.out, HE4.out]; simp [nodesOf, List.map_set]), H5.out.2.1.trans mv, CopyOf.moved H5.out.2.2 mv⟩
end Go.Proofs.YtoanbjdifddcoaaGreatDoor
