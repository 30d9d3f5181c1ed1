/- The document's answer: what Put makes of any tree. -/
import Derived.Test.YtoanbjdifddcoaaGreatDoorM29
import Derived.Test.YtoanbjdifddcoaaGreatDoorM15
import Derived.Test.YtoanbjdifddcoaaGreatDoorM16
import Derived.Test.YtoanbjdifddcoaaGreatDoorM17
namespace Go.Proofs.YtoanbjdifddcoaaGreatDoor
open Go.RowKit

/-- a number is put into a list -/
def insK (O : List Int) (c : Nat) (i : Int) : List Int := O.take c ++ i :: O.drop c
theorem insK_length (O : List Int) (c : Nat) (i : Int) (hc : c ≤ O.length) : (insK O c i).length = c + 1 + (O.length - c) := by
  unfold insK
  simp
  omega
theorem srcOf_zero' (w : World) (size : Nat) (a : Option Addr) (c : Nat) : SrcOf w size (.slice a 0 c) 0 [] := by
  refine ⟨by simp, by simp, a, c, rfl, ?_⟩
  cases a with
  | none => exact .inl ⟨rfl, rfl⟩
  | some ad => exact .inr ⟨ad, rfl, by simp⟩
theorem srcOf_take {w : World} {g n cap c cap' : Nat} {O : List Int} (h : SrcOf w 1 (.slice (some ⟨g, 0, none⟩) n cap) n (O.map intV)) (hc : c ≤ n) : SrcOf w 1 (.slice (some ⟨g, 0, none⟩) c cap') c ((O.take c).map intV) := by
  obtain ⟨h1, h2, a, c', h3, h4⟩ := h
  cases h3
  refine ⟨by simp at h1 ⊢; omega, fun u hu => h2 u ?_, _, _, rfl, .inr ⟨_, rfl, ?_⟩⟩
  · rw [List.map_take] at hu; exact List.mem_of_mem_take hu
  · rcases h4 with ⟨h4, _⟩ | ⟨ad, h4, h5⟩
    · cases h4
    · cases h4
      intro j u hu
      refine h5 j u ?_
      rw [List.map_take, List.getElem?_take] at hu
      split at hu
      · exact hu
      · cases hu
theorem srcOf_drop {w : World} {g n cap c cap' : Nat} {O : List Int} (h : SrcOf w 1 (.slice (some ⟨g, 0, none⟩) n cap) n (O.map intV)) (hc : c ≤ n) : SrcOf w 1 (.slice (some ⟨g, c, none⟩) (n - c) cap') (n - c) ((O.drop c).map intV) := by
  obtain ⟨h1, h2, a, c', h3, h4⟩ := h
  cases h3
  refine ⟨by simp at h1 ⊢; omega, fun u hu => h2 u ?_, _, _, rfl, .inr ⟨_, rfl, ?_⟩⟩
  · rw [List.map_drop] at hu; exact List.mem_of_mem_drop hu
  · rcases h4 with ⟨h4, _⟩ | ⟨ad, h4, h5⟩
    · cases h4
    · cases h4
      intro j u hu
      rw [List.map_drop, List.getElem?_drop] at hu
      have := h5 (c + j) u hu
      rw [add0] at this
      rw [← this]
      congr 1
      unfold Addr.add
      simp
theorem srcOf_dropI {w : World} {g n cap c cap' : Nat} {O : List Int} (h : SrcOf w 1 (.slice (some ⟨g, 0, none⟩) n cap) n (O.map intV)) (hc : c ≤ n) (hcap : n ≤ cap) : SrcOf w 1 (.slice (if cap = c then some ⟨g, 0, none⟩ else some ⟨g, c, none⟩) (n - c) cap') (n - c) (List.drop c (List.map intV O)) := by
  have hl : O.length = n := by have := h.1; simpa using this
  by_cases e : cap = c
  · rw [if_pos e]
    have e1 : n - c = 0 := by omega
    have e2 : List.drop c (List.map intV O) = [] := List.drop_eq_nil_of_le (by simp; omega)
    rw [e1, e2]
    exact srcOf_zero' _ _ _ _
  · rw [if_neg e, ← List.map_drop]
    exact srcOf_drop h hc

set_option maxHeartbeats 16000000 in
set_option maxRecDepth 100000 in
theorem rput_root {w : World} {M : Nat → Lab} {tb : Nat} {nv uv : Value} {ps : List Pn} {us : List Value} (h : RLies w M tb nv uv ps us) (hs : Small ps) (hn : ps.length ≤ 1000000) (hu : us.length ≤ 1000000000) {a i c : Nat} {p m : Pn} (hp : ps[i]? = some p) (hm : ps[a]? = some m) (h0 : i ≠ 0) (h3 : m.n.kind ≠ 3) (h4 : m.n.kind ≠ 4) {la : List Nat} (hup : Up (nodesOf ps) a la) (hno : i ∉ la) (hc : c ≤ (outOf m.n.kids i).length) (hk : m.n.kids.length ≤ 1000000000) (hr : p.n.parent = -1) :
    Calls Tryz.prog 27 #[.pointer (some ⟨tb, 0, none⟩), .int .i64 a, .int .i64 i, .int .i64 c] w fun e w' => e = .returned (.int .i64 0) ∧ RDone w M tb us (nodesOf ps) (((nodesOf ps).set a { m.n with kids := insK (outOf m.n.kids i) c i }).set i { p.n with parent := a }) w' := by
  have hai : a ≠ i := fun e => hno (e ▸ hup.head)
  obtain ⟨i0, hi, hz0, hz1, hz2⟩ := info_parts Tryz.infoInt
  have hha : hasB ps.length a = true := hasB_of hm
  have hhb : hasB ps.length i = true := hasB_of hp
  obtain ⟨nb, nc, rfl, hcp, hmx, hnM, hnl, hal⟩ := h.form hm
  have hil : i < ps.length := (List.getElem?_eq_some_iff.1 hp).1
  have c0 := h.cell0
  have k0 := (h.cellN rfl (f := 0) hm (by omega) rfl).1
  rw [Nat.add_zero] at k0
  have k5 := (h.cellN rfl (f := 5) hm (by omega) rfl).1
  obtain ⟨ka, kc, hkv, _, _⟩ := (h.node a m hm).2.shape
  rw [hkv] at k5
  have HRow : Hid (Row w M (.kids a) 3 1 (.slice ka m.n.kids.length kc) m.n.kids.length (m.n.kids.map intV)) := hkv ▸ (h.node a m hm).2
  have hlt : tb < w.heap.size := lt_of_heap h.head
  have H : Hid (RLies w M tb (.slice (some ⟨nb, 0, none⟩) ps.length nc) uv ps us) := h
  have HS : Hid (Small ps) := hs
  have HA : Hid (ps[a]? = some m) := hm
  have HB : Hid (ps[i]? = some p) := hp
  have HU : Hid (Up (nodesOf ps) a la) := hup
  have i1 : (0 : Int) ≤ (a : Int) := by omega
  have i2 : (a : Int) < (ps.length : Int) := by omega
  have i3 : (0 : Int) ≤ (i : Int) := by omega
  have i4 : (i : Int) < (ps.length : Int) := by omega
  have i5 : (0 : Int) ≤ (c : Int) := by omega
  have b0 : ((i : Int) == 0) = false := by rw [beq_eq_false_iff_ne]; omega
  have b0' : ¬ ((i : Int) = 0) := by omega
  have n3 : (m.n.kind == 3) = false := by rw [beq_eq_false_iff_ne]; exact h3
  have n4 : (m.n.kind == 4) = false := by rw [beq_eq_false_iff_ne]; exact h4
  have hwi : decide (i ∈ la) = false := by simpa using hno
  have hol : (outOf m.n.kids i).length ≤ m.n.kids.length := List.length_filter_le _ _
  obtain ⟨O, hO⟩ : ∃ O, outOf m.n.kids i = O := ⟨_, rfl⟩
  rw [hO] at hol hc
  have HO : Hid (outOf m.n.kids i = O) := hO
  obtain ⟨nO, hnO⟩ : ∃ nO, O.length = nO := ⟨_, rfl⟩
  rw [hnO] at hol hc
  have HnO : Hid (O.length = nO) := hnO
  have i6 : (c : Int) ≤ (nO : Int) := by omega
  unfold maxLen at hmx
  rw [hO]
  clear h hs hm hp hup hO hnO h3 h4 hno
  go_enter Tryz.func27, Tryz.ntmps27
  go_wp2_with (first
    | (go_at_call 43; refine (rhas_any H.out _).mono ?_; rintro e w' ⟨rfl, hw'⟩; subst hw'; first | rw [hha] | rw [hhb])
    | (go_at_call 58; refine (in_any H.out HU.out i).mono ?_; rintro e w' ⟨rfl, hw'⟩; subst hw'; rw [hwi]))
  refine (without_any HRow.out i (by omega)).mono ?_
  rintro e w2 ⟨v13, rfl, ho, hBq⟩
  rw [HO.out, HnO.out] at ho
  obtain ⟨a13, c13, hv13⟩ := own_shape ho
  subst hv13
  have HO2 : Hid (w2.ownsRow w'.heap.size 3 1 (.slice a13 nO c13) nO (O.map intV)) := ho
  have HL2 : Hid (RLies w2 M tb (.slice (some ⟨nb, 0, none⟩) ps.length nc) uv ps us ∧ Below w'.heap.size w' w2) := ⟨H.out.below hBq, hBq⟩
  have hc13 : nO ≤ c13 ∧ c13 ≤ 9223372036854775807 ∧ (a13 = none → nO = 0 ∧ c13 = 0) ∧ (∀ ad, a13 = some ad → ∃ g, ad = ⟨g, 0, none⟩ ∧ w'.heap.size ≤ g) := by
    rcases ho.2 with ⟨e, e0⟩ | ⟨g, cap, cur, e, hbg, _, e1, e2, _⟩
    · injection e with f1 f2 f3
      subst f1
      subst f3
      exact ⟨by omega, by omega, fun _ => ⟨e0, rfl⟩, fun ad h => by cases h⟩
    · injection e with f1 f2 f3
      subst f1
      subst f3
      exact ⟨e1, by unfold maxLen at e2; omega, fun h => (by cases h), fun ad h => ⟨g, by cases h; rfl, hbg⟩⟩
  obtain ⟨t1, t2, t3, t4⟩ := hc13
  clear ho hBq
  go_wp2_with fail
  refine (rkeepE_any HL2.out.1 HS.out hn hu).mono ?_
  rintro e w3 ⟨rfl, M3, uv3, v3, l3, m3, kk⟩
  have ho3 : w3.ownsRow w'.heap.size 3 1 (.slice a13 nO c13) nO (O.map intV) := own_moved' HO2.out m3 (fun k hk => H.out.fresh k (HO2.out.lt k hk).1)
  have hM3 : ∀ k, (Value.slice a13 nO c13).ownBlock = some k → M3 k = .other := fun k hk => (m3.lab k (HO2.out.lt k hk).2).trans (H.out.fresh k (HO2.out.lt k hk).1)
  have hw2 : w'.heap.size ≤ w2.heap.size := HL2.out.2.size
  have hw3 : w2.heap.size ≤ w3.heap.size := m3.size
  have kk' : CopyOf w' w3 M3 v3 (nodesOf ps) := (by
    obtain ⟨L, x1, x2⟩ := kk
    exact ⟨L, x1, fun b hb => ⟨Nat.le_trans hw2 (x2 b hb).1, (x2 b hb).2⟩⟩)
  have H3 : Hid (RLies w3 M3 tb (.slice (some ⟨nb, 0, none⟩) ps.length nc) uv3 ps (us ++ [v3]) ∧ Moved w' M w3 M3 ∧ CopyOf w' w3 M3 v3 (nodesOf ps) ∧ w3.ownsRow w'.heap.size 3 1 (.slice a13 nO c13) nO (O.map intV) ∧ (∀ k, (Value.slice a13 nO c13).ownBlock = some k → M3 k = .other)) := ⟨l3, ((Moved.refl w' M).below HL2.out.2).trans m3, kk', ho3, hM3⟩
  have d0 := l3.cell0
  have d4 := (l3.cellN rfl (f := 4) HB.out (by omega) rfl).1
  rw [hr] at d4
  obtain ⟨w5, hw5⟩ : ∃ w5, w5 = w3 := ⟨_, rfl⟩
  subst hw5
  obtain ⟨M4, hM4⟩ : ∃ M4, M4 = M3 := ⟨_, rfl⟩
  subst hM4
  have H5 : Hid (RLies w5 M4 tb (.slice (some ⟨nb, 0, none⟩) ps.length nc) uv3 ps (us ++ [v3]) ∧ Moved w' M w5 M4 ∧ CopyOf w' w5 M4 v3 (nodesOf ps)) := ⟨H3.out.1, H3.out.2.1, H3.out.2.2.1⟩
  have z0 := d0
  have HSrc : Hid (SrcOf w5 1 (.slice a13 nO c13) nO (O.map intV)) := own_src ho3 (one_int _)
  clear l3 m3 kk kk' ho3 hM3
  have fin : ∀ (v6 : Value) (w6 : World), w6.ownsRow w5.heap.size 3 1 v6 (c + 1 + (nO - c)) ((O.take c).map intV ++ [.int .i64 i] ++ (O.drop c).map intV) → Below w5.heap.size w5 w6 → ∃ a6 c6, v6 = .slice a6 (c + 1 + (nO - c)) c6 ∧ w6.cell? ⟨tb, 0, none⟩ = some (.slice (some ⟨nb, 0, none⟩) ps.length nc) ∧ w6.cell? ⟨nb, a * 6 + 5, none⟩ = some m.kv ∧ w6.frozen? ⟨nb, a * 6 + 5, none⟩ = false ∧
      ∃ M6, RLies (w6.setCell ⟨nb, a * 6 + 5, none⟩ (.slice a6 (c + 1 + (nO - c)) c6)) M6 tb (.slice (some ⟨nb, 0, none⟩) ps.length nc) uv3 (ps.set a ⟨{ m.n with kids := insK O c i }, m.av, .slice a6 (c + 1 + (nO - c)) c6⟩) (us ++ [v3]) ∧ Moved w5 M4 (w6.setCell ⟨nb, a * 6 + 5, none⟩ (.slice a6 (c + 1 + (nO - c)) c6)) M6 := by
    intro v6 w6 hv6 hb6
    have l6 := H5.out.1.below hb6
    obtain ⟨f1, f2⟩ := l6.cellN rfl (f := 5) HA.out (by omega) rfl
    have eK : (insK O c i).length = c + 1 + (nO - c) := by rw [insK_length O c i (by rw [HnO.out]; exact hc), HnO.out]
    have hv6' : w6.ownsRow w5.heap.size 3 1 v6 (insK O c i).length ((insK O c i).map intV) := by
      rw [eK]
      have : (insK O c i).map intV = (O.take c).map intV ++ [.int .i64 i] ++ (O.drop c).map intV := by simp [insK, intV]
      rw [this]
      exact hv6
    obtain ⟨M6, r1, r2, _⟩ := l6.ownKids0 ((Moved.refl w5 M4).below hb6) rfl HA.out hv6' (Nat.le_refl _) (fun g hg => H5.out.1.fresh g (hv6.lt g hg).1)
    obtain ⟨a6, c6, rfl⟩ := own_shape hv6
    exact ⟨a6, c6, rfl, l6.cell0, f1, f2, M6, r1, r2⟩
  have FIN : Hid _ := fin
  clear fin
  cases a13 with
  | none =>
    obtain ⟨z1, z2⟩ := t3 rfl
    subst z2
    subst z1
    obtain rfl : c = 0 := by omega
    obtain rfl : O = [] := List.length_eq_zero_iff.1 HnO.out
    have fin := FIN.out
    simp only [List.take_nil, List.drop_nil, List.map_nil, List.nil_append, List.append_nil, Nat.zero_add, Nat.sub_self, Nat.add_zero] at fin
    have FIN2 : Hid _ := fin
    clear fin FIN t1 t2 t3 t4
    go_wp2_with (first
      | (at_builtin; refine wpList_app_own _ (by rfl) _ _ 38 (by rfl) w5.heap.size 3 i0 (.int .i64 0) 1 8 Tryz.underlying38 hi hz0 hz1 hz2 rfl (by decide) (.slice none 0 0) 0 [] (by rfl) (World.ownsRow_nil _ _ _ _) (.slice none 0 0) 0 [] (by rfl) (srcOf_zero' _ _ _ _) (by unfold maxLen; omega) (by omega) (Nat.le_refl _) ?_
         intro u4 x4 hu4 hg4 _
         rw [Nat.zero_add, List.nil_append] at hu4
         have HV4 : Hid (x4.ownsRow w5.heap.size 3 1 u4 0 [] ∧ Below w5.heap.size w5 x4) := ⟨hu4, below_grown hg4⟩
         have hx4 : w5.heap.size ≤ x4.heap.size := hg4.size
         clear hu4 hg4)
      | (at_builtin; refine wpList_app_own _ (by rfl) _ _ 38 (by rfl) w5.heap.size 3 i0 (.int .i64 0) 1 8 Tryz.underlying38 hi hz0 hz1 hz2 rfl (by decide) u4 0 [] (by rfl) (HV4.out.1.alloc _) _ 1 [.int .i64 i] (by rfl) ⟨rfl, by simp [Value.oneCell'], _, _, rfl, .inr ⟨_, rfl, cell_one_new _ _ _⟩⟩ (by unfold maxLen; omega) (by omega) (by simp; omega) ?_
         intro u5 x5 hu5 hg5 _
         have HV5 : Hid (x5.ownsRow w5.heap.size 3 1 u5 1 [.int .i64 i] ∧ Below w5.heap.size w5 x5) := ⟨hu5, (HV4.out.2.alloc hx4 _).grown hg5 (by simp; omega) (fun k hk => (HV4.out.1.lt k hk).1)⟩
         have hx5 : w5.heap.size ≤ x5.heap.size := HV5.out.2.size
         clear hu5 hg5)
      | (at_builtin; refine wpList_app_own _ (by rfl) _ _ 38 (by rfl) w5.heap.size 3 i0 (.int .i64 0) 1 8 Tryz.underlying38 hi hz0 hz1 hz2 rfl (by decide) u5 1 [.int .i64 i] (by rfl) HV5.out.1 _ 0 [] (by rfl) (srcOf_zero' _ _ _ _) (by unfold maxLen; omega) (by omega) hx5 ?_
         intro u6 x6 hu6 hg6 _
         obtain ⟨a6, c6, hu6', f0, f1, f2, M6, r1, r2⟩ := FIN2.out u6 x6 hu6 (HV5.out.2.grown hg6 hx5 (fun k hk => (HV5.out.1.lt k hk).1))
         subst hu6'
         have hb2 : (ps.set a ⟨{ m.n with kids := insK [] 0 i }, m.av, .slice a6 1 c6⟩)[i]? = some p := (by rw [List.getElem?_set_ne hai]; exact HB.out)
         have y0 := r1.cell0
         obtain ⟨y4, y4f⟩ := r1.cellN rfl (f := 4) hb2 (by omega) rfl
         have HQ : Hid _ := And.intro (r1.setNode rfl (f := 4) (c := .int .i64 a) hb2 (by omega) (p' := ⟨{ p.n with parent := a }, p.av, p.kv⟩) rfl (r1.node i p hb2).1 (r1.node i p hb2).2) r2
         clear hu6 hg6 r1 r2 hb2))
    go_ret
    have mv := HQ.out.2.trans (HQ.out.1.2.moved (by intro e; cases e))
    exact ⟨rfl, M6, _, uv3, _, v3, HQ.out.1.1, (by simp [nodesOf, List.map_set]), H5.out.2.1.trans mv, CopyOf.moved H5.out.2.2 mv⟩
  | some ad =>
    obtain ⟨g13, rfl, hg13⟩ := t4 ad rfl
    clear t3 t4
    go_wp2_with (first
      | (at_builtin; refine wpList_app_own _ (by rfl) _ _ 38 (by rfl) w5.heap.size 3 i0 (.int .i64 0) 1 8 Tryz.underlying38 hi hz0 hz1 hz2 rfl (by decide) (.slice none 0 0) 0 [] (by rfl) (World.ownsRow_nil _ _ _ _) _ c ((O.take c).map intV) (by rfl) (by simp [Act.eval]; simpa using srcOf_take (cap' := c13) HSrc.out hc) (by unfold maxLen; omega) (by omega) (Nat.le_refl _) ?_
         intro u4 x4 hu4 hg4 _
         rw [Nat.zero_add, List.nil_append] at hu4
         have HV4 : Hid (x4.ownsRow w5.heap.size 3 1 u4 c ((O.take c).map intV) ∧ Below w5.heap.size w5 x4) := ⟨hu4, below_grown hg4⟩
         have hx4 : w5.heap.size ≤ x4.heap.size := hg4.size
         clear hu4 hg4)
      | (at_builtin; refine wpList_app_own _ (by rfl) _ _ 38 (by rfl) w5.heap.size 3 i0 (.int .i64 0) 1 8 Tryz.underlying38 hi hz0 hz1 hz2 rfl (by decide) u4 c ((O.take c).map intV) (by rfl) (HV4.out.1.alloc _) _ 1 [.int .i64 i] (by rfl) ⟨rfl, by simp [Value.oneCell'], _, _, rfl, .inr ⟨_, rfl, cell_one_new _ _ _⟩⟩ (by unfold maxLen; omega) (by omega) (by simp; omega) ?_
         intro u5 x5 hu5 hg5 _
         have HV5 : Hid (x5.ownsRow w5.heap.size 3 1 u5 (c + 1) ((O.take c).map intV ++ [.int .i64 i]) ∧ Below w5.heap.size w5 x5) := ⟨hu5, (HV4.out.2.alloc hx4 _).grown hg5 (by simp; omega) (fun k hk => (HV4.out.1.lt k hk).1)⟩
         have hx5 : w5.heap.size ≤ x5.heap.size := HV5.out.2.size
         clear hu5 hg5)
      | (at_builtin; refine wpList_app_own _ (by rfl) _ _ 38 (by rfl) w5.heap.size 3 i0 (.int .i64 0) 1 8 Tryz.underlying38 hi hz0 hz1 hz2 rfl (by decide) u5 (c + 1) ((O.take c).map intV ++ [.int .i64 i]) (by rfl) HV5.out.1 _ (nO - c) ((O.drop c).map intV) (by rfl) (by simp [Act.eval]; exact srcOf_dropI (HSrc.out.below HV5.out.2) hc t1) (by unfold maxLen; omega) (by omega) hx5 ?_
         intro u6 x6 hu6 hg6 _
         obtain ⟨a6, c6, hu6', f0, f1, f2, M6, r1, r2⟩ := FIN.out u6 x6 hu6 (HV5.out.2.grown hg6 hx5 (fun k hk => (HV5.out.1.lt k hk).1))
         subst hu6'
         have hb2 : (ps.set a ⟨{ m.n with kids := insK O c i }, m.av, .slice a6 (c + 1 + (nO - c)) c6⟩)[i]? = some p := (by rw [List.getElem?_set_ne hai]; exact HB.out)
         have y0 := r1.cell0
         obtain ⟨y4, y4f⟩ := r1.cellN rfl (f := 4) hb2 (by omega) rfl
         have HQ : Hid _ := And.intro (r1.setNode rfl (f := 4) (c := .int .i64 a) hb2 (by omega) (p' := ⟨{ p.n with parent := a }, p.av, p.kv⟩) rfl (r1.node i p hb2).1 (r1.node i p hb2).2) r2
         clear hu6 hg6 r1 r2 hb2))
    all_goals go_ret
    all_goals
      have mv := HQ.out.2.trans (HQ.out.1.2.moved (by intro e; cases e))
      exact ⟨rfl, M6, _, uv3, _, v3, HQ.out.1.1, (by simp [nodesOf, List.map_set]), H5.out.2.1.trans mv, CopyOf.moved H5.out.2.2 mv⟩
end Go.Proofs.YtoanbjdifddcoaaGreatDoor

/- What the document's Take and Put make of a tree is what pulling and pushing make of it: plain mathematics. -/
namespace Go.Proofs.YtoanbjdifddcoaaGreatDoor

theorem outOf_erase {l : List Int} (hn : l.Nodup) {x : Int} (hx : x ∈ l) : outOf l x = l.eraseIdx (idx l x) := by
  have hg := idx_get hx
  generalize idx l x = k at *
  have e : l = l.take k ++ x :: l.drop (k + 1) := by
    obtain ⟨h1, h2⟩ := List.getElem?_eq_some_iff.1 hg
    rw [← h2, ← List.drop_eq_getElem_cons h1, List.take_append_drop]
  have en := hn
  rw [e, List.nodup_append] at en
  obtain ⟨n1, n2, n3⟩ := en
  obtain ⟨n4, n5⟩ := List.nodup_cons.1 n2
  rw [List.eraseIdx_eq_take_drop_succ]
  have h1 : outOf (l.take k) x = l.take k := outOf_none fun hm => n3 x hm x (List.mem_cons_self ..) rfl
  have h2 : outOf (l.drop (k + 1)) x = l.drop (k + 1) := outOf_none n4
  conv => lhs; rw [e]
  unfold outOf at h1 h2 ⊢
  rw [List.filter_append, List.filter_cons, h1, h2]
  simp

theorem take_pulled {ns : List Nd} (h : WF ns) {i q : Nat} {n m : Nd} (hi : ns[i]? = some n) (hq : n.parent = q) (hm : ns[q]? = some m) :
    Pulled ns i ((ns.set q { m with kids := outOf m.kids i }).set i { n with parent := -1 }) q (idx m.kids i) := by
  have hk : (i : Int) ∈ m.kids := by
    rcases h.par i n hi with e | ⟨r, y, e1, e2, e3⟩
    · omega
    · have e := Int.ofNat.inj (hq.symm.trans e1)
      subst e
      obtain rfl := Option.some.inj (hm.symm.trans e2)
      exact e3
  rw [outOf_erase (h.nodup q m hm) hk]
  exact .kid hi hq hm hk (h.pne hi hq)

theorem put_root {ns : List Nd} (h : WF ns) {i a c : Nat} {n m : Nd} (hi : ns[i]? = some n) (hr : n.parent = -1) (hm : ns[a]? = some m) (hai : a ≠ i) (hc : c ≤ (outOf m.kids i).length) :
    Pulled ns i ns (-1) 0 ∧ Pushed ns i c a ((ns.set a { m with kids := insK (outOf m.kids i) c i }).set i { n with parent := a }) := by
  have e := outOf_none (h.rootNotKid hm hi hr)
  rw [e] at hc ⊢
  exact ⟨.root hi hr, .kid hm hi hai hc⟩

theorem put_kid {ns : List Nd} (h : WF ns) {i q a c : Nat} {n m mq : Nd} (hi : ns[i]? = some n) (hq : n.parent = q) (hmq : ns[q]? = some mq) (hm : ns[a]? = some m) (hai : a ≠ i) (hc : c ≤ (outOf m.kids i).length) :
    ∃ mid, Pulled ns i mid q (idx mq.kids i) ∧ Pushed mid i c a (((ns.set q { mq with kids := outOf mq.kids i }).set a { m with kids := insK (outOf m.kids i) c i }).set i { n with parent := a }) := by
  have hP := take_pulled h hi hq hmq
  have hqi := h.pne hi hq
  have hil := (List.getElem?_eq_some_iff.1 hi).1
  have hql := (List.getElem?_eq_some_iff.1 hmq).1
  have hal := (List.getElem?_eq_some_iff.1 hm).1
  refine ⟨_, hP, ?_⟩
  have G := get2 ns { mq with kids := outOf mq.kids i } { n with parent := -1 } hqi hql hil
  have Gi := G i
  rw [if_pos rfl] at Gi
  have Ga := G a
  rw [if_neg hai] at Ga
  generalize hM : (ns.set q { mq with kids := outOf mq.kids i }).set i { n with parent := -1 } = mid at *
  have hlen : mid.length = ns.length := by rw [← hM]; simp
  -- what stands at a
  have key : ∃ m', mid[a]? = some m' ∧ m'.kids = outOf m.kids i ∧ ({ m' with kids := insK (outOf m.kids i) c i } : Nd) = { m with kids := insK (outOf m.kids i) c i } := by
    by_cases haq : a = q
    · subst haq
      obtain rfl := Option.some.inj (hm.symm.trans hmq)
      rw [if_pos rfl] at Ga
      exact ⟨_, Ga, rfl, rfl⟩
    · rw [if_neg haq] at Ga
      refine ⟨m, Ga.trans hm, ?_, rfl⟩
      refine (outOf_none fun hx => ?_).symm
      obtain ⟨c', m', e1, e2, e3⟩ := h.kid a m hm _ hx
      have e := Int.ofNat.inj e1
      subst e
      obtain rfl := Option.some.inj (hi.symm.trans e2)
      have := Int.ofNat.inj (hq.symm.trans e3)
      exact haq this.symm
  obtain ⟨m', k1, k2, k3⟩ := key
  have P := Pushed.kid (k := c) k1 Gi hai (by rw [k2]; exact hc)
  have e : (mid.set a { m' with kids := m'.kids.take c ++ (i : Int) :: m'.kids.drop c }).set i { { n with parent := -1 } with parent := a } = ((ns.set q { mq with kids := outOf mq.kids i }).set a { m with kids := insK (outOf m.kids i) c i }).set i { n with parent := a } := by
    rw [k2]
    change (mid.set a { m' with kids := insK (outOf m.kids i) c i }).set i { n with parent := a } = _
    rw [k3]
    apply List.ext_getElem?
    intro j
    rw [get2 mid _ _ hai (by omega) (by omega) j, get2 (ns.set q _) _ _ hai (by simp; exact hal) (by simp; exact hil) j, G j]
    by_cases hj : j = i
    · simp [hj]
    · simp only [if_neg hj]
      by_cases hja : j = a
      · simp [hja]
      · simp only [if_neg hja]
        by_cases hjq : j = q
        · subst hjq
          rw [if_pos rfl, List.getElem?_set_self hql]
        · rw [if_neg hjq, List.getElem?_set_ne (Ne.symm hjq)]
  rw [← e]
  exact P
end Go.Proofs.YtoanbjdifddcoaaGreatDoor

/- How many others a node has beside it, both ways; where an attribute is set. -/
namespace Go.Proofs.YtoanbjdifddcoaaGreatDoor

theorem others_out {ps : List Pn} (h : WF (nodesOf ps)) {a i : Nat} {p m : Pn} (hp : ps[i]? = some p) (hm : ps[a]? = some m) : others a p m = ((outOf m.n.kids i).length : Int) := by
  unfold others
  by_cases e : p.n.parent = (a : Int)
  · rw [if_pos e]
    have hk : (i : Int) ∈ m.n.kids := by
      rcases h.par i _ (nodes_get hp) with e1 | ⟨r, y, e1, e2, e3⟩
      · omega
      · have e4 := Int.ofNat.inj (e.symm.trans e1)
        subst e4
        obtain rfl := Option.some.inj ((nodes_get hm).symm.trans e2)
        exact e3
    have hlt := idx_lt hk
    rw [outOf_erase (h.nodup a _ (nodes_get hm)) hk, List.length_eraseIdx, if_pos hlt]
    omega
  · rw [if_neg e, outOf_none]
    intro hx
    obtain ⟨c, y, e1, e2, e3⟩ := h.kid a _ (nodes_get hm) _ hx
    have e4 := Int.ofNat.inj e1
    subst e4
    obtain rfl := Option.some.inj ((nodes_get hp).symm.trans e2)
    exact e e3
end Go.Proofs.YtoanbjdifddcoaaGreatDoor
