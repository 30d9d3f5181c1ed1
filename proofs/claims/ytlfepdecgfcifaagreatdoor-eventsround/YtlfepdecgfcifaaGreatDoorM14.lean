/- The document's answer: what Put makes of a tree, where a root becomes the last kid of a root. -/
import Derived.Test.YtlfepdecgfcifaaGreatDoorM13
namespace Go.Proofs.YtlfepdecgfcifaaGreatDoor
open Go.RowKit

/-- behind a Put, whatever it answers -/
def RPutPost (w : World) (M : Nat → Lab) (tb : Nat) (nv : Value) (ps : List Pn) (us : List Value) (a b : Nat) (e : Ending) (w' : World) : Prop :=
  (∃ c, e = .returned (.int .i64 c)) ∧ ∃ M' uv' ps' us', RLies w' M' tb nv uv' ps' us' ∧ Moved w M w' M' ∧ nodesOf ps' = putS (nodesOf ps) a b ∧ us'.length ≤ us.length + 1

theorem RPutPost.stay {w : World} {M : Nat → Lab} {tb : Nat} {nv uv : Value} {ps : List Pn} {us : List Value} (h : RLies w M tb nv uv ps us) {a b : Nat} {pa pb : Pn} (ha : ps[a]? = some pa) (hb : ps[b]? = some pb) (hbad : kidsB pa.n.kind = false) (c : Int) : RPutPost w M tb nv ps us a b (.returned (.int .i64 c)) w :=
  ⟨⟨c, rfl⟩, M, uv, ps, us, h, Moved.refl _ _, by unfold putS; rw [nodes_get ha, nodes_get hb]; simp [hbad], by omega⟩

theorem RPutPost.done {w w' : World} {M M' : Nat → Lab} {tb : Nat} {nv uv' : Value} {ps : List Pn} {us us' : List Value} {a b : Nat} {pa pb : Pn} (ha : ps[a]? = some pa) (hb : ps[b]? = some pb) (hgood : kidsB pa.n.kind = true) {kv' : Value} (h : RLies w' M' tb nv uv' (putP ps a b pa pb kv') us') (m : Moved w M w' M') (hu : us'.length ≤ us.length + 1) (c : Int) : RPutPost w M tb nv ps us a b (.returned (.int .i64 c)) w' := by
  refine ⟨⟨c, rfl⟩, M', uv', _, us', h, m, ?_, hu⟩
  unfold putS
  rw [nodes_get ha, nodes_get hb]
  simp [hgood, nodesOf, putP, List.map_set]

theorem srcOf_zero (w : World) (size : Nat) (a : Option Addr) (c : Nat) : SrcOf w size (.slice a 0 c) 0 [] := by
  refine ⟨by simp, by simp, a, c, rfl, ?_⟩
  cases a with
  | none => exact .inl ⟨rfl, rfl⟩
  | some ad => exact .inr ⟨ad, rfl, by simp⟩

set_option maxHeartbeats 8000000 in
set_option maxRecDepth 100000 in
theorem rput_any {w : World} {M : Nat → Lab} {tb : Nat} {nv uv : Value} {ps : List Pn} {us : List Value} (h : RLies w M tb nv uv ps us) (hs : Small ps) (hn : ps.length ≤ 1000000) (hu : us.length ≤ 1000000000) {a b : Nat} {pa pb : Pn} (ha : ps[a]? = some pa) (hb : ps[b]? = some pb) (hab : a ≠ b) (hb0 : 0 < b) (hk : pa.n.kids.length ≤ 1000000000) (hra : pa.n.parent = -1) (hrb : pb.n.parent = -1)
    (hnk : (b : Int) ∉ pa.n.kids) (hkd : pa.n.kind = 1 ∨ pa.n.kind = 2 ∨ pa.n.kind = 3 ∨ pa.n.kind = 4) (x y : Int) (hx : x = a) (hy : y = b) :
    Calls Tryz.prog 30 #[.pointer (some ⟨tb, 0, none⟩), .int .i64 x, .int .i64 y, .int .i64 pa.n.kids.length] w (RPutPost w M tb nv ps us a b) := by
  subst hx
  subst hy
  obtain ⟨i0, hi, hz0, hz1, hz2⟩ := info_parts Tryz.infoInt
  have hha : hasB ps.length a = true := hasB_of ha
  have hhb : hasB ps.length b = true := hasB_of hb
  obtain ⟨nb, nc, rfl, hc, hm, hnM, hnl, hal⟩ := h.form ha
  have hbl : b < ps.length := (List.getElem?_eq_some_iff.1 hb).1
  have c0 := h.cell0
  have k0 := (h.cellN rfl (f := 0) ha (by omega) rfl).1
  rw [Nat.add_zero] at k0
  have k5 := (h.cellN rfl (f := 5) ha (by omega) rfl).1
  obtain ⟨ka, kc, hkv, _, _⟩ := (h.node a pa ha).2.shape
  rw [hkv] at k5
  have HRow : Hid (Row w M (.kids a) 3 1 (.slice ka pa.n.kids.length kc) pa.n.kids.length (pa.n.kids.map intV)) := hkv ▸ (h.node a pa ha).2
  have hlt : tb < w.heap.size := lt_of_heap h.head
  have H : Hid (RLies w M tb (.slice (some ⟨nb, 0, none⟩) ps.length nc) uv ps us) := h
  have HS : Hid (Small ps) := hs
  have HA : Hid (ps[a]? = some pa) := ha
  have HB : Hid (ps[b]? = some pb) := hb
  have HO : Hid (outOf pa.n.kids b = pa.n.kids) := outOf_none hnk
  have i1 : (0 : Int) ≤ (a : Int) := by omega
  have i2 : (a : Int) < (ps.length : Int) := by omega
  have i3 : (0 : Int) ≤ (b : Int) := by omega
  have i4 : (b : Int) < (ps.length : Int) := by omega
  have b0 : ((b : Int) == 0) = false := by rw [beq_eq_false_iff_ne]; omega
  have b0' : ¬ ((b : Int) = 0) := by omega
  unfold maxLen at hm
  clear h hs ha hb hnk
  by_cases hkb : kidsB pa.n.kind = true
  case neg =>
    have hkf : kidsB pa.n.kind = false := by simpa using hkb
    have h34 : pa.n.kind = 3 ∨ pa.n.kind = 4 := by
      unfold kidsB at hkf
      simp at hkf
      omega
    rcases h34 with e | e
    all_goals rw [e] at k0
    all_goals go_enter Tryz.func30, Tryz.ntmps30
    all_goals go_wp2_with (go_at_call 45; refine (rhas_any H.out _).mono ?_; rintro e w' ⟨rfl, rfl⟩; first | rw [hha] | rw [hhb])
    all_goals go_ret
    all_goals exact RPutPost.stay H.out HA.out HB.out hkf _
  have n3 : (pa.n.kind == 3) = false := by
    unfold kidsB at hkb
    simp at hkb
    rw [beq_eq_false_iff_ne]
    omega
  have n4 : (pa.n.kind == 4) = false := by
    unfold kidsB at hkb
    simp at hkb
    rw [beq_eq_false_iff_ne]
    omega
  go_enter Tryz.func30, Tryz.ntmps30
  go_wp2_with (first
    | (go_at_call 45; refine (rhas_any H.out _).mono ?_; rintro e w' ⟨rfl, hw'⟩; subst hw'; first | rw [hha] | rw [hhb])
    | (go_at_call 61; refine (in_root H.out HA.out hab hra).mono ?_; rintro e w' ⟨rfl, hw'⟩; subst hw'))
  refine (without_any HRow.out b (by omega)).mono ?_
  rintro e w2 ⟨v13, rfl, ho, hBq⟩
  rw [HO.out] at ho
  obtain ⟨a13, c13, hv13⟩ := own_shape ho
  subst hv13
  have HO2 : Hid (w2.ownsRow w'.heap.size 3 1 (.slice a13 pa.n.kids.length c13) pa.n.kids.length (pa.n.kids.map intV)) := ho
  have HL2 : Hid (RLies w2 M tb (.slice (some ⟨nb, 0, none⟩) ps.length nc) uv ps us ∧ Below w'.heap.size w' w2) := ⟨H.out.below hBq, hBq⟩
  have hc13 : pa.n.kids.length ≤ c13 ∧ c13 ≤ 9223372036854775807 ∧ (a13 = none → pa.n.kids.length = 0 ∧ c13 = 0) ∧ (∀ ad, a13 = some ad → ∃ g, ad = ⟨g, 0, none⟩ ∧ w'.heap.size ≤ g) := by
    rcases ho.2 with ⟨e, e0⟩ | ⟨g, cap, cur, e, hbg, _, e1, e2, _⟩
    · injection e with f1 f2 f3
      subst f1
      subst f3
      exact ⟨by omega, by omega, fun _ => ⟨e0, rfl⟩, fun ad h => by cases h⟩
    · injection e with f1 f2 f3
      subst f1
      subst f3
      exact ⟨e1, by unfold maxLen at e2; omega, fun h => (by cases h), fun ad h => ⟨g, by cases h; rfl, hbg⟩⟩
  obtain ⟨t1, t2, t3, t4⟩ := hc13
  clear ho hBq
  go_wp2_with fail
  refine (rkeep_any HL2.out.1 HS.out hn hu).mono ?_
  rintro e w3 ⟨rfl, M3, uv3, v3, l3, m3⟩
  have HO3 : Hid (w3.ownsRow w'.heap.size 3 1 (.slice a13 pa.n.kids.length c13) pa.n.kids.length (pa.n.kids.map intV)) := (own_moved HO2.out m3 (fun k hk => H.out.fresh k (HO2.out.lt k hk).1)).1
  have hw2 : w'.heap.size ≤ w2.heap.size := HL2.out.2.size
  have hw3 : w2.heap.size ≤ w3.heap.size := m3.size
  have H3 : Hid (RLies w3 M3 tb (.slice (some ⟨nb, 0, none⟩) ps.length nc) uv3 ps (us ++ [v3]) ∧ Moved w' M w3 M3) := ⟨l3, ((Moved.refl w' M).below HL2.out.2).trans m3⟩
  have d0 := l3.cell0
  have d4 := (l3.cellN rfl (f := 4) HB.out (by omega) rfl).1
  rw [hrb] at d4
  have HSrc : Hid (SrcOf w3 1 (.slice a13 pa.n.kids.length c13) pa.n.kids.length (pa.n.kids.map intV)) := own_src HO3.out (one_int _)
  clear l3 m3
  have fin : ∀ (v5 : Value) (w5 : World), w5.ownsRow w3.heap.size 3 1 v5 (pa.n.kids.length + 1) (pa.n.kids.map intV ++ [.int .i64 b]) → Below w3.heap.size w3 w5 → ∃ g5 c5, v5 = .slice (some ⟨g5, 0, none⟩) (pa.n.kids.length + 1) c5 ∧ w5.cell? ⟨tb, 0, none⟩ = some (.slice (some ⟨nb, 0, none⟩) ps.length nc) ∧ w5.cell? ⟨nb, a * 6 + 5, none⟩ = some (.slice ka pa.n.kids.length kc) ∧ w5.frozen? ⟨nb, a * 6 + 5, none⟩ = false ∧
      ∃ M6, RLies (w5.setCell ⟨nb, a * 6 + 5, none⟩ (.slice (some ⟨g5, 0, none⟩) (pa.n.kids.length + 1) c5)) M6 tb (.slice (some ⟨nb, 0, none⟩) ps.length nc) uv3 (ps.set a ⟨{ pa.n with kids := pa.n.kids ++ [(b : Int)] }, pa.av, .slice (some ⟨g5, 0, none⟩) (pa.n.kids.length + 1) c5⟩) (us ++ [v3]) ∧ Moved w' M (w5.setCell ⟨nb, a * 6 + 5, none⟩ (.slice (some ⟨g5, 0, none⟩) (pa.n.kids.length + 1) c5)) M6 := by
    intro v5 w5 hv5 hb5
    obtain ⟨g5, c5, rfl⟩ : ∃ g5 c5, v5 = .slice (some ⟨g5, 0, none⟩) (pa.n.kids.length + 1) c5 := by
      rcases hv5.2 with ⟨_, e⟩ | ⟨g, cap, cur, rfl, _⟩
      · omega
      · exact ⟨g, cap, rfl⟩
    have l5 := H3.out.1.below hb5
    obtain ⟨f1, f2⟩ := l5.cellN rfl (f := 5) HA.out (by omega) rfl
    rw [hkv] at f1
    have e5 : (pa.n.kids ++ [(b : Int)]).length = pa.n.kids.length + 1 := by simp
    have hv5' : w5.ownsRow w3.heap.size 3 1 (.slice (some ⟨g5, 0, none⟩) (pa.n.kids ++ [(b : Int)]).length c5) (pa.n.kids ++ [(b : Int)]).length ((pa.n.kids ++ [(b : Int)]).map intV) := by
      rw [e5, List.map_append]
      exact hv5
    obtain ⟨M6, r1, r2⟩ := l5.ownKids (H3.out.2.below hb5) rfl HA.out hv5' (by omega) (H3.out.1.fresh g5 (hv5.lt g5 rfl).1)
    rw [e5] at r1 r2
    exact ⟨g5, c5, rfl, l5.cell0, f1, f2, M6, r1, r2⟩
  have FIN : Hid _ := fin
  clear fin
  cases a13 with
  | none =>
    obtain ⟨z1, z2⟩ := t3 rfl
    subst z2
    obtain ⟨⟨kind, tag, words, attrs, parent, kids⟩, pav, pkv⟩ := pa
    dsimp only at z1 hkb n3 n4 hkd hra hk
    obtain rfl : kids = [] := List.length_eq_zero_iff.1 z1
    clear t1 t2 t3 t4 z1
    have fin := FIN.out
    simp only [List.length_nil, Nat.zero_add, List.map_nil, List.nil_append] at fin
    have FIN2 : Hid _ := fin
    clear fin FIN
    go_wp2_with (first
      | (at_builtin; refine wpList_app_own _ (by rfl) _ _ 32 (by rfl) w3.heap.size 3 i0 (.int .i64 0) 1 8 Tryz.underlying32 hi hz0 hz1 hz2 rfl (by decide) (.slice none 0 0) 0 [] (by rfl) (World.ownsRow_nil _ _ _ _) (.slice none 0 0) 0 [] (by rfl) (srcOf_zero _ _ _ _) (by unfold maxLen; omega) (by omega) (Nat.le_refl _) ?_
         intro v4 w4 hv4 hg4 _
         rw [Nat.zero_add, List.nil_append] at hv4
         have HV4 : Hid (w4.ownsRow w3.heap.size 3 1 v4 0 [] ∧ Below w3.heap.size w3 w4) := ⟨hv4, below_grown hg4⟩
         have hw4 : w3.heap.size ≤ w4.heap.size := hg4.size
         clear hv4 hg4)
      | (at_builtin; refine wpList_app_own _ (by rfl) _ _ 32 (by rfl) w3.heap.size 3 i0 (.int .i64 0) 1 8 Tryz.underlying32 hi hz0 hz1 hz2 rfl (by decide) v4 0 [] (by rfl) (HV4.out.1.alloc _) _ 1 [.int .i64 b] (by rfl) ⟨rfl, by simp [Value.oneCell'], _, _, rfl, .inr ⟨_, rfl, cell_one_new _ _ _⟩⟩ (by unfold maxLen; omega) (by omega) (by simp; omega) ?_
         intro v5 w5 hv5 hg5 _
         have HV5 : Hid (w5.ownsRow w3.heap.size 3 1 v5 (1) ([.int .i64 b]) ∧ Below w3.heap.size w3 w5) := ⟨hv5, (HV4.out.2.alloc hw4 _).grown hg5 (by simp; omega) (fun k hk => (HV4.out.1.lt k hk).1)⟩
         have hw5 : w3.heap.size ≤ w5.heap.size := HV5.out.2.size
         clear hv5 hg5)
      | (at_builtin; refine wpList_app_own _ (by rfl) _ _ 32 (by rfl) w3.heap.size 3 i0 (.int .i64 0) 1 8 Tryz.underlying32 hi hz0 hz1 hz2 rfl (by decide) v5 (1) ([.int .i64 b]) (by rfl) HV5.out.1 _ 0 [] (by rfl) (srcOf_zero _ _ _ _) (by unfold maxLen; omega) (by omega) hw5 ?_
         intro v6 w6 hv6 hg6 _
         obtain ⟨g5, c5, hv5', f0, f1, f2, M6, r1, r2⟩ := FIN2.out v6 w6 hv6 (HV5.out.2.grown hg6 hw5 (fun k hk => (HV5.out.1.lt k hk).1))
         subst hv5'
         have hb2 : (ps.set a ⟨⟨kind, tag, words, attrs, parent, [(b : Int)]⟩, pav, .slice (some ⟨g5, 0, none⟩) (1) c5⟩)[b]? = some pb := (by rw [List.getElem?_set_ne hab]; exact HB.out)
         have y0 := r1.cell0
         obtain ⟨y4, y4f⟩ := r1.cellN rfl (f := 4) hb2 (by omega) rfl
         have HQ : Hid _ := And.intro (r1.setNode rfl (f := 4) (c := .int .i64 a) hb2 (by omega) (p' := ⟨{ pb.n with parent := a }, pb.av, pb.kv⟩) rfl (r1.node b pb hb2).1 (r1.node b pb hb2).2) r2
         clear hv6 hg6 r1 r2 hb2))
    go_ret
    exact RPutPost.done HA.out HB.out hkb HQ.out.1.1 (HQ.out.2.trans (HQ.out.1.2.moved (by intro e; cases e))) (by simp) _
  | some ad =>
    obtain ⟨g13, rfl, hg13⟩ := t4 ad rfl
    clear t3 t4
    go_wp2_with (first
      | (at_builtin; refine wpList_app_own _ (by rfl) _ _ 32 (by rfl) w3.heap.size 3 i0 (.int .i64 0) 1 8 Tryz.underlying32 hi hz0 hz1 hz2 rfl (by decide) (.slice none 0 0) 0 [] (by rfl) (World.ownsRow_nil _ _ _ _) (.slice (some ⟨g13, 0, none⟩) pa.n.kids.length c13) pa.n.kids.length (pa.n.kids.map intV) (by rfl) HSrc.out (by unfold maxLen; omega) (by omega) (Nat.le_refl _) ?_
         intro v4 w4 hv4 hg4 _
         rw [Nat.zero_add, List.nil_append] at hv4
         have HV4 : Hid (w4.ownsRow w3.heap.size 3 1 v4 pa.n.kids.length (pa.n.kids.map intV) ∧ Below w3.heap.size w3 w4) := ⟨hv4, below_grown hg4⟩
         have hw4 : w3.heap.size ≤ w4.heap.size := hg4.size
         clear hv4 hg4)
      | (at_builtin; refine wpList_app_own _ (by rfl) _ _ 32 (by rfl) w3.heap.size 3 i0 (.int .i64 0) 1 8 Tryz.underlying32 hi hz0 hz1 hz2 rfl (by decide) v4 pa.n.kids.length (pa.n.kids.map intV) (by rfl) (HV4.out.1.alloc _) _ 1 [.int .i64 b] (by rfl) ⟨rfl, by simp [Value.oneCell'], _, _, rfl, .inr ⟨_, rfl, cell_one_new _ _ _⟩⟩ (by unfold maxLen; omega) (by omega) (by simp; omega) ?_
         intro v5 w5 hv5 hg5 _
         have HV5 : Hid (w5.ownsRow w3.heap.size 3 1 v5 (pa.n.kids.length + 1) (pa.n.kids.map intV ++ [.int .i64 b]) ∧ Below w3.heap.size w3 w5) := ⟨hv5, (HV4.out.2.alloc hw4 _).grown hg5 (by simp; omega) (fun k hk => (HV4.out.1.lt k hk).1)⟩
         have hw5 : w3.heap.size ≤ w5.heap.size := HV5.out.2.size
         clear hv5 hg5)
      | (at_builtin; refine wpList_app_own _ (by rfl) _ _ 32 (by rfl) w3.heap.size 3 i0 (.int .i64 0) 1 8 Tryz.underlying32 hi hz0 hz1 hz2 rfl (by decide) v5 (pa.n.kids.length + 1) (pa.n.kids.map intV ++ [.int .i64 b]) (by rfl) HV5.out.1 _ 0 [] (by rfl) (by simp [Act.eval]; exact srcOf_zero _ _ _ _) (by unfold maxLen; omega) (by omega) hw5 ?_
         intro v6 w6 hv6 hg6 _
         rw [List.append_nil] at hv6
         obtain ⟨g5, c5, hv5', f0, f1, f2, M6, r1, r2⟩ := FIN.out v6 w6 hv6 (HV5.out.2.grown hg6 hw5 (fun k hk => (HV5.out.1.lt k hk).1))
         subst hv5'
         have hb2 : (ps.set a ⟨{ pa.n with kids := pa.n.kids ++ [(b : Int)] }, pa.av, .slice (some ⟨g5, 0, none⟩) (pa.n.kids.length + 1) c5⟩)[b]? = some pb := (by rw [List.getElem?_set_ne hab]; exact HB.out)
         have y0 := r1.cell0
         obtain ⟨y4, y4f⟩ := r1.cellN rfl (f := 4) hb2 (by omega) rfl
         have HQ : Hid _ := And.intro (r1.setNode rfl (f := 4) (c := .int .i64 a) hb2 (by omega) (p' := ⟨{ pb.n with parent := a }, pb.av, pb.kv⟩) rfl (r1.node b pb hb2).1 (r1.node b pb hb2).2) r2
         clear hv6 hg6 r1 r2 hb2))
    all_goals go_ret
    all_goals exact RPutPost.done HA.out HB.out hkb HQ.out.1.1 (HQ.out.2.trans (HQ.out.1.2.moved (by intro e; cases e))) (by simp) _
end Go.Proofs.YtlfepdecgfcifaaGreatDoor

/- What looks at a tree: kinds, tags, words, attributes, and all that lies in a node. -/
namespace Go.Proofs.YtlfepdecgfcifaaGreatDoor
open Go.RowKit

set_option maxHeartbeats 1000000 in
theorem kind_any {w : World} {M : Nat → Lab} {tb : Nat} {nv uv : Value} {ps : List Pn} {us : List Value} (h : Lies w M tb nv uv ps us) {i : Nat} {p : Pn} (hp : ps[i]? = some p) :
    Calls Tryz.prog 40 #[.pointer (some ⟨tb, 0, none⟩), .int .i64 i] w fun e w' => e = .returned (.int .i64 p.n.kind) ∧ w' = w := by
  have hb := hasB_of hp
  obtain ⟨nb, cap, rfl, hc, hm, _, _, hi⟩ := h.form hp
  have c0 := h.cell0
  have c4 := (h.cellN rfl (f := 0) hp (by omega) rfl).1
  rw [Nat.add_zero] at c4
  unfold maxLen at hm
  go_enter Tryz.func40, Tryz.ntmps40
  go_wp2_with (go_at_call 54; refine (has_any h _).mono ?_; rintro e w' ⟨rfl, rfl⟩; rw [hb])
  all_goals go_ret
  all_goals exact ⟨rfl, rfl⟩
set_option maxHeartbeats 1000000 in
theorem tag_any {w : World} {M : Nat → Lab} {tb : Nat} {nv uv : Value} {ps : List Pn} {us : List Value} (h : Lies w M tb nv uv ps us) {i : Nat} {p : Pn} (hp : ps[i]? = some p) :
    Calls Tryz.prog 87 #[.pointer (some ⟨tb, 0, none⟩), .int .i64 i] w fun e w' => e = .returned (.string p.n.tag) ∧ w' = w := by
  have hb := hasB_of hp
  obtain ⟨nb, cap, rfl, hc, hm, _, _, hi⟩ := h.form hp
  have c0 := h.cell0
  have c4 := (h.cellN rfl (f := 1) hp (by omega) rfl).1
  unfold maxLen at hm
  go_enter Tryz.func87, Tryz.ntmps87
  go_wp2_with (go_at_call 54; refine (has_any h _).mono ?_; rintro e w' ⟨rfl, rfl⟩; rw [hb])
  all_goals go_ret
  all_goals exact ⟨rfl, rfl⟩
theorem flat_le {α : Type} (l : List α) (g : α → List Int) (k : Nat) : ((l.take k).flatMap g).length ≤ (l.flatMap g).length := by
  have e : (l.take k ++ l.drop k).flatMap g = l.flatMap g := by rw [List.take_append_drop]
  rw [← e, List.flatMap_append, List.length_append]
  omega
theorem flat_succ {α : Type} {l : List α} {k : Nat} {x : α} (h : l[k]? = some x) (g : α → List Int) : (l.take (k + 1)).flatMap g = (l.take k).flatMap g ++ g x := by
  obtain ⟨hk, rfl⟩ := List.getElem?_eq_some_iff.1 h
  rw [List.take_succ_eq_append_getElem hk, List.flatMap_append]
  simp

def UndPost (w0 : World) (l : List Int) (e : Ending) (w' : World) : Prop := ∃ v', e = .returned v' ∧ w'.ownsRow w0.heap.size 3 1 v' l.length (l.map intV) ∧ Below w0.heap.size w0 w'

set_option maxHeartbeats 4000000 in
set_option maxRecDepth 100000 in
theorem under_any {w0 : World} {M : Nat → Lab} {tb : Nat} {nv uv : Value} {ps : List Pn} {us : List Value} (h : Lies w0 M tb nv uv ps us) (hs : Sound (nodesOf ps)) : ∀ (f i : Nat), i < ps.length → rank (nodesOf ps) i < f → ∀ (w : World) (v : Value) (xs : List Int) (x : Int), x = i → Below w0.heap.size w0 w → w.ownsRow w0.heap.size 3 1 v xs.length (xs.map intV) → xs.length + (und (nodesOf ps) f i).length ≤ 1000000000 →
    Calls Tryz.prog 63 #[.pointer (some ⟨tb, 0, none⟩), v, .int .i64 x] w (UndPost w0 (xs ++ und (nodesOf ps) f i)) := by
  obtain ⟨i0, hi, hz0, hz1, hz2⟩ := info_parts Tryz.infoInt
  intro f
  induction f with
  | zero => intro i _ hr; omega
  | succ f ih =>
    intro i hil hr w v xs x hx hB hown hlen
    subst hx
    obtain ⟨p, hp⟩ : ∃ p, ps[i]? = some p := ⟨_, List.getElem?_eq_getElem hil⟩
    have hpn := nodes_get hp
    rw [und_succ hpn] at hlen ⊢
    obtain ⟨nb, cap, rfl, hc, hm, _, hnl, _⟩ := h.form hp
    have c0 := (hB.cell (p := ⟨tb, 0, none⟩) (lt_of_heap h.head)).trans h.cell0
    have c5 := (hB.cell (p := ⟨nb, i * 6 + 5, none⟩) hnl).trans (h.cellN rfl (f := 5) hp (by omega) rfl).1
    obtain ⟨ka, kc, hkv, hk1, hk2⟩ := (h.node i p hp).2.shape
    rw [hkv] at c5
    have hlt : tb < w0.heap.size := lt_of_heap h.head
    have HK : Hid (∀ (k : Nat) (y : Int), p.n.kids[k]? = some y → ∃ g b, ka = some ⟨g, 0, none⟩ ∧ g < w0.heap.size ∧ w0.cell? ⟨g, k, none⟩ = some (.int .i64 y) ∧ y = (b : Nat) ∧ b < ps.length ∧ rank (nodesOf ps) b < f) := by
      intro k y hy
      have hkl : k < p.n.kids.length := (List.getElem?_eq_some_iff.1 hy).1
      obtain ⟨g, c, hv, _, _, _, hg⟩ := (h.node i p hp).2.form (by omega)
      rw [hkv] at hv
      cases hv
      obtain ⟨b, e1, e2, e3⟩ := hs.rank hpn (List.mem_of_getElem? hy)
      exact ⟨g, b, rfl, hg, ((h.node i p hp).2.cell hkv (j := k) (u := .int .i64 y) (by simp [hy, intV])).1, e1, by simpa [nodesOf] using e2, by omega⟩
    have IH : Hid _ := ih
    have HB : Hid (Below w0.heap.size w0 w) := hB
    have HO : Hid (w.ownsRow w0.heap.size 3 1 v xs.length (xs.map intV)) := hown
    have hsz := hB.size
    have htw := Nat.lt_of_lt_of_le hlt hsz
    have hnw := Nat.lt_of_lt_of_le hnl hsz
    have i1 : (0 : Int) ≤ (i : Int) := by omega
    have i2 : (i : Int) < (ps.length : Int) := by omega
    have HL : Hid (∀ k, (xs ++ (i : Int) :: (p.n.kids.take k).flatMap fun x => und (nodesOf ps) f x.toNat).length ≤ 1000000000) := by
      intro k
      have := flat_le p.n.kids (fun x => und (nodesOf ps) f x.toNat) k
      simp only [List.length_append, List.length_cons] at hlen ⊢
      omega
    have hx0 : xs.length < 1000000000 := by simp only [List.length_cons] at hlen; omega
    unfold maxLen at hm hk2
    clear h hs ih hp hpn hB hown hlen
    go_enter Tryz.func63, Tryz.ntmps63
    go_wp2_with (at_builtin; refine wpList_app_own _ (by rfl) _ _ 32 (by rfl) w0.heap.size 3 i0 (.int .i64 0) 1 8 Tryz.underlying32 hi hz0 hz1 hz2 rfl (by decide) v xs.length (xs.map intV) (by rfl) (HO.out.alloc _) _ 1 [.int .i64 i] (by rfl) ⟨rfl, by simp [Value.oneCell'], _, _, rfl, .inr ⟨_, rfl, cell_one_new _ _ _⟩⟩ (by unfold maxLen; omega) (by omega) (by simp; omega) ?_
                 intro v1 w1 hv1 hg1 _
                 have HB1 : Hid (Below w0.heap.size w0 w1) := (HB.out.alloc hsz _).grown hg1 (by simp; omega) (fun k hk => (HO.out.lt k hk).1)
                 have d0 := (HB1.out.cell (p := ⟨tb, 0, none⟩) hlt).trans ((HB.out.cell (p := ⟨tb, 0, none⟩) hlt).symm.trans c0)
                 have d5 := (HB1.out.cell (p := ⟨nb, i * 6 + 5, none⟩) hnl).trans ((HB.out.cell (p := ⟨nb, i * 6 + 5, none⟩) hnl).symm.trans c5)
                 have HV1 : Hid (w1.ownsRow w0.heap.size 3 1 v1 (xs.length + 1) (xs.map intV ++ [.int .i64 i])) := hv1
                 clear hv1 hg1)
    go_loopw [1, 22] (fun lv iv wr => ∃ k : Nat, k ≤ p.n.kids.length ∧ iv = .int .i64 k ∧ Hid (wr.ownsRow w0.heap.size 3 1 lv (xs ++ (i : Int) :: (p.n.kids.take k).flatMap fun x => und (nodesOf ps) f x.toNat).length ((xs ++ (i : Int) :: (p.n.kids.take k).flatMap fun x => und (nodesOf ps) f x.toNat).map intV)) ∧ Hid (Below w0.heap.size w0 wr)) (fun _ iv _ => p.n.kids.length - (intOf iv).toNat)
    case atStart =>
      refine ⟨0, by omega, rfl, ?_, HB1⟩
      show w1.ownsRow _ _ _ _ _ _
      have := HV1.out
      simpa [intV] using this
    case round =>
      obtain ⟨k, hk, rfl, hO, hbel⟩ := hrel
      by_cases hkl : k < p.n.kids.length
      · obtain ⟨y, hy⟩ : ∃ y, p.n.kids[k]? = some y := ⟨_, List.getElem?_eq_getElem hkl⟩
        obtain ⟨g, b, rfl, hg, cy, rfl, hb1, hb2⟩ := HK.out k y hy
        have cy' := (hbel.out.cell (p := ⟨g, k, none⟩) hg).trans cy
        have hll := HL.out (k + 1)
        rw [flat_succ hy] at hll
        have HLL : Hid _ := hll
        have HY : Hid _ := flat_succ hy (fun x => und (nodesOf ps) f x.toNat)
        clear hy cy hll
        go_wp2_with (go_at_call 63; refine (IH.out b hb1 hb2 _ _ _ _ rfl hbel.out hO.out (by have := HLL.out; simp only [List.length_append, List.length_cons, Int.toNat_natCast] at this ⊢; omega)).mono ?_; rintro e w2 ⟨v2, rfl, ho2, hB2⟩; have H2 : Hid _ := And.intro ho2 hB2; clear ho2 hB2)
        go_roundw
        case rel =>
          go_light
          refine ⟨k + 1, by omega, by go_num, ?_, H2.out.2⟩
          show World.ownsRow _ _ _ _ _ _ _
          rw [HY.out]
          have := H2.out.1
          simpa using this
        case measure => go_light; simp [intOf]; omega
      · obtain rfl : k = p.n.kids.length := by omega
        rw [List.take_length] at hO
        obtain ⟨a5, e5, hv5⟩ := own_shape hO.out
        subst hv5
        go_wp2
        go_ret
        exact ⟨_, rfl, hO.out, hbel.out⟩
end Go.Proofs.YtlfepdecgfcifaaGreatDoor
