/- A node is moved, and moved back. -/
import Derived.Test.YtnoaojjljcbflaaGreatDoorM07
import Derived.Test.YtnoaojjljcbflaaGreatDoorM08
import Derived.Test.YtnoaojjljcbflaaGreatDoorM09
namespace Go.Proofs.YtnoaojjljcbflaaGreatDoor
open Go.RowKit

/-- no list of kids is too long -/
def KidsFew (ns : List Nd) : Prop := ∀ (j : Nat) (n : Nd), ns[j]? = some n → n.kids.length ≤ 1099511627776
theorem WF.kidsFew {ns : List Nd} (h : WF ns) : KidsFew ns := fun j n hn => Nat.le_trans (h.few hn) (by omega)

theorem pull_any {w : World} {M : Nat → Lab} {tb : Nat} {nv uv : Value} {ps : List Pn} {us : List Value} (h : Lies w M tb nv uv ps us) {i wz : Nat} {f : Int} {ns' : List Nd} (hp : Pulled (nodesOf ps) i ns' f wz) :
    Calls Tryz.prog 125 #[.pointer (some ⟨tb, 0, none⟩), .int .i64 i] w fun e w' => e = .returned (.tuple #[.int .i64 f, .int .i64 wz]) ∧ ∃ ps', Lies w' M tb nv uv ps' us ∧ nodesOf ps' = ns' ∧ Moved w M w' M := by
  cases hp with
  | root hi hr =>
    obtain ⟨p, hp, rfl⟩ := nodesOf_get hi
    refine (pull_root h hp hr).mono ?_
    rintro e w' ⟨rfl, rfl⟩
    exact ⟨rfl, ps, h, rfl, Moved.refl _ _⟩
  | kid hi hq hm hk hqi =>
    obtain ⟨p, hp, rfl⟩ := nodesOf_get hi
    obtain ⟨m, hm', rfl⟩ := nodesOf_get hm
    refine (pull_kid h hp hq hm' hk hqi).mono ?_
    rintro e w' ⟨rfl, kv', h1, h2⟩
    exact ⟨rfl, _, h1, by simp [nodesOf, pullP, List.map_set], h2⟩

theorem push_gen {w : World} {M : Nat → Lab} {tb : Nat} {nv uv : Value} {ps : List Pn} {us : List Value} (h : Lies w M tb nv uv ps us) {i k : Nat} {a : Int} {ns' : List Nd} (hp : Pushed (nodesOf ps) i k a ns') (hf : KidsFew (nodesOf ps)) :
    Calls Tryz.prog 126 #[.pointer (some ⟨tb, 0, none⟩), .int .i64 a, .int .i64 i, .int .i64 k] w fun e w' => e = .returned (.tuple #[]) ∧ ∃ M' ps', Lies w' M' tb nv uv ps' us ∧ nodesOf ps' = ns' ∧ Moved w M w' M' := by
  cases hp with
  | none =>
    refine (push_none tb _ _ _).mono ?_
    rintro e w' ⟨rfl, rfl⟩
    exact ⟨rfl, M, ps, h, rfl, Moved.refl _ _⟩
  | kid hm hi ha hk =>
    obtain ⟨p, hp, rfl⟩ := nodesOf_get hi
    obtain ⟨m, hm', rfl⟩ := nodesOf_get hm
    refine (push_all h hm' hp ha (hf _ _ hm) hk).mono ?_
    rintro e w' ⟨rfl, M', kv', h1, h2⟩
    exact ⟨rfl, M', _, h1, by simp [nodesOf, List.map_set], h2⟩

set_option maxHeartbeats 4000000 in
set_option maxRecDepth 100000 in
theorem move_any {w : World} {M : Nat → Lab} {tb : Nat} {nv uv : Value} {ps : List Pn} {us : List Value} (h : Lies w M tb nv uv ps us) {i k wz : Nat} {f a : Int} {mid ns' : List Nd} (hp : Pulled (nodesOf ps) i mid f wz) (hq : Pushed mid i k a ns') (hf : KidsFew mid) :
    Calls Tryz.prog 90 #[.pointer (some ⟨tb, 0, none⟩), .int .i64 a, .int .i64 i, .int .i64 k] w fun e w' => ∃ ca, e = .returned (.func (.func 127) #[] ca) ∧ ∃ M' ps', Lies w' M' tb nv uv ps' us ∧ nodesOf ps' = ns' ∧ Moved w M w' M' ∧ MvF w' M' (.func (.func 127) #[] ca) tb i f wz := by
  have HP : Hid (Pulled (nodesOf ps) i mid f wz) := hp
  have HQ : Hid (Pushed mid i k a ns') := hq
  have HF : Hid (KidsFew mid) := hf
  have H : Hid (Lies w M tb nv uv ps us) := h
  clear h hp hq hf
  go_enter Tryz.func90, Tryz.ntmps90
  go_wp2_with (first
    | (go_at_call 125; refine (pull_any ((H.out.alloc _).alloc _) HP.out).mono ?_; rintro e w1 ⟨rfl, ps1, hL1, hn1, hm1⟩
       have b0 : w1.cell? ⟨w.heap.size, 0, none⟩ = some (.pointer (some ⟨tb, 0, none⟩)) := moved_cell hm1 (H.out.fresh _ (Nat.le_refl _)) (by simp)
       have b1 : w1.cell? ⟨w.heap.size + 1, 0, none⟩ = some (.int .i64 i) := moved_cell hm1 (H.out.fresh _ (by omega)) (by simp)
       have l0 : w.heap.size + 1 < w1.heap.size := World.block_lt_of_cell? w1 _ b1
       have l1 : w.heap.size < w1.heap.size := by omega
       have H1 : Hid _ := And.intro hL1 (And.intro hm1 hn1)
       clear hL1 hm1 hn1)
    | (go_at_call 126; refine (push_gen ((H1.out.1.alloc _).alloc _) (H1.out.2.2.symm ▸ HQ.out) (H1.out.2.2.symm ▸ HF.out)).mono ?_; rintro e w2 ⟨rfl, M2, ps2, hL2, hn2, hm2⟩))
  go_ret
  have h0 := H.out.fresh w.heap.size (Nat.le_refl _)
  have h1 := H.out.fresh (w.heap.size + 1) (by omega)
  have h2 := H1.out.1.fresh w1.heap.size (Nat.le_refl _)
  have h3 := H1.out.1.fresh (w1.heap.size + 1) (by omega)
  have lb : ∀ {b : Nat}, b < w1.heap.size + 1 + 1 → M b = .other → M2 b = .other := fun {b} hb ho => (hm2.lab b (by simpa using hb)).trans ho
  refine ⟨_, rfl, M2, ps2, hL2, hn2, ((((((Moved.refl w M).alloc _).alloc _).trans H1.out.2.1).alloc _).alloc _).trans hm2, ⟨_, _, _, _, rfl, ⟨lb (by omega) h0, lb (by omega) h1, lb (by omega) h2, lb (by omega) h3⟩, ?_, ?_, ?_, ?_⟩⟩
  · exact moved_cell hm2 h0 (moved_cell (((Moved.refl w1 M).alloc _).alloc _) h0 b0)
  · exact moved_cell hm2 h1 (moved_cell (((Moved.refl w1 M).alloc _).alloc _) h1 b1)
  · exact moved_cell hm2 h2 (by simp)
  · exact moved_cell hm2 h3 (by simp)

set_option maxHeartbeats 4000000 in
set_option maxRecDepth 100000 in
theorem move1_any {w : World} {M : Nat → Lab} {tb : Nat} {nv uv : Value} {ps : List Pn} {us : List Value} (h : Lies w M tb nv uv ps us) {i wz wz' : Nat} {f f' : Int} {mid ns' : List Nd} {ca : Array Value} (hM : MvF w M (.func (.func 127) #[] ca) tb i f wz) (hp : Pulled (nodesOf ps) i mid f' wz') (hq : Pushed mid i wz f ns') (hf : KidsFew mid) :
    Calls Tryz.prog 127 ca w fun e w' => e = .returned (.tuple #[]) ∧ ∃ M' ps', Lies w' M' tb nv uv ps' us ∧ nodesOf ps' = ns' ∧ Moved w M w' M' := by
  obtain ⟨b1, b2, b3, b4, he, ⟨m1, m2, m3, m4⟩, k1, k2, k3, k4⟩ := hM
  cases he
  have HP : Hid (Pulled (nodesOf ps) i mid f' wz') := hp
  have HQ : Hid (Pushed mid i wz f ns') := hq
  have HF : Hid (KidsFew mid) := hf
  have H : Hid (Lies w M tb nv uv ps us) := h
  have HM : Hid (M b1 = .other ∧ M b2 = .other ∧ M b3 = .other ∧ M b4 = .other) := ⟨m1, m2, m3, m4⟩
  clear h hp hq hf m1 m2 m3 m4
  go_enter Tryz.func127, Tryz.ntmps127
  go_wp2_with (first
    | (go_at_call 125; refine (pull_any H.out HP.out).mono ?_; rintro e w1 ⟨rfl, ps1, hL1, hn1, hm1⟩
       have c1 := moved_cell hm1 HM.out.1 k1
       have c2 := moved_cell hm1 HM.out.2.1 k2
       have c3 := moved_cell hm1 HM.out.2.2.1 k3
       have c4 := moved_cell hm1 HM.out.2.2.2 k4
       have H1 : Hid _ := And.intro hL1 (And.intro hm1 hn1)
       clear hL1 hm1 hn1)
    | (go_at_call 126; refine (push_gen H1.out.1 (H1.out.2.2.symm ▸ HQ.out) (H1.out.2.2.symm ▸ HF.out)).mono ?_; rintro e w2 ⟨rfl, M2, ps2, hL2, hn2, hm2⟩))
  go_end0
  exact ⟨rfl, M2, ps2, hL2, hn2, H1.out.2.1.trans hm2⟩
end Go.Proofs.YtnoaojjljcbflaaGreatDoor

/- What Put and Take make of any tree. -/
namespace Go.Proofs.YtnoaojjljcbflaaGreatDoor
open Go.RowKit

theorem hasB_get {ps : List Pn} {a : Int} (h : hasB ps.length a = true) : ∃ (i : Nat) (p : Pn), a = i ∧ ps[i]? = some p := by
  unfold hasB at h
  simp at h
  obtain ⟨i, rfl⟩ : ∃ i : Nat, a = i := ⟨a.toNat, by omega⟩
  exact ⟨i, _, rfl, List.getElem?_eq_getElem (by omega)⟩

/-- nothing was done, and an error is told -/
def Refused (w : World) (e : Ending) (w' : World) : Prop := (∃ v, e = .returned v ∧ isErr v) ∧ Below w.heap.size w w'
/-- a node was moved -/
def WasMoved (w : World) (M : Nat → Lab) (tb : Nat) (nv : Value) (ps : List Pn) (us : List Value) (e : Ending) (w' : World) : Prop :=
  e = .returned .nilIface ∧ ∃ M' uv' ps' f i fr wz, Lies w' M' tb nv uv' ps' (us ++ [f]) ∧ MvF w' M' f tb i fr (wz : Nat) ∧ WF (nodesOf ps') ∧ Undoes (nodesOf ps') (nodesOf ps) (.move i fr wz) ∧ Moved w M w' M' ∧ (nodesOf ps').map Nd.attrs = (nodesOf ps).map Nd.attrs

theorem set_attrs {ns : List Nd} {i : Nat} {n n' : Nd} (h : ns[i]? = some n) (he : n'.attrs = n.attrs) : (ns.set i n').map Nd.attrs = ns.map Nd.attrs := by
  apply List.ext_getElem?
  intro j
  rw [List.map_set, he]
  by_cases hj : j = i
  · subst hj
    rw [List.getElem?_set_self (by simp; exact (List.getElem?_eq_some_iff.1 h).1)]
    simp [h]
  · rw [List.getElem?_set_ne (Ne.symm hj)]
theorem Pulled.attrs {ns ns' : List Nd} {i w : Nat} {f : Int} (hp : Pulled ns i ns' f w) : ns'.map Nd.attrs = ns.map Nd.attrs := by
  cases hp with
  | root _ _ => rfl
  | @kid n m q h hp hm hk hq =>
    refine Eq.trans (set_attrs (n := n) ?_ (by rfl)) (set_attrs hm (by rfl))
    rw [List.getElem?_set_ne hq]; exact h
theorem Pushed.attrs {ns ns' : List Nd} {i k : Nat} {a : Int} (hp : Pushed ns i k a ns') : ns'.map Nd.attrs = ns.map Nd.attrs := by
  cases hp with
  | none => rfl
  | @kid n m a hm h ha hk =>
    refine Eq.trans (set_attrs (n := n) ?_ (by rfl)) (set_attrs hm (by rfl))
    rw [List.getElem?_set_ne ha]; exact h

/-- how many others a node has beside it, if it goes there -/
def others (a : Nat) (p : Pn) (m : Pn) : Int := if p.n.parent = (a : Int) then (m.n.kids.length : Int) - 1 else m.n.kids.length

theorem others_mid {ns mid : List Nd} {i a wz : Nat} {fr : Int} {n m : Nd} (hp : Pulled ns i mid fr wz) (hi : ns[i]? = some n) (ha : ns[a]? = some m) (hai : a ≠ i) : ∃ m', mid[a]? = some m' ∧ (m'.kids.length : Int) = if n.parent = (a : Int) then (m.kids.length : Int) - 1 else m.kids.length := by
  cases hp with
  | root h hr =>
    obtain rfl := Option.some.inj (hi.symm.trans h)
    exact ⟨m, ha, by rw [if_neg (by omega)]⟩
  | @kid n' m' q h hq hm hk hqi =>
    obtain rfl := Option.some.inj (hi.symm.trans h)
    have G := get2 ns { m' with kids := m'.kids.eraseIdx (idx m'.kids i) } { n with parent := -1 } hqi (List.getElem?_eq_some_iff.1 hm).1 (List.getElem?_eq_some_iff.1 h).1 a
    rw [if_neg hai] at G
    by_cases haq : a = q
    · subst haq
      obtain rfl := Option.some.inj (ha.symm.trans hm)
      rw [if_pos rfl] at G
      have hlt := idx_lt hk
      refine ⟨_, G, ?_⟩
      rw [if_pos hq]
      simp only [List.length_eraseIdx, if_pos hlt]
      omega
    · rw [if_neg haq] at G
      exact ⟨m, G.trans ha, by rw [if_neg (by omega)]⟩

set_option maxHeartbeats 8000000 in
set_option maxRecDepth 100000 in
theorem put_good {w : World} {M : Nat → Lab} {tb : Nat} {nv uv : Value} {ps : List Pn} {us : List Value} (h : Lies w M tb nv uv ps us) (hW : WF (nodesOf ps)) (hu : us.length ≤ 1099511627776) {a i c : Nat} {p m : Pn} (hp : ps[i]? = some p) (hm : ps[a]? = some m) (h0 : i ≠ 0) (hk : kidsB m.n.kind = true) {la : List Nat} (hup : Up (nodesOf ps) a la) (hno : i ∉ la) (hc : (c : Int) ≤ others a p m) :
    Calls Tryz.prog 43 #[.pointer (some ⟨tb, 0, none⟩), .int .i64 a, .int .i64 i, .int .i64 c] w (WasMoved w M tb nv ps us) := by
  have hai : a ≠ i := fun e => hno (e ▸ hup.head)
  obtain ⟨mid, fr, wz, hP⟩ := hW.pulls (nodes_get hp)
  obtain ⟨m', hm', hl'⟩ := others_mid hP (nodes_get hp) (nodes_get hm) hai
  obtain ⟨n', hn', hr'⟩ := hP.isRoot
  have hcl : c ≤ m'.kids.length := by unfold others at hc; omega
  have HP : Hid (Pulled (nodesOf ps) i mid fr wz) := hP
  have HQ : Hid (Pushed mid i c a _) := Pushed.kid hm' hn' hai hcl
  have HWm : Hid (WF mid) := hW.pulled hP
  have HWf : Hid (WF ((mid.set a { m' with kids := m'.kids.take c ++ (i : Int) :: m'.kids.drop c }).set i { n' with parent := a })) := (hW.pulled hP).pushed hn' hr' h0 hm' (hP.chain hup hno) hno
  have hb1 := hasB_of hm
  have hb2 := hasB_of hp
  have hwi : decide (i ∈ la) = false := by simpa using hno
  have hi0 : ((i : Int) == 0) = false := by simp; omega
  have hi0' : ¬ ((i : Int) = 0) := by omega
  obtain ⟨nb, cap, rfl, hcp, hmx, _, _, hil⟩ := h.form hp
  have hal := (List.getElem?_eq_some_iff.1 hm).1
  have c0 := h.cell0
  have c4 := (h.cellN rfl (f := 4) hp (by omega) rfl).1
  have c5 := (h.cellN rfl (f := 5) hm (by omega) rfl).1
  obtain ⟨ka, kc, hkv, hk1, hk2⟩ := (h.node a m hm).2.shape
  rw [hkv] at c5
  have hfew := hW.few (nodes_get hm)
  have H : Hid (Lies w M tb (.slice (some ⟨nb, 0, none⟩) ps.length cap) uv ps us) := h
  have HM : Hid (ps[a]? = some m) := hm
  have HU : Hid (Up (nodesOf ps) a la) := hup
  have i1 : (0 : Int) ≤ (i : Int) := by omega
  have i2 : (i : Int) < (ps.length : Int) := by omega
  have i3 : (0 : Int) ≤ (a : Int) := by omega
  have i4 : (a : Int) < (ps.length : Int) := by omega
  have i5 : (0 : Int) ≤ (c : Int) := by omega
  unfold maxLen at hmx hk2
  unfold others at hc
  clear h hW hp hm hup hP hm' hn' hkv hl' hcl hr'
  by_cases hpa : p.n.parent = (a : Int)
  all_goals (first | rw [if_pos hpa] at hc | rw [if_neg hpa] at hc)
  all_goals
    go_enter Tryz.func43, Tryz.ntmps43
    go_wp2_with (first
      | (go_at_call 73; refine (has_any H.out _).mono ?_; rintro e w' ⟨rfl, rfl⟩; simp only [hb1, hb2])
      | (go_at_call 88; refine (mayHaveKids_any H.out HM.out).mono ?_; rintro e w' ⟨rfl, rfl⟩; rw [hk])
      | (go_at_call 89; refine (within_any H.out HU.out i).mono ?_; rintro e w' ⟨rfl, rfl⟩; rw [hwi])
      | (go_at_call 90; refine (move_any H.out HP.out HQ.out HWm.out.kidsFew).mono ?_; rintro e w1 ⟨ca, rfl, M1, ps1, hL1, hn1, hm1, hv1⟩; have H1 : Hid _ := And.intro hL1 (And.intro hn1 (And.intro hm1 hv1)); clear hL1 hn1 hm1 hv1)
      | (go_at_call 84; refine (keep_any H1.out.1 _ _ ca hu).mono ?_; rintro e w2 ⟨rfl, M2, uv2, hL2, hm2⟩; have H2 : Hid _ := And.intro hL2 hm2; clear hL2 hm2))
  all_goals go_ret
  all_goals refine ⟨rfl, M2, uv2, ps1, _, i, fr, wz, H2.out.1, H1.out.2.2.2.moved H2.out.2, ?_, ?_, H1.out.2.2.1.trans H2.out.2, ?_⟩
  all_goals rw [H1.out.2.1]
  all_goals first
    | exact HWf.out
    | exact undo_move HWm.out HP.out HQ.out
    | exact HQ.out.attrs.trans HP.out.attrs

set_option maxHeartbeats 8000000 in
set_option maxRecDepth 100000 in
theorem put_any {w : World} {M : Nat → Lab} {tb : Nat} {nv uv : Value} {ps : List Pn} {us : List Value} (h : Lies w M tb nv uv ps us) (hE : Errs w M) (hW : WF (nodesOf ps)) (hu : us.length ≤ 1099511627776) (a b c : Int) :
    Calls Tryz.prog 43 #[.pointer (some ⟨tb, 0, none⟩), .int .i64 a, .int .i64 b, .int .i64 c] w fun e w' => Refused w e w' ∨ WasMoved w M tb nv ps us e w' := by
  obtain ⟨t1, a1, hc1⟩ := hE.cell 2 (by decide)
  obtain ⟨t2, a2, hc2⟩ := hE.cell 1 (by decide)
  have H : Hid (Lies w M tb nv uv ps us) := h
  have HW : Hid (WF (nodesOf ps)) := hW
  clear hE hW
  cases hb1 : hasB ps.length a
  · clear h
    go_enter Tryz.func43, Tryz.ntmps43
    go_wp2_with (go_at_call 73; refine (has_any H.out _).mono ?_; rintro e w' ⟨rfl, rfl⟩; simp only [hb1])
    all_goals go_ret
    all_goals exact .inl ⟨⟨_, rfl, ⟨t1, a1, rfl⟩⟩, Below.refl _ _⟩
  cases hb2 : hasB ps.length b
  · clear h
    go_enter Tryz.func43, Tryz.ntmps43
    go_wp2_with (go_at_call 73; refine (has_any H.out _).mono ?_; rintro e w' ⟨rfl, rfl⟩; simp only [hb1, hb2])
    all_goals go_ret
    all_goals exact .inl ⟨⟨_, rfl, ⟨t1, a1, rfl⟩⟩, Below.refl _ _⟩
  obtain ⟨an, m, rfl, hm⟩ := hasB_get hb1
  obtain ⟨i, p, rfl, hp⟩ := hasB_get hb2
  have HM : Hid (ps[an]? = some m) := hm
  have HP : Hid (ps[i]? = some p) := hp
  by_cases h0 : i = 0
  · subst h0
    have hb3 : hasB ps.length 0 = true := hb2
    clear h hm hp
    go_enter Tryz.func43, Tryz.ntmps43
    go_wp2_with (go_at_call 73; refine (has_any H.out _).mono ?_; rintro e w' ⟨rfl, rfl⟩; first | rw [hb1] | rw [hb3])
    all_goals go_ret
    all_goals exact .inl ⟨⟨_, rfl, ⟨t2, a2, rfl⟩⟩, Below.refl _ _⟩
  have hi0 : ((i : Int) == 0) = false := by simp; omega
  have hi0' : ¬ ((i : Int) = 0) := by omega
  cases hk : kidsB m.n.kind
  · clear h hm hp
    go_enter Tryz.func43, Tryz.ntmps43
    go_wp2_with (first
      | (go_at_call 73; refine (has_any H.out _).mono ?_; rintro e w' ⟨rfl, rfl⟩; simp only [hb1, hb2])
      | (go_at_call 88; refine (mayHaveKids_any H.out HM.out).mono ?_; rintro e w' ⟨rfl, rfl⟩; rw [hk]))
    all_goals go_ret
    all_goals exact .inl ⟨⟨_, rfl, ⟨t2, a2, rfl⟩⟩, Below.refl _ _⟩
  obtain ⟨la, hup⟩ := HW.out.up an _ (nodes_get hm)
  have HU : Hid (Up (nodesOf ps) an la) := hup
  by_cases hno : i ∈ la
  · have hwi : decide (i ∈ la) = true := by simpa using hno
    clear h hm hp hup
    go_enter Tryz.func43, Tryz.ntmps43
    go_wp2_with (first
      | (go_at_call 73; refine (has_any H.out _).mono ?_; rintro e w' ⟨rfl, rfl⟩; simp only [hb1, hb2])
      | (go_at_call 88; refine (mayHaveKids_any H.out HM.out).mono ?_; rintro e w' ⟨rfl, rfl⟩; rw [hk])
      | (go_at_call 89; refine (within_any H.out HU.out i).mono ?_; rintro e w' ⟨rfl, rfl⟩; rw [hwi]))
    all_goals go_ret
    all_goals exact .inl ⟨⟨_, rfl, ⟨t2, a2, rfl⟩⟩, Below.refl _ _⟩
  by_cases hc : 0 ≤ c ∧ c ≤ others an p m
  · obtain ⟨cn, rfl⟩ : ∃ cn : Nat, c = cn := ⟨c.toNat, by omega⟩
    exact (put_good H.out HW.out hu hp hm h0 hk hup hno hc.2).mono fun _ _ hq => .inr hq
  have hwi : decide (i ∈ la) = false := by simpa using hno
  obtain ⟨nb, cap, rfl, hcp, hmx, _, _, hil⟩ := h.form hp
  have hal := (List.getElem?_eq_some_iff.1 hm).1
  have c0 := h.cell0
  have c4 := (h.cellN rfl (f := 4) hp (by omega) rfl).1
  have c5 := (h.cellN rfl (f := 5) hm (by omega) rfl).1
  obtain ⟨ka, kc, hkv, hk1, hk2⟩ := (h.node an m hm).2.shape
  rw [hkv] at c5
  have hfew := HW.out.few (nodes_get hm)
  have i1 : (0 : Int) ≤ (i : Int) := by omega
  have i2 : (i : Int) < (ps.length : Int) := by omega
  have i3 : (0 : Int) ≤ (an : Int) := by omega
  have i4 : (an : Int) < (ps.length : Int) := by omega
  unfold maxLen at hmx hk2
  unfold others at hc
  clear h hm hp hup hkv
  by_cases hpa : p.n.parent = (an : Int)
  all_goals (first | rw [if_pos hpa] at hc | rw [if_neg hpa] at hc)
  all_goals
    have hc' : c < 0 ∨ 0 ≤ c := by omega
    rcases hc' with hc' | hc'
  all_goals
    go_enter Tryz.func43, Tryz.ntmps43
    go_wp2_with (first
      | (go_at_call 73; refine (has_any H.out _).mono ?_; rintro e w' ⟨rfl, rfl⟩; simp only [hb1, hb2])
      | (go_at_call 88; refine (mayHaveKids_any H.out HM.out).mono ?_; rintro e w' ⟨rfl, rfl⟩; rw [hk])
      | (go_at_call 89; refine (within_any H.out HU.out i).mono ?_; rintro e w' ⟨rfl, rfl⟩; rw [hwi]))
  all_goals go_ret
  all_goals exact .inl ⟨⟨_, rfl, ⟨t2, a2, rfl⟩⟩, Below.refl _ _⟩
end Go.Proofs.YtnoaojjljcbflaaGreatDoor

/- What lies in a node of any tree: parents ahead of kids, no node twice. -/
namespace Go.Proofs.YtnoaojjljcbflaaGreatDoor

/-- what lies in a node, with it, in order -/
def und (ns : List Nd) : Nat → Nat → List Int
  | 0, _ => []
  | f + 1, i => (i : Int) :: (match ns[i]? with | some n => n.kids.flatMap fun x => und ns f x.toNat | none => [])
theorem und_succ {ns : List Nd} {i : Nat} {n : Nd} (h : ns[i]? = some n) (f : Nat) : und ns (f + 1) i = (i : Int) :: n.kids.flatMap fun x => und ns f x.toNat := by
  simp only [und, h]

/-- how far a node is from being the lowest -/
noncomputable def rkU (ns : List Nd) (i : Nat) : Nat := ns.length - (Classical.epsilon fun l => Up ns i l).length
theorem rkU_eq {ns : List Nd} {i : Nat} {l : List Nat} (h : Up ns i l) : rkU ns i = ns.length - l.length := by
  have := Classical.epsilon_spec (p := fun l => Up ns i l) ⟨l, h⟩
  unfold rkU
  rw [this.det h]
theorem WF.rank {ns : List Nd} (h : WF ns) {j : Nat} {n : Nd} (hj : ns[j]? = some n) {x : Int} (hx : x ∈ n.kids) : ∃ (b : Nat) (m : Nd), x = b ∧ b < ns.length ∧ ns[b]? = some m ∧ m.parent = j ∧ rkU ns b < rkU ns j := by
  obtain ⟨b, m, e1, e2, e3⟩ := h.kid j n hj x hx
  obtain ⟨l, hl⟩ := h.up j n hj
  have hb : Up ns b (b :: l) := .up e2 e3 hl
  have hs := hb.short
  simp at hs
  refine ⟨b, m, e1, (List.getElem?_eq_some_iff.1 e2).1, e2, e3, ?_⟩
  rw [rkU_eq hb, rkU_eq hl]
  simp
  omega
theorem rkU_le (ns : List Nd) (i : Nat) : rkU ns i ≤ ns.length := Nat.sub_le _ _

/-- a node lies in another one, or is it -/
inductive Anc (ns : List Nd) : Nat → Nat → Prop where
  | refl (i : Nat) : Anc ns i i
  | step {x p i : Nat} {n m : Nd} (hx : ns[x]? = some n) (hp : n.parent = p) (hm : ns[p]? = some m) (hk : (x : Int) ∈ m.kids) (h : Anc ns p i) : Anc ns x i
theorem Anc.trans {ns : List Nd} {x y z : Nat} (h : Anc ns x y) (k : Anc ns y z) : Anc ns x z := by
  induction h with
  | refl => exact k
  | step hx hp hm hk _ ih => exact .step hx hp hm hk (ih k)
theorem Anc.rank_le {ns : List Nd} (hs : WF ns) {x i : Nat} (h : Anc ns x i) : rkU ns x ≤ rkU ns i := by
  induction h with
  | refl => exact Nat.le_refl _
  | step hx hp hm hk _ ih =>
    obtain ⟨b, m, e1, _, _, _, e2⟩ := hs.rank hm hk
    have e3 := Int.ofNat.inj e1
    subst e3
    omega
theorem Anc.or {ns : List Nd} {x b c : Nat} (h : Anc ns x b) (k : Anc ns x c) : Anc ns b c ∨ Anc ns c b := by
  induction h with
  | refl => exact .inl k
  | step hx hp hm hk h ih =>
    cases k with
    | refl => exact .inr (.step hx hp hm hk h)
    | step hx' hp' hm' hk' k' =>
      obtain rfl := Option.some.inj (hx.symm.trans hx')
      have e := Int.ofNat.inj (hp.symm.trans hp')
      subst e
      exact ih k'
theorem und_anc {ns : List Nd} (hs : WF ns) : ∀ (f i : Nat), i < ns.length → ∀ x ∈ und ns f i, ∃ b : Nat, x = b ∧ b < ns.length ∧ Anc ns b i := by
  intro f
  induction f with
  | zero => intro i _ x hx; cases hx
  | succ f ih =>
    intro i hi x hx
    have hn : ns[i]? = some ns[i] := List.getElem?_eq_getElem hi
    rw [und_succ hn] at hx
    rcases List.mem_cons.1 hx with e | hx
    · exact ⟨i, e, hi, .refl i⟩
    · obtain ⟨y, hy, hxy⟩ := List.mem_flatMap.1 hx
      obtain ⟨b, m, e1, hb, e4, e5, _⟩ := hs.rank hn hy
      subst e1
      obtain ⟨c, f1, f2, f3⟩ := ih b hb x hxy
      exact ⟨c, f1, f2, f3.trans (.step e4 e5 hn hy (.refl i))⟩
theorem und_nodup {ns : List Nd} (hs : WF ns) : ∀ (f i : Nat), i < ns.length → (und ns f i).Nodup := by
  intro f
  induction f with
  | zero => intro i _; exact List.nodup_nil
  | succ f ih =>
    intro i hi
    have hg : ns[i]? = some ns[i] := List.getElem?_eq_getElem hi
    rw [und_succ hg, List.nodup_cons]
    have kid : ∀ y ∈ (ns[i]).kids, ∃ b : Nat, y = b ∧ b < ns.length ∧ rkU ns b < rkU ns i ∧ ∀ x ∈ und ns f y.toNat, ∃ c : Nat, x = c ∧ Anc ns c b := by
      intro y hy
      obtain ⟨b, m, e1, e2, _, _, e3⟩ := hs.rank hg hy
      refine ⟨b, e1, e2, e3, fun x hx => ?_⟩
      subst e1
      obtain ⟨c, f1, _, f3⟩ := und_anc hs f b e2 x hx
      exact ⟨c, f1, f3⟩
    refine ⟨fun hm => ?_, ?_⟩
    · obtain ⟨y, hy, hx⟩ := List.mem_flatMap.1 hm
      obtain ⟨b, _, _, e3, e4⟩ := kid y hy
      obtain ⟨c, f1, f2⟩ := e4 _ hx
      have e5 := Int.ofNat.inj f1
      subst e5
      have := f2.rank_le hs
      omega
    · have flat : ∀ l : List Int, l.Nodup → (∀ y ∈ l, y ∈ (ns[i]).kids) → (l.flatMap fun x => und ns f x.toNat).Nodup := by
        intro l
        induction l with
        | nil => intro _ _; exact List.nodup_nil
        | cons y l il =>
          intro hl hsub
          rw [List.flatMap_cons, List.nodup_append]
          obtain ⟨hy, hl'⟩ := List.nodup_cons.1 hl
          obtain ⟨b, e1, e2, e3, e4⟩ := kid y (hsub y (List.mem_cons_self ..))
          refine ⟨by subst e1; exact ih b e2, il hl' fun z hz => hsub z (List.mem_cons_of_mem _ hz), ?_⟩
          intro x hx z hz hxz
          subst hxz
          obtain ⟨u, hu, hxu⟩ := List.mem_flatMap.1 hz
          obtain ⟨c, g1, g2, g3, g4⟩ := kid u (hsub u (List.mem_cons_of_mem _ hu))
          obtain ⟨p, p1, p2⟩ := e4 x hx
          obtain ⟨q, q1, q2⟩ := g4 x hxu
          have epq := Int.ofNat.inj (p1.symm.trans q1)
          subst epq
          have hne : b ≠ c := fun e => hy (by rw [e1, e, ← g1]; exact hu)
          have no : ∀ b c : Nat, (b : Int) ∈ (ns[i]).kids → rkU ns c < rkU ns i → b ≠ c → ¬ Anc ns b c := by
            intro b c hb hc hbc ha
            cases ha with
            | refl => exact hbc rfl
            | step hx' hp' hm' hk' k' =>
              obtain ⟨b', m, r1, _, r4, r5, _⟩ := hs.rank hg hb
              have r6 := Int.ofNat.inj r1
              subst r6
              obtain rfl := Option.some.inj (hx'.symm.trans r4)
              have r7 := Int.ofNat.inj (hp'.symm.trans r5)
              subst r7
              have := k'.rank_le hs
              omega
          rcases p2.or q2 with h1 | h1
          · exact no b c (e1 ▸ hsub y (List.mem_cons_self ..)) g3 hne h1
          · exact no c b (g1 ▸ hsub u (List.mem_cons_of_mem _ hu)) e3 (Ne.symm hne) h1
      exact flat _ (hs.nodup i _ hg) fun _ h => h
theorem und_short {ns : List Nd} (hs : WF ns) (f i : Nat) (hi : i < ns.length) : (und ns f i).length ≤ ns.length :=
  short _ (und_nodup hs f i hi) fun x hx => by
    obtain ⟨b, e1, e2, _⟩ := und_anc hs f i hi x hx
    exact ⟨b, e1, e2⟩

/-- each but the first stands behind its parent -/
theorem und_pre {ns : List Nd} (hs : WF ns) : ∀ (f i : Nat), i < ns.length → ∀ (k : Nat) (x : Int), (und ns f i)[k]? = some x → 0 < k → ∃ (c : Nat) (n : Nd), x = c ∧ ns[c]? = some n ∧ n.parent ∈ (und ns f i).take k := by
  intro f
  induction f with
  | zero => intro i _ k x hx; simp [und] at hx
  | succ f ih =>
    intro i hi k x hx hk
    have hg : ns[i]? = some ns[i] := List.getElem?_eq_getElem hi
    rw [und_succ hg] at hx ⊢
    have flat : ∀ l : List Int, (∀ y ∈ l, y ∈ (ns[i]).kids) → ∀ (A : List Int), (i : Int) ∈ A → ∀ (k : Nat) (x : Int), (l.flatMap fun x => und ns f x.toNat)[k]? = some x → ∃ (c : Nat) (n : Nd), x = c ∧ ns[c]? = some n ∧ n.parent ∈ A ++ (l.flatMap fun x => und ns f x.toNat).take k := by
      intro l
      induction l with
      | nil => intro _ A _ k x hx; simp at hx
      | cons y l il =>
        intro hsub A hA k x hx
        rw [List.flatMap_cons] at hx ⊢
        obtain ⟨b, m, e1, e2, e3, e4, _⟩ := hs.rank hg (hsub y (List.mem_cons_self ..))
        subst e1
        rw [Int.toNat_natCast] at hx ⊢
        by_cases hlt : k < (und ns f b).length
        · rw [List.getElem?_append_left hlt] at hx
          rw [List.take_append_of_le_length (by omega)]
          rcases Nat.eq_zero_or_pos k with h0 | h0
          · subst h0
            cases f with
            | zero => simp [und] at hx
            | succ f =>
              have : x = b := by simpa [und] using hx.symm
              exact ⟨b, m, this, e3, List.mem_append_left _ (by rw [e4]; exact hA)⟩
          · obtain ⟨c, n, g1, g2, g3⟩ := ih b e2 k x hx h0
            exact ⟨c, n, g1, g2, List.mem_append_right _ g3⟩
        · rw [List.getElem?_append_right (by omega)] at hx
          obtain ⟨c, n, g1, g2, g3⟩ := il (fun z hz => hsub z (List.mem_cons_of_mem _ hz)) A hA _ x hx
          refine ⟨c, n, g1, g2, ?_⟩
          rw [List.take_append]
          rcases List.mem_append.1 g3 with g3 | g3
          · exact List.mem_append_left _ g3
          · exact List.mem_append_right _ (List.mem_append_right _ g3)
    obtain ⟨k', rfl⟩ : ∃ k', k = k' + 1 := ⟨k - 1, by omega⟩
    rw [List.getElem?_cons_succ] at hx
    obtain ⟨c, n, g1, g2, g3⟩ := flat _ (fun _ h => h) [(i : Int)] (by simp) k' x hx
    exact ⟨c, n, g1, g2, by simpa using g3⟩
end Go.Proofs.YtnoaojjljcbflaaGreatDoor
