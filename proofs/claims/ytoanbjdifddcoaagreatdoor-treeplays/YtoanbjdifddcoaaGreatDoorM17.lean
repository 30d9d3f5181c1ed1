/- What Put and Take make of any tree. -/
import Derived.Test.YtoanbjdifddcoaaGreatDoorM16
namespace Go.Proofs.YtoanbjdifddcoaaGreatDoor
open Go.RowKit

theorem hasB_get {ps : List Pn} {a : Int} (h : hasB ps.length a = true) : ∃ (i : Nat) (p : Pn), a = i ∧ ps[i]? = some p := by
  unfold hasB at h
  simp at h
  obtain ⟨i, rfl⟩ : ∃ i : Nat, a = i := ⟨a.toNat, by omega⟩
  exact ⟨i, _, rfl, List.getElem?_eq_getElem (by omega)⟩

/-- nothing was done, and an error is told -/
def Refused (w : World) (e : Ending) (w' : World) : Prop := (∃ v, e = .returned v ∧ isErr v) ∧ Below w.heap.size w w'
/-- a node was moved -/
def WasMoved (w : World) (M : Nat → Lab) (tb : Nat) (nv : Value) (ps : List Pn) (us : List Value) (e : Ending) (w' : World) : Prop :=
  e = .returned .nilIface ∧ ∃ M' uv' ps' f i fr wz, Lies w' M' tb nv uv' ps' (us ++ [f]) ∧ MvF w' M' f tb i fr (wz : Nat) ∧ WF (nodesOf ps') ∧ Undoes (nodesOf ps') (nodesOf ps) (.move i fr wz) ∧ Moved w M w' M' ∧ (nodesOf ps').map Nd.attrs = (nodesOf ps).map Nd.attrs

theorem set_attrs {ns : List Nd} {i : Nat} {n n' : Nd} (h : ns[i]? = some n) (he : n'.attrs = n.attrs) : (ns.set i n').map Nd.attrs = ns.map Nd.attrs := by
  apply List.ext_getElem?
  intro j
  rw [List.map_set, he]
  by_cases hj : j = i
  · subst hj
    rw [List.getElem?_set_self (by simp; exact (List.getElem?_eq_some_iff.1 h).1)]
    simp [h]
  · rw [List.getElem?_set_ne (Ne.symm hj)]
theorem Pulled.attrs {ns ns' : List Nd} {i w : Nat} {f : Int} (hp : Pulled ns i ns' f w) : ns'.map Nd.attrs = ns.map Nd.attrs := by
  cases hp with
  | root _ _ => rfl
  | @kid n m q h hp hm hk hq =>
    refine Eq.trans (set_attrs (n := n) ?_ (by rfl)) (set_attrs hm (by rfl))
    rw [List.getElem?_set_ne hq]; exact h
theorem Pushed.attrs {ns ns' : List Nd} {i k : Nat} {a : Int} (hp : Pushed ns i k a ns') : ns'.map Nd.attrs = ns.map Nd.attrs := by
  cases hp with
  | none => rfl
  | @kid n m a hm h ha hk =>
    refine Eq.trans (set_attrs (n := n) ?_ (by rfl)) (set_attrs hm (by rfl))
    rw [List.getElem?_set_ne ha]; exact h

set_option maxHeartbeats 4000000 in
set_option maxRecDepth 100000 in
theorem take_any {w : World} {M : Nat → Lab} {tb : Nat} {nv uv : Value} {ps : List Pn} {us : List Value} (h : Lies w M tb nv uv ps us) (hE : Errs w M) (hW : WF (nodesOf ps)) (hu : us.length ≤ 1099511627776) (b : Int) :
    Calls Tryz.prog 28 #[.pointer (some ⟨tb, 0, none⟩), .int .i64 b] w fun e w' => Refused w e w' ∨ WasMoved w M tb nv ps us e w' := by
  obtain ⟨t1, a1, hc1⟩ := hE.cell 1 (by decide)
  obtain ⟨t2, a2, hc2⟩ := hE.cell 2 (by decide)
  have H : Hid (Lies w M tb nv uv ps us) := h
  have HW : Hid (WF (nodesOf ps)) := hW
  clear hE hW
  cases hb : hasB ps.length b
  · clear h
    go_enter Tryz.func28, Tryz.ntmps28
    go_wp2_with (go_at_call 45; refine (has_any H.out _).mono ?_; rintro e w' ⟨rfl, rfl⟩; rw [hb])
    go_ret
    exact .inl ⟨⟨_, rfl, ⟨t1, a1, rfl⟩⟩, Below.refl _ _⟩
  · obtain ⟨i, p, rfl, hp⟩ := hasB_get hb
    have hpn := nodes_get hp
    obtain ⟨nb, cap, rfl, hc, hm, _, _, hil⟩ := h.form hp
    have c0 := h.cell0
    have c4 := (h.cellN rfl (f := 4) hp (by omega) rfl).1
    have i1 : (0 : Int) ≤ (i : Int) := by omega
    have i2 : (i : Int) < (ps.length : Int) := by omega
    unfold maxLen at hm
    by_cases hr : p.n.parent = -1
    · rw [hr] at c4
      clear h hp hpn
      go_enter Tryz.func28, Tryz.ntmps28
      go_wp2_with (go_at_call 45; refine (has_any H.out _).mono ?_; rintro e w' ⟨rfl, rfl⟩; rw [hb])
      go_ret
      exact .inl ⟨⟨_, rfl, ⟨t2, a2, rfl⟩⟩, Below.refl _ _⟩
    · obtain ⟨mid, fr, wz, hP⟩ := HW.out.pulls hpn
      have HP : Hid (Pulled (nodesOf ps) i mid fr wz) := hP
      have hrb : (p.n.parent == -1) = false := by simpa using hr
      clear h hp hpn hP
      go_enter Tryz.func28, Tryz.ntmps28
      go_wp2_with (first
        | (go_at_call 45; refine (has_any H.out _).mono ?_; rintro e w' ⟨rfl, rfl⟩; rw [hb])
        | (go_at_call 56; refine (move_any (k := 0) H.out HP.out .none (HW.out.pulled HP.out).kidsFew).mono ?_; rintro e w1 ⟨ca, rfl, M1, ps1, hL1, hn1, hm1, hv1⟩; have H1 : Hid _ := And.intro hL1 (And.intro hn1 (And.intro hm1 hv1)); clear hL1 hn1 hm1 hv1)
        | (go_at_call 55; refine (keep_any H1.out.1 _ _ ca hu).mono ?_; rintro e w2 ⟨rfl, M2, uv2, hL2, hm2⟩; have H2 : Hid _ := And.intro hL2 hm2; clear hL2 hm2))
      go_ret
      refine .inr ⟨rfl, M2, uv2, ps1, _, i, fr, wz, H2.out.1, H1.out.2.2.2.moved H2.out.2, ?_, ?_, H1.out.2.2.1.trans H2.out.2, ?_⟩
      · rw [H1.out.2.1]; exact HW.out.pulled HP.out
      · rw [H1.out.2.1]; exact undo_move (k := 0) (HW.out.pulled HP.out) HP.out .none
      · rw [H1.out.2.1]; exact HP.out.attrs

/-- how many others a node has beside it, if it goes there -/
def others (a : Nat) (p : Pn) (m : Pn) : Int := if p.n.parent = (a : Int) then (m.n.kids.length : Int) - 1 else m.n.kids.length

theorem others_mid {ns mid : List Nd} {i a wz : Nat} {fr : Int} {n m : Nd} (hp : Pulled ns i mid fr wz) (hi : ns[i]? = some n) (ha : ns[a]? = some m) (hai : a ≠ i) : ∃ m', mid[a]? = some m' ∧ (m'.kids.length : Int) = if n.parent = (a : Int) then (m.kids.length : Int) - 1 else m.kids.length := by
  cases hp with
  | root h hr =>
    obtain rfl := Option.some.inj (hi.symm.trans h)
    exact ⟨m, ha, by rw [if_neg (by omega)]⟩
  | @kid n' m' q h hq hm hk hqi =>
    obtain rfl := Option.some.inj (hi.symm.trans h)
    have G := get2 ns { m' with kids := m'.kids.eraseIdx (idx m'.kids i) } { n with parent := -1 } hqi (List.getElem?_eq_some_iff.1 hm).1 (List.getElem?_eq_some_iff.1 h).1 a
    rw [if_neg hai] at G
    by_cases haq : a = q
    · subst haq
      obtain rfl := Option.some.inj (ha.symm.trans hm)
      rw [if_pos rfl] at G
      have hlt := idx_lt hk
      refine ⟨_, G, ?_⟩
      rw [if_pos hq]
      simp only [List.length_eraseIdx, if_pos hlt]
      omega
    · rw [if_neg haq] at G
      exact ⟨m, G.trans ha, by rw [if_neg (by omega)]⟩

set_option maxHeartbeats 8000000 in
set_option maxRecDepth 100000 in
theorem put_good {w : World} {M : Nat → Lab} {tb : Nat} {nv uv : Value} {ps : List Pn} {us : List Value} (h : Lies w M tb nv uv ps us) (hW : WF (nodesOf ps)) (hu : us.length ≤ 1099511627776) {a i c : Nat} {p m : Pn} (hp : ps[i]? = some p) (hm : ps[a]? = some m) (h0 : i ≠ 0) (hk : kidsB m.n.kind = true) {la : List Nat} (hup : Up (nodesOf ps) a la) (hno : i ∉ la) (hc : (c : Int) ≤ others a p m) :
    Calls Tryz.prog 25 #[.pointer (some ⟨tb, 0, none⟩), .int .i64 a, .int .i64 i, .int .i64 c] w (WasMoved w M tb nv ps us) := by
  have hai : a ≠ i := fun e => hno (e ▸ hup.head)
  obtain ⟨mid, fr, wz, hP⟩ := hW.pulls (nodes_get hp)
  obtain ⟨m', hm', hl'⟩ := others_mid hP (nodes_get hp) (nodes_get hm) hai
  obtain ⟨n', hn', hr'⟩ := hP.isRoot
  have hcl : c ≤ m'.kids.length := by unfold others at hc; omega
  have HP : Hid (Pulled (nodesOf ps) i mid fr wz) := hP
  have HQ : Hid (Pushed mid i c a _) := Pushed.kid hm' hn' hai hcl
  have HWm : Hid (WF mid) := hW.pulled hP
  have HWf : Hid (WF ((mid.set a { m' with kids := m'.kids.take c ++ (i : Int) :: m'.kids.drop c }).set i { n' with parent := a })) := (hW.pulled hP).pushed hn' hr' h0 hm' (hP.chain hup hno) hno
  have hb1 := hasB_of hm
  have hb2 := hasB_of hp
  have hwi : decide (i ∈ la) = false := by simpa using hno
  have hi0 : ((i : Int) == 0) = false := by simp; omega
  have hi0' : ¬ ((i : Int) = 0) := by omega
  obtain ⟨nb, cap, rfl, hcp, hmx, _, _, hil⟩ := h.form hp
  have hal := (List.getElem?_eq_some_iff.1 hm).1
  have c0 := h.cell0
  have c4 := (h.cellN rfl (f := 4) hp (by omega) rfl).1
  have c5 := (h.cellN rfl (f := 5) hm (by omega) rfl).1
  obtain ⟨ka, kc, hkv, hk1, hk2⟩ := (h.node a m hm).2.shape
  rw [hkv] at c5
  have hfew := hW.few (nodes_get hm)
  have H : Hid (Lies w M tb (.slice (some ⟨nb, 0, none⟩) ps.length cap) uv ps us) := h
  have HM : Hid (ps[a]? = some m) := hm
  have HU : Hid (Up (nodesOf ps) a la) := hup
  have i1 : (0 : Int) ≤ (i : Int) := by omega
  have i2 : (i : Int) < (ps.length : Int) := by omega
  have i3 : (0 : Int) ≤ (a : Int) := by omega
  have i4 : (a : Int) < (ps.length : Int) := by omega
  have i5 : (0 : Int) ≤ (c : Int) := by omega
  unfold maxLen at hmx hk2
  unfold others at hc
  clear h hW hp hm hup hP hm' hn' hkv hl' hcl hr'
  by_cases hpa : p.n.parent = (a : Int)
  all_goals (first | rw [if_pos hpa] at hc | rw [if_neg hpa] at hc)
  all_goals
    go_enter Tryz.func25, Tryz.ntmps25
    go_wp2_with (first
      | (go_at_call 45; refine (has_any H.out _).mono ?_; rintro e w' ⟨rfl, rfl⟩; simp only [hb1, hb2])
      | (go_at_call 53; refine (mayHaveKids_any H.out HM.out).mono ?_; rintro e w' ⟨rfl, rfl⟩; rw [hk])
      | (go_at_call 54; refine (within_any H.out HU.out i).mono ?_; rintro e w' ⟨rfl, rfl⟩; rw [hwi])
      | (go_at_call 56; refine (move_any H.out HP.out HQ.out HWm.out.kidsFew).mono ?_; rintro e w1 ⟨ca, rfl, M1, ps1, hL1, hn1, hm1, hv1⟩; have H1 : Hid _ := And.intro hL1 (And.intro hn1 (And.intro hm1 hv1)); clear hL1 hn1 hm1 hv1)
      | (go_at_call 55; refine (keep_any H1.out.1 _ _ ca hu).mono ?_; rintro e w2 ⟨rfl, M2, uv2, hL2, hm2⟩; have H2 : Hid _ := And.intro hL2 hm2; clear hL2 hm2))
  all_goals go_ret
  all_goals refine ⟨rfl, M2, uv2, ps1, _, i, fr, wz, H2.out.1, H1.out.2.2.2.moved H2.out.2, ?_, ?_, H1.out.2.2.1.trans H2.out.2, ?_⟩
  all_goals rw [H1.out.2.1]
  all_goals first
    | exact HWf.out
    | exact undo_move HWm.out HP.out HQ.out
    | exact HQ.out.attrs.trans HP.out.attrs

set_option maxHeartbeats 8000000 in
set_option maxRecDepth 100000 in
theorem put_any {w : World} {M : Nat → Lab} {tb : Nat} {nv uv : Value} {ps : List Pn} {us : List Value} (h : Lies w M tb nv uv ps us) (hE : Errs w M) (hW : WF (nodesOf ps)) (hu : us.length ≤ 1099511627776) (a b c : Int) :
    Calls Tryz.prog 25 #[.pointer (some ⟨tb, 0, none⟩), .int .i64 a, .int .i64 b, .int .i64 c] w fun e w' => Refused w e w' ∨ WasMoved w M tb nv ps us e w' := by
  obtain ⟨t1, a1, hc1⟩ := hE.cell 1 (by decide)
  obtain ⟨t2, a2, hc2⟩ := hE.cell 2 (by decide)
  have H : Hid (Lies w M tb nv uv ps us) := h
  have HW : Hid (WF (nodesOf ps)) := hW
  clear hE hW
  cases hb1 : hasB ps.length a
  · clear h
    go_enter Tryz.func25, Tryz.ntmps25
    go_wp2_with (go_at_call 45; refine (has_any H.out _).mono ?_; rintro e w' ⟨rfl, rfl⟩; simp only [hb1])
    all_goals go_ret
    all_goals exact .inl ⟨⟨_, rfl, ⟨t1, a1, rfl⟩⟩, Below.refl _ _⟩
  cases hb2 : hasB ps.length b
  · clear h
    go_enter Tryz.func25, Tryz.ntmps25
    go_wp2_with (go_at_call 45; refine (has_any H.out _).mono ?_; rintro e w' ⟨rfl, rfl⟩; simp only [hb1, hb2])
    all_goals go_ret
    all_goals exact .inl ⟨⟨_, rfl, ⟨t1, a1, rfl⟩⟩, Below.refl _ _⟩
  obtain ⟨an, m, rfl, hm⟩ := hasB_get hb1
  obtain ⟨i, p, rfl, hp⟩ := hasB_get hb2
  have HM : Hid (ps[an]? = some m) := hm
  have HP : Hid (ps[i]? = some p) := hp
  by_cases h0 : i = 0
  · subst h0
    have hb3 : hasB ps.length 0 = true := hb2
    clear h hm hp
    go_enter Tryz.func25, Tryz.ntmps25
    go_wp2_with (go_at_call 45; refine (has_any H.out _).mono ?_; rintro e w' ⟨rfl, rfl⟩; first | rw [hb1] | rw [hb3])
    all_goals go_ret
    all_goals exact .inl ⟨⟨_, rfl, ⟨t2, a2, rfl⟩⟩, Below.refl _ _⟩
  have hi0 : ((i : Int) == 0) = false := by simp; omega
  have hi0' : ¬ ((i : Int) = 0) := by omega
  cases hk : kidsB m.n.kind
  · clear h hm hp
    go_enter Tryz.func25, Tryz.ntmps25
    go_wp2_with (first
      | (go_at_call 45; refine (has_any H.out _).mono ?_; rintro e w' ⟨rfl, rfl⟩; simp only [hb1, hb2])
      | (go_at_call 53; refine (mayHaveKids_any H.out HM.out).mono ?_; rintro e w' ⟨rfl, rfl⟩; rw [hk]))
    all_goals go_ret
    all_goals exact .inl ⟨⟨_, rfl, ⟨t2, a2, rfl⟩⟩, Below.refl _ _⟩
  obtain ⟨la, hup⟩ := HW.out.up an _ (nodes_get hm)
  have HU : Hid (Up (nodesOf ps) an la) := hup
  by_cases hno : i ∈ la
  · have hwi : decide (i ∈ la) = true := by simpa using hno
    clear h hm hp hup
    go_enter Tryz.func25, Tryz.ntmps25
    go_wp2_with (first
      | (go_at_call 45; refine (has_any H.out _).mono ?_; rintro e w' ⟨rfl, rfl⟩; simp only [hb1, hb2])
      | (go_at_call 53; refine (mayHaveKids_any H.out HM.out).mono ?_; rintro e w' ⟨rfl, rfl⟩; rw [hk])
      | (go_at_call 54; refine (within_any H.out HU.out i).mono ?_; rintro e w' ⟨rfl, rfl⟩; rw [hwi]))
    all_goals go_ret
    all_goals exact .inl ⟨⟨_, rfl, ⟨t2, a2, rfl⟩⟩, Below.refl _ _⟩
  by_cases hc : 0 ≤ c ∧ c ≤ others an p m
  · obtain ⟨cn, rfl⟩ : ∃ cn : Nat, c = cn := ⟨c.toNat, by omega⟩
    exact (put_good H.out HW.out hu hp hm h0 hk hup hno hc.2).mono fun _ _ hq => .inr hq
  have hwi : decide (i ∈ la) = false := by simpa using hno
  obtain ⟨nb, cap, rfl, hcp, hmx, _, _, hil⟩ := h.form hp
  have hal := (List.getElem?_eq_some_iff.1 hm).1
  have c0 := h.cell0
  have c4 := (h.cellN rfl (f := 4) hp (by omega) rfl).1
  have c5 := (h.cellN rfl (f := 5) hm (by omega) rfl).1
  obtain ⟨ka, kc, hkv, hk1, hk2⟩ := (h.node an m hm).2.shape
  rw [hkv] at c5
  have hfew := HW.out.few (nodes_get hm)
  have i1 : (0 : Int) ≤ (i : Int) := by omega
  have i2 : (i : Int) < (ps.length : Int) := by omega
  have i3 : (0 : Int) ≤ (an : Int) := by omega
  have i4 : (an : Int) < (ps.length : Int) := by omega
  unfold maxLen at hmx hk2
  unfold others at hc
  clear h hm hp hup hkv
  by_cases hpa : p.n.parent = (an : Int)
  all_goals (first | rw [if_pos hpa] at hc | rw [if_neg hpa] at hc)
  all_goals
    have hc' : c < 0 ∨ 0 ≤ c := by omega
    rcases hc' with hc' | hc'
  all_goals
    go_enter Tryz.func25, Tryz.ntmps25
    go_wp2_with (first
      | (go_at_call 45; refine (has_any H.out _).mono ?_; rintro e w' ⟨rfl, rfl⟩; simp only [hb1, hb2])
      | (go_at_call 53; refine (mayHaveKids_any H.out HM.out).mono ?_; rintro e w' ⟨rfl, rfl⟩; rw [hk])
      | (go_at_call 54; refine (within_any H.out HU.out i).mono ?_; rintro e w' ⟨rfl, rfl⟩; rw [hwi]))
  all_goals go_ret
  all_goals exact .inl ⟨⟨_, rfl, ⟨t2, a2, rfl⟩⟩, Below.refl _ _⟩
end Go.Proofs.YtoanbjdifddcoaaGreatDoor

/- What is kept to undo a change, as it lies in memory. -/
namespace Go.Proofs.YtoanbjdifddcoaaGreatDoor
open Go.RowKit

/-- a cell that a kept function has captured -/
def Cap (w : World) (M : Nat → Lab) (b o : Nat) (v : Value) : Prop := M b = .other ∧ w.cell? ⟨b, o, none⟩ = some v
theorem Cap.moved {w w' : World} {M M' : Nat → Lab} {b o : Nat} {v : Value} (h : Cap w M b o v) (m : Moved w M w' M') : Cap w' M' b o v :=
  ⟨(m.lab b (World.block_lt_of_cell? w _ h.2)).trans h.1, moved_cell m h.1 h.2⟩

def at0 (b : Nat) : Value := .pointer (some ⟨b, 0, none⟩)

/-- a function that is kept, and what it has captured -/
def KeptF (w : World) (M : Nat → Lab) (tb : Nat) (f : Value) : Rec → Prop
  | .forget n => Frg w M f tb n
  | .move i fr wz => MvF w M f tb i fr (wz : Nat)
  | .cut i => ∃ b1 b2, f = .func (.func 62) #[] #[.pointer (some ⟨b1, 0, none⟩), .pointer (some ⟨b2, 0, none⟩)] ∧ Cap w M b1 0 (at0 tb) ∧ Cap w M b2 0 (.int .i64 i)
  | .back i k old => ∃ b0 b1 b2 b3, f = .func (.func 64) #[] #[.pointer (some ⟨b0, 0, none⟩), .pointer (some ⟨b1, 0, none⟩), .pointer (some ⟨b2, 0, none⟩), .pointer (some ⟨b3, 0, none⟩)] ∧ Cap w M b0 0 (.string old) ∧ Cap w M b1 0 (at0 tb) ∧ Cap w M b2 0 (.int .i64 i) ∧ Cap w M b3 0 (.int .i64 k)
  | .ins i k x => ∃ b1 b2 b3 b4, f = .func (.func 65) #[] #[.pointer (some ⟨b1, 0, none⟩), .pointer (some ⟨b2, 0, none⟩), .pointer (some ⟨b3, 0, none⟩), .pointer (some ⟨b4, 0, none⟩)] ∧ Cap w M b1 0 (at0 tb) ∧ Cap w M b2 0 (.int .i64 i) ∧ Cap w M b3 0 (.int .i64 k) ∧ Cap w M b4 0 (.string x.1) ∧ Cap w M b4 1 (.string x.2)
  | .say i old => ∃ b0 b1 b2, f = .func (.func 67) #[] #[.pointer (some ⟨b0, 0, none⟩), .pointer (some ⟨b1, 0, none⟩), .pointer (some ⟨b2, 0, none⟩)] ∧ Cap w M b0 0 (.string old) ∧ Cap w M b1 0 (at0 tb) ∧ Cap w M b2 0 (.int .i64 i)

theorem KeptF.moved {w w' : World} {M M' : Nat → Lab} {tb : Nat} {f : Value} {r : Rec} (h : KeptF w M tb f r) (m : Moved w M w' M') : KeptF w' M' tb f r := by
  cases r with
  | forget n => exact Frg.moved h m
  | move i fr wz => exact MvF.moved h m
  | cut i =>
    obtain ⟨b1, b2, h0, h1, h2⟩ := h
    exact ⟨b1, b2, h0, h1.moved m, h2.moved m⟩
  | back i k old =>
    obtain ⟨b0, b1, b2, b3, h0, h1, h2, h3, h4⟩ := h
    exact ⟨b0, b1, b2, b3, h0, h1.moved m, h2.moved m, h3.moved m, h4.moved m⟩
  | ins i k x =>
    obtain ⟨b1, b2, b3, b4, h0, h1, h2, h3, h4, h5⟩ := h
    exact ⟨b1, b2, b3, b4, h0, h1.moved m, h2.moved m, h3.moved m, h4.moved m, h5.moved m⟩
  | say i old =>
    obtain ⟨b0, b1, b2, h0, h1, h2, h3⟩ := h
    exact ⟨b0, b1, b2, h0, h1.moved m, h2.moved m, h3.moved m⟩

/-- a change was made, and what undoes it is kept -/
def Done (w : World) (M : Nat → Lab) (tb : Nat) (ps : List Pn) (us : List Value) (K : Nat) (w' : World) : Prop :=
  ∃ M' nv' uv' ps' f r, Lies w' M' tb nv' uv' ps' (us ++ [f]) ∧ KeptF w' M' tb f r ∧ WF (nodesOf ps') ∧ Undoes (nodesOf ps') (nodesOf ps) r ∧ Moved w M w' M' ∧ Few (nodesOf ps') (K + 1)

theorem few_of_attrs {ns ns' : List Nd} {K : Nat} (h : Few ns K) (he : ns'.map Nd.attrs = ns.map Nd.attrs) : Few ns' (K + 1) := by
  intro j n hn
  have : (ns'.map Nd.attrs)[j]? = some n.attrs := by simp [hn]
  rw [he, List.getElem?_map] at this
  obtain ⟨m, h1, h2⟩ := Option.map_eq_some_iff.1 this
  rw [← h2]
  exact Nat.le_succ_of_le (h j m h1)
theorem few_set {ns : List Nd} {K i : Nat} (h : Few ns K) {n' : Nd} (hn : n'.attrs.length ≤ K + 1) : Few (ns.set i n') (K + 1) := by
  intro j m hm
  by_cases hj : i = j
  · subst hj
    have hl : i < ns.length := by have := (List.getElem?_eq_some_iff.1 hm).1; simpa using this
    rw [List.getElem?_set_self hl] at hm
    cases hm
    exact hn
  · rw [List.getElem?_set_ne hj] at hm
    exact Nat.le_succ_of_le (h j m hm)

theorem WasMoved.done {w w' : World} {M : Nat → Lab} {tb : Nat} {nv : Value} {ps : List Pn} {us : List Value} {K : Nat} {e : Ending} (h : WasMoved w M tb nv ps us e w') (hf : Few (nodesOf ps) K) : Done w M tb ps us K w' := by
  obtain ⟨_, M', uv', ps', f, i, fr, wz, h1, h2, h3, h4, h5, h6⟩ := h
  exact ⟨M', nv, uv', ps', f, .move i fr wz, h1, h2, h3, h4, h5, few_of_attrs hf h6⟩
theorem Made.done {w w' : World} {M : Nat → Lab} {tb : Nat} {ps : List Pn} {us : List Value} {p : Pn} {K : Nat} {e : Ending} (h : Made w M tb ps us p e w') (hW : WF (nodesOf ps)) (hl : ps.length < 400) (hf : Few (nodesOf ps) K) (h1 : p.n.parent = -1) (h2 : p.n.kids = []) (h3 : p.n.attrs = []) : Done w M tb ps us K w' := by
  obtain ⟨_, M', nv', uv', f, g1, g2, g3⟩ := h
  have e : nodesOf (ps ++ [p]) = nodesOf ps ++ [p.n] := by simp [nodesOf]
  have hl' : (nodesOf ps).length = ps.length := by simp [nodesOf]
  refine ⟨M', nv', uv', _, f, .forget ps.length, g1, g2, ?_, ?_, g3, ?_⟩
  · rw [e]; exact hW.snoc (by omega) _ h1 h2
  · rw [e]; exact ⟨by simp [hl'], by rw [← hl', List.take_left]⟩
  · rw [e]
    intro j n hn
    by_cases hj : j < (nodesOf ps).length
    · rw [List.getElem?_append_left hj] at hn; exact Nat.le_succ_of_le (hf j n hn)
    · rw [List.getElem?_append_right (by omega)] at hn
      rcases Nat.eq_zero_or_pos (j - (nodesOf ps).length) with e | e
      · rw [e] at hn; cases hn; rw [h3]; simp
      · rw [List.getElem?_eq_none (by simp; omega)] at hn; cases hn
end Go.Proofs.YtoanbjdifddcoaaGreatDoor
