/- What Put and Take make of any tree, exactly, and which error they tell. -/
import Derived.Test.YtoanbjdifddcoaaGreatDoorNewF
namespace Go.Proofs.YtoanbjdifddcoaaGreatDoor
open Go.RowKit

/-- nothing was done, and the error of that variable is told -/
def Told7 (w : World) (g : Nat) (e : Ending) (w' : World) : Prop := (∃ v, e = .returned v ∧ isErr v ∧ w.cell? ⟨g, 0, none⟩ = some v) ∧ Below w.heap.size w w'
/-- a change was made: of which nodes, into which ones, and what undoes it is kept -/
def DoneX (w : World) (M : Nat → Lab) (tb : Nat) (us : List Value) (ns ns' : List Nd) (w' : World) : Prop :=
  ∃ M' nv' uv' ps' f r, Lies w' M' tb nv' uv' ps' (us ++ [f]) ∧ nodesOf ps' = ns' ∧ KeptF w' M' tb f r ∧ Undoes ns' ns r ∧ Moved w M w' M' ∧ NewF w.heap.size f

/-- what Take answers -/
def TakeX (w : World) (M : Nat → Lab) (tb : Nat) (ps : List Pn) (us : List Value) (b : Int) (e : Ending) (w' : World) : Prop :=
  (hasB ps.length b = false ∧ Told7 w 1 e w') ∨ ∃ (i : Nat) (p : Pn), b = i ∧ ps[i]? = some p ∧
    ((p.n.parent = -1 ∧ Told7 w 2 e w') ∨ (p.n.parent ≠ -1 ∧ e = .returned .nilIface ∧ ∃ mid fr wz, Pulled (nodesOf ps) i mid fr wz ∧ DoneX w M tb us (nodesOf ps) mid w'))
/-- what Put answers -/
def PutX (w : World) (M : Nat → Lab) (tb : Nat) (ps : List Pn) (us : List Value) (a b c : Int) (e : Ending) (w' : World) : Prop :=
  (¬ (hasB ps.length a = true ∧ hasB ps.length b = true) ∧ Told7 w 1 e w') ∨ ∃ (an i : Nat) (m p : Pn), a = an ∧ b = i ∧ ps[an]? = some m ∧ ps[i]? = some p ∧
    (((i = 0 ∨ kidsB m.n.kind = false) ∧ Told7 w 2 e w') ∨ (i ≠ 0 ∧ kidsB m.n.kind = true ∧ ∃ la, Up (nodesOf ps) an la ∧
      (((i ∈ la ∨ c < 0 ∨ others an p m < c) ∧ Told7 w 2 e w') ∨ (i ∉ la ∧ e = .returned .nilIface ∧ ∃ (cn : Nat), ∃ mid fr wz ns', c = cn ∧ c ≤ others an p m ∧ Pulled (nodesOf ps) i mid fr wz ∧ Pushed mid i cn an ns' ∧ WF ns' ∧ DoneX w M tb us (nodesOf ps) ns' w'))))

set_option maxHeartbeats 4000000 in
set_option maxRecDepth 100000 in
theorem takeX_any {w : World} {M : Nat → Lab} {tb : Nat} {nv uv : Value} {ps : List Pn} {us : List Value} (h : Lies w M tb nv uv ps us) (hE : Errs w M) (hW : WF (nodesOf ps)) (hu : us.length ≤ 1099511627776) (b : Int) :
    Calls Tryz.prog 28 #[.pointer (some ⟨tb, 0, none⟩), .int .i64 b] w (TakeX w M tb ps us b) := by
  obtain ⟨t1, a1, hc1⟩ := hE.cell 1 (by decide)
  obtain ⟨t2, a2, hc2⟩ := hE.cell 2 (by decide)
  have H : Hid (Lies w M tb nv uv ps us) := h
  have HW : Hid (WF (nodesOf ps)) := hW
  clear hE hW
  cases hb : hasB ps.length b
  · clear h
    go_enter Tryz.func28, Tryz.ntmps28
    go_wp2_with (go_at_call 45; refine (has_any H.out _).mono ?_; rintro e w' ⟨rfl, rfl⟩; rw [hb])
    go_ret
    exact .inl ⟨hb, ⟨_, rfl, ⟨t1, a1, rfl⟩, hc1⟩, Below.refl _ _⟩
  · obtain ⟨i, p, rfl, hp⟩ := hasB_get hb
    have hpn := nodes_get hp
    have HPP : Hid (ps[i]? = some p) := hp
    obtain ⟨nb, cap, rfl, hc, hm, _, _, hil⟩ := h.form hp
    have c0 := h.cell0
    have c4 := (h.cellN rfl (f := 4) hp (by omega) rfl).1
    have i1 : (0 : Int) ≤ (i : Int) := by omega
    have i2 : (i : Int) < (ps.length : Int) := by omega
    unfold maxLen at hm
    by_cases hr : p.n.parent = -1
    · rw [hr] at c4
      clear h hp hpn
      go_enter Tryz.func28, Tryz.ntmps28
      go_wp2_with (go_at_call 45; refine (has_any H.out _).mono ?_; rintro e w' ⟨rfl, rfl⟩; rw [hb])
      go_ret
      exact .inr ⟨i, p, rfl, HPP.out, .inl ⟨hr, ⟨_, rfl, ⟨t2, a2, rfl⟩, hc2⟩, Below.refl _ _⟩⟩
    · obtain ⟨mid, fr, wz, hP⟩ := HW.out.pulls hpn
      have HP : Hid (Pulled (nodesOf ps) i mid fr wz) := hP
      have hrb : (p.n.parent == -1) = false := by simpa using hr
      clear h hp hpn hP
      go_enter Tryz.func28, Tryz.ntmps28
      go_wp2_with (first
        | (go_at_call 45; refine (has_any H.out _).mono ?_; rintro e w' ⟨rfl, rfl⟩; rw [hb])
        | (go_at_call 56; refine (moveN_any (k := 0) H.out HP.out .none (HW.out.pulled HP.out).kidsFew).mono ?_; rintro e w1 ⟨ca, rfl, M1, ps1, hL1, hn1, hm1, hv1, hN⟩; have HN : Hid _ := hN; have H1 : Hid _ := And.intro hL1 (And.intro hn1 (And.intro hm1 hv1)); clear hL1 hn1 hm1 hv1 hN)
        | (go_at_call 55; refine (keep_any H1.out.1 _ _ ca hu).mono ?_; rintro e w2 ⟨rfl, M2, uv2, hL2, hm2⟩; have H2 : Hid _ := And.intro hL2 hm2; clear hL2 hm2))
      go_ret
      exact .inr ⟨i, p, rfl, HPP.out, .inr ⟨hr, rfl, mid, fr, wz, HP.out, M2, _, uv2, ps1, _, .move i fr wz, H2.out.1, H1.out.2.1, H1.out.2.2.2.moved H2.out.2, undo_move (k := 0) (HW.out.pulled HP.out) HP.out .none, H1.out.2.2.1.trans H2.out.2, HN.out⟩⟩

set_option maxHeartbeats 8000000 in
set_option maxRecDepth 100000 in
theorem putX_good {w : World} {M : Nat → Lab} {tb : Nat} {nv uv : Value} {ps : List Pn} {us : List Value} (h : Lies w M tb nv uv ps us) (hW : WF (nodesOf ps)) (hu : us.length ≤ 1099511627776) {a i c : Nat} {p m : Pn} (hp : ps[i]? = some p) (hm : ps[a]? = some m) (h0 : i ≠ 0) (hk : kidsB m.n.kind = true) {la : List Nat} (hup : Up (nodesOf ps) a la) (hno : i ∉ la) (hc : (c : Int) ≤ others a p m) :
    Calls Tryz.prog 25 #[.pointer (some ⟨tb, 0, none⟩), .int .i64 a, .int .i64 i, .int .i64 c] w fun e w' => e = .returned .nilIface ∧ ∃ mid fr wz ns', Pulled (nodesOf ps) i mid fr wz ∧ Pushed mid i c a ns' ∧ WF ns' ∧ DoneX w M tb us (nodesOf ps) ns' w' := by
  have hai : a ≠ i := fun e => hno (e ▸ hup.head)
  obtain ⟨mid, fr, wz, hP⟩ := hW.pulls (nodes_get hp)
  obtain ⟨m', hm', hl'⟩ := others_mid hP (nodes_get hp) (nodes_get hm) hai
  obtain ⟨n', hn', hr'⟩ := hP.isRoot
  have hcl : c ≤ m'.kids.length := by unfold others at hc; omega
  have HP : Hid (Pulled (nodesOf ps) i mid fr wz) := hP
  have HQ : Hid (Pushed mid i c a _) := Pushed.kid hm' hn' hai hcl
  have HWm : Hid (WF mid) := hW.pulled hP
  have HWf : Hid (WF ((mid.set a { m' with kids := m'.kids.take c ++ (i : Int) :: m'.kids.drop c }).set i { n' with parent := a })) := (hW.pulled hP).pushed hn' hr' h0 hm' (hP.chain hup hno) hno
  have hb1 := hasB_of hm
  have hb2 := hasB_of hp
  have hwi : decide (i ∈ la) = false := by simpa using hno
  have hi0 : ((i : Int) == 0) = false := by simp; omega
  have hi0' : ¬ ((i : Int) = 0) := by omega
  obtain ⟨nb, cap, rfl, hcp, hmx, _, _, hil⟩ := h.form hp
  have hal := (List.getElem?_eq_some_iff.1 hm).1
  have c0 := h.cell0
  have c4 := (h.cellN rfl (f := 4) hp (by omega) rfl).1
  have c5 := (h.cellN rfl (f := 5) hm (by omega) rfl).1
  obtain ⟨ka, kc, hkv, hk1, hk2⟩ := (h.node a m hm).2.shape
  rw [hkv] at c5
  have hfew := hW.few (nodes_get hm)
  have H : Hid (Lies w M tb (.slice (some ⟨nb, 0, none⟩) ps.length cap) uv ps us) := h
  have HM : Hid (ps[a]? = some m) := hm
  have HU : Hid (Up (nodesOf ps) a la) := hup
  have i1 : (0 : Int) ≤ (i : Int) := by omega
  have i2 : (i : Int) < (ps.length : Int) := by omega
  have i3 : (0 : Int) ≤ (a : Int) := by omega
  have i4 : (a : Int) < (ps.length : Int) := by omega
  have i5 : (0 : Int) ≤ (c : Int) := by omega
  unfold maxLen at hmx hk2
  unfold others at hc
  clear h hW hp hm hup hP hm' hn' hkv hl' hcl hr'
  by_cases hpa : p.n.parent = (a : Int)
  all_goals (first | rw [if_pos hpa] at hc | rw [if_neg hpa] at hc)
  all_goals
    go_enter Tryz.func25, Tryz.ntmps25
    go_wp2_with (first
      | (go_at_call 45; refine (has_any H.out _).mono ?_; rintro e w' ⟨rfl, rfl⟩; simp only [hb1, hb2])
      | (go_at_call 53; refine (mayHaveKids_any H.out HM.out).mono ?_; rintro e w' ⟨rfl, rfl⟩; rw [hk])
      | (go_at_call 54; refine (within_any H.out HU.out i).mono ?_; rintro e w' ⟨rfl, rfl⟩; rw [hwi])
      | (go_at_call 56; refine (moveN_any H.out HP.out HQ.out HWm.out.kidsFew).mono ?_; rintro e w1 ⟨ca, rfl, M1, ps1, hL1, hn1, hm1, hv1, hN⟩; have HN : Hid _ := hN; have H1 : Hid _ := And.intro hL1 (And.intro hn1 (And.intro hm1 hv1)); clear hL1 hn1 hm1 hv1 hN)
      | (go_at_call 55; refine (keep_any H1.out.1 _ _ ca hu).mono ?_; rintro e w2 ⟨rfl, M2, uv2, hL2, hm2⟩; have H2 : Hid _ := And.intro hL2 hm2; clear hL2 hm2))
  all_goals go_ret
  all_goals exact ⟨rfl, mid, fr, wz, _, HP.out, HQ.out, HWf.out, M2, _, uv2, ps1, _, .move i fr wz, H2.out.1, H1.out.2.1, H1.out.2.2.2.moved H2.out.2, undo_move HWm.out HP.out HQ.out, H1.out.2.2.1.trans H2.out.2, HN.out⟩

set_option maxHeartbeats 8000000 in
set_option maxRecDepth 100000 in
theorem putX_any {w : World} {M : Nat → Lab} {tb : Nat} {nv uv : Value} {ps : List Pn} {us : List Value} (h : Lies w M tb nv uv ps us) (hE : Errs w M) (hW : WF (nodesOf ps)) (hu : us.length ≤ 1099511627776) (a b c : Int) :
    Calls Tryz.prog 25 #[.pointer (some ⟨tb, 0, none⟩), .int .i64 a, .int .i64 b, .int .i64 c] w (PutX w M tb ps us a b c) := by
  obtain ⟨t1, a1, hc1⟩ := hE.cell 1 (by decide)
  obtain ⟨t2, a2, hc2⟩ := hE.cell 2 (by decide)
  have H : Hid (Lies w M tb nv uv ps us) := h
  have HW : Hid (WF (nodesOf ps)) := hW
  clear hE hW
  cases hb1 : hasB ps.length a
  · clear h
    go_enter Tryz.func25, Tryz.ntmps25
    go_wp2_with (go_at_call 45; refine (has_any H.out _).mono ?_; rintro e w' ⟨rfl, rfl⟩; simp only [hb1])
    all_goals go_ret
    all_goals exact .inl ⟨fun hh => (by rw [hb1] at hh; cases hh.1), ⟨_, rfl, ⟨t1, a1, rfl⟩, hc1⟩, Below.refl _ _⟩
  cases hb2 : hasB ps.length b
  · clear h
    go_enter Tryz.func25, Tryz.ntmps25
    go_wp2_with (go_at_call 45; refine (has_any H.out _).mono ?_; rintro e w' ⟨rfl, rfl⟩; simp only [hb1, hb2])
    all_goals go_ret
    all_goals exact .inl ⟨fun hh => (by rw [hb2] at hh; cases hh.2), ⟨_, rfl, ⟨t1, a1, rfl⟩, hc1⟩, Below.refl _ _⟩
  obtain ⟨an, m, rfl, hm⟩ := hasB_get hb1
  obtain ⟨i, p, rfl, hp⟩ := hasB_get hb2
  have HM : Hid (ps[an]? = some m) := hm
  have HP : Hid (ps[i]? = some p) := hp
  by_cases h0 : i = 0
  · subst h0
    have hb3 : hasB ps.length 0 = true := hb2
    clear h hm hp
    go_enter Tryz.func25, Tryz.ntmps25
    go_wp2_with (go_at_call 45; refine (has_any H.out _).mono ?_; rintro e w' ⟨rfl, rfl⟩; first | rw [hb1] | rw [hb3])
    all_goals go_ret
    all_goals exact .inr ⟨an, 0, m, p, rfl, rfl, HM.out, HP.out, .inl ⟨.inl rfl, ⟨⟨_, rfl, ⟨t2, a2, rfl⟩, hc2⟩, Below.refl _ _⟩⟩⟩
  have hi0 : ((i : Int) == 0) = false := by simp; omega
  have hi0' : ¬ ((i : Int) = 0) := by omega
  cases hk : kidsB m.n.kind
  · clear h hm hp
    go_enter Tryz.func25, Tryz.ntmps25
    go_wp2_with (first
      | (go_at_call 45; refine (has_any H.out _).mono ?_; rintro e w' ⟨rfl, rfl⟩; simp only [hb1, hb2])
      | (go_at_call 53; refine (mayHaveKids_any H.out HM.out).mono ?_; rintro e w' ⟨rfl, rfl⟩; rw [hk]))
    all_goals go_ret
    all_goals exact .inr ⟨an, i, m, p, rfl, rfl, HM.out, HP.out, .inl ⟨.inr hk, ⟨⟨_, rfl, ⟨t2, a2, rfl⟩, hc2⟩, Below.refl _ _⟩⟩⟩
  obtain ⟨la, hup⟩ := HW.out.up an _ (nodes_get hm)
  have HU : Hid (Up (nodesOf ps) an la) := hup
  by_cases hno : i ∈ la
  · have hwi : decide (i ∈ la) = true := by simpa using hno
    clear h hm hp hup
    go_enter Tryz.func25, Tryz.ntmps25
    go_wp2_with (first
      | (go_at_call 45; refine (has_any H.out _).mono ?_; rintro e w' ⟨rfl, rfl⟩; simp only [hb1, hb2])
      | (go_at_call 53; refine (mayHaveKids_any H.out HM.out).mono ?_; rintro e w' ⟨rfl, rfl⟩; rw [hk])
      | (go_at_call 54; refine (within_any H.out HU.out i).mono ?_; rintro e w' ⟨rfl, rfl⟩; rw [hwi]))
    all_goals go_ret
    all_goals exact .inr ⟨an, i, m, p, rfl, rfl, HM.out, HP.out, .inr ⟨h0, hk, la, HU.out, .inl ⟨.inl hno, ⟨⟨_, rfl, ⟨t2, a2, rfl⟩, hc2⟩, Below.refl _ _⟩⟩⟩⟩
  by_cases hc : 0 ≤ c ∧ c ≤ others an p m
  · obtain ⟨cn, rfl⟩ : ∃ cn : Nat, c = cn := ⟨c.toNat, by omega⟩
    refine (putX_good H.out HW.out hu hp hm h0 hk hup hno hc.2).mono ?_
    rintro e w' ⟨h1, mid, fr, wz, ns', h2, h3, h4, h5⟩
    exact .inr ⟨an, i, m, p, rfl, rfl, hm, hp, .inr ⟨h0, hk, la, hup, .inr ⟨hno, h1, cn, mid, fr, wz, ns', rfl, hc.2, h2, h3, h4, h5⟩⟩⟩
  have HCB : Hid (c < 0 ∨ others an p m < c) := by
    show _ ∨ _
    omega
  have hwi : decide (i ∈ la) = false := by simpa using hno
  obtain ⟨nb, cap, rfl, hcp, hmx, _, _, hil⟩ := h.form hp
  have hal := (List.getElem?_eq_some_iff.1 hm).1
  have c0 := h.cell0
  have c4 := (h.cellN rfl (f := 4) hp (by omega) rfl).1
  have c5 := (h.cellN rfl (f := 5) hm (by omega) rfl).1
  obtain ⟨ka, kc, hkv, hk1, hk2⟩ := (h.node an m hm).2.shape
  rw [hkv] at c5
  have hfew := HW.out.few (nodes_get hm)
  have i1 : (0 : Int) ≤ (i : Int) := by omega
  have i2 : (i : Int) < (ps.length : Int) := by omega
  have i3 : (0 : Int) ≤ (an : Int) := by omega
  have i4 : (an : Int) < (ps.length : Int) := by omega
  unfold maxLen at hmx hk2
  unfold others at hc
  clear h hm hp hup hkv
  by_cases hpa : p.n.parent = (an : Int)
  all_goals (first | rw [if_pos hpa] at hc | rw [if_neg hpa] at hc)
  all_goals
    have hc' : c < 0 ∨ 0 ≤ c := by omega
    rcases hc' with hc' | hc'
  all_goals
    go_enter Tryz.func25, Tryz.ntmps25
    go_wp2_with (first
      | (go_at_call 45; refine (has_any H.out _).mono ?_; rintro e w' ⟨rfl, rfl⟩; simp only [hb1, hb2])
      | (go_at_call 53; refine (mayHaveKids_any H.out HM.out).mono ?_; rintro e w' ⟨rfl, rfl⟩; rw [hk])
      | (go_at_call 54; refine (within_any H.out HU.out i).mono ?_; rintro e w' ⟨rfl, rfl⟩; rw [hwi]))
  all_goals go_ret
  all_goals exact .inr ⟨an, i, m, p, rfl, rfl, HM.out, HP.out, .inr ⟨h0, hk, la, HU.out, .inl ⟨.inr HCB.out, ⟨⟨_, rfl, ⟨t2, a2, rfl⟩, hc2⟩, Below.refl _ _⟩⟩⟩⟩
end Go.Proofs.YtoanbjdifddcoaaGreatDoor
