/- What Put, Say and Attr make of any tree, exactly. -/
import Derived.Test.YtkaeenafejdkfaaGreatDoorM14
import Derived.Test.YtkaeenafejdkfaaGreatDoorM11
import Derived.Test.YtkaeenafejdkfaaGreatDoorM12
namespace Go.Proofs.YtkaeenafejdkfaaGreatDoor
open Go.RowKit

/-- a change was made: into which nodes -/
def DoneG (w : World) (M : Nat → Lab) (tb : Nat) (us : List Value) (ns' : List Nd) (w' : World) : Prop :=
  ∃ M' nv' uv' ps' f, Lies w' M' tb nv' uv' ps' (us ++ [f]) ∧ nodesOf ps' = ns' ∧ Moved w M w' M'

set_option maxHeartbeats 8000000 in
set_option maxRecDepth 100000 in
theorem putG {w : World} {M : Nat → Lab} {tb : Nat} {nv uv : Value} {ps : List Pn} {us : List Value} (h : Lies w M tb nv uv ps us) (hW : WF (nodesOf ps)) (hu : us.length ≤ 1099511627776) {a i c : Nat} {p m : Pn} (hp : ps[i]? = some p) (hm : ps[a]? = some m) (h0 : i ≠ 0) (hk : kidsB m.n.kind = true) {la : List Nat} (hup : Up (nodesOf ps) a la) (hno : i ∉ la) (hc : (c : Int) ≤ others a p m) :
    Calls Tryz.prog 43 #[.pointer (some ⟨tb, 0, none⟩), .int .i64 a, .int .i64 i, .int .i64 c] w fun e w' => e = .returned .nilIface ∧ ∃ mid fr wz ns', Pulled (nodesOf ps) i mid fr wz ∧ Pushed mid i c a ns' ∧ WF ns' ∧ DoneG w M tb us ns' w' := by
  have hai : a ≠ i := fun e => hno (e ▸ hup.head)
  obtain ⟨mid, fr, wz, hP⟩ := hW.pulls (nodes_get hp)
  obtain ⟨m', hm', hl'⟩ := others_mid hP (nodes_get hp) (nodes_get hm) hai
  obtain ⟨n', hn', hr'⟩ := hP.isRoot
  have hcl : c ≤ m'.kids.length := by unfold others at hc; omega
  have HP : Hid (Pulled (nodesOf ps) i mid fr wz) := hP
  have HQ : Hid (Pushed mid i c a _) := Pushed.kid hm' hn' hai hcl
  have HWm : Hid (WF mid) := hW.pulled hP
  have HWf : Hid (WF ((mid.set a { m' with kids := m'.kids.take c ++ (i : Int) :: m'.kids.drop c }).set i { n' with parent := a })) := (hW.pulled hP).pushed hn' hr' h0 hm' (hP.chain hup hno) hno
  have hb1 := hasB_of hm
  have hb2 := hasB_of hp
  have hwi : decide (i ∈ la) = false := by simpa using hno
  have hi0 : ((i : Int) == 0) = false := by simp; omega
  have hi0' : ¬ ((i : Int) = 0) := by omega
  obtain ⟨nb, cap, rfl, hcp, hmx, _, _, hil⟩ := h.form hp
  have hal := (List.getElem?_eq_some_iff.1 hm).1
  have c0 := h.cell0
  have c4 := (h.cellN rfl (f := 4) hp (by omega) rfl).1
  have c5 := (h.cellN rfl (f := 5) hm (by omega) rfl).1
  obtain ⟨ka, kc, hkv, hk1, hk2⟩ := (h.node a m hm).2.shape
  rw [hkv] at c5
  have hfew := hW.few (nodes_get hm)
  have H : Hid (Lies w M tb (.slice (some ⟨nb, 0, none⟩) ps.length cap) uv ps us) := h
  have HM : Hid (ps[a]? = some m) := hm
  have HU : Hid (Up (nodesOf ps) a la) := hup
  have i1 : (0 : Int) ≤ (i : Int) := by omega
  have i2 : (i : Int) < (ps.length : Int) := by omega
  have i3 : (0 : Int) ≤ (a : Int) := by omega
  have i4 : (a : Int) < (ps.length : Int) := by omega
  have i5 : (0 : Int) ≤ (c : Int) := by omega
  unfold maxLen at hmx hk2
  unfold others at hc
  clear h hW hp hm hup hP hm' hn' hkv hl' hcl hr'
  by_cases hpa : p.n.parent = (a : Int)
  all_goals (first | rw [if_pos hpa] at hc | rw [if_neg hpa] at hc)
  all_goals
    go_enter Tryz.func43, Tryz.ntmps43
    go_wp2_with (first
      | (go_at_call 73; refine (has_any H.out _).mono ?_; rintro e w' ⟨rfl, rfl⟩; simp only [hb1, hb2])
      | (go_at_call 88; refine (mayHaveKids_any H.out HM.out).mono ?_; rintro e w' ⟨rfl, rfl⟩; rw [hk])
      | (go_at_call 89; refine (within_any H.out HU.out i).mono ?_; rintro e w' ⟨rfl, rfl⟩; rw [hwi])
      | (go_at_call 90; refine (move_any H.out HP.out HQ.out HWm.out.kidsFew).mono ?_; rintro e w1 ⟨ca, rfl, M1, ps1, hL1, hn1, hm1, hv1⟩; have H1 : Hid _ := And.intro hL1 (And.intro hn1 (And.intro hm1 hv1)); clear hL1 hn1 hm1 hv1)
      | (go_at_call 84; refine (keep_any H1.out.1 _ _ ca hu).mono ?_; rintro e w2 ⟨rfl, M2, uv2, hL2, hm2⟩; have H2 : Hid _ := And.intro hL2 hm2; clear hL2 hm2))
  all_goals go_ret
  all_goals exact ⟨rfl, mid, fr, wz, _, HP.out, HQ.out, HWf.out, M2, _, uv2, ps1, _, H2.out.1, H1.out.2.1, H1.out.2.2.1.trans H2.out.2⟩

set_option maxHeartbeats 4000000 in
set_option maxRecDepth 100000 in
theorem sayG {w : World} {M : Nat → Lab} {tb : Nat} {nv uv : Value} {ps : List Pn} {us : List Value} (h : Lies w M tb nv uv ps us) (hu : us.length ≤ 1000000) {i : Nat} {p : Pn} (hp : ps[i]? = some p) (hk : kidsB p.n.kind = false) (text : ByteArray) (hsz : text.size ≤ 20000) :
    Calls Tryz.prog 139 #[.pointer (some ⟨tb, 0, none⟩), .int .i64 i, .string text] w fun e w' => e = .returned .nilIface ∧ DoneG w M tb us ((nodesOf ps).set i { p.n with words := text }) w' := by
  have hb := hasB_of hp
  have H : Hid (∀ o1 o2, Lies ((w.alloc o1).alloc o2) M tb nv uv ps us) := fun o1 o2 => (h.alloc o1).alloc o2
  have HP : Hid (ps[i]? = some p) := hp
  obtain ⟨nb, nc, rfl, hc, hm, hnM, hnl, hil⟩ := h.form hp
  have hlt : tb < w.heap.size := lt_of_heap h.head
  have c0 := h.cell0
  obtain ⟨c2, c2f⟩ := h.cellN rfl (f := 2) hp (by omega) rfl
  have hS : Hid (∀ o1 o2 o3, Lies ((((w.alloc o1).alloc o2).alloc o3).setCell ⟨nb, i * 6 + 2, none⟩ (.string text)) M tb (.slice (some ⟨nb, 0, none⟩) ps.length nc) uv (ps.set i ⟨{ p.n with words := text }, p.av, p.kv⟩) us ∧ Step (((w.alloc o1).alloc o2).alloc o3) M ((((w.alloc o1).alloc o2).alloc o3).setCell ⟨nb, i * 6 + 2, none⟩ (.string text)) M .nodes) := fun o1 o2 o3 =>
    (((h.alloc o1).alloc o2).alloc o3).setNode rfl (f := 2) (c := .string text) hp (by omega) (p' := ⟨{ p.n with words := text }, p.av, p.kv⟩) rfl ((((h.alloc o1).alloc o2).alloc o3).node i p hp).1 ((((h.alloc o1).alloc o2).alloc o3).node i p hp).2
  have c0' : ∀ o1 o2 o3, (((w.alloc o1).alloc o2).alloc o3).cell? ⟨tb, 0, none⟩ = some (.slice (some ⟨nb, 0, none⟩) ps.length nc) := fun o1 o2 o3 => (((h.alloc o1).alloc o2).alloc o3).cell0
  have c2' : ∀ o1 o2 o3, (((w.alloc o1).alloc o2).alloc o3).cell? ⟨nb, i * 6 + 2, none⟩ = some (.string p.n.words) := fun o1 o2 o3 => ((((h.alloc o1).alloc o2).alloc o3).cellN rfl (f := 2) hp (by omega) rfl).1
  have c2f' : ∀ o1 o2 o3, (((w.alloc o1).alloc o2).alloc o3).frozen? ⟨nb, i * 6 + 2, none⟩ = false := fun o1 o2 o3 => ((((h.alloc o1).alloc o2).alloc o3).cellN rfl (f := 2) hp (by omega) rfl).2
  have HFr : Hid (∀ b, w.heap.size ≤ b → M b = .other) := h.fresh
  have i1 : (0 : Int) ≤ (i : Int) := by omega
  have i2 : (i : Int) < (ps.length : Int) := by omega
  unfold maxLen at hm
  clear h hp
  go_enter Tryz.func139, Tryz.ntmps139
  go_wp2_with (first
    | (go_at_call 73; refine (has_any (H.out _ _) _).mono ?_; rintro e w' ⟨rfl, rfl⟩; rw [hb])
    | (go_at_call 88; refine (mayHaveKids_any (H.out _ _) HP.out).mono ?_; rintro e w' ⟨rfl, rfl⟩; rw [hk]))
  go_region
  all_goals go_wp2_with fail
  all_goals go_region
  all_goals go_wp2_with (go_at_call 84; refine (keep_any ((hS.out _ _ _).1.drew.drew) _ _ _ (by omega)).mono ?_; rintro e w3 ⟨rfl, M3, uv3, hL3, hm3⟩)
  all_goals go_ret
  all_goals
    have mv := ((hS.out (.cells #[.pointer (some ⟨tb, 0, none⟩)] 31) (.cells #[.int .i64 i] 3) (.cells #[.string p.n.words] 9)).2.moved (by intro e; cases e)).drew.drew.trans hm3
    exact ⟨rfl, M3, _, uv3, _, _, hL3, (by rw [nodesOf, List.map_set]; rfl), ((((Moved.refl w M).alloc _).alloc _).alloc _).trans mv⟩
/-- what Attr answers -/
def attrW (l : List (ByteArray × ByteArray)) (name : ByteArray) : Value := match findA l name with
  | some k => .tuple #[.string (l.getD k (⟨#[]⟩, ⟨#[]⟩)).2, .bool true]
  | none => .tuple #[.string ⟨#[]⟩, .bool false]
set_option maxHeartbeats 4000000 in
set_option maxRecDepth 100000 in
theorem attr_some {w : World} {M : Nat → Lab} {tb : Nat} {nv uv : Value} {ps : List Pn} {us : List Value} (h : Lies w M tb nv uv ps us) {i : Nat} {p : Pn} (hp : ps[i]? = some p) (ha : p.n.attrs.length ≤ 1000000) (name : ByteArray) : Calls Tryz.prog 141 #[.pointer (some ⟨tb, 0, none⟩), .int .i64 i, .string name] w fun e w' => e = .returned (attrW p.n.attrs name) ∧ Below w.heap.size w w' := by
  have hb := hasB_of hp
  obtain ⟨nb, cap, rfl, hc, hm, _, hnl, hil⟩ := h.form hp
  obtain ⟨xa, xc, hav, hx1, hx2⟩ := (h.node i p hp).1.shape
  have c0 := h.cell0
  have hlt : tb < w.heap.size := lt_of_heap h.head
  have c3 := (h.cellN rfl (f := 3) hp (by omega) rfl).1
  rw [hav] at c3
  have H : Hid (Lies w M tb (.slice (some ⟨nb, 0, none⟩) ps.length cap) uv ps us) := h
  have HP : Hid (ps[i]? = some p) := hp
  have i1 : (0 : Int) ≤ (i : Int) := by omega
  have i2 : (i : Int) < (ps.length : Int) := by omega
  unfold maxLen at hm hx2
  cases hf : findA p.n.attrs name with
  | none =>
    have hfi : findI p.n.attrs name = -1 := by simp only [findI, hf]
    have E : Hid (attrW p.n.attrs name = .tuple #[.string ⟨#[]⟩, .bool false]) := by show attrW _ _ = _; unfold attrW; rw [hf]
    clear h hp hf
    go_enter Tryz.func141, Tryz.ntmps141
    go_wp2_with (first
      | (go_at_call 73; refine (has_any H.out _).mono ?_; rintro e w' ⟨rfl, rfl⟩; rw [hb])
      | (go_at_call 83; refine (find_any H.out HP.out name).mono ?_; rintro e w1 ⟨rfl, hB1⟩; rw [hfi]; have HB1 : Hid _ := hB1; clear hB1))
    go_ret2
    exact ⟨by rw [E.out]; rfl, HB1.out⟩
  | some k =>
    have hfi : findI p.n.attrs name = k := by simp only [findI, hf]
    have hkl : k < p.n.attrs.length := by
      unfold findA at hf
      rw [List.findIdx?_eq_some_iff_getElem] at hf
      exact hf.1
    obtain ⟨x, hx⟩ : ∃ x, p.n.attrs[k]? = some x := ⟨_, List.getElem?_eq_getElem hkl⟩
    have E : Hid (attrW p.n.attrs name = .tuple #[.string x.2, .bool true]) := by
      show attrW _ _ = _
      unfold attrW
      rw [hf]
      simp only [List.getD_eq_getElem?_getD, hx, Option.getD_some]
    obtain ⟨ag, ac', hav', _, _, _, hagl⟩ := (h.node i p hp).1.form (by omega)
    have cx := ((h.node i p hp).1.cell hav' (attrCells_get p.n.attrs k x hx).2).1
    rw [hav] at hav'
    cases hav'
    have i3 : (0 : Int) ≤ (k : Int) := by omega
    have i4 : (k : Int) < (p.n.attrs.length : Int) := by omega
    clear h hp hf hx
    go_enter Tryz.func141, Tryz.ntmps141
    go_wp2_with (first
      | (go_at_call 73; refine (has_any H.out _).mono ?_; rintro e w' ⟨rfl, rfl⟩; rw [hb])
      | (go_at_call 83; refine (find_any H.out HP.out name).mono ?_; rintro e w1 ⟨rfl, hB1⟩; rw [hfi]
         have d3 := (hB1.cell (p := ⟨nb, i * 6 + 3, none⟩) hnl).trans c3
         have dx := (hB1.cell (p := ⟨ag, k * 2 + 1, none⟩) hagl).trans cx
         have HB1 : Hid _ := hB1
         clear hB1))
    all_goals first
      | (go_ret2; exact ⟨by rw [E.out]; rfl, HB1.out⟩)
      | (go_quiet (fail); go_wp2; go_ret2; exact ⟨by rw [E.out]; rfl, below_drewN HB1.out _⟩)
end Go.Proofs.YtkaeenafejdkfaaGreatDoor
