/- What Set makes of any tree, and what it keeps. -/
import Derived.Test.YtoanbjdifddcoaaGreatDoorM17
import Derived.Test.YtoanbjdifddcoaaGreatDoorM10
namespace Go.Proofs.YtoanbjdifddcoaaGreatDoor
open Go.RowKit

theorem set_same {ns : List Nd} {i : Nat} {n : Nd} (h : ns[i]? = some n) : ns.set i n = ns := by
  apply List.ext_getElem?
  intro j
  by_cases hj : i = j
  · subst hj; rw [List.getElem?_set_self (List.getElem?_eq_some_iff.1 h).1, h]
  · rw [List.getElem?_set_ne hj]

theorem cell_new2 (w : World) (B : Nat) (hB : w.heap.size = B) (o1 : Obj) (v : Value) (t : TypeId) : ((w.alloc o1).alloc (.cells #[v] t)).drew.drew.cell? ⟨B + 1, 0, none⟩ = some v := by
  subst hB
  simp
theorem cell_new1 (w : World) (B : Nat) (hB : w.heap.size = B) (o2 : Obj) (v : Value) (t : TypeId) : ((w.alloc (.cells #[v] t)).alloc o2).drew.drew.cell? ⟨B, 0, none⟩ = some v := by
  subst hB
  simp
theorem set_attr_same {l : List (ByteArray × ByteArray)} {k : Nat} {x : ByteArray × ByteArray} (h : l[k]? = some x) : l.set k (x.1, x.2) = l := by
  apply List.ext_getElem?
  intro j
  by_cases hj : k = j
  · subst hj; rw [List.getElem?_set_self (List.getElem?_eq_some_iff.1 h).1, h]
  · rw [List.getElem?_set_ne hj]

set_option maxHeartbeats 4000000 in
set_option maxRecDepth 100000 in
theorem setU_new {w : World} {M : Nat → Lab} {tb : Nat} {nv uv : Value} {ps : List Pn} {us : List Value} (h : Lies w M tb nv uv ps us) (hE : Errs w M) (hW : WF (nodesOf ps)) {K : Nat} (hF : Few (nodesOf ps) K) {i : Nat} {p : Pn} (hp : ps[i]? = some p) (name value : ByteArray) (hk : p.n.kind = 2) (hn : nameB name = true) (hv : value.size ≤ 20000) (hu : us.length ≤ 1099511627776) (ha : p.n.attrs.length ≤ 1099511627776) (hf : findA p.n.attrs name = none) :
    Calls Tryz.prog 30 #[.pointer (some ⟨tb, 0, none⟩), .int .i64 i, .string name, .string value] w fun e w' => e = .returned .nilIface ∧ Done w M tb ps us K w' := by
  obtain ⟨i0, hi, hz0, hz1, hz2⟩ := info_parts Tryz.infoAttr
  have hfi : findI p.n.attrs name = -1 := by simp only [findI, hf]
  have hsa : Hid (setAttr p.n.attrs name value = p.n.attrs ++ [(name, value)]) := by
    show setAttr _ _ _ = _
    simp only [setAttr, hf]
  obtain ⟨nb, nc, rfl, hc, hm, hnM, hnl, hil⟩ := h.form hp
  obtain ⟨aa, ac, hav, hac1, hac2⟩ := (h.node i p hp).1.shape
  have hlt : tb < w.heap.size := lt_of_heap h.head
  have c0 := h.cell0
  have W0 : Hid (∀ w', Below w.heap.size w w' → Lies w' M tb (.slice (some ⟨nb, 0, none⟩) ps.length nc) uv ps us ∧ Errs w' M) := fun w' hb => ⟨h.below hb, hE.below hb⟩
  have HP : Hid (ps[i]? = some p) := hp
  have HF : Hid (∀ b, w.heap.size ≤ b → M b = .other) := h.fresh
  have i1 : (0 : Int) ≤ (i : Int) := by omega
  have i2 : (i : Int) < (ps.length : Int) := by omega
  unfold maxLen at hm hac2
  clear h hE hp hf
  go_enter Tryz.func30, Tryz.ntmps30
  go_wp2_with (first
    | (go_at_call 60; refine (wantElement_any (W0.out _ (((Below.refl _ _).alloc (Nat.le_refl _) _).alloc (by simp) _)).1 (W0.out _ (((Below.refl _ _).alloc (Nat.le_refl _) _).alloc (by simp) _)).2 HP.out).mono ?_; rintro e w' ⟨⟨v, rfl, hv⟩, rfl⟩; rw [if_pos hk] at hv; subst hv)
    | (go_at_call 49; refine (name_any _ _).mono ?_; rintro e w' ⟨rfl, rfl⟩; rw [hn]))
  go_quiet (fail)
  go_wp2_with (first
    | (go_at_call 61; refine (find_any (W0.out _ (below_drewN (((Below.refl _ _).alloc (Nat.le_refl _) _).alloc (by simp) _) _)).1 HP.out name).mono ?_; rintro e w1 ⟨rfl, hB⟩; rw [hfi]
       have b0 : w1.cell? ⟨w.heap.size, 0, none⟩ = some (.pointer (some ⟨tb, 0, none⟩)) := (hB.cell (p := ⟨w.heap.size, 0, none⟩) (by simp; omega)).trans (by simp)
       have b1 : w1.cell? ⟨w.heap.size + 1, 0, none⟩ = some (.int .i64 i) := (hB.cell (p := ⟨w.heap.size + 1, 0, none⟩) (by simp)).trans (by simp)
       have hB1 : Hid (Below w.heap.size w w1) := (below_drewN (((Below.refl _ _).alloc (Nat.le_refl _) _).alloc (by simp) _) _).trans (hB.mono (by simp; omega))
       have c3 := ((W0.out w1 hB1.out).1.cellN rfl (f := 3) HP.out (by omega) rfl)
       rw [hav] at c3
       obtain ⟨c3, c3f⟩ := c3
       have l0 : w.heap.size + 1 < w1.heap.size := World.block_lt_of_cell? w1 _ b1
       have l1 : nb < w1.heap.size := World.block_lt_of_cell? w1 _ c3
       have HB2 : Hid (∀ o1 o2, Below w1.heap.size w1 ((w1.alloc o1).alloc o2)) := fun o1 o2 => ((Below.refl _ _).alloc (Nat.le_refl _) _).alloc (by simp) _
       have HLW : Hid (∀ o1 o2, Lies ((w1.alloc o1).alloc o2) M tb (.slice (some ⟨nb, 0, none⟩) ps.length nc) uv ps us) := fun o1 o2 => ((W0.out w1 hB1.out).1.alloc o1).alloc o2
       have HRW : Hid (∀ o1 o2, Row ((w1.alloc o1).alloc o2) M (.attrs i) 79 2 (.slice aa p.n.attrs.length ac) p.n.attrs.length (attrCells p.n.attrs)) := fun o1 o2 => hav ▸ ((HLW.out o1 o2).node i p HP.out).1
       clear hB)
    | (at_builtin; (refine wpList_app_row _ (by rfl) (.tmp 42) (.tmp 46) 37 (by rfl) M (.attrs i) 79 i0 _ 2 32 Tryz.underlying37 hi hz0 hz1 hz2 rfl (by decide) (.slice aa p.n.attrs.length ac) p.n.attrs.length (attrCells p.n.attrs) (by rfl) (HRW.out _ _) ⟨w1.heap.size + 1, 0, none⟩ 1 1 [.string name, .string value] (by rfl) rfl (news_new (w1.alloc _) #[.string name, .string value] 79 _ (by simp)) (by simp [Value.oneCell']) (by decide) (by unfold maxLen; omega) (by omega) (HLW.out _ _).fresh ?_); intro g cap1 w2 M2 hr st
       (obtain ⟨q1, q2, ⟨u3, q3⟩, q4⟩ := (HLW.out _ _).setAttrs rfl HP.out st (at' := p.n.attrs ++ [(name, value)]) (by rw [List.length_append, attrCells_append]; exact hr))
       (have b0' : (w2.setCell ⟨nb, i * 6 + 3, none⟩ (.slice (some ⟨g, 0, none⟩) (p.n.attrs.length + 1) cap1)).cell? ⟨w.heap.size, 0, none⟩ = some (.pointer (some ⟨tb, 0, none⟩)) := moved_cell q2 (HF.out _ (Nat.le_refl _)) (((HB2.out _ _).cell (p := ⟨w.heap.size, 0, none⟩) (by show w.heap.size < w1.heap.size; omega)).trans b0))
       (have HQ : Hid _ := And.intro q1 (((((Moved.refl w M).below hB1.out).alloc _).alloc _).trans q2))
       (have HQ2 : Hid (Moved w1 M _ M2) := (((Moved.refl w1 M).alloc _).alloc _).trans q2)
       clear q1 q2 hr st)
    | (go_at_call 55; refine (keep_any HQ.out.1 _ _ _ hu).mono ?_; rintro e w3 ⟨rfl, M3, uv3, hL3, hm3⟩))
  go_ret
  refine ⟨rfl, M3, _, uv3, _, _, .cut i, hL3, ⟨_, _, rfl, ((show Cap w1 M _ 0 (at0 tb) from ⟨HF.out _ (Nat.le_refl _), b0⟩).moved HQ2.out).moved hm3, ((show Cap w1 M _ 0 (.int .i64 i) from ⟨HF.out _ (by omega), b1⟩).moved HQ2.out).moved hm3⟩, ?_, ?_, HQ.out.2.trans hm3, ?_⟩
  all_goals rw [show nodesOf (ps.set i _) = (nodesOf ps).set i _ by rw [nodesOf, List.map_set]; rfl]
  · exact hW.turn (nodes_get HP.out) rfl rfl rfl
  · refine ⟨_, p.n.attrs, (name, value), List.getElem?_set_self (by simpa [nodesOf] using hil), rfl, ?_⟩
    rw [List.set_set]
    exact (set_same (nodes_get HP.out)).symm
  · refine few_set hF ?_
    have := hF i _ (nodes_get HP.out)
    simp
    omega

set_option maxHeartbeats 4000000 in
set_option maxRecDepth 100000 in
theorem setU_old {w : World} {M : Nat → Lab} {tb : Nat} {nv uv : Value} {ps : List Pn} {us : List Value} (h : Lies w M tb nv uv ps us) (hE : Errs w M) (hW : WF (nodesOf ps)) {K : Nat} (hF : Few (nodesOf ps) K) {i : Nat} {p : Pn} (hp : ps[i]? = some p) (name value : ByteArray) (hk : p.n.kind = 2) (hn : nameB name = true) (hv : value.size ≤ 20000) (hu : us.length ≤ 1099511627776) {k : Nat} (hf : findA p.n.attrs name = some k) :
    Calls Tryz.prog 30 #[.pointer (some ⟨tb, 0, none⟩), .int .i64 i, .string name, .string value] w fun e w' => e = .returned .nilIface ∧ Done w M tb ps us K w' := by
  have hfi : findI p.n.attrs name = k := by simp only [findI, hf]
  have hkl : k < p.n.attrs.length := by
    unfold findA at hf
    rw [List.findIdx?_eq_some_iff_getElem] at hf
    exact hf.1
  obtain ⟨x, hx⟩ : ∃ x, p.n.attrs[k]? = some x := ⟨_, List.getElem?_eq_getElem hkl⟩
  have hsa : Hid (setAttr p.n.attrs name value = p.n.attrs.set k (x.1, value)) := by
    show setAttr _ _ _ = _
    simp only [setAttr, hf]
    rw [List.getD_eq_getElem?_getD, hx]
    rfl
  obtain ⟨nb, nc, rfl, hc, hm, hnM, hnl, hil⟩ := h.form hp
  obtain ⟨ag, ac, hav, hac1, hac2, hagM, hagl⟩ := (h.node i p hp).1.form (by omega)
  have hlt : tb < w.heap.size := lt_of_heap h.head
  have c0 := h.cell0
  have W0 : Hid (∀ w', Below w.heap.size w w' → Lies w' M tb (.slice (some ⟨nb, 0, none⟩) ps.length nc) uv ps us ∧ Errs w' M) := fun w' hb => ⟨h.below hb, hE.below hb⟩
  have HP : Hid (ps[i]? = some p) := hp
  have HX : Hid (p.n.attrs[k]? = some x) := hx
  have HF : Hid (∀ b, w.heap.size ≤ b → M b = .other) := h.fresh
  have i1 : (0 : Int) ≤ (i : Int) := by omega
  have i2 : (i : Int) < (ps.length : Int) := by omega
  have i3 : (0 : Int) ≤ (k : Int) := by omega
  have i4 : (k : Int) < (p.n.attrs.length : Int) := by omega
  unfold maxLen at hm hac2
  clear h hE hp hf hx
  go_enter Tryz.func30, Tryz.ntmps30
  go_wp2_with (first
    | (go_at_call 60; refine (wantElement_any (W0.out _ (((Below.refl _ _).alloc (Nat.le_refl _) _).alloc (by simp) _)).1 (W0.out _ (((Below.refl _ _).alloc (Nat.le_refl _) _).alloc (by simp) _)).2 HP.out).mono ?_; rintro e w' ⟨⟨v, rfl, hv⟩, rfl⟩; rw [if_pos hk] at hv; subst hv)
    | (go_at_call 49; refine (name_any _ _).mono ?_; rintro e w' ⟨rfl, rfl⟩; rw [hn]))
  go_quiet (fail)
  go_wp2_with (first
    | (go_at_call 61; refine (find_any (W0.out _ (below_drewN (((Below.refl _ _).alloc (Nat.le_refl _) _).alloc (by simp) _) _)).1 HP.out name).mono ?_; rintro e w1 ⟨rfl, hB⟩; rw [hfi]
       have b0 : w1.cell? ⟨w.heap.size, 0, none⟩ = some (.pointer (some ⟨tb, 0, none⟩)) := (hB.cell (p := ⟨w.heap.size, 0, none⟩) (by simp; omega)).trans (by simp)
       have b1 : w1.cell? ⟨w.heap.size + 1, 0, none⟩ = some (.int .i64 i) := (hB.cell (p := ⟨w.heap.size + 1, 0, none⟩) (by simp)).trans (by simp)
       have hB1 : Hid (Below w.heap.size w w1) := (below_drewN (((Below.refl _ _).alloc (Nat.le_refl _) _).alloc (by simp) _) _).trans (hB.mono (by simp; omega))
       obtain ⟨c3, c3f⟩ := ((W0.out w1 hB1.out).1.cellN rfl (f := 3) HP.out (by omega) rfl)
       rw [hav] at c3
       have cx := ((W0.out w1 hB1.out).1.node i p HP.out).1.cell hav (attrCells_get p.n.attrs k x HX.out).2
       obtain ⟨cx, cxf⟩ := cx
       have l0 : w.heap.size + 1 < w1.heap.size := World.block_lt_of_cell? w1 _ b1
       have l1 : nb < w1.heap.size := World.block_lt_of_cell? w1 _ c3
       have l2 : ag < w1.heap.size := World.block_lt_of_cell? w1 _ cx
       have st : Step w1 M (w1.setCell ⟨ag, k * 2 + 1, none⟩ (.string value)) M (.attrs i) := step_setCell _ hagM (W0.out w1 hB1.out).1.fresh
       have hrs := ((W0.out w1 hB1.out).1.node i p HP.out).1.set hav (k * 2 + 1) (.string value) (by rw [attrCells_length]; omega)
       have HQ : Hid _ := (W0.out w1 hB1.out).1.turnAttrs HP.out st (at' := p.n.attrs.set k (x.1, value)) (by rw [List.length_set, attrCells_set p.n.attrs k x value HX.out]; exact hrs)
       have bx : (w1.setCell ⟨ag, k * 2 + 1, none⟩ (.string value)).cell? ⟨w.heap.size, 0, none⟩ = some (.pointer (some ⟨tb, 0, none⟩)) := moved_cell HQ.out.2 (HF.out _ (Nat.le_refl _)) b0
       have hbx : ∀ o1 o2, (((w1.setCell ⟨ag, k * 2 + 1, none⟩ (.string value)).alloc o1).alloc o2).cell? ⟨w.heap.size, 0, none⟩ = some (.pointer (some ⟨tb, 0, none⟩)) := fun o1 o2 => moved_cell (((Moved.refl _ M).alloc o1).alloc o2) (HF.out _ (Nat.le_refl _)) bx
       have hne1 : ¬ (w.heap.size = ag) := by omega
       have hne2 : ¬ (ag = w.heap.size) := by omega
       clear hB st hrs))
  go_region
  all_goals go_wp2_with fail
  all_goals go_region
  all_goals go_wp2_with (go_at_call 55; refine (keep_any ((HQ.out.1.alloc _).alloc _).drew.drew _ _ _ hu).mono ?_; rintro e w3 ⟨rfl, M3, uv3, hL3, hm3⟩)
  all_goals go_ret
  all_goals
    have hL := (W0.out w1 hB1.out).1
    have mv : Moved w1 M _ M := ((HQ.out.2.alloc (.cells #[.int .i64 k] 3)).alloc (.cells #[.string x.2] 9)).drew.drew
    refine ⟨rfl, M3, _, uv3, _, _, .back i k x.2, hL3, ⟨_, _, _, _, rfl, Cap.moved ⟨hL.fresh _ (by omega), ?_⟩ hm3, ((show Cap w1 M _ 0 (at0 tb) from ⟨HF.out _ (Nat.le_refl _), b0⟩).moved mv).moved hm3, ((show Cap w1 M _ 0 (.int .i64 i) from ⟨HF.out _ (by omega), b1⟩).moved mv).moved hm3, Cap.moved ⟨hL.fresh _ (Nat.le_refl _), ?_⟩ hm3⟩, ?_, ?_, ((Moved.refl w M).below hB1.out).trans (mv.trans hm3), ?_⟩
    · exact cell_new2 _ _ (by simp [World.setCell]) _ _ _
    · exact cell_new1 _ _ (by simp [World.setCell]) _ _ _
    · rw [show nodesOf (ps.set i _) = (nodesOf ps).set i _ by rw [nodesOf, List.map_set]; rfl]
      exact hW.turn (nodes_get HP.out) rfl rfl rfl
    · rw [show nodesOf (ps.set i _) = (nodesOf ps).set i _ by rw [nodesOf, List.map_set]; rfl]
      refine ⟨_, (x.1, value), List.getElem?_set_self (by simpa [nodesOf] using hil), List.getElem?_set_self hkl, ?_⟩
      rw [List.set_set]
      simp only [List.set_set]
      rw [set_attr_same HX.out]
      exact (set_same (nodes_get HP.out)).symm
    · rw [show nodesOf (ps.set i _) = (nodesOf ps).set i _ by rw [nodesOf, List.map_set]; rfl]
      refine few_set hF ?_
      have := hF i _ (nodes_get HP.out)
      simp
      omega
end Go.Proofs.YtoanbjdifddcoaaGreatDoor

/- slices.Delete of one attribute. -/
namespace Go.Proofs.YtoanbjdifddcoaaGreatDoor
open Go.RowKit

theorem zeroAttr (w : World) : (zeroValue 79).run Tryz.prog w = .ok (.agg #[.string ⟨#[]⟩, .string ⟨#[]⟩]) w := by
  obtain ⟨i0, hi, hz0, hz1, hz2⟩ := info_parts Tryz.infoAttr
  simp [zeroValue, typeInfo, hi, hz0]
theorem attrs_one (xs : List (ByteArray × ByteArray)) : ∀ u ∈ attrCells xs, u.oneCell' = true := by
  intro u hu
  obtain ⟨x, _, hx⟩ := List.mem_flatMap.1 hu
  simp at hx
  rcases hx with rfl | rfl <;> rfl
theorem attrCells_take (l : List (ByteArray × ByteArray)) : ∀ k, attrCells (l.take k) = (attrCells l).take (k * 2) := by
  induction l with
  | nil => intro k; simp [attrCells]
  | cons y l ih =>
    intro k
    cases k with
    | zero => simp [attrCells]
    | succ k =>
      have e : ∀ l', attrCells (y :: l') = .string y.1 :: .string y.2 :: attrCells l' := fun _ => rfl
      rw [List.take_succ_cons, e, e, ih k, show (k + 1) * 2 = k * 2 + 1 + 1 by omega, List.take_succ_cons, List.take_succ_cons]
theorem attrCells_drop (l : List (ByteArray × ByteArray)) : ∀ k, attrCells (l.drop k) = (attrCells l).drop (k * 2) := by
  induction l with
  | nil => intro k; simp [attrCells]
  | cons y l ih =>
    intro k
    cases k with
    | zero => simp
    | succ k =>
      have e : ∀ l', attrCells (y :: l') = .string y.1 :: .string y.2 :: attrCells l' := fun _ => rfl
      rw [List.drop_succ_cons, e, ih k, show (k + 1) * 2 = k * 2 + 1 + 1 by omega, List.drop_succ_cons, List.drop_succ_cons]
theorem erase_attrs (xs : List (ByteArray × ByteArray)) (k : Nat) : attrCells (xs.eraseIdx k) = (attrCells xs).take (k * 2) ++ (attrCells xs).drop ((k + 1) * 2) := by
  rw [List.eraseIdx_eq_take_drop_succ, attrCells_append, attrCells_take, attrCells_drop]

set_option maxHeartbeats 4000000 in
set_option maxRecDepth 100000 in
theorem deleteA_any {w : World} {M : Nat → Lab} {l : Lab} {g m cap : Nat} {xs : List (ByteArray × ByteArray)} (h : Row w M l 79 2 (.slice (some ⟨g, 0, none⟩) (m + 1) cap) (m + 1) (attrCells xs)) (k : Nat) (hk : k < m + 1) (hf : ∀ b, w.heap.size ≤ b → M b = .other) :
    Calls Tryz.prog 63 #[.slice (some ⟨g, 0, none⟩) (m + 1) cap, .int .i64 k, .int .i64 ((k : Int) + 1)] w fun e w' => e = .returned (.slice (some ⟨g, 0, none⟩) m cap) ∧ Row w' M l 79 2 (.slice (some ⟨g, 0, none⟩) m cap) m (attrCells (xs.eraseIdx k)) ∧ Step w M w' M l := by
  obtain ⟨i0, hi, hz0, hz1, hz2⟩ := info_parts Tryz.infoAttr
  obtain ⟨a, cap2, hv, hc, hm⟩ := h.shape
  cases hv
  have hd : Row w.drew M l 79 2 (.slice (some ⟨g, 0, none⟩) (m + 1) cap) (m + 1) (attrCells xs) := h
  have hlen : (attrCells xs).length = (m + 1) * 2 := h.1
  obtain ⟨w1, hr1, hrow1, st1⟩ := del_row (P := Tryz.prog) w.drew M l 37 79 i0 2 Tryz.underlying37 hi hz1 g (m + 1) cap k _ hd hk (by
    intro u hu
    exact attrs_one xs u hu) hf
  rw [← erase_attrs] at hrow1
  have hel : (attrCells (xs.eraseIdx k)).length = m * 2 := by
    rw [attrCells_length] at hlen
    rw [attrCells_length, List.length_eraseIdx, if_pos (by omega)]
    omega
  obtain ⟨w2, hr2, hrow2, st2⟩ := clear_tail (P := Tryz.prog) w1 M l 37 79 _ 2 Tryz.underlying37 zeroAttr rfl (by simp [Value.cells, Value.oneCell']) (by decide) g m 1 cap (cap - m) (attrCells (xs.eraseIdx k)) _ hrow1 hel (by decide) st1.fresh
  have HA : Hid (∀ ty, (Builtin.append_ #[37, 37] ty #[.slice (some ⟨g, 0, none⟩) k cap, .slice (cutAt g 2 cap (k + 1)) (m - k) (cap - (k + 1))]).run Tryz.prog w.drew = .ok (.slice (some ⟨g, 0, none⟩) m cap) w1) := by
    intro ty
    have := hr1 ty
    rw [show m + 1 - (k + 1) = m - k by omega, show m + 1 - 1 = m by omega] at this
    exact this
  have hcl : ∀ ty, (Builtin.clear_ #[37] ty #[.slice (some ⟨g, m * 2, none⟩) 1 (cap - m)]).run Tryz.prog w1 = .ok (.tuple #[]) w2 := by
    intro ty
    exact hr2 ty
  have HR : Hid (Row w2 M l 79 2 (.slice (some ⟨g, 0, none⟩) m cap) m (attrCells (xs.eraseIdx k)) ∧ Step w M w2 M l) := ⟨hrow2, ⟨st2.os.trans st1.os, st2.tape.trans st1.tape, st2.output.trans st1.output, Nat.le_trans st1.size st2.size, fun b hb => (st2.lab b (Nat.lt_of_lt_of_le hb st1.size)).trans (st1.lab b hb), st2.fresh, fun b hb hne => (st2.far b (Nat.lt_of_lt_of_le hb st1.size) (by rw [st1.lab b hb]; exact hne)).trans (st1.far b hb hne)⟩⟩
  unfold maxLen at hm
  have HC : Hid (cutAt g 2 cap (k + 1) = if cap = k + 1 then some ⟨g, 0, none⟩ else some ⟨g, (k + 1) * 2, none⟩) := by
    show cutAt _ _ _ _ = _
    simp [cutAt]
  have n1 : ((k : Int) == (k : Int) + 1) = false := by simp; omega
  have n2 : ¬ ((k : Int) = (k : Int) + 1) := by omega
  have n3 : ¬ cap = m := by omega
  have i1 : (k : Int) ≤ (cap : Int) := by omega
  have i2 : (k : Int) + 1 ≤ (m : Int) + 1 := by omega
  have i3 : (m : Int) + 1 ≤ (cap : Int) := by omega
  have i4 : (0 : Int) ≤ (k : Int) := by omega
  have i5 : (0 : Int) ≤ (k : Int) + 1 := by omega
  clear h hf hd hr1 hrow1 st1 hr2 hrow2 st2 hel hlen
  go_enter Tryz.func63, Tryz.ntmps63
  go_wp2_with fail
  go_region_law ((refine step_append_run _ (by rfl) (.tmp 22) (.tmp 25) 37 (by rfl) (.slice (some ⟨g, 0, none⟩) k cap) (.slice (cutAt g 2 cap (k + 1)) (m - k) (cap - (k + 1))) (by simp [Act.eval, Act.put]) (by rw [HC.out]; simp [Act.eval, Act.put]) _ w1 HA.out ?_))
  all_goals go_wp2
  all_goals go_ret
  all_goals go_light
  all_goals first
    | exact ⟨rfl, HR.out.1, HR.out.2⟩
    | (obtain rfl : cap = k + 1 := by assumption
       exact ⟨rfl, HR.out.1, HR.out.2⟩)
end Go.Proofs.YtoanbjdifddcoaaGreatDoor
