/- What Set makes of a tree, where it sets. -/
import Derived.Test.YtlfepdecgfcifaaDoorM05
import Derived.Test.YtlfepdecgfcifaaDoorM03
import Derived.Deep.RegionHeld3
import Derived.Deep.DrawnRows
import Derived.LoopN
namespace Go.Proofs.YtlfepdecgfcifaaDoor
open Go.RowKit

theorem moved_cell {w w' : World} {M M' : Nat → Lab} (m : Moved w M w' M') {b o : Nat} {v : Value} (hM : M b = .other) (hc : w.cell? ⟨b, o, none⟩ = some v) : w'.cell? ⟨b, o, none⟩ = some v :=
  (World.cell?_of_block (a := ⟨b, o, none⟩) (m.far b (World.block_lt_of_cell? w _ hc) hM)).trans hc

/-- an attribute was set -/
def WasSet (w : World) (M : Nat → Lab) (tb : Nat) (nv : Value) (ps : List Pn) (us : List Value) (i : Nat) (p : Pn) (name value : ByteArray) (e : Ending) (w' : World) : Prop :=
  e = .returned .nilIface ∧ ∃ M' uv' av' f, Lies w' M' tb nv uv' (ps.set i ⟨{ p.n with attrs := setAttr p.n.attrs name value }, av', p.kv⟩) (us ++ [f]) ∧ Moved w M w' M'

set_option maxHeartbeats 4000000 in
set_option maxRecDepth 100000 in
theorem set_new {w : World} {M : Nat → Lab} {tb : Nat} {nv uv : Value} {ps : List Pn} {us : List Value} (h : Lies w M tb nv uv ps us) (hE : Errs w M) {i : Nat} {p : Pn} (hp : ps[i]? = some p) (name value : ByteArray) (hk : p.n.kind = 2) (hn : nameB name = true) (hv : value.size ≤ 20000) (hu : us.length ≤ 1099511627776) (ha : p.n.attrs.length ≤ 1099511627776) (hf : findA p.n.attrs name = none) :
    Calls Tryd.prog 21 #[.pointer (some ⟨tb, 0, none⟩), .int .i64 i, .string name, .string value] w (WasSet w M tb nv ps us i p name value) := by
  obtain ⟨i0, hi, hz0, hz1, hz2⟩ := info_parts Tryd.infoAttr
  have hfi : findI p.n.attrs name = -1 := by simp only [findI, hf]
  have hsa : Hid (setAttr p.n.attrs name value = p.n.attrs ++ [(name, value)]) := by
    show setAttr _ _ _ = _
    simp only [setAttr, hf]
  obtain ⟨nb, nc, rfl, hc, hm, hnM, hnl, hil⟩ := h.form hp
  obtain ⟨aa, ac, hav, hac1, hac2⟩ := (h.node i p hp).1.shape
  have hlt : tb < w.heap.size := lt_of_heap h.head
  have c0 := h.cell0
  have W0 : Hid (∀ w', Below w.heap.size w w' → Lies w' M tb (.slice (some ⟨nb, 0, none⟩) ps.length nc) uv ps us ∧ Errs w' M) := fun w' hb => ⟨h.below hb, hE.below hb⟩
  have HP : Hid (ps[i]? = some p) := hp
  have HF : Hid (∀ b, w.heap.size ≤ b → M b = .other) := h.fresh
  have i1 : (0 : Int) ≤ (i : Int) := by omega
  have i2 : (i : Int) < (ps.length : Int) := by omega
  unfold maxLen at hm hac2
  clear h hE hp hf
  go_enter Tryd.func21, Tryd.ntmps21
  go_wp2_with (first
    | (go_at_call 37; refine (wantElement_any (W0.out _ (((Below.refl _ _).alloc (Nat.le_refl _) _).alloc (by simp) _)).1 (W0.out _ (((Below.refl _ _).alloc (Nat.le_refl _) _).alloc (by simp) _)).2 HP.out).mono ?_; rintro e w' ⟨⟨v, rfl, hv⟩, rfl⟩; rw [if_pos hk] at hv; subst hv)
    | (go_at_call 35; refine (name_any _ _).mono ?_; rintro e w' ⟨rfl, rfl⟩; rw [hn]))
  go_quiet (fail)
  go_wp2_with (first
    | (go_at_call 38; refine (find_any (W0.out _ (below_drewN (((Below.refl _ _).alloc (Nat.le_refl _) _).alloc (by simp) _) _)).1 HP.out name).mono ?_; rintro e w1 ⟨rfl, hB⟩; rw [hfi]
       have b0 : w1.cell? ⟨w.heap.size, 0, none⟩ = some (.pointer (some ⟨tb, 0, none⟩)) := (hB.cell (p := ⟨w.heap.size, 0, none⟩) (by simp; omega)).trans (by simp)
       have b1 : w1.cell? ⟨w.heap.size + 1, 0, none⟩ = some (.int .i64 i) := (hB.cell (p := ⟨w.heap.size + 1, 0, none⟩) (by simp)).trans (by simp)
       have hB1 : Hid (Below w.heap.size w w1) := (below_drewN (((Below.refl _ _).alloc (Nat.le_refl _) _).alloc (by simp) _) _).trans (hB.mono (by simp; omega))
       have c3 := ((W0.out w1 hB1.out).1.cellN rfl (f := 3) HP.out (by omega) rfl)
       rw [hav] at c3
       obtain ⟨c3, c3f⟩ := c3
       have l0 : w.heap.size + 1 < w1.heap.size := World.block_lt_of_cell? w1 _ b1
       have l1 : nb < w1.heap.size := World.block_lt_of_cell? w1 _ c3
       have HB2 : Hid (∀ o1 o2, Below w1.heap.size w1 ((w1.alloc o1).alloc o2)) := fun o1 o2 => ((Below.refl _ _).alloc (Nat.le_refl _) _).alloc (by simp) _
       have HLW : Hid (∀ o1 o2, Lies ((w1.alloc o1).alloc o2) M tb (.slice (some ⟨nb, 0, none⟩) ps.length nc) uv ps us) := fun o1 o2 => ((W0.out w1 hB1.out).1.alloc o1).alloc o2
       have HRW : Hid (∀ o1 o2, Row ((w1.alloc o1).alloc o2) M (.attrs i) 72 2 (.slice aa p.n.attrs.length ac) p.n.attrs.length (attrCells p.n.attrs)) := fun o1 o2 => hav ▸ ((HLW.out o1 o2).node i p HP.out).1
       clear hB)
    | (at_builtin; (refine wpList_app_row _ (by rfl) (.tmp 42) (.tmp 46) 64 (by rfl) M (.attrs i) 72 i0 _ 2 32 Tryd.underlying64 hi hz0 hz1 hz2 rfl (by decide) (.slice aa p.n.attrs.length ac) p.n.attrs.length (attrCells p.n.attrs) (by rfl) (HRW.out _ _) ⟨w1.heap.size + 1, 0, none⟩ 1 1 [.string name, .string value] (by rfl) rfl (news_new (w1.alloc _) #[.string name, .string value] 72 _ (by simp)) (by simp [Value.oneCell']) (by decide) (by unfold maxLen; omega) (by omega) (HLW.out _ _).fresh ?_); intro g cap1 w2 M2 hr st
       (obtain ⟨q1, q2, ⟨u3, q3⟩, q4⟩ := (HLW.out _ _).setAttrs rfl HP.out st (at' := p.n.attrs ++ [(name, value)]) (by rw [List.length_append, attrCells_append]; exact hr))
       (have b0' : (w2.setCell ⟨nb, i * 6 + 3, none⟩ (.slice (some ⟨g, 0, none⟩) (p.n.attrs.length + 1) cap1)).cell? ⟨w.heap.size, 0, none⟩ = some (.pointer (some ⟨tb, 0, none⟩)) := moved_cell q2 (HF.out _ (Nat.le_refl _)) (((HB2.out _ _).cell (p := ⟨w.heap.size, 0, none⟩) (by show w.heap.size < w1.heap.size; omega)).trans b0))
       (have HQ : Hid _ := And.intro q1 (((((Moved.refl w M).below hB1.out).alloc _).alloc _).trans q2))
       clear q1 q2 hr st)
    | (go_at_call 39; refine (keep_any HQ.out.1 _ _ _ hu).mono ?_; rintro e w3 ⟨rfl, M3, uv3, hL3, hm3⟩))
  go_ret
  exact ⟨rfl, M3, uv3, _, _, hsa.out ▸ hL3, HQ.out.2.trans hm3⟩

set_option maxHeartbeats 4000000 in
set_option maxRecDepth 100000 in
theorem set_old {w : World} {M : Nat → Lab} {tb : Nat} {nv uv : Value} {ps : List Pn} {us : List Value} (h : Lies w M tb nv uv ps us) (hE : Errs w M) {i : Nat} {p : Pn} (hp : ps[i]? = some p) (name value : ByteArray) (hk : p.n.kind = 2) (hn : nameB name = true) (hv : value.size ≤ 20000) (hu : us.length ≤ 1099511627776) {k : Nat} (hf : findA p.n.attrs name = some k) :
    Calls Tryd.prog 21 #[.pointer (some ⟨tb, 0, none⟩), .int .i64 i, .string name, .string value] w (WasSet w M tb nv ps us i p name value) := by
  have hfi : findI p.n.attrs name = k := by simp only [findI, hf]
  have hkl : k < p.n.attrs.length := by
    unfold findA at hf
    rw [List.findIdx?_eq_some_iff_getElem] at hf
    exact hf.1
  obtain ⟨x, hx⟩ : ∃ x, p.n.attrs[k]? = some x := ⟨_, List.getElem?_eq_getElem hkl⟩
  have hsa : Hid (setAttr p.n.attrs name value = p.n.attrs.set k (x.1, value)) := by
    show setAttr _ _ _ = _
    simp only [setAttr, hf]
    rw [List.getD_eq_getElem?_getD, hx]
    rfl
  obtain ⟨nb, nc, rfl, hc, hm, hnM, hnl, hil⟩ := h.form hp
  obtain ⟨ag, ac, hav, hac1, hac2, hagM, hagl⟩ := (h.node i p hp).1.form (by omega)
  have hlt : tb < w.heap.size := lt_of_heap h.head
  have c0 := h.cell0
  have W0 : Hid (∀ w', Below w.heap.size w w' → Lies w' M tb (.slice (some ⟨nb, 0, none⟩) ps.length nc) uv ps us ∧ Errs w' M) := fun w' hb => ⟨h.below hb, hE.below hb⟩
  have HP : Hid (ps[i]? = some p) := hp
  have HX : Hid (p.n.attrs[k]? = some x) := hx
  have HF : Hid (∀ b, w.heap.size ≤ b → M b = .other) := h.fresh
  have i1 : (0 : Int) ≤ (i : Int) := by omega
  have i2 : (i : Int) < (ps.length : Int) := by omega
  have i3 : (0 : Int) ≤ (k : Int) := by omega
  have i4 : (k : Int) < (p.n.attrs.length : Int) := by omega
  unfold maxLen at hm hac2
  clear h hE hp hf hx
  go_enter Tryd.func21, Tryd.ntmps21
  go_wp2_with (first
    | (go_at_call 37; refine (wantElement_any (W0.out _ (((Below.refl _ _).alloc (Nat.le_refl _) _).alloc (by simp) _)).1 (W0.out _ (((Below.refl _ _).alloc (Nat.le_refl _) _).alloc (by simp) _)).2 HP.out).mono ?_; rintro e w' ⟨⟨v, rfl, hv⟩, rfl⟩; rw [if_pos hk] at hv; subst hv)
    | (go_at_call 35; refine (name_any _ _).mono ?_; rintro e w' ⟨rfl, rfl⟩; rw [hn]))
  go_quiet (fail)
  go_wp2_with (first
    | (go_at_call 38; refine (find_any (W0.out _ (below_drewN (((Below.refl _ _).alloc (Nat.le_refl _) _).alloc (by simp) _) _)).1 HP.out name).mono ?_; rintro e w1 ⟨rfl, hB⟩; rw [hfi]
       have b0 : w1.cell? ⟨w.heap.size, 0, none⟩ = some (.pointer (some ⟨tb, 0, none⟩)) := (hB.cell (p := ⟨w.heap.size, 0, none⟩) (by simp; omega)).trans (by simp)
       have b1 : w1.cell? ⟨w.heap.size + 1, 0, none⟩ = some (.int .i64 i) := (hB.cell (p := ⟨w.heap.size + 1, 0, none⟩) (by simp)).trans (by simp)
       have hB1 : Hid (Below w.heap.size w w1) := (below_drewN (((Below.refl _ _).alloc (Nat.le_refl _) _).alloc (by simp) _) _).trans (hB.mono (by simp; omega))
       obtain ⟨c3, c3f⟩ := ((W0.out w1 hB1.out).1.cellN rfl (f := 3) HP.out (by omega) rfl)
       rw [hav] at c3
       have cx := ((W0.out w1 hB1.out).1.node i p HP.out).1.cell hav (attrCells_get p.n.attrs k x HX.out).2
       obtain ⟨cx, cxf⟩ := cx
       have l0 : w.heap.size + 1 < w1.heap.size := World.block_lt_of_cell? w1 _ b1
       have l1 : nb < w1.heap.size := World.block_lt_of_cell? w1 _ c3
       have l2 : ag < w1.heap.size := World.block_lt_of_cell? w1 _ cx
       have st : Step w1 M (w1.setCell ⟨ag, k * 2 + 1, none⟩ (.string value)) M (.attrs i) := step_setCell _ hagM (W0.out w1 hB1.out).1.fresh
       have hrs := ((W0.out w1 hB1.out).1.node i p HP.out).1.set hav (k * 2 + 1) (.string value) (by rw [attrCells_length]; omega)
       have HQ : Hid _ := (W0.out w1 hB1.out).1.turnAttrs HP.out st (at' := p.n.attrs.set k (x.1, value)) (by rw [List.length_set, attrCells_set p.n.attrs k x value HX.out]; exact hrs)
       have bx : (w1.setCell ⟨ag, k * 2 + 1, none⟩ (.string value)).cell? ⟨w.heap.size, 0, none⟩ = some (.pointer (some ⟨tb, 0, none⟩)) := moved_cell HQ.out.2 (HF.out _ (Nat.le_refl _)) b0
       have hbx : ∀ o1 o2, (((w1.setCell ⟨ag, k * 2 + 1, none⟩ (.string value)).alloc o1).alloc o2).cell? ⟨w.heap.size, 0, none⟩ = some (.pointer (some ⟨tb, 0, none⟩)) := fun o1 o2 => moved_cell (((Moved.refl _ M).alloc o1).alloc o2) (HF.out _ (Nat.le_refl _)) bx
       have hne1 : ¬ (w.heap.size = ag) := by omega
       have hne2 : ¬ (ag = w.heap.size) := by omega
       clear hB st hrs))
  go_region
  all_goals go_wp2_with fail
  all_goals go_region
  all_goals go_wp2_with (go_at_call 39; refine (keep_any ((HQ.out.1.alloc _).alloc _).drew.drew _ _ _ hu).mono ?_; rintro e w3 ⟨rfl, M3, uv3, hL3, hm3⟩)
  all_goals go_ret
  all_goals exact ⟨rfl, M3, uv3, _, _, hsa.out ▸ hL3, (((((Moved.refl w M).below hB1.out).trans HQ.out.2).alloc _).alloc _).drew.drew.trans hm3⟩
end Go.Proofs.YtlfepdecgfcifaaDoor

/- A root becomes the last kid of another root. -/
namespace Go.Proofs.YtlfepdecgfcifaaDoor
open Go.RowKit
attribute [local go_sem ↓] Go.wp_at_zero Go.wp_at_succ

/-- a node's kids turn: their row, and where the node says that it lies -/
theorem Lies.setKids {w w1 : World} {M M1 : Nat → Lab} {tb : Nat} {nv uv : Value} {ps : List Pn} {us : List Value} (h : Lies w M tb nv uv ps us) {nb m c0 : Nat} (hv : nv = .slice (some ⟨nb, 0, none⟩) m c0) {i : Nat} {p : Pn} (hp : ps[i]? = some p) (st : Step w M w1 M1 (.kids i))
    {kv' : Value} {ks' : List Int} (hr : Row w1 M1 (.kids i) 3 1 kv' ks'.length (ks'.map intV)) :
    Lies (w1.setCell ⟨nb, i * 6 + 5, none⟩ kv') M1 tb nv uv (ps.set i ⟨{ p.n with kids := ks' }, p.av, kv'⟩) us ∧ Moved w M (w1.setCell ⟨nb, i * 6 + 5, none⟩ kv') M1 ∧ w1.cell? ⟨nb, i * 6 + 5, none⟩ = some p.kv ∧ w1.frozen? ⟨nb, i * 6 + 5, none⟩ = false ∧ w1.cell? ⟨tb, 0, none⟩ = some nv := by
  have hi : i < ps.length := (List.getElem?_eq_some_iff.1 hp).1
  obtain ⟨g, cap, hg, _, _, hM, hgl⟩ := h.nodes.form (by omega)
  have e1 : g = nb := by rw [hv] at hg; cases hg; rfl
  subst e1
  have hn1 : Row w1 M1 .nodes 101 6 nv ps.length (flat ps) := h.nodes.step st (by intro e; cases e)
  have hM1 : M1 g = .nodes := (st.lab g hgl).trans hM
  have st2 : Step w1 M1 (w1.setCell ⟨g, i * 6 + 5, none⟩ kv') M1 .nodes := step_setCell kv' hM1 st.fresh
  have hc := hn1.cell hv ((flat_get ps i 5 p hp (by omega)).trans rfl)
  have hh := (st.far tb (lt_of_heap h.head) (by rw [h.tree]; intro e; cases e)).trans h.head
  refine ⟨⟨st2.fresh, (st.lab tb (lt_of_heap h.head)).trans h.tree, ?_, ?_, (h.undos.step st (by intro e; cases e)).step st2 (by intro e; cases e), ?_⟩, (st.moved (by intro e; cases e)).trans (st2.moved (by intro e; cases e)), hc.1, hc.2, (head_cell hh).1⟩
  · have ht : M1 tb = .tree := (st.lab tb (lt_of_heap h.head)).trans h.tree
    have hl : tb < w1.heap.size := Nat.lt_of_lt_of_le (lt_of_heap h.head) st.size
    exact (st2.far tb hl (by rw [ht]; intro e; cases e)).trans hh
  · rw [List.length_set, flat_set ps i 5 p ⟨{ p.n with kids := ks' }, p.av, kv'⟩ kv' hp (by omega) rfl]
    exact hn1.set hv _ _ (by rw [flat_length]; omega)
  · intro j q hq
    by_cases hij : i = j
    · subst hij
      rw [List.getElem?_set_self hi] at hq
      cases hq
      exact ⟨((h.node i p hp).1.step st (by intro e; cases e)).step st2 (by intro e; cases e), hr.step st2 (by intro e; cases e)⟩
    · rw [List.getElem?_set_ne hij] at hq
      exact ⟨((h.node j q hq).1.step st (by intro e; cases e)).step st2 (by intro e; cases e), ((h.node j q hq).2.step st (by intro e; cases e; exact hij rfl)).step st2 (by intro e; cases e)⟩

set_option maxHeartbeats 4000000 in
set_option maxRecDepth 100000 in
/-- slices.Insert at the end -/
theorem insert_end {w : World} {M : Nat → Lab} {l : Lab} {v : Value} {n : Nat} {xs : List Int} (h : Row w M l 3 1 v n (xs.map intV)) (hn : n ≤ 1099511627776) (hf : ∀ b, w.heap.size ≤ b → M b = .other) (b : Nat) (x : Int) (hx : w.cell? ⟨b, 0, none⟩ = some (.int .i64 x)) :
    Calls Tryd.prog 74 #[v, .int .i64 n, .slice (some ⟨b, 0, none⟩) 1 1] w fun e w' => ∃ g cap, e = .returned (.slice (some ⟨g, 0, none⟩) (n + 1) cap) ∧ ∃ M', Row w' M' l 3 1 (.slice (some ⟨g, 0, none⟩) (n + 1) cap) (n + 1) ((xs ++ [x]).map intV) ∧ Step w M w' M' l := by
  obtain ⟨i0, hi, hz0, hz1, hz2⟩ := info_parts Tryd.infoInt
  obtain ⟨a, cap, rfl, h1, h2⟩ := h.shape
  have H : Hid (Row w M l 3 1 (.slice a n cap) n (xs.map intV)) := h
  have HF : Hid (∀ b, w.heap.size ≤ b → M b = .other) := hf
  have HX : Hid (∀ j u, [Value.int .i64 x][j]? = some u → w.cell? ((⟨b, 0, none⟩ : Addr).add j) = some u) := by
    intro j u hu
    cases j with
    | zero =>
      simp at hu
      subst hu
      simpa [Addr.add] using hx
    | succ j => simp at hu
  have i1 : (n : Int) ≤ (cap : Int) := by omega
  unfold maxLen at h2
  clear h hf
  go_enter Tryd.func74, Tryd.ntmps74
  go_wp2_with (at_builtin; refine wpList_app_row _ (by rfl) (.tmp 23) (.tmp 24) 63 (by rfl) M l 3 i0 _ 1 8 Tryd.underlying63 hi hz0 hz1 hz2 rfl (by decide) (.slice a n cap) n (xs.map intV) (by rfl) H.out ⟨b, 0, none⟩ 1 1 [.int .i64 x] (by rfl) rfl HX.out (by simp [Value.oneCell']) (by decide) (by unfold maxLen; omega) (by omega) HF.out ?_; intro g cap1 w2 M2 hr st; have HR : Hid _ := And.intro hr st; clear hr st)
  all_goals go_ret
  all_goals exact ⟨g, cap1, rfl, M2, HR.out.1, HR.out.2⟩

set_option maxHeartbeats 2000000 in
theorem pull_root {w : World} {M : Nat → Lab} {tb : Nat} {nv uv : Value} {ps : List Pn} {us : List Value} (h : Lies w M tb nv uv ps us) {i : Nat} {p : Pn} (hp : ps[i]? = some p) (hr : p.n.parent = -1) :
    Calls Tryd.prog 64 #[.pointer (some ⟨tb, 0, none⟩), .int .i64 i] w fun e w' => e = .returned (.tuple #[.int .i64 (-1), .int .i64 0]) ∧ w' = w := by
  obtain ⟨nb, cap, rfl, hc, hm, _, _, hi⟩ := h.form hp
  have c0 := h.cell0
  have c4 := (h.cellN rfl (f := 4) hp (by omega) rfl).1
  rw [hr] at c4
  unfold maxLen at hm
  clear h
  go_enter Tryd.func64, Tryd.ntmps64
  go_wp2
  go_ret2
  exact ⟨rfl, rfl⟩

set_option maxHeartbeats 2000000 in
theorem within_root {w : World} {M : Nat → Lab} {tb : Nat} {nv uv : Value} {ps : List Pn} {us : List Value} (h : Lies w M tb nv uv ps us) {i j : Nat} {p : Pn} (hp : ps[i]? = some p) (hr : p.n.parent = -1) (hij : i ≠ j) :
    Calls Tryd.prog 45 #[.pointer (some ⟨tb, 0, none⟩), .int .i64 i, .int .i64 j] w fun e w' => e = .returned (.bool false) ∧ w' = w := by
  obtain ⟨nb, cap, rfl, hc, hm, _, _, hi⟩ := h.form hp
  have c0 := h.cell0
  have c4 := (h.cellN rfl (f := 4) hp (by omega) rfl).1
  rw [hr] at c4
  unfold maxLen at hm
  have hne : ¬ ((i : Int) = (j : Int)) := by omega
  have hneb : ((i : Int) == (j : Int)) = false := by simpa using hne
  have hn1 : ¬ ((i : Int) = -1) := by omega
  have hn1b : ((i : Int) == -1) = false := by simp
  have hn2 : ¬ ((-1 : Int) = (j : Int)) := by omega
  have hn2b : ((-1 : Int) == (j : Int)) = false := by simp
  have hb1 : ((i : Int) != (j : Int)) = true := by simp [hne]
  have hb2 : ((i : Int) != -1) = true := by simp
  clear h
  go_enter Tryd.func45, Tryd.ntmps45
  go_wp2
  refine wp_loop_rounds 2 ?_
  rw [rounds_succ]
  go_wp2
  rw [rounds_succ]
  go_wp2
  go_ret
  exact ⟨rfl, rfl⟩

set_option maxHeartbeats 4000000 in
set_option maxRecDepth 100000 in
theorem push_any {w : World} {M : Nat → Lab} {tb : Nat} {nv uv : Value} {ps : List Pn} {us : List Value} (h : Lies w M tb nv uv ps us) {a b : Nat} {pa pb : Pn} (ha : ps[a]? = some pa) (hb : ps[b]? = some pb) (hab : a ≠ b) (hk : pa.n.kids.length ≤ 1099511627776) :
    Calls Tryd.prog 65 #[.pointer (some ⟨tb, 0, none⟩), .int .i64 a, .int .i64 b, .int .i64 pa.n.kids.length] w fun e w' => e = .returned (.tuple #[]) ∧ ∃ M' kv', Lies w' M' tb nv uv ((ps.set a ⟨{ pa.n with kids := pa.n.kids ++ [(b : Int)] }, pa.av, kv'⟩).set b ⟨{ pb.n with parent := a }, pb.av, pb.kv⟩) us ∧ Moved w M w' M' := by
  obtain ⟨nb, cap, rfl, hc, hm, hnM, hnl, hal⟩ := h.form ha
  have hbl : b < ps.length := (List.getElem?_eq_some_iff.1 hb).1
  have c0 := h.cell0
  have c5 := (h.cellN rfl (f := 5) ha (by omega) rfl).1
  have hr := (h.node a pa ha).2
  obtain ⟨ka, kc, hkv, _, _⟩ := hr.shape
  rw [hkv] at c5
  have hlt : tb < w.heap.size := lt_of_heap h.head
  have HA : Hid (ps[a]? = some pa) := ha
  have HB : Hid (ps[b]? = some pb) := hb
  have H : Hid (Lies w M tb (.slice (some ⟨nb, 0, none⟩) ps.length cap) uv ps us) := h
  have HK : Hid (pa.kv = .slice ka pa.n.kids.length kc) := hkv
  have HKR : Hid (∀ o, Row (w.alloc o).drew M (.kids a) 3 1 (.slice ka pa.n.kids.length kc) pa.n.kids.length (pa.n.kids.map intV)) := fun o => hkv ▸ ((h.alloc o).drew.node a pa ha).2
  have hn1 : ¬ ((a : Int) = -1) := by omega
  have hn1b : ((a : Int) == -1) = false := by simp
  have i1 : (0 : Int) ≤ (a : Int) := by omega
  have i2 : (a : Int) < (ps.length : Int) := by omega
  have i3 : (0 : Int) ≤ (b : Int) := by omega
  have i4 : (b : Int) < (ps.length : Int) := by omega
  unfold maxLen at hm
  clear h hr hkv ha hb
  go_enter Tryd.func65, Tryd.ntmps65
  go_wp2
  go_region_with
    ((go_at_call 74; refine (insert_end (HKR.out _) hk (H.out.alloc _).drew.fresh _ (b : Int) (by simp)).mono ?_; rintro e w2 ⟨g, cap1, rfl, M2, hr, st⟩
      obtain ⟨q1, q2, q3, q4, q5⟩ := (H.out.alloc _).drew.setKids rfl HA.out st (ks' := pa.n.kids ++ [(b : Int)]) (by rw [List.length_append]; exact hr)
      rw [HK.out] at q3
      have hb2 : (ps.set a ⟨{ pa.n with kids := pa.n.kids ++ [(b : Int)] }, pa.av, .slice (some ⟨g, 0, none⟩) (pa.n.kids.length + 1) cap1⟩)[b]? = some pb := by (rw [List.getElem?_set_ne hab]; exact HB.out)
      have d0 := q1.cell0
      obtain ⟨d4, d4f⟩ := q1.cellN rfl (f := 4) hb2 (by omega) rfl
      have HQ : Hid _ := And.intro (q1.setNode rfl (f := 4) (c := .int .i64 a) hb2 (by omega) (p' := ⟨{ pb.n with parent := a }, pb.av, pb.kv⟩) rfl (q1.node b pb hb2).1 (q1.node b pb hb2).2) (((Moved.refl w M).alloc _).drew.trans q2)
      clear q1 q2 hr st hb2))
  all_goals go_wp2
  all_goals go_end0
  all_goals exact ⟨rfl, M2, _, HQ.out.1.1, HQ.out.2.trans (HQ.out.1.2.moved (by intro e; cases e))⟩
end Go.Proofs.YtlfepdecgfcifaaDoor
