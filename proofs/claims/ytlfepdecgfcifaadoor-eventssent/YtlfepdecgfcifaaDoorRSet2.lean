/- The document's answer: what Set makes of a tree. -/
import Derived.Test.YtlfepdecgfcifaaDoorM20
namespace Go.Proofs.YtlfepdecgfcifaaDoor
open Go.RowKit

set_option maxHeartbeats 8000000 in
set_option maxRecDepth 100000 in
theorem rset_any {w : World} {M : Nat → Lab} {tb : Nat} {nv uv : Value} {ps : List Pn} {us : List Value} (h : RLies w M tb nv uv ps us) (hs : Small ps) (hn : ps.length ≤ 1000000) (hu : us.length ≤ 1000000000) {i : Nat} {p : Pn} (hp : ps[i]? = some p) (ha : p.n.attrs.length ≤ 1000000000) (name value : ByteArray) (hvs : value.size ≤ 9223372036854775807) :
    Calls Tryd.prog 29 #[.pointer (some ⟨tb, 0, none⟩), .int .i64 i, .string name, .string value, .bool false] w (RSetPost w M tb nv ps us i name value) := by
  obtain ⟨i0, hi, hz0, hz1, hz2⟩ := info_parts Tryd.infoAttr
  have hb : hasB ps.length i = true := hasB_of hp
  obtain ⟨nb, nc, rfl, hc, hm, hnM, hnl, hil⟩ := h.form hp
  obtain ⟨aa, ac, hav, hac1, hac2⟩ := (h.node i p hp).1.shape
  have hlt : tb < w.heap.size := lt_of_heap h.head
  have c0 := h.cell0
  have k0 := (h.cellN rfl (f := 0) hp (by omega) rfl).1
  rw [Nat.add_zero] at k0
  have k3 := (h.cellN rfl (f := 3) hp (by omega) rfl).1
  rw [hav] at k3
  have HRow : Hid (Row w M (.attrs i) 72 2 (.slice aa p.n.attrs.length ac) p.n.attrs.length (attrCells p.n.attrs)) := hav ▸ (h.node i p hp).1
  have H : Hid (RLies w M tb (.slice (some ⟨nb, 0, none⟩) ps.length nc) uv ps us) := h
  have HS : Hid (Small ps) := hs
  have HP : Hid (ps[i]? = some p) := hp
  have i1 : (0 : Int) ≤ (i : Int) := by omega
  have i2 : (i : Int) < (ps.length : Int) := by omega
  unfold maxLen at hm hac2
  clear h hs hp
  by_cases q1 : p.n.kind = 2
  case neg =>
    have q1b : (p.n.kind != 2) = true := by simp [q1]
    go_enter Tryd.func29, Tryd.ntmps29
    go_wp2_with (go_at_call 34; refine (rhas_any H.out _).mono ?_; rintro e w' ⟨rfl, rfl⟩; rw [hb])
    go_ret
    exact RSetPost.stay H.out HP.out (fun h => q1 h.1) _
  by_cases q2 : nameB name = true
  case neg =>
    have q2b : nameB name = false := by simpa using q2
    go_enter Tryd.func29, Tryd.ntmps29
    go_wp2_with (first
      | (go_at_call 34; refine (rhas_any H.out _).mono ?_; rintro e w' ⟨rfl, rfl⟩; rw [hb])
      | (go_at_call 49; refine (at_any HRow.out name).mono ?_; rintro e w' ⟨rfl, rfl⟩)
      | (go_at_call 27; refine (isName_any _ _).mono ?_; rintro e w' ⟨rfl, rfl⟩; rw [q2b]))
    go_ret
    exact RSetPost.stay H.out HP.out (fun h => q2 h.2.1) _
  by_cases q3 : value.size ≤ 20000
  case neg =>
    go_enter Tryd.func29, Tryd.ntmps29
    go_wp2_with (first
      | (go_at_call 34; refine (rhas_any H.out _).mono ?_; rintro e w' ⟨rfl, rfl⟩; rw [hb])
      | (go_at_call 49; refine (at_any HRow.out name).mono ?_; rintro e w' ⟨rfl, rfl⟩)
      | (go_at_call 27; refine (isName_any _ _).mono ?_; rintro e w' ⟨rfl, rfl⟩; rw [q2]))
    go_ret
    exact RSetPost.stay H.out HP.out (fun h => q3 h.2.2) _
  cases hf : findA p.n.attrs name with
  | none =>
    have hfi : findI p.n.attrs name = -1 := by simp only [findI, hf]
    have hsa : Hid (setAttr p.n.attrs name value = p.n.attrs ++ [(name, value)]) := by
      show setAttr _ _ _ = _
      simp only [setAttr, hf]
    clear hf
    go_enter Tryd.func29, Tryd.ntmps29
    go_wp2_with (first
      | (go_at_call 34; refine (rhas_any H.out _).mono ?_; rintro e w' ⟨rfl, rfl⟩; rw [hb])
      | (go_at_call 49; refine (at_any HRow.out name).mono ?_; rintro e w' ⟨rfl, rfl⟩; rw [hfi])
      | (go_at_call 27; refine (isName_any _ _).mono ?_; rintro e w' ⟨rfl, rfl⟩; rw [q2])
      | (go_at_call 48; refine (rkeep_any H.out HS.out hn hu).mono ?_; rintro e w1 ⟨rfl, M1, uv1, v1, l1, m1⟩
         have H1 : Hid _ := And.intro l1 m1
         have d0 := l1.cell0
         have d3 := (l1.cellN rfl (f := 3) HP.out (by omega) rfl).1
         rw [hav] at d3
         have hl1 : tb < w1.heap.size := lt_of_heap l1.head
         have hl2 : nb < w1.heap.size := World.block_lt_of_cell? w1 _ d3
         have HR1 : Hid (∀ o, Row (w1.alloc o).drew M1 (.attrs i) 72 2 (.slice aa p.n.attrs.length ac) p.n.attrs.length (attrCells p.n.attrs)) := fun o => hav ▸ ((l1.alloc o).drew.node i p HP.out).1
         clear l1 m1))
    go_region_law ((refine step_app_row _ (by rfl) (.tmp 99) (.tmp 103) 64 (by rfl) M1 (.attrs i) 72 i0 _ 2 32 Tryd.underlying64 hi hz0 hz1 hz2 rfl (by decide) (.slice aa p.n.attrs.length ac) p.n.attrs.length (attrCells p.n.attrs) (by simp [Act.eval]) (HR1.out _) ⟨w1.heap.size, 0, none⟩ 1 1 [.string name, .string value] (by simp [Act.eval]) rfl (news_new _ #[.string name, .string value] 72 _ rfl) (by simp [Value.oneCell']) (by decide) (by unfold maxLen; omega) (by omega) (H1.out.1.alloc _).drew.fresh ?_
                    intro g cap1 w2 M2 hr st
                    obtain ⟨e1, e2, ⟨u3, e3⟩, e4⟩ := (H1.out.1.alloc _).drew.setAttrs rfl HP.out st (at' := p.n.attrs ++ [(name, value)]) (by rw [List.length_append, attrCells_append]; exact hr)
                    have e0 := World.cell?_of_block (w := w1) (w' := w2) (a := ⟨tb, 0, none⟩) ((st.far tb (by simp; omega) (by rw [H1.out.1.tree]; intro e; cases e)).trans (Below.heap_alloc w1 _ tb hl1))
                    rw [d0] at e0
                    have HQ : Hid _ := And.intro e1 (((H1.out.2.alloc _).drew).trans e2)
                    clear e1 e2 hr st))
    all_goals go_wp2
    all_goals go_ret
    all_goals exact RSetPost.done HP.out ⟨q1, q2, q3⟩ (hsa.out ▸ HQ.out.1) HQ.out.2 (by simp) _
  | some k =>
    have hfi : findI p.n.attrs name = k := by simp only [findI, hf]
    have hkl : k < p.n.attrs.length := by
      unfold findA at hf
      rw [List.findIdx?_eq_some_iff_getElem] at hf
      exact hf.1
    obtain ⟨x, hx⟩ : ∃ x, p.n.attrs[k]? = some x := ⟨_, List.getElem?_eq_getElem hkl⟩
    have hsa : Hid (setAttr p.n.attrs name value = p.n.attrs.set k (x.1, value)) := by
      show setAttr _ _ _ = _
      simp only [setAttr, hf]
      rw [List.getD_eq_getElem?_getD, hx]
      rfl
    have HX : Hid (p.n.attrs[k]? = some x) := hx
    have i3 : (0 : Int) ≤ (k : Int) := by omega
    have i4 : (k : Int) < (p.n.attrs.length : Int) := by omega
    obtain ⟨ag, ac', hav', _, _, hagM, hagl⟩ := HRow.out.form (by omega)
    cases hav'
    clear hf hx
    go_enter Tryd.func29, Tryd.ntmps29
    go_wp2_with (first
      | (go_at_call 34; refine (rhas_any H.out _).mono ?_; rintro e w' ⟨rfl, rfl⟩; rw [hb])
      | (go_at_call 49; refine (at_any HRow.out name).mono ?_; rintro e w' ⟨rfl, rfl⟩; rw [hfi])
      | (go_at_call 27; refine (isName_any _ _).mono ?_; rintro e w' ⟨rfl, rfl⟩; rw [q2])
      | (go_at_call 48; refine (rkeep_any H.out HS.out hn hu).mono ?_; rintro e w1 ⟨rfl, M1, uv1, v1, l1, m1⟩
         have d0 := l1.cell0
         have d3 := (l1.cellN rfl (f := 3) HP.out (by omega) rfl).1
         rw [hav] at d3
         obtain ⟨cx, cxf⟩ := (l1.node i p HP.out).1.cell hav (attrCells_get p.n.attrs k x HX.out).2
         have st : Step w1 M1 (w1.setCell ⟨ag, k * 2 + 1, none⟩ (.string value)) M1 (.attrs i) := step_setCell _ ((m1.lab ag hagl).trans hagM) l1.fresh
         have hrs := (l1.node i p HP.out).1.set hav (k * 2 + 1) (.string value) (by rw [attrCells_length]; omega)
         have HQ : Hid _ := l1.turnAttrs HP.out st (at' := p.n.attrs.set k (x.1, value)) (by rw [List.length_set, attrCells_set p.n.attrs k x value HX.out]; exact hrs)
         have HM : Hid _ := m1
         clear l1 m1 st hrs))
    go_ret
    exact RSetPost.done HP.out ⟨q1, q2, q3⟩ (hsa.out ▸ HQ.out.1) (HM.out.trans HQ.out.2) (by simp) _
end Go.Proofs.YtlfepdecgfcifaaDoor
