/- Set, Unset and Say, of any tree, and what they keep. -/
import Derived.Test.YtoanbjdifddcoaaGreatDoorM20
import Derived.Test.YtoanbjdifddcoaaGreatDoorInsA
namespace Go.Proofs.YtoanbjdifddcoaaGreatDoor
open Go.RowKit

theorem ins_back {α : Type} {l : List α} {k : Nat} {x : α} (h : l[k]? = some x) : (l.eraseIdx k).take k ++ x :: (l.eraseIdx k).drop k = l := by
  obtain ⟨h1, h2⟩ := List.getElem?_eq_some_iff.1 h
  have hl : (l.take k).length = k := by simp; omega
  rw [List.eraseIdx_eq_take_drop_succ]
  have e1 : (l.take k ++ l.drop (k + 1)).take k = l.take k := by rw [List.take_append_of_le_length (by omega), List.take_take, Nat.min_self]
  have e2 : (l.take k ++ l.drop (k + 1)).drop k = l.drop (k + 1) := by
    have : k = (l.take k).length := hl.symm
    conv => lhs; lhs; rw [this]
    rw [List.drop_left]
  rw [e1, e2, ← h2, ← List.drop_eq_getElem_cons h1, List.take_append_drop]

set_option maxHeartbeats 2000000 in
theorem wantElement_none {w : World} {M : Nat → Lab} {tb : Nat} {nv uv : Value} {ps : List Pn} {us : List Value} (h : Lies w M tb nv uv ps us) (hE : Errs w M) {a : Int} (hb : hasB ps.length a = false) :
    Calls Tryz.prog 60 #[.pointer (some ⟨tb, 0, none⟩), .int .i64 a] w fun e w' => (∃ t a, e = .returned (.iface t (.pointer (some a)))) ∧ w' = w := by
  obtain ⟨t, a1, hc3⟩ := hE.cell 1 (by decide)
  have H : Hid (Lies w M tb nv uv ps us) := h
  clear h hE
  go_enter Tryz.func60, Tryz.ntmps60
  go_wp2_with (go_at_call 45; refine (has_any H.out _).mono ?_; rintro e w' ⟨rfl, rfl⟩; rw [hb])
  go_ret
  exact ⟨⟨_, _, rfl⟩, rfl⟩

set_option maxHeartbeats 4000000 in
set_option maxRecDepth 100000 in
theorem setU_any {w : World} {M : Nat → Lab} {tb : Nat} {nv uv : Value} {ps : List Pn} {us : List Value} (h : Lies w M tb nv uv ps us) (hE : Errs w M) (hW : WF (nodesOf ps)) {K : Nat} (hF : Few (nodesOf ps) K) (hK : K ≤ 1000000) (hu : us.length ≤ 1000000) (a : Int) (name value : ByteArray) (hv : value.size ≤ 9223372036854775807) :
    Calls Tryz.prog 30 #[.pointer (some ⟨tb, 0, none⟩), .int .i64 a, .string name, .string value] w fun e w' => (∃ v, e = .returned v) ∧ (Below w.heap.size w w' ∨ Done w M tb ps us K w') := by
  cases hb : hasB ps.length a
  · have W0 : Hid (∀ o1 o2, Lies ((w.alloc o1).alloc o2) M tb nv uv ps us ∧ Errs ((w.alloc o1).alloc o2) M) := fun o1 o2 => ⟨(h.alloc o1).alloc o2, hE.below (((Below.refl _ _).alloc (Nat.le_refl _) _).alloc (by simp) _)⟩
    clear h hE hW hF
    go_enter Tryz.func30, Tryz.ntmps30
    go_wp2_with (go_at_call 60; refine (wantElement_none (W0.out _ _).1 (W0.out _ _).2 hb).mono ?_; rintro e w' ⟨⟨t3, a3, rfl⟩, rfl⟩)
    all_goals go_ret
    all_goals exact ⟨⟨_, rfl⟩, .inl (((Below.refl _ _).alloc (Nat.le_refl _) _).alloc (by simp) _)⟩
  · obtain ⟨i, p, rfl, hp⟩ := hasB_get hb
    by_cases hg : p.n.kind = 2 ∧ nameB name = true ∧ value.size ≤ 20000
    · cases hf : findA p.n.attrs name with
      | none =>
        refine (setU_new h hE hW hF hp name value hg.1 hg.2.1 hg.2.2 (by omega) (by have := hF i _ (nodes_get hp); omega) hf).mono ?_
        rintro e w' ⟨rfl, hd⟩
        exact ⟨⟨_, rfl⟩, .inr hd⟩
      | some k =>
        refine (setU_old h hE hW hF hp name value hg.1 hg.2.1 hg.2.2 (by omega) hf).mono ?_
        rintro e w' ⟨rfl, hd⟩
        exact ⟨⟨_, rfl⟩, .inr hd⟩
    · refine (set_bad h hE hp name value hv ?_).mono ?_
      · by_cases h1 : p.n.kind = 2
        · cases h2 : nameB name
          · exact .inr (.inl rfl)
          · exact .inr (.inr (by have : ¬ value.size ≤ 20000 := fun h3 => hg ⟨h1, h2, h3⟩; omega))
        · exact .inl h1
      · rintro e w' ⟨⟨v, rfl, _⟩, hB⟩
        exact ⟨⟨_, rfl⟩, .inl hB⟩

set_option maxHeartbeats 4000000 in
set_option maxRecDepth 100000 in
theorem unset_good {w : World} {M : Nat → Lab} {tb : Nat} {nv uv : Value} {ps : List Pn} {us : List Value} (h : Lies w M tb nv uv ps us) (hE : Errs w M) (hW : WF (nodesOf ps)) {K : Nat} (hF : Few (nodesOf ps) K) {i : Nat} {p : Pn} (hp : ps[i]? = some p) (name : ByteArray) (hk : p.n.kind = 2) (hu : us.length ≤ 1099511627776) {k : Nat} (hf : findA p.n.attrs name = some k) :
    Calls Tryz.prog 32 #[.pointer (some ⟨tb, 0, none⟩), .int .i64 i, .string name] w fun e w' => e = .returned .nilIface ∧ Done w M tb ps us K w' := by
  have hfi : findI p.n.attrs name = k := by simp only [findI, hf]
  have hkl : k < p.n.attrs.length := by
    unfold findA at hf
    rw [List.findIdx?_eq_some_iff_getElem] at hf
    exact hf.1
  obtain ⟨x, hx⟩ : ∃ x, p.n.attrs[k]? = some x := ⟨_, List.getElem?_eq_getElem hkl⟩
  obtain ⟨an, han⟩ : ∃ an, p.n.attrs.length = an + 1 := ⟨p.n.attrs.length - 1, by omega⟩
  obtain ⟨nb, nc, rfl, hc, hm, hnM, hnl, hil⟩ := h.form hp
  obtain ⟨ag, ac, hav, hac1, hac2, hagM, hagl⟩ := (h.node i p hp).1.form (by omega)
  rw [han] at hav hac1
  have hlt : tb < w.heap.size := lt_of_heap h.head
  have c0 := h.cell0
  have W0 : Hid (∀ w', Below w.heap.size w w' → Lies w' M tb (.slice (some ⟨nb, 0, none⟩) ps.length nc) uv ps us ∧ Errs w' M) := fun w' hb => ⟨h.below hb, hE.below hb⟩
  have HP : Hid (ps[i]? = some p) := hp
  have HX : Hid (p.n.attrs[k]? = some x) := hx
  have HN : Hid (p.n.attrs.length = an + 1) := han
  have HF : Hid (∀ b, w.heap.size ≤ b → M b = .other) := h.fresh
  have HLEN : Hid ((p.n.attrs.eraseIdx k).length = an) := by
    show _ = an
    rw [List.length_eraseIdx, if_pos hkl]
    omega
  have hka : k < an + 1 := by omega
  have i1 : (0 : Int) ≤ (i : Int) := by omega
  have i2 : (i : Int) < (ps.length : Int) := by omega
  have i3 : (0 : Int) ≤ (k : Int) := by omega
  have i4 : (k : Int) < (an : Int) + 1 := by omega
  have hwr : IntKind.i64.wrap ((k : Int) + 1) = (k : Int) + 1 := by
    rw [IntKind.wrap_i64]
    unfold maxLen at hac2
    omega
  unfold maxLen at hm hac2
  clear h hE hp hf hx han
  go_enter Tryz.func32, Tryz.ntmps32
  go_wp2_with (go_at_call 60; refine (wantElement_any (W0.out _ (((Below.refl _ _).alloc (Nat.le_refl _) _).alloc (by simp) _)).1 (W0.out _ (((Below.refl _ _).alloc (Nat.le_refl _) _).alloc (by simp) _)).2 HP.out).mono ?_; rintro e w' ⟨⟨v, rfl, hv⟩, rfl⟩; rw [if_pos hk] at hv; subst hv)
  go_quiet (fail)
  go_wp2_with (first
    | (go_at_call 61; refine (find_any (W0.out _ (below_drewN (((Below.refl _ _).alloc (Nat.le_refl _) _).alloc (by simp) _) _)).1 HP.out name).mono ?_; rintro e w1 ⟨rfl, hB⟩; rw [hfi]
       have b0 : w1.cell? ⟨w.heap.size, 0, none⟩ = some (.pointer (some ⟨tb, 0, none⟩)) := (hB.cell (p := ⟨w.heap.size, 0, none⟩) (by simp; omega)).trans (by simp)
       have b1 : w1.cell? ⟨w.heap.size + 1, 0, none⟩ = some (.int .i64 i) := (hB.cell (p := ⟨w.heap.size + 1, 0, none⟩) (by simp)).trans (by simp)
       have hB1 : Hid (Below w.heap.size w w1) := (below_drewN (((Below.refl _ _).alloc (Nat.le_refl _) _).alloc (by simp) _) _).trans (hB.mono (by simp; omega))
       obtain ⟨c3, c3f⟩ := ((W0.out w1 hB1.out).1.cellN rfl (f := 3) HP.out (by omega) rfl)
       rw [hav] at c3
       have cx1 := (((W0.out w1 hB1.out).1.node i p HP.out).1.cell hav (attrCells_get p.n.attrs k x HX.out).1).1
       have cx2 := (((W0.out w1 hB1.out).1.node i p HP.out).1.cell hav (attrCells_get p.n.attrs k x HX.out).2).1
       have l0 : w.heap.size + 1 < w1.heap.size := World.block_lt_of_cell? w1 _ b1
       have l1 : nb < w1.heap.size := World.block_lt_of_cell? w1 _ c3
       have l2 : ag < w1.heap.size := World.block_lt_of_cell? w1 _ cx1
       clear hB))
  go_region
  all_goals go_wp2_with fail
  all_goals go_region_with ((go_at_call 63
                             have HL2 : Hid (Lies _ M tb (.slice (some ⟨nb, 0, none⟩) ps.length nc) uv ps us) := (((W0.out w1 hB1.out).1.alloc (.cells #[.int .i64 k] 3)).alloc (.cells #[.string x.1, .string x.2] 79)).drew.drew
                             have hrw := (HL2.out.node i p HP.out).1
                             rw [hav, HN.out] at hrw
                             refine (deleteA_any hrw k hka HL2.out.fresh).mono ?_
                             rintro e w2 ⟨rfl, hr, st⟩
                             obtain ⟨q1, q2, ⟨u3, q3⟩, q4⟩ := HL2.out.setAttrs rfl HP.out st (av' := .slice (some ⟨ag, 0, none⟩) an ac) (at' := p.n.attrs.eraseIdx k) (by rw [HLEN.out]; exact hr)
                             have mv : Moved w1 M _ M := (((Moved.refl w1 M).alloc (.cells #[.int .i64 k] 3)).alloc (.cells #[.string x.1, .string x.2] 79)).drew.drew.trans q2
                             have d0 := moved_cell mv (HF.out _ (Nat.le_refl _)) b0
                             have HC : Hid (Cap w1 M w.heap.size 0 (at0 tb) ∧ Cap w1 M (w.heap.size + 1) 0 (.int .i64 i) ∧ Cap _ M w1.heap.size 0 (.int .i64 k) ∧ Cap _ M (w1.heap.size + 1) 0 (.string x.1) ∧ Cap _ M (w1.heap.size + 1) 1 (.string x.2)) := ⟨⟨HF.out _ (Nat.le_refl _), b0⟩, ⟨HF.out _ (by omega), b1⟩, ⟨(W0.out w1 hB1.out).1.fresh _ (Nat.le_refl _), moved_cell q2 ((W0.out w1 hB1.out).1.fresh _ (Nat.le_refl _)) (by simp)⟩, ⟨(W0.out w1 hB1.out).1.fresh _ (by omega), moved_cell q2 ((W0.out w1 hB1.out).1.fresh _ (by omega)) (by simp)⟩, ⟨(W0.out w1 hB1.out).1.fresh _ (by omega), moved_cell q2 ((W0.out w1 hB1.out).1.fresh _ (by omega)) (by simp)⟩⟩
                             have HQ : Hid _ := And.intro q1 mv
                             clear q1 q2 hr st hrw mv))
  all_goals go_wp2_with (go_at_call 55; refine (keep_any HQ.out.1 _ _ _ hu).mono ?_; rintro e w3 ⟨rfl, M3, uv3, hL3, hm3⟩)
  all_goals go_ret
  all_goals
    refine ⟨rfl, M3, _, uv3, _, _, .ins i k x, hL3, ⟨_, _, _, _, rfl, (HC.out.1.moved HQ.out.2).moved hm3, (HC.out.2.1.moved HQ.out.2).moved hm3, HC.out.2.2.1.moved hm3, HC.out.2.2.2.1.moved hm3, HC.out.2.2.2.2.moved hm3⟩, ?_, ?_, ((Moved.refl w M).below hB1.out).trans (HQ.out.2.trans hm3), ?_⟩
    all_goals rw [show nodesOf (ps.set i _) = (nodesOf ps).set i _ by rw [nodesOf, List.map_set]; rfl]
    · exact hW.turn (nodes_get HP.out) rfl rfl rfl
    · refine ⟨_, List.getElem?_set_self (by simpa [nodesOf] using hil), by rw [HLEN.out]; omega, ?_⟩
      rw [List.set_set]
      simp only [ins_back HX.out]
      exact (set_same (nodes_get HP.out)).symm
    · refine few_set hF ?_
      have := hF i _ (nodes_get HP.out)
      rw [HLEN.out]
      rw [HN.out] at this
      omega

set_option maxHeartbeats 4000000 in
set_option maxRecDepth 100000 in
theorem unset_any {w : World} {M : Nat → Lab} {tb : Nat} {nv uv : Value} {ps : List Pn} {us : List Value} (h : Lies w M tb nv uv ps us) (hE : Errs w M) (hW : WF (nodesOf ps)) {K : Nat} (hF : Few (nodesOf ps) K) (hu : us.length ≤ 1000000) (a : Int) (name : ByteArray) :
    Calls Tryz.prog 32 #[.pointer (some ⟨tb, 0, none⟩), .int .i64 a, .string name] w fun e w' => (∃ v, e = .returned v) ∧ (Below w.heap.size w w' ∨ Done w M tb ps us K w') := by
  have W0 : Hid (∀ w', Below w.heap.size w w' → Lies w' M tb nv uv ps us ∧ Errs w' M) := fun w' hb => ⟨h.below hb, hE.below hb⟩
  have B0 : Hid (∀ o1 o2, Below w.heap.size w ((w.alloc o1).alloc o2)) := fun o1 o2 => ((Below.refl _ _).alloc (Nat.le_refl _) _).alloc (by simp) _
  cases hb : hasB ps.length a
  · clear h hE hW hF
    go_enter Tryz.func32, Tryz.ntmps32
    go_wp2_with (go_at_call 60; refine (wantElement_none (W0.out _ (B0.out _ _)).1 (W0.out _ (B0.out _ _)).2 hb).mono ?_; rintro e w' ⟨⟨t3, a3, rfl⟩, rfl⟩)
    all_goals go_ret
    all_goals exact ⟨⟨_, rfl⟩, .inl (B0.out _ _)⟩
  · obtain ⟨i, p, rfl, hp⟩ := hasB_get hb
    have HP : Hid (ps[i]? = some p) := hp
    by_cases hk : p.n.kind = 2
    · cases hf : findA p.n.attrs name with
      | some k =>
        refine (unset_good h hE hW hF hp name hk (by omega) hf).mono ?_
        rintro e w' ⟨rfl, hd⟩
        exact ⟨⟨_, rfl⟩, .inr hd⟩
      | none =>
        have hfi : findI p.n.attrs name = -1 := by simp only [findI, hf]
        obtain ⟨t1, a1, hc1⟩ := hE.cell 0 (by decide)
        obtain ⟨nb, nc, rfl, hc, hm, hnM, hnl, hil⟩ := h.form hp
        have hlt : tb < w.heap.size := lt_of_heap h.head
        have c0 := h.cell0
        have hg : 0 < w.heap.size := World.block_lt_of_cell? w _ hc1
        have i1 : (0 : Int) ≤ (i : Int) := by omega
        have i2 : (i : Int) < (ps.length : Int) := by omega
        unfold maxLen at hm
        clear h hE hW hF hp hf
        go_enter Tryz.func32, Tryz.ntmps32
        go_wp2_with (go_at_call 60; refine (wantElement_any (W0.out _ (B0.out _ _)).1 (W0.out _ (B0.out _ _)).2 HP.out).mono ?_; rintro e w' ⟨⟨v, rfl, hv⟩, rfl⟩; rw [if_pos hk] at hv; subst hv)
        go_quiet (fail)
        go_wp2_with (go_at_call 61; refine (find_any (W0.out _ (below_drewN (B0.out _ _) _)).1 HP.out name).mono ?_; rintro e w1 ⟨rfl, hB⟩; rw [hfi]
                     have hB1 : Hid (Below w.heap.size w w1) := (below_drewN (B0.out _ _) _).trans (hB.mono (by simp; omega))
                     have d1 := (hB1.out.cell (p := ⟨0, 0, none⟩) hg).trans hc1
                     have l1 := Nat.lt_of_lt_of_le hg hB1.out.size
                     clear hB)
        all_goals go_ret
        all_goals exact ⟨⟨_, rfl⟩, .inl (hB1.out.alloc hB1.out.size _)⟩
    · clear h hE hW hF hp
      go_enter Tryz.func32, Tryz.ntmps32
      go_wp2_with (go_at_call 60; refine (wantElement_any (W0.out _ (B0.out _ _)).1 (W0.out _ (B0.out _ _)).2 HP.out).mono ?_; rintro e w' ⟨⟨v, rfl, hv⟩, rfl⟩; rw [if_neg hk] at hv; obtain ⟨t3, a3, rfl⟩ := hv)
      all_goals go_ret
      all_goals exact ⟨⟨_, rfl⟩, .inl (B0.out _ _)⟩
end Go.Proofs.YtoanbjdifddcoaaGreatDoor

/- Say, of any tree, and what it keeps. -/
namespace Go.Proofs.YtoanbjdifddcoaaGreatDoor
open Go.RowKit

theorem cell_three (w : World) (a b c : Value) (r s t : TypeId) : (((w.alloc (.cells #[a] r)).alloc (.cells #[b] s)).alloc (.cells #[c] t)).cell? ⟨w.heap.size, 0, none⟩ = some a ∧ (((w.alloc (.cells #[a] r)).alloc (.cells #[b] s)).alloc (.cells #[c] t)).cell? ⟨w.heap.size + 1, 0, none⟩ = some b ∧ (((w.alloc (.cells #[a] r)).alloc (.cells #[b] s)).alloc (.cells #[c] t)).cell? ⟨w.heap.size + 1 + 1, 0, none⟩ = some c := by
  have h1 := heap_alloc_new w (.cells #[a] r)
  have h2 := heap_alloc_new (w.alloc (.cells #[a] r)) (.cells #[b] s)
  have h3 := heap_alloc_new ((w.alloc (.cells #[a] r)).alloc (.cells #[b] s)) (.cells #[c] t)
  have e1 : (w.alloc (.cells #[a] r)).heap.size = w.heap.size + 1 := by simp
  have e2 : ((w.alloc (.cells #[a] r)).alloc (.cells #[b] s)).heap.size = w.heap.size + 1 + 1 := by simp
  rw [e1] at h2
  rw [e2] at h3
  have k1 := ((Below.heap_alloc _ (.cells #[c] t) w.heap.size (by rw [e2]; omega)).trans (Below.heap_alloc _ (.cells #[b] s) w.heap.size (by rw [e1]; omega))).trans h1
  have k2 := (Below.heap_alloc _ (.cells #[c] t) (w.heap.size + 1) (by rw [e2]; omega)).trans h2
  exact ⟨by rw [cell_of_row _ _ 0 _ _ _ k1]; rfl, by rw [cell_of_row _ _ 0 _ _ _ k2]; rfl, by rw [cell_of_row _ _ 0 _ _ _ h3]; rfl⟩

set_option maxHeartbeats 4000000 in
set_option maxRecDepth 100000 in
theorem say_any {w : World} {M : Nat → Lab} {tb : Nat} {nv uv : Value} {ps : List Pn} {us : List Value} (h : Lies w M tb nv uv ps us) (hE : Errs w M) (hW : WF (nodesOf ps)) {K : Nat} (hF : Few (nodesOf ps) K) (hu : us.length ≤ 1000000) (a : Int) (text : ByteArray) (ht : text.size ≤ 9223372036854775807) :
    Calls Tryz.prog 33 #[.pointer (some ⟨tb, 0, none⟩), .int .i64 a, .string text] w fun e w' => (∃ v, e = .returned v) ∧ (Below w.heap.size w w' ∨ Done w M tb ps us K w') := by
  obtain ⟨t1, a1, hc1⟩ := hE.cell 1 (by decide)
  obtain ⟨t2, a2, hc2⟩ := hE.cell 2 (by decide)
  obtain ⟨t3, a3, hc3⟩ := hE.cell 3 (by decide)
  have l1 : 1 < w.heap.size := World.block_lt_of_cell? w _ hc1
  have l2 : 2 < w.heap.size := World.block_lt_of_cell? w _ hc2
  have l3 : 3 < w.heap.size := World.block_lt_of_cell? w _ hc3
  have l0 : ((w.alloc (.cells #[.pointer (some ⟨tb, 0, none⟩)] 23)).alloc (.cells #[.int .i64 a] 3)).cell? ⟨1, 0, none⟩ = some (Value.iface t1 (Value.pointer (some a1))) := (World.cell?_of_block (a := ⟨1, 0, none⟩) ((Below.heap_alloc _ _ 1 (by simp; omega)).trans (Below.heap_alloc _ _ 1 l1))).trans hc1
  have H : Hid (∀ o1 o2, Lies ((w.alloc o1).alloc o2) M tb nv uv ps us) := fun o1 o2 => (h.alloc o1).alloc o2
  have B0 : Hid (∀ o1 o2, Below w.heap.size w ((w.alloc o1).alloc o2)) := fun o1 o2 => ((Below.refl _ _).alloc (Nat.le_refl _) _).alloc (by simp) _
  cases hb : hasB ps.length a
  · clear h hE hW hF
    go_enter Tryz.func33, Tryz.ntmps33
    go_wp2_with (go_at_call 45; refine (has_any (H.out _ _) _).mono ?_; rintro e w' ⟨rfl, rfl⟩; rw [hb])
    all_goals go_ret
    all_goals exact ⟨⟨_, rfl⟩, .inl (B0.out _ _)⟩
  obtain ⟨i, p, rfl, hp⟩ := hasB_get hb
  have HP : Hid (ps[i]? = some p) := hp
  cases hk : kidsB p.n.kind
  · by_cases hsz : text.size ≤ 20000
    · obtain ⟨nb, nc, rfl, hc, hm, hnM, hnl, hil⟩ := h.form hp
      have hlt : tb < w.heap.size := lt_of_heap h.head
      have c0 := h.cell0
      obtain ⟨c2, c2f⟩ := h.cellN rfl (f := 2) hp (by omega) rfl
      have hS : Hid (∀ o1 o2 o3, Lies ((((w.alloc o1).alloc o2).alloc o3).setCell ⟨nb, i * 6 + 2, none⟩ (.string text)) M tb (.slice (some ⟨nb, 0, none⟩) ps.length nc) uv (ps.set i ⟨{ p.n with words := text }, p.av, p.kv⟩) us ∧ Step (((w.alloc o1).alloc o2).alloc o3) M ((((w.alloc o1).alloc o2).alloc o3).setCell ⟨nb, i * 6 + 2, none⟩ (.string text)) M .nodes) := fun o1 o2 o3 =>
        (((h.alloc o1).alloc o2).alloc o3).setNode rfl (f := 2) (c := .string text) hp (by omega) (p' := ⟨{ p.n with words := text }, p.av, p.kv⟩) rfl ((((h.alloc o1).alloc o2).alloc o3).node i p hp).1 ((((h.alloc o1).alloc o2).alloc o3).node i p hp).2
      have c0' : ∀ o1 o2 o3, (((w.alloc o1).alloc o2).alloc o3).cell? ⟨tb, 0, none⟩ = some (.slice (some ⟨nb, 0, none⟩) ps.length nc) := fun o1 o2 o3 => (((h.alloc o1).alloc o2).alloc o3).cell0
      have c2' : ∀ o1 o2 o3, (((w.alloc o1).alloc o2).alloc o3).cell? ⟨nb, i * 6 + 2, none⟩ = some (.string p.n.words) := fun o1 o2 o3 => ((((h.alloc o1).alloc o2).alloc o3).cellN rfl (f := 2) hp (by omega) rfl).1
      have c2f' : ∀ o1 o2 o3, (((w.alloc o1).alloc o2).alloc o3).frozen? ⟨nb, i * 6 + 2, none⟩ = false := fun o1 o2 o3 => ((((h.alloc o1).alloc o2).alloc o3).cellN rfl (f := 2) hp (by omega) rfl).2
      have HFr : Hid (∀ b, w.heap.size ≤ b → M b = .other) := h.fresh
      have i1 : (0 : Int) ≤ (i : Int) := by omega
      have i2 : (i : Int) < (ps.length : Int) := by omega
      unfold maxLen at hm
      clear h hE hp
      go_enter Tryz.func33, Tryz.ntmps33
      go_wp2_with (first
        | (go_at_call 45; refine (has_any (H.out _ _) _).mono ?_; rintro e w' ⟨rfl, rfl⟩; rw [hb])
        | (go_at_call 53; refine (mayHaveKids_any (H.out _ _) HP.out).mono ?_; rintro e w' ⟨rfl, rfl⟩; rw [hk]))
      go_region
      all_goals go_wp2_with fail
      all_goals go_region
      all_goals go_wp2_with (go_at_call 55; refine (keep_any ((hS.out _ _ _).1.drew.drew) _ _ _ (by omega)).mono ?_; rintro e w3 ⟨rfl, M3, uv3, hL3, hm3⟩)
      all_goals go_ret
      all_goals
        have mv := ((hS.out (.cells #[.pointer (some ⟨tb, 0, none⟩)] 23) (.cells #[.int .i64 i] 3) (.cells #[.string p.n.words] 9)).2.moved (by intro e; cases e)).drew.drew.trans hm3
        refine ⟨⟨_, rfl⟩, .inr ⟨M3, _, uv3, _, _, .say i p.n.words, hL3, ⟨_, _, _, rfl, Cap.moved ⟨HFr.out _ (by omega), ?_⟩ mv, Cap.moved ⟨HFr.out _ (Nat.le_refl _), ?_⟩ mv, Cap.moved ⟨HFr.out _ (by omega), ?_⟩ mv⟩, ?_, ?_, ((((Moved.refl w M).alloc _).alloc _).alloc _).trans mv, ?_⟩⟩
        · exact (cell_three _ _ _ _ _ _ _).2.2
        · exact (cell_three _ _ _ _ _ _ _).1
        · exact (cell_three _ _ _ _ _ _ _).2.1
        · rw [show nodesOf (ps.set i _) = (nodesOf ps).set i _ by rw [nodesOf, List.map_set]; rfl]
          exact hW.turn (nodes_get HP.out) rfl rfl rfl
        · rw [show nodesOf (ps.set i _) = (nodesOf ps).set i _ by rw [nodesOf, List.map_set]; rfl]
          refine ⟨_, List.getElem?_set_self (by simpa [nodesOf] using hil), ?_⟩
          rw [List.set_set]
          exact (set_same (nodes_get HP.out)).symm
        · rw [show nodesOf (ps.set i _) = (nodesOf ps).set i _ by rw [nodesOf, List.map_set]; rfl]
          refine few_set hF ?_
          show p.n.attrs.length ≤ K + 1
          exact Nat.le_succ_of_le (hF i p.n (nodes_get HP.out))
    · clear h hE hW hF hp
      go_enter Tryz.func33, Tryz.ntmps33
      go_wp2_with (first
        | (go_at_call 45; refine (has_any (H.out _ _) _).mono ?_; rintro e w' ⟨rfl, rfl⟩; rw [hb])
        | (go_at_call 53; refine (mayHaveKids_any (H.out _ _) HP.out).mono ?_; rintro e w' ⟨rfl, rfl⟩; rw [hk]))
      all_goals go_ret
      all_goals exact ⟨⟨_, rfl⟩, .inl (B0.out _ _)⟩
  · clear h hE hW hF hp
    go_enter Tryz.func33, Tryz.ntmps33
    go_wp2_with (first
      | (go_at_call 45; refine (has_any (H.out _ _) _).mono ?_; rintro e w' ⟨rfl, rfl⟩; rw [hb])
      | (go_at_call 53; refine (mayHaveKids_any (H.out _ _) HP.out).mono ?_; rintro e w' ⟨rfl, rfl⟩; rw [hk]))
    all_goals go_ret
    all_goals exact ⟨⟨_, rfl⟩, .inl (B0.out _ _)⟩
end Go.Proofs.YtoanbjdifddcoaaGreatDoor
