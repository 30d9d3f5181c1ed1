/- What Set and Unset make of any tree, exactly. -/
import Derived.Test.YtoanbjdifddcoaaGreatDoorPutX
import Derived.Test.YtoanbjdifddcoaaGreatDoorM22
import Derived.Test.YtoanbjdifddcoaaGreatDoorM34
namespace Go.Proofs.YtoanbjdifddcoaaGreatDoor
open Go.RowKit

set_option maxHeartbeats 4000000 in
set_option maxRecDepth 100000 in
theorem unsetX_good {w : World} {M : Nat → Lab} {tb : Nat} {nv uv : Value} {ps : List Pn} {us : List Value} (h : Lies w M tb nv uv ps us) (hE : Errs w M) {i : Nat} {p : Pn} (hp : ps[i]? = some p) (name : ByteArray) (hk : p.n.kind = 2) (hu : us.length ≤ 1099511627776) {k : Nat} (hf : findA p.n.attrs name = some k) :
    Calls Tryz.prog 32 #[.pointer (some ⟨tb, 0, none⟩), .int .i64 i, .string name] w fun e w' => e = .returned .nilIface ∧ DoneX w M tb us (nodesOf ps) ((nodesOf ps).set i { p.n with attrs := p.n.attrs.eraseIdx k }) w' := by
  have hfi : findI p.n.attrs name = k := by simp only [findI, hf]
  have hkl : k < p.n.attrs.length := by
    unfold findA at hf
    rw [List.findIdx?_eq_some_iff_getElem] at hf
    exact hf.1
  obtain ⟨x, hx⟩ : ∃ x, p.n.attrs[k]? = some x := ⟨_, List.getElem?_eq_getElem hkl⟩
  obtain ⟨an, han⟩ : ∃ an, p.n.attrs.length = an + 1 := ⟨p.n.attrs.length - 1, by omega⟩
  obtain ⟨nb, nc, rfl, hc, hm, hnM, hnl, hil⟩ := h.form hp
  obtain ⟨ag, ac, hav, hac1, hac2, hagM, hagl⟩ := (h.node i p hp).1.form (by omega)
  rw [han] at hav hac1
  have hlt : tb < w.heap.size := lt_of_heap h.head
  have c0 := h.cell0
  have W0 : Hid (∀ w', Below w.heap.size w w' → Lies w' M tb (.slice (some ⟨nb, 0, none⟩) ps.length nc) uv ps us ∧ Errs w' M) := fun w' hb => ⟨h.below hb, hE.below hb⟩
  have HP : Hid (ps[i]? = some p) := hp
  have HX : Hid (p.n.attrs[k]? = some x) := hx
  have HN : Hid (p.n.attrs.length = an + 1) := han
  have HF : Hid (∀ b, w.heap.size ≤ b → M b = .other) := h.fresh
  have HLEN : Hid ((p.n.attrs.eraseIdx k).length = an) := by
    show _ = an
    rw [List.length_eraseIdx, if_pos hkl]
    omega
  have hka : k < an + 1 := by omega
  have i1 : (0 : Int) ≤ (i : Int) := by omega
  have i2 : (i : Int) < (ps.length : Int) := by omega
  have i3 : (0 : Int) ≤ (k : Int) := by omega
  have i4 : (k : Int) < (an : Int) + 1 := by omega
  have hwr : IntKind.i64.wrap ((k : Int) + 1) = (k : Int) + 1 := by
    rw [IntKind.wrap_i64]
    unfold maxLen at hac2
    omega
  unfold maxLen at hm hac2
  clear h hE hp hf hx han
  go_enter Tryz.func32, Tryz.ntmps32
  go_wp2_with (go_at_call 60; refine (wantElement_any (W0.out _ (((Below.refl _ _).alloc (Nat.le_refl _) _).alloc (by simp) _)).1 (W0.out _ (((Below.refl _ _).alloc (Nat.le_refl _) _).alloc (by simp) _)).2 HP.out).mono ?_; rintro e w' ⟨⟨v, rfl, hv⟩, rfl⟩; rw [if_pos hk] at hv; subst hv)
  go_quiet (fail)
  go_wp2_with (first
    | (go_at_call 61; refine (find_any (W0.out _ (below_drewN (((Below.refl _ _).alloc (Nat.le_refl _) _).alloc (by simp) _) _)).1 HP.out name).mono ?_; rintro e w1 ⟨rfl, hB⟩; rw [hfi]
       have b0 : w1.cell? ⟨w.heap.size, 0, none⟩ = some (.pointer (some ⟨tb, 0, none⟩)) := (hB.cell (p := ⟨w.heap.size, 0, none⟩) (by simp; omega)).trans (by simp)
       have b1 : w1.cell? ⟨w.heap.size + 1, 0, none⟩ = some (.int .i64 i) := (hB.cell (p := ⟨w.heap.size + 1, 0, none⟩) (by simp)).trans (by simp)
       have hB1 : Hid (Below w.heap.size w w1) := (below_drewN (((Below.refl _ _).alloc (Nat.le_refl _) _).alloc (by simp) _) _).trans (hB.mono (by simp; omega))
       obtain ⟨c3, c3f⟩ := ((W0.out w1 hB1.out).1.cellN rfl (f := 3) HP.out (by omega) rfl)
       rw [hav] at c3
       have cx1 := (((W0.out w1 hB1.out).1.node i p HP.out).1.cell hav (attrCells_get p.n.attrs k x HX.out).1).1
       have cx2 := (((W0.out w1 hB1.out).1.node i p HP.out).1.cell hav (attrCells_get p.n.attrs k x HX.out).2).1
       have l0 : w.heap.size + 1 < w1.heap.size := World.block_lt_of_cell? w1 _ b1
       have l1 : nb < w1.heap.size := World.block_lt_of_cell? w1 _ c3
       have l2 : ag < w1.heap.size := World.block_lt_of_cell? w1 _ cx1
       clear hB))
  go_region
  all_goals go_wp2_with fail
  all_goals go_region_with ((go_at_call 63
                             have HL2 : Hid (Lies _ M tb (.slice (some ⟨nb, 0, none⟩) ps.length nc) uv ps us) := (((W0.out w1 hB1.out).1.alloc (.cells #[.int .i64 k] 3)).alloc (.cells #[.string x.1, .string x.2] 79)).drew.drew
                             have hrw := (HL2.out.node i p HP.out).1
                             rw [hav, HN.out] at hrw
                             refine (deleteA_any hrw k hka HL2.out.fresh).mono ?_
                             rintro e w2 ⟨rfl, hr, st⟩
                             obtain ⟨q1, q2, ⟨u3, q3⟩, q4⟩ := HL2.out.setAttrs rfl HP.out st (av' := .slice (some ⟨ag, 0, none⟩) an ac) (at' := p.n.attrs.eraseIdx k) (by rw [HLEN.out]; exact hr)
                             have mv : Moved w1 M _ M := (((Moved.refl w1 M).alloc (.cells #[.int .i64 k] 3)).alloc (.cells #[.string x.1, .string x.2] 79)).drew.drew.trans q2
                             have d0 := moved_cell mv (HF.out _ (Nat.le_refl _)) b0
                             have HC : Hid (Cap w1 M w.heap.size 0 (at0 tb) ∧ Cap w1 M (w.heap.size + 1) 0 (.int .i64 i) ∧ Cap _ M w1.heap.size 0 (.int .i64 k) ∧ Cap _ M (w1.heap.size + 1) 0 (.string x.1) ∧ Cap _ M (w1.heap.size + 1) 1 (.string x.2)) := ⟨⟨HF.out _ (Nat.le_refl _), b0⟩, ⟨HF.out _ (by omega), b1⟩, ⟨(W0.out w1 hB1.out).1.fresh _ (Nat.le_refl _), moved_cell q2 ((W0.out w1 hB1.out).1.fresh _ (Nat.le_refl _)) (by simp)⟩, ⟨(W0.out w1 hB1.out).1.fresh _ (by omega), moved_cell q2 ((W0.out w1 hB1.out).1.fresh _ (by omega)) (by simp)⟩, ⟨(W0.out w1 hB1.out).1.fresh _ (by omega), moved_cell q2 ((W0.out w1 hB1.out).1.fresh _ (by omega)) (by simp)⟩⟩
                             have HQ : Hid _ := And.intro q1 mv
                             clear q1 q2 hr st hrw mv))
  all_goals go_wp2_with (go_at_call 55; refine (keep_any HQ.out.1 _ _ _ hu).mono ?_; rintro e w3 ⟨rfl, M3, uv3, hL3, hm3⟩)
  all_goals go_ret
  all_goals
    refine ⟨rfl, M3, _, uv3, _, _, .ins i k x, hL3, (by rw [nodesOf, List.map_set]; rfl), ⟨_, _, _, _, rfl, (HC.out.1.moved HQ.out.2).moved hm3, (HC.out.2.1.moved HQ.out.2).moved hm3, HC.out.2.2.1.moved hm3, HC.out.2.2.2.1.moved hm3, HC.out.2.2.2.2.moved hm3⟩, ?_, ((Moved.refl w M).below hB1.out).trans (HQ.out.2.trans hm3), (by have hz1 := hB1.out.size; have hz2 := HQ.out.2.size; intro F xs cs e b hb; cases e; simp at hb hz2; omega)⟩
    refine ⟨_, List.getElem?_set_self (by simpa [nodesOf] using hil), by rw [HLEN.out]; omega, ?_⟩
    rw [List.set_set]
    simp only [ins_back HX.out]
    exact (set_same (nodes_get HP.out)).symm

end Go.Proofs.YtoanbjdifddcoaaGreatDoor

/- What Unset makes of any tree, or which error it tells. -/
namespace Go.Proofs.YtoanbjdifddcoaaGreatDoor
open Go.RowKit

/-- what Unset answers -/
def UnsetX (w : World) (M : Nat → Lab) (tb : Nat) (ps : List Pn) (us : List Value) (a : Int) (name : ByteArray) (e : Ending) (w' : World) : Prop :=
  (hasB ps.length a = false ∧ Told7 w 1 e w') ∨ ∃ (i : Nat) (p : Pn), a = i ∧ ps[i]? = some p ∧
    ((p.n.kind ≠ 2 ∧ Told7 w 2 e w') ∨ (p.n.kind = 2 ∧ findA p.n.attrs name = none ∧ Told7 w 0 e w') ∨
      (p.n.kind = 2 ∧ ∃ k, findA p.n.attrs name = some k ∧ e = .returned .nilIface ∧ DoneX w M tb us (nodesOf ps) ((nodesOf ps).set i { p.n with attrs := p.n.attrs.eraseIdx k }) w'))

set_option maxHeartbeats 4000000 in
set_option maxRecDepth 100000 in
theorem unsetX_any {w : World} {M : Nat → Lab} {tb : Nat} {nv uv : Value} {ps : List Pn} {us : List Value} (h : Lies w M tb nv uv ps us) (hE : Errs w M)  (hu : us.length ≤ 1000000) (a : Int) (name : ByteArray) :
    Calls Tryz.prog 32 #[.pointer (some ⟨tb, 0, none⟩), .int .i64 a, .string name] w (UnsetX w M tb ps us a name) := by
  obtain ⟨tn, an, hcn⟩ := hE.cell 1 (by decide)
  obtain ⟨tp, ap, hcp⟩ := hE.cell 2 (by decide)
  have ln : 1 < w.heap.size := World.block_lt_of_cell? w _ hcn
  have lp : 2 < w.heap.size := World.block_lt_of_cell? w _ hcp
  have W0 : Hid (∀ w', Below w.heap.size w w' → Lies w' M tb nv uv ps us ∧ Errs w' M) := fun w' hb => ⟨h.below hb, hE.below hb⟩
  have B0 : Hid (∀ o1 o2, Below w.heap.size w ((w.alloc o1).alloc o2)) := fun o1 o2 => ((Below.refl _ _).alloc (Nat.le_refl _) _).alloc (by simp) _
  cases hb : hasB ps.length a
  · clear h hE
    go_enter Tryz.func32, Tryz.ntmps32
    go_wp2_with (go_at_call 60; refine (wantX_none (W0.out _ (B0.out _ _)).1 (W0.out _ (B0.out _ _)).2 hb).mono ?_; rintro e w' ⟨⟨v, rfl, ⟨t3, a3, rfl⟩, hcv⟩, rfl⟩; rw [cell_old2 ln] at hcv; have HV : Hid _ := hcv; clear hcv)
    all_goals go_ret
    all_goals exact .inl ⟨hb, ⟨_, rfl, ⟨t3, a3, rfl⟩, HV.out⟩, B0.out _ _⟩
  · obtain ⟨i, p, rfl, hp⟩ := hasB_get hb
    have HP : Hid (ps[i]? = some p) := hp
    by_cases hk : p.n.kind = 2
    · have hfc : findA p.n.attrs name = none ∨ ∃ k, findA p.n.attrs name = some k := by cases findA p.n.attrs name <;> simp
      rcases hfc with hf | ⟨k, hf⟩
      case inr =>
        refine (unsetX_good h hE hp name hk (by omega) hf).mono ?_
        rintro e w' ⟨rfl, hd⟩
        exact .inr ⟨i, p, rfl, hp, .inr (.inr ⟨hk, k, hf, rfl, hd⟩)⟩
      case inl =>
        have HFN : Hid (findA p.n.attrs name = none) := hf
        have hfi : findI p.n.attrs name = -1 := by simp only [findI, hf]
        obtain ⟨t1, a1, hc1⟩ := hE.cell 0 (by decide)
        obtain ⟨nb, nc, rfl, hc, hm, hnM, hnl, hil⟩ := h.form hp
        have hlt : tb < w.heap.size := lt_of_heap h.head
        have c0 := h.cell0
        have hg : 0 < w.heap.size := World.block_lt_of_cell? w _ hc1
        have i1 : (0 : Int) ≤ (i : Int) := by omega
        have i2 : (i : Int) < (ps.length : Int) := by omega
        unfold maxLen at hm
        clear h hE hp hf
        go_enter Tryz.func32, Tryz.ntmps32
        go_wp2_with (go_at_call 60; refine (wantElement_any (W0.out _ (B0.out _ _)).1 (W0.out _ (B0.out _ _)).2 HP.out).mono ?_; rintro e w' ⟨⟨v, rfl, hv⟩, rfl⟩; rw [if_pos hk] at hv; subst hv)
        go_quiet (fail)
        go_wp2_with (go_at_call 61; refine (find_any (W0.out _ (below_drewN (B0.out _ _) _)).1 HP.out name).mono ?_; rintro e w1 ⟨rfl, hB⟩; rw [hfi]
                     have hB1 : Hid (Below w.heap.size w w1) := (below_drewN (B0.out _ _) _).trans (hB.mono (by simp; omega))
                     have d1 := (hB1.out.cell (p := ⟨0, 0, none⟩) hg).trans hc1
                     have l1 := Nat.lt_of_lt_of_le hg hB1.out.size
                     clear hB)
        all_goals go_ret
        all_goals exact .inr ⟨i, p, rfl, HP.out, .inr (.inl ⟨hk, HFN.out, ⟨_, rfl, ⟨t1, a1, rfl⟩, hc1⟩, hB1.out.alloc hB1.out.size _⟩)⟩
    · clear h hE hp
      go_enter Tryz.func32, Tryz.ntmps32
      go_wp2_with (go_at_call 60; refine (wantX_bad (W0.out _ (B0.out _ _)).1 (W0.out _ (B0.out _ _)).2 HP.out hk).mono ?_; rintro e w' ⟨⟨v, rfl, ⟨t3, a3, rfl⟩, hcv⟩, rfl⟩; rw [cell_old2 lp] at hcv; have HV : Hid _ := hcv; clear hcv)
      all_goals go_ret
      all_goals exact .inr ⟨i, p, rfl, HP.out, .inl ⟨hk, ⟨_, rfl, ⟨t3, a3, rfl⟩, HV.out⟩, B0.out _ _⟩⟩
end Go.Proofs.YtoanbjdifddcoaaGreatDoor
