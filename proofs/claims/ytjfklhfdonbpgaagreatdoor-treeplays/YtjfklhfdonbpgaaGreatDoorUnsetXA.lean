/- What Unset makes of any tree, or which error it tells. -/
import Derived.Test.YtjfklhfdonbpgaaGreatDoorUnsetX
import Derived.Test.YtjfklhfdonbpgaaGreatDoorM26
namespace Go.Proofs.YtjfklhfdonbpgaaGreatDoor
open Go.RowKit

/-- what Unset answers -/
def UnsetX (w : World) (M : Nat → Lab) (tb : Nat) (ps : List Pn) (us : List Value) (a : Int) (name : ByteArray) (e : Ending) (w' : World) : Prop :=
  (hasB ps.length a = false ∧ Told7 w 1 e w') ∨ ∃ (i : Nat) (p : Pn), a = i ∧ ps[i]? = some p ∧
    ((p.n.kind ≠ 2 ∧ Told7 w 2 e w') ∨ (p.n.kind = 2 ∧ findA p.n.attrs name = none ∧ Told7 w 0 e w') ∨
      (p.n.kind = 2 ∧ ∃ k, findA p.n.attrs name = some k ∧ e = .returned .nilIface ∧ DoneX w M tb us (nodesOf ps) ((nodesOf ps).set i { p.n with attrs := p.n.attrs.eraseIdx k }) w'))

set_option maxHeartbeats 4000000 in
set_option maxRecDepth 100000 in
theorem unsetX_any {w : World} {M : Nat → Lab} {tb : Nat} {nv uv : Value} {ps : List Pn} {us : List Value} (h : Lies w M tb nv uv ps us) (hE : Errs w M)  (hu : us.length ≤ 1000000) (a : Int) (name : ByteArray) :
    Calls Tryz.prog 32 #[.pointer (some ⟨tb, 0, none⟩), .int .i64 a, .string name] w (UnsetX w M tb ps us a name) := by
  obtain ⟨tn, an, hcn⟩ := hE.cell 1 (by decide)
  obtain ⟨tp, ap, hcp⟩ := hE.cell 2 (by decide)
  have ln : 1 < w.heap.size := World.block_lt_of_cell? w _ hcn
  have lp : 2 < w.heap.size := World.block_lt_of_cell? w _ hcp
  have W0 : Hid (∀ w', Below w.heap.size w w' → Lies w' M tb nv uv ps us ∧ Errs w' M) := fun w' hb => ⟨h.below hb, hE.below hb⟩
  have B0 : Hid (∀ o1 o2, Below w.heap.size w ((w.alloc o1).alloc o2)) := fun o1 o2 => ((Below.refl _ _).alloc (Nat.le_refl _) _).alloc (by simp) _
  cases hb : hasB ps.length a
  · clear h hE
    go_enter Tryz.func32, Tryz.ntmps32
    go_wp2_with (go_at_call 60; refine (wantX_none (W0.out _ (B0.out _ _)).1 (W0.out _ (B0.out _ _)).2 hb).mono ?_; rintro e w' ⟨⟨v, rfl, ⟨t3, a3, rfl⟩, hcv⟩, rfl⟩; rw [cell_old2 ln] at hcv; have HV : Hid _ := hcv; clear hcv)
    all_goals go_ret
    all_goals exact .inl ⟨hb, ⟨_, rfl, ⟨t3, a3, rfl⟩, HV.out⟩, B0.out _ _⟩
  · obtain ⟨i, p, rfl, hp⟩ := hasB_get hb
    have HP : Hid (ps[i]? = some p) := hp
    by_cases hk : p.n.kind = 2
    · have hfc : findA p.n.attrs name = none ∨ ∃ k, findA p.n.attrs name = some k := by cases findA p.n.attrs name <;> simp
      rcases hfc with hf | ⟨k, hf⟩
      case inr =>
        refine (unsetX_good h hE hp name hk (by omega) hf).mono ?_
        rintro e w' ⟨rfl, hd⟩
        exact .inr ⟨i, p, rfl, hp, .inr (.inr ⟨hk, k, hf, rfl, hd⟩)⟩
      case inl =>
        have HFN : Hid (findA p.n.attrs name = none) := hf
        have hfi : findI p.n.attrs name = -1 := by simp only [findI, hf]
        obtain ⟨t1, a1, hc1⟩ := hE.cell 0 (by decide)
        obtain ⟨nb, nc, rfl, hc, hm, hnM, hnl, hil⟩ := h.form hp
        have hlt : tb < w.heap.size := lt_of_heap h.head
        have c0 := h.cell0
        have hg : 0 < w.heap.size := World.block_lt_of_cell? w _ hc1
        have i1 : (0 : Int) ≤ (i : Int) := by omega
        have i2 : (i : Int) < (ps.length : Int) := by omega
        unfold maxLen at hm
        clear h hE hp hf
        go_enter Tryz.func32, Tryz.ntmps32
        go_wp2_with (go_at_call 60; refine (wantElement_any (W0.out _ (B0.out _ _)).1 (W0.out _ (B0.out _ _)).2 HP.out).mono ?_; rintro e w' ⟨⟨v, rfl, hv⟩, rfl⟩; rw [if_pos hk] at hv; subst hv)
        go_quiet (fail)
        go_wp2_with (go_at_call 61; refine (find_any (W0.out _ (below_drewN (B0.out _ _) _)).1 HP.out name).mono ?_; rintro e w1 ⟨rfl, hB⟩; rw [hfi]
                     have hB1 : Hid (Below w.heap.size w w1) := (below_drewN (B0.out _ _) _).trans (hB.mono (by simp; omega))
                     have d1 := (hB1.out.cell (p := ⟨0, 0, none⟩) hg).trans hc1
                     have l1 := Nat.lt_of_lt_of_le hg hB1.out.size
                     clear hB)
        all_goals go_ret
        all_goals exact .inr ⟨i, p, rfl, HP.out, .inr (.inl ⟨hk, HFN.out, ⟨_, rfl, ⟨t1, a1, rfl⟩, hc1⟩, hB1.out.alloc hB1.out.size _⟩)⟩
    · clear h hE hp
      go_enter Tryz.func32, Tryz.ntmps32
      go_wp2_with (go_at_call 60; refine (wantX_bad (W0.out _ (B0.out _ _)).1 (W0.out _ (B0.out _ _)).2 HP.out hk).mono ?_; rintro e w' ⟨⟨v, rfl, ⟨t3, a3, rfl⟩, hcv⟩, rfl⟩; rw [cell_old2 lp] at hcv; have HV : Hid _ := hcv; clear hcv)
      all_goals go_ret
      all_goals exact .inr ⟨i, p, rfl, HP.out, .inl ⟨hk, ⟨_, rfl, ⟨t3, a3, rfl⟩, HV.out⟩, B0.out _ _⟩⟩
end Go.Proofs.YtjfklhfdonbpgaaGreatDoor
