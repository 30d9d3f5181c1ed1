/- An attribute that was taken is put back. -/
import Derived.Test.YtjfklhfdonbpgaaGreatDoorM14
import Derived.Deep.RegionHeld3
namespace Go.Proofs.YtjfklhfdonbpgaaGreatDoor
open Go.RowKit

set_option maxHeartbeats 4000000 in
set_option maxRecDepth 100000 in
theorem unset1_any {w : World} {M : Nat → Lab} {tb : Nat} {nv uv : Value} {ps : List Pn} {us : List Value} (h : Lies w M tb nv uv ps us) {i k : Nat} {p : Pn} (hp : ps[i]? = some p) {x : ByteArray × ByteArray} (hk : k ≤ p.n.attrs.length) (hf : p.n.attrs.length ≤ 1099511627776) {b1 b2 b3 b4 : Nat} (k1 : Cap w M b1 0 (at0 tb)) (k2 : Cap w M b2 0 (.int .i64 i)) (k3 : Cap w M b3 0 (.int .i64 k)) (k4 : Cap w M b4 0 (.string x.1)) (k5 : Cap w M b4 1 (.string x.2)) :
    Calls Tryz.prog 65 #[.pointer (some ⟨b1, 0, none⟩), .pointer (some ⟨b2, 0, none⟩), .pointer (some ⟨b3, 0, none⟩), .pointer (some ⟨b4, 0, none⟩)] w (Ran w M tb us ((nodesOf ps).set i { p.n with attrs := p.n.attrs.take k ++ x :: p.n.attrs.drop k })) := by
  obtain ⟨nb, nc, rfl, hc, hm, hnM, hnl, hil⟩ := h.form hp
  obtain ⟨aa, ac, hav, hac1, hac2⟩ := (h.node i p hp).1.shape
  have c0 := h.cell0
  obtain ⟨c3, c3f⟩ := h.cellN rfl (f := 3) hp (by omega) rfl
  rw [hav] at c3
  have H : Hid (Lies w M tb (.slice (some ⟨nb, 0, none⟩) ps.length nc) uv ps us) := h
  have HP : Hid (ps[i]? = some p) := hp
  have hlt : tb < w.heap.size := lt_of_heap h.head
  have j1 := k1.2
  have j2 := k2.2
  have j3 := k3.2
  have j4 := k4.2
  have j5 := k5.2
  have l1 : b1 < w.heap.size := World.block_lt_of_cell? w _ j1
  have l2 : b2 < w.heap.size := World.block_lt_of_cell? w _ j2
  have l3 : b3 < w.heap.size := World.block_lt_of_cell? w _ j3
  have l4 : b4 < w.heap.size := World.block_lt_of_cell? w _ j4
  have HK : Hid (M b1 = .other ∧ M b2 = .other ∧ M b3 = .other ∧ M b4 = .other) := ⟨k1.1, k2.1, k3.1, k4.1⟩
  have hlen : (p.n.attrs.take k ++ x :: p.n.attrs.drop k).length = p.n.attrs.length + 1 := by simp; omega
  unfold at0 at j1
  have i1 : (0 : Int) ≤ (i : Int) := by omega
  have i2 : (i : Int) < (ps.length : Int) := by omega
  unfold maxLen at hm hac2
  clear h hp k1 k2 k3 k4 k5
  go_enter Tryz.func65, Tryz.ntmps65
  go_wp2_with fail
  refine wp_region_held_drew (S := (fun wx => wx.cell? ⟨b1, 0, none⟩ = some (.pointer (some ⟨tb, 0, none⟩)) ∧ wx.cell? ⟨b2, 0, none⟩ = some (.int .i64 i) ∧ wx.cell? ⟨b3, 0, none⟩ = some (.int .i64 k) ∧ wx.cell? ⟨b4, 0, none⟩ = some (.string x.1) ∧ wx.cell? ⟨b4, 1, none⟩ = some (.string x.2) ∧ wx.cell? ⟨tb, 0, none⟩ = some (.slice (some ⟨nb, 0, none⟩) ps.length nc))) (by kernel_rfl) ?_ (fun hHeld => ?_)
  · (try dsimp only)
    go_keep
  refine wpAnyH_take (i := 0) (v := ?_) rfl (by kernel_rfl) (by kernel_rfl) (by kernel_rfl) (fun _ _ _ h => h) (Or.inl ⟨by rfl, ?_⟩) (by assumption) ?_
  rotate_left
  · intro wy hSw
    (try dsimp only at hSw)
    go_simp
    with_reducible rfl
  simp only [Act.put]
  refine wpAnyH_take (i := 1) (v := ?_) rfl (by kernel_rfl) (by kernel_rfl) (by kernel_rfl) (fun _ _ _ h => h) (Or.inl ⟨by rfl, ?_⟩) (by assumption) ?_
  rotate_left
  · intro wy hSw
    (try dsimp only at hSw)
    go_simp
    with_reducible rfl
  simp only [Act.put]
  refine wpAnyH_take (i := 2) (v := ?_) rfl (by kernel_rfl) (by kernel_rfl) (by kernel_rfl) (fun _ _ _ h => h) (Or.inl ⟨by rfl, ?_⟩) (by assumption) ?_
  rotate_left
  · intro wy hSw
    (try dsimp only at hSw)
    go_simp
    with_reducible rfl
  simp only [Act.put]
  refine wpAnyH_take (i := 3) (v := ?_) rfl (by kernel_rfl) (by kernel_rfl) (by kernel_rfl) (fun _ _ _ h => h) (Or.inl ⟨by rfl, ?_⟩) (by assumption) ?_
  rotate_left
  · intro wy hSw
    (try dsimp only at hSw)
    go_simp
    with_reducible rfl
  simp only [Act.put]
  refine wpAnyH_take (i := 4) (v := ?_) rfl (by kernel_rfl) (by kernel_rfl) (by kernel_rfl) (fun _ _ _ h => h) (Or.inl ⟨by rfl, ?_⟩) (by assumption) ?_
  rotate_left
  · intro wy hSw
    (try dsimp only at hSw)
    go_simp
    with_reducible rfl
  simp only [Act.put]
  refine wpAnyH_take (i := 5) (v := ?_) rfl (by kernel_rfl) (by kernel_rfl) (by kernel_rfl) (fun _ _ _ h => h) (Or.inl ⟨by rfl, ?_⟩) (by assumption) ?_
  rotate_left
  · intro wy hSw
    (try dsimp only at hSw)
    go_simp
    with_reducible rfl
  simp only [Act.put]
  refine wpAnyH_take (i := 6) (v := ?_) rfl (by kernel_rfl) (by kernel_rfl) (by kernel_rfl) (fun _ _ _ h => h) (Or.inl ⟨by rfl, ?_⟩) (by assumption) ?_
  rotate_left
  · intro wy hSw
    (try dsimp only at hSw)
    go_simp
    with_reducible rfl
  simp only [Act.put]
  refine wpAnyH_take (i := 7) (v := ?_) rfl (by kernel_rfl) (by kernel_rfl) (by kernel_rfl) (fun _ _ _ h => h) (Or.inl ⟨by rfl, ?_⟩) (by assumption) ?_
  rotate_left
  · intro wy hSw
    (try dsimp only at hSw)
    go_simp
    with_reducible rfl
  simp only [Act.put]
  refine wpAnyH_take (i := 8) (v := ?_) rfl (by kernel_rfl) (by kernel_rfl) (by kernel_rfl) (fun _ _ _ h => h) (Or.inl ⟨by rfl, ?_⟩) (by assumption) ?_
  rotate_left
  · intro wy hSw
    (try dsimp only at hSw)
    go_simp
    with_reducible rfl
  simp only [Act.put]
  refine wpAnyH_take (i := 9) (v := ?_) rfl (by kernel_rfl) (by kernel_rfl) (by kernel_rfl) (fun _ _ _ h => h) (Or.inl ⟨by rfl, ?_⟩) (by assumption) ?_
  rotate_left
  · intro wy hSw
    (try dsimp only at hSw)
    go_simp
    with_reducible rfl
  simp only [Act.put]
  refine wpAnyH_take (i := 10) (v := ?_) rfl (by kernel_rfl) (by kernel_rfl) (by kernel_rfl) (fun _ _ _ h => h) (Or.inl ⟨by rfl, ?_⟩) (by assumption) ?_
  rotate_left
  · intro wy hSw
    (try dsimp only at hSw)
    go_simp
    with_reducible rfl
  simp only [Act.put]
  refine wpAnyH_take (i := 11) (v := ?_) rfl (by kernel_rfl) (by kernel_rfl) (by kernel_rfl) (fun _ _ _ h => h) (Or.inl ⟨by rfl, ?_⟩) (by assumption) ?_
  rotate_left
  · intro wy hSw
    (try dsimp only at hSw)
    go_simp
    with_reducible rfl
  simp only [Act.put]
  refine wpAnyH_take (i := 13) (v := ?_) rfl (by kernel_rfl) (by kernel_rfl) (by kernel_rfl) (fun _ _ _ h => h) (Or.inl ⟨by rfl, ?_⟩) (by assumption) ?_
  rotate_left
  · intro wy hSw
    (try dsimp only at hSw)
    go_simp
    with_reducible rfl
  simp only [Act.put]
  refine wpAnyH_take (i := 14) (v := ?_) rfl (by kernel_rfl) (by kernel_rfl) (by kernel_rfl) (fun _ _ _ h => h) (Or.inl ⟨by rfl, ?_⟩) (by assumption) ?_
  rotate_left
  · intro wy hSw
    (try dsimp only at hSw)
    go_simp
    with_reducible rfl
  simp only [Act.put]
  refine wpAnyH_ready (rs := [12, 15]) (by kernel_rfl) (by simp) ?_
  refine AllReadyH.cons rfl (fun K hK => ?_) ?_
  · go_simp
    refine hK.out _ _ ?_ (fun hHeld => ?_)
    · (try dsimp only)
      go_keep
    clear hK K
    refine wpAnyH_ready (rs := [15]) (by kernel_rfl) (by simp) ?_
    refine AllReadyH.cons rfl (fun K hK => ?_) ?_
    · go_simp
      refine hK.out _ _ ?_ (fun hHeld => ?_)
      · (try dsimp only)
        go_keep
      clear hK K
      refine wpAnyH_ready (rs := [16]) (by kernel_rfl) (by simp) ?_
      refine AllReadyH.cons rfl (fun K hK => ?_) ?_
      · go_simp
        have HL2 : Hid (Lies (w.alloc (.cells #[.string x.1, .string x.2] 79)).drew M tb (.slice (some ⟨nb, 0, none⟩) ps.length nc) uv ps us) := (H.out.alloc (.cells #[.string x.1, .string x.2] 79)).drew
        have hrw := (HL2.out.node i p HP.out).1
        rw [hav] at hrw
        refine (insertA_any hrw hf HL2.out.fresh k hk w.heap.size x (heap_alloc_new w _) (by rw [H.out.fresh _ (Nat.le_refl _)]; intro e; cases e)).mono ?_
        rintro e w2 ⟨g, cap1, rfl, M2, hr, st⟩
        obtain ⟨q1, q2, ⟨u3, q3⟩, q4⟩ := HL2.out.setAttrs rfl HP.out st (av' := .slice (some ⟨g, 0, none⟩) (p.n.attrs.length + 1) cap1) (at' := p.n.attrs.take k ++ x :: p.n.attrs.drop k) (by rw [hlen]; exact hr)
        have mv : Moved w M _ M2 := (((Moved.refl w M).alloc (.cells #[.string x.1, .string x.2] 79)).drew.trans q2)
        have mw : Moved w M w2 M2 := (((Moved.refl w M).alloc (.cells #[.string x.1, .string x.2] 79)).drew.trans (st.moved (by intro e; cases e)))
        have e1 := moved_cell mw HK.out.1 j1
        have e2 := moved_cell mw HK.out.2.1 j2
        have e3 := moved_cell mw HK.out.2.2.1 j3
        have e4 := moved_cell mw HK.out.2.2.2 j4
        have e5 := moved_cell mw HK.out.2.2.2 j5
        have e0 : w2.cell? ⟨tb, 0, none⟩ = some (.slice (some ⟨nb, 0, none⟩) ps.length nc) := (head_cell ((st.far tb (lt_of_heap HL2.out.head) (by rw [HL2.out.tree]; intro e; cases e)).trans HL2.out.head)).1
        have HQ : Hid _ := And.intro q1 mv
        clear q1 q2 hr st hrw mv mw
        dsimp only
        refine hK.out _ _ ?_ (fun hHeld => ?_)
        · (try dsimp only)
          go_keep
        clear hK K
        refine wpAnyH_take (i := 17) (v := ?_) rfl (by kernel_rfl) (by kernel_rfl) (by kernel_rfl) (fun _ _ _ h => h) (Or.inl ⟨by rfl, ?_⟩) (by assumption) ?_
        rotate_left
        · intro wy hSw
          (try dsimp only at hSw)
          go_simp
          with_reducible rfl
        simp only [Act.put]
        refine wpAnyH_take (i := 18) (v := ?_) rfl (by kernel_rfl) (by kernel_rfl) (by kernel_rfl) (fun _ _ _ h => h) (Or.inl ⟨by rfl, ?_⟩) (by assumption) ?_
        rotate_left
        · intro wy hSw
          (try dsimp only at hSw)
          go_simp
          with_reducible rfl
        simp only [Act.put]
        refine wpAnyH_ready (rs := [19]) (by kernel_rfl) (by simp) ?_
        refine AllReadyH.cons rfl (fun K hK => ?_) ?_
        · go_simp
          refine hK.out _ _ ?_ (fun hHeld => ?_)
          · (try dsimp only)
            exact ⟨moved_cell HQ.out.2 HK.out.1 j1, moved_cell HQ.out.2 HK.out.2.1 j2, moved_cell HQ.out.2 HK.out.2.2.1 j3, moved_cell HQ.out.2 HK.out.2.2.2 j4, moved_cell HQ.out.2 HK.out.2.2.2 j5, HQ.out.1.cell0⟩
          clear hK K
          refine wpAnyH_done (by kernel_rfl) ?_ _
          go_wp2
          go_end0
          exact ⟨rfl, M2, _, _, _, HQ.out.1, set_nodes, HQ.out.2⟩
        exact AllReadyH.nil
      exact AllReadyH.nil
    exact AllReadyH.nil
  refine AllReadyH.cons rfl (fun K hK => ?_) ?_
  · go_simp
    refine hK.out _ _ ?_ (fun hHeld => ?_)
    · (try dsimp only)
      go_keep
    clear hK K
    refine wpAnyH_ready (rs := [12]) (by kernel_rfl) (by simp) ?_
    refine AllReadyH.cons rfl (fun K hK => ?_) ?_
    · go_simp
      refine hK.out _ _ ?_ (fun hHeld => ?_)
      · (try dsimp only)
        go_keep
      clear hK K
      refine wpAnyH_ready (rs := [16]) (by kernel_rfl) (by simp) ?_
      refine AllReadyH.cons rfl (fun K hK => ?_) ?_
      · go_simp
        have HL2 : Hid (Lies (w.alloc (.cells #[.string x.1, .string x.2] 79)).drew M tb (.slice (some ⟨nb, 0, none⟩) ps.length nc) uv ps us) := (H.out.alloc (.cells #[.string x.1, .string x.2] 79)).drew
        have hrw := (HL2.out.node i p HP.out).1
        rw [hav] at hrw
        refine (insertA_any hrw hf HL2.out.fresh k hk w.heap.size x (heap_alloc_new w _) (by rw [H.out.fresh _ (Nat.le_refl _)]; intro e; cases e)).mono ?_
        rintro e w2 ⟨g, cap1, rfl, M2, hr, st⟩
        obtain ⟨q1, q2, ⟨u3, q3⟩, q4⟩ := HL2.out.setAttrs rfl HP.out st (av' := .slice (some ⟨g, 0, none⟩) (p.n.attrs.length + 1) cap1) (at' := p.n.attrs.take k ++ x :: p.n.attrs.drop k) (by rw [hlen]; exact hr)
        have mv : Moved w M _ M2 := (((Moved.refl w M).alloc (.cells #[.string x.1, .string x.2] 79)).drew.trans q2)
        have mw : Moved w M w2 M2 := (((Moved.refl w M).alloc (.cells #[.string x.1, .string x.2] 79)).drew.trans (st.moved (by intro e; cases e)))
        have e1 := moved_cell mw HK.out.1 j1
        have e2 := moved_cell mw HK.out.2.1 j2
        have e3 := moved_cell mw HK.out.2.2.1 j3
        have e4 := moved_cell mw HK.out.2.2.2 j4
        have e5 := moved_cell mw HK.out.2.2.2 j5
        have e0 : w2.cell? ⟨tb, 0, none⟩ = some (.slice (some ⟨nb, 0, none⟩) ps.length nc) := (head_cell ((st.far tb (lt_of_heap HL2.out.head) (by rw [HL2.out.tree]; intro e; cases e)).trans HL2.out.head)).1
        have HQ : Hid _ := And.intro q1 mv
        clear q1 q2 hr st hrw mv mw
        dsimp only
        refine hK.out _ _ ?_ (fun hHeld => ?_)
        · (try dsimp only)
          go_keep
        clear hK K
        refine wpAnyH_take (i := 17) (v := ?_) rfl (by kernel_rfl) (by kernel_rfl) (by kernel_rfl) (fun _ _ _ h => h) (Or.inl ⟨by rfl, ?_⟩) (by assumption) ?_
        rotate_left
        · intro wy hSw
          (try dsimp only at hSw)
          go_simp
          with_reducible rfl
        simp only [Act.put]
        refine wpAnyH_take (i := 18) (v := ?_) rfl (by kernel_rfl) (by kernel_rfl) (by kernel_rfl) (fun _ _ _ h => h) (Or.inl ⟨by rfl, ?_⟩) (by assumption) ?_
        rotate_left
        · intro wy hSw
          (try dsimp only at hSw)
          go_simp
          with_reducible rfl
        simp only [Act.put]
        refine wpAnyH_ready (rs := [19]) (by kernel_rfl) (by simp) ?_
        refine AllReadyH.cons rfl (fun K hK => ?_) ?_
        · go_simp
          refine hK.out _ _ ?_ (fun hHeld => ?_)
          · (try dsimp only)
            exact ⟨moved_cell HQ.out.2 HK.out.1 j1, moved_cell HQ.out.2 HK.out.2.1 j2, moved_cell HQ.out.2 HK.out.2.2.1 j3, moved_cell HQ.out.2 HK.out.2.2.2 j4, moved_cell HQ.out.2 HK.out.2.2.2 j5, HQ.out.1.cell0⟩
          clear hK K
          refine wpAnyH_done (by kernel_rfl) ?_ _
          go_wp2
          go_end0
          exact ⟨rfl, M2, _, _, _, HQ.out.1, set_nodes, HQ.out.2⟩
        exact AllReadyH.nil
      exact AllReadyH.nil
    exact AllReadyH.nil
  exact AllReadyH.nil
end Go.Proofs.YtjfklhfdonbpgaaGreatDoor
