/- Undo: whatever is kept. -/
import Derived.Test.YtoanbjdifddcoaaGreatDoorUndo1
import Derived.Test.YtoanbjdifddcoaaGreatDoorM23
import Derived.Deep.RegionHeld3
namespace Go.Proofs.YtoanbjdifddcoaaGreatDoor
open Go.RowKit

set_option maxHeartbeats 1000000 in
theorem undo_none {w : World} {M : Nat → Lab} {tb : Nat} {nv uv : Value} {ps : List Pn} (h : Lies w M tb nv uv ps []) :
    Calls Tryz.prog 38 #[.pointer (some ⟨tb, 0, none⟩)] w fun e w' => e = .returned (.bool false) ∧ w' = w := by
  obtain ⟨a, cap, hv, hc, hm⟩ := h.undos.shape
  have c1 := h.cell1
  rw [hv] at c1
  clear h
  go_enter Tryz.func38, Tryz.ntmps38
  go_wp2
  go_ret
  exact ⟨rfl, rfl⟩

/-- the last one is taken off, and called -/
def UPost (w : World) (M : Nat → Lab) (tb : Nat) (us : List Value) (ns' : List Nd) (e : Ending) (w' : World) : Prop :=
  e = .returned (.bool true) ∧ ∃ M' nv' uv' ps', Lies w' M' tb nv' uv' ps' us ∧ nodesOf ps' = ns' ∧ Moved w M w' M'

set_option maxHeartbeats 2000000 in
set_option maxRecDepth 100000 in
theorem undo_move_call {w : World} {M : Nat → Lab} {tb : Nat} {nv uv : Value} {ps : List Pn} {us : List Value} {ca : Array Value} {ns' : List Nd} (h : Lies w M tb nv uv ps (us ++ [.func (.func 80) #[] ca]))
    (hc : ∀ w1 uv1, Lies w1 M tb nv uv1 ps us → Moved w M w1 M → Calls Tryz.prog 80 ca w1 (Ran w1 M tb us ns')) :
    Calls Tryz.prog 38 #[.pointer (some ⟨tb, 0, none⟩)] w (UPost w M tb us ns') := by
  have hul : (us ++ [Value.func (.func 80) #[] ca]).length = us.length + 1 := by simp
  have hur := h.undos
  rw [hul] at hur
  obtain ⟨ub, uc, rfl, huc, hum, huM, hulb⟩ := hur.form (by omega)
  have c1 := h.cell1
  obtain ⟨cu1, cu2⟩ := (hur.cell rfl (j := us.length) (u := .func (.func 80) #[] ca) (by simp))
  unfold maxLen at hum
  obtain ⟨q1, q2, d1, d2⟩ := h.pop
  have HC : Hid (Calls Tryz.prog 80 ca _ (Ran _ M tb us ns')) := hc _ _ q1 q2
  have H : Hid _ := q2
  clear h hur q1 q2 hc
  go_enter Tryz.func38, Tryz.ntmps38
  go_wp2_with (go_at_call 80; refine HC.out.mono ?_; rintro e w1 ⟨rfl, M1, nv1, uv1, ps1, hL1, hn1, hm1⟩)
  go_ret
  exact ⟨rfl, M1, nv1, uv1, ps1, hL1, hn1, H.out.trans hm1⟩
set_option maxHeartbeats 2000000 in
set_option maxRecDepth 100000 in
theorem undo_cut_call {w : World} {M : Nat → Lab} {tb : Nat} {nv uv : Value} {ps : List Pn} {us : List Value} {ca : Array Value} {ns' : List Nd} (h : Lies w M tb nv uv ps (us ++ [.func (.func 62) #[] ca]))
    (hc : ∀ w1 uv1, Lies w1 M tb nv uv1 ps us → Moved w M w1 M → Calls Tryz.prog 62 ca w1 (Ran w1 M tb us ns')) :
    Calls Tryz.prog 38 #[.pointer (some ⟨tb, 0, none⟩)] w (UPost w M tb us ns') := by
  have hul : (us ++ [Value.func (.func 62) #[] ca]).length = us.length + 1 := by simp
  have hur := h.undos
  rw [hul] at hur
  obtain ⟨ub, uc, rfl, huc, hum, huM, hulb⟩ := hur.form (by omega)
  have c1 := h.cell1
  obtain ⟨cu1, cu2⟩ := (hur.cell rfl (j := us.length) (u := .func (.func 62) #[] ca) (by simp))
  unfold maxLen at hum
  obtain ⟨q1, q2, d1, d2⟩ := h.pop
  have HC : Hid (Calls Tryz.prog 62 ca _ (Ran _ M tb us ns')) := hc _ _ q1 q2
  have H : Hid _ := q2
  clear h hur q1 q2 hc
  go_enter Tryz.func38, Tryz.ntmps38
  go_wp2_with (go_at_call 62; refine HC.out.mono ?_; rintro e w1 ⟨rfl, M1, nv1, uv1, ps1, hL1, hn1, hm1⟩)
  go_ret
  exact ⟨rfl, M1, nv1, uv1, ps1, hL1, hn1, H.out.trans hm1⟩
set_option maxHeartbeats 2000000 in
set_option maxRecDepth 100000 in
theorem undo_back_call {w : World} {M : Nat → Lab} {tb : Nat} {nv uv : Value} {ps : List Pn} {us : List Value} {ca : Array Value} {ns' : List Nd} (h : Lies w M tb nv uv ps (us ++ [.func (.func 64) #[] ca]))
    (hc : ∀ w1 uv1, Lies w1 M tb nv uv1 ps us → Moved w M w1 M → Calls Tryz.prog 64 ca w1 (Ran w1 M tb us ns')) :
    Calls Tryz.prog 38 #[.pointer (some ⟨tb, 0, none⟩)] w (UPost w M tb us ns') := by
  have hul : (us ++ [Value.func (.func 64) #[] ca]).length = us.length + 1 := by simp
  have hur := h.undos
  rw [hul] at hur
  obtain ⟨ub, uc, rfl, huc, hum, huM, hulb⟩ := hur.form (by omega)
  have c1 := h.cell1
  obtain ⟨cu1, cu2⟩ := (hur.cell rfl (j := us.length) (u := .func (.func 64) #[] ca) (by simp))
  unfold maxLen at hum
  obtain ⟨q1, q2, d1, d2⟩ := h.pop
  have HC : Hid (Calls Tryz.prog 64 ca _ (Ran _ M tb us ns')) := hc _ _ q1 q2
  have H : Hid _ := q2
  clear h hur q1 q2 hc
  go_enter Tryz.func38, Tryz.ntmps38
  go_wp2_with (go_at_call 64; refine HC.out.mono ?_; rintro e w1 ⟨rfl, M1, nv1, uv1, ps1, hL1, hn1, hm1⟩)
  go_ret
  exact ⟨rfl, M1, nv1, uv1, ps1, hL1, hn1, H.out.trans hm1⟩
set_option maxHeartbeats 2000000 in
set_option maxRecDepth 100000 in
theorem undo_ins_call {w : World} {M : Nat → Lab} {tb : Nat} {nv uv : Value} {ps : List Pn} {us : List Value} {ca : Array Value} {ns' : List Nd} (h : Lies w M tb nv uv ps (us ++ [.func (.func 65) #[] ca]))
    (hc : ∀ w1 uv1, Lies w1 M tb nv uv1 ps us → Moved w M w1 M → Calls Tryz.prog 65 ca w1 (Ran w1 M tb us ns')) :
    Calls Tryz.prog 38 #[.pointer (some ⟨tb, 0, none⟩)] w (UPost w M tb us ns') := by
  have hul : (us ++ [Value.func (.func 65) #[] ca]).length = us.length + 1 := by simp
  have hur := h.undos
  rw [hul] at hur
  obtain ⟨ub, uc, rfl, huc, hum, huM, hulb⟩ := hur.form (by omega)
  have c1 := h.cell1
  obtain ⟨cu1, cu2⟩ := (hur.cell rfl (j := us.length) (u := .func (.func 65) #[] ca) (by simp))
  unfold maxLen at hum
  obtain ⟨q1, q2, d1, d2⟩ := h.pop
  have HC : Hid (Calls Tryz.prog 65 ca _ (Ran _ M tb us ns')) := hc _ _ q1 q2
  have H : Hid _ := q2
  clear h hur q1 q2 hc
  go_enter Tryz.func38, Tryz.ntmps38
  go_wp2_with (go_at_call 65; refine HC.out.mono ?_; rintro e w1 ⟨rfl, M1, nv1, uv1, ps1, hL1, hn1, hm1⟩)
  go_ret
  exact ⟨rfl, M1, nv1, uv1, ps1, hL1, hn1, H.out.trans hm1⟩
set_option maxHeartbeats 2000000 in
set_option maxRecDepth 100000 in
theorem undo_say_call {w : World} {M : Nat → Lab} {tb : Nat} {nv uv : Value} {ps : List Pn} {us : List Value} {ca : Array Value} {ns' : List Nd} (h : Lies w M tb nv uv ps (us ++ [.func (.func 67) #[] ca]))
    (hc : ∀ w1 uv1, Lies w1 M tb nv uv1 ps us → Moved w M w1 M → Calls Tryz.prog 67 ca w1 (Ran w1 M tb us ns')) :
    Calls Tryz.prog 38 #[.pointer (some ⟨tb, 0, none⟩)] w (UPost w M tb us ns') := by
  have hul : (us ++ [Value.func (.func 67) #[] ca]).length = us.length + 1 := by simp
  have hur := h.undos
  rw [hul] at hur
  obtain ⟨ub, uc, rfl, huc, hum, huM, hulb⟩ := hur.form (by omega)
  have c1 := h.cell1
  obtain ⟨cu1, cu2⟩ := (hur.cell rfl (j := us.length) (u := .func (.func 67) #[] ca) (by simp))
  unfold maxLen at hum
  obtain ⟨q1, q2, d1, d2⟩ := h.pop
  have HC : Hid (Calls Tryz.prog 67 ca _ (Ran _ M tb us ns')) := hc _ _ q1 q2
  have H : Hid _ := q2
  clear h hur q1 q2 hc
  go_enter Tryz.func38, Tryz.ntmps38
  go_wp2_with (go_at_call 67; refine HC.out.mono ?_; rintro e w1 ⟨rfl, M1, nv1, uv1, ps1, hL1, hn1, hm1⟩)
  go_ret
  exact ⟨rfl, M1, nv1, uv1, ps1, hL1, hn1, H.out.trans hm1⟩
set_option maxHeartbeats 2000000 in
set_option maxRecDepth 100000 in
theorem undo_forget_call {w : World} {M : Nat → Lab} {tb : Nat} {nv uv : Value} {ps : List Pn} {us : List Value} {ca : Array Value} {ns' : List Nd} (h : Lies w M tb nv uv ps (us ++ [.func (.func 87) #[] ca]))
    (hc : ∀ w1 uv1, Lies w1 M tb nv uv1 ps us → Moved w M w1 M → Calls Tryz.prog 87 ca w1 (Ran w1 M tb us ns')) :
    Calls Tryz.prog 38 #[.pointer (some ⟨tb, 0, none⟩)] w (UPost w M tb us ns') := by
  have hul : (us ++ [Value.func (.func 87) #[] ca]).length = us.length + 1 := by simp
  have hur := h.undos
  rw [hul] at hur
  obtain ⟨ub, uc, rfl, huc, hum, huM, hulb⟩ := hur.form (by omega)
  have c1 := h.cell1
  obtain ⟨cu1, cu2⟩ := (hur.cell rfl (j := us.length) (u := .func (.func 87) #[] ca) (by simp))
  unfold maxLen at hum
  obtain ⟨q1, q2, d1, d2⟩ := h.pop
  have HC : Hid (Calls Tryz.prog 87 ca _ (Ran _ M tb us ns')) := hc _ _ q1 q2
  have H : Hid _ := q2
  clear h hur q1 q2 hc
  go_enter Tryz.func38, Tryz.ntmps38
  go_wp2_with (go_at_call 87; refine HC.out.mono ?_; rintro e w1 ⟨rfl, M1, nv1, uv1, ps1, hL1, hn1, hm1⟩)
  go_ret
  exact ⟨rfl, M1, nv1, uv1, ps1, hL1, hn1, H.out.trans hm1⟩
end Go.Proofs.YtoanbjdifddcoaaGreatDoor

/- An attribute that was taken is put back. -/
namespace Go.Proofs.YtoanbjdifddcoaaGreatDoor
open Go.RowKit

set_option maxHeartbeats 4000000 in
set_option maxRecDepth 100000 in
theorem unset1_any {w : World} {M : Nat → Lab} {tb : Nat} {nv uv : Value} {ps : List Pn} {us : List Value} (h : Lies w M tb nv uv ps us) {i k : Nat} {p : Pn} (hp : ps[i]? = some p) {x : ByteArray × ByteArray} (hk : k ≤ p.n.attrs.length) (hf : p.n.attrs.length ≤ 1099511627776) {b1 b2 b3 b4 : Nat} (k1 : Cap w M b1 0 (at0 tb)) (k2 : Cap w M b2 0 (.int .i64 i)) (k3 : Cap w M b3 0 (.int .i64 k)) (k4 : Cap w M b4 0 (.string x.1)) (k5 : Cap w M b4 1 (.string x.2)) :
    Calls Tryz.prog 65 #[.pointer (some ⟨b1, 0, none⟩), .pointer (some ⟨b2, 0, none⟩), .pointer (some ⟨b3, 0, none⟩), .pointer (some ⟨b4, 0, none⟩)] w (Ran w M tb us ((nodesOf ps).set i { p.n with attrs := p.n.attrs.take k ++ x :: p.n.attrs.drop k })) := by
  obtain ⟨nb, nc, rfl, hc, hm, hnM, hnl, hil⟩ := h.form hp
  obtain ⟨aa, ac, hav, hac1, hac2⟩ := (h.node i p hp).1.shape
  have c0 := h.cell0
  obtain ⟨c3, c3f⟩ := h.cellN rfl (f := 3) hp (by omega) rfl
  rw [hav] at c3
  have H : Hid (Lies w M tb (.slice (some ⟨nb, 0, none⟩) ps.length nc) uv ps us) := h
  have HP : Hid (ps[i]? = some p) := hp
  have hlt : tb < w.heap.size := lt_of_heap h.head
  have j1 := k1.2
  have j2 := k2.2
  have j3 := k3.2
  have j4 := k4.2
  have j5 := k5.2
  have l1 : b1 < w.heap.size := World.block_lt_of_cell? w _ j1
  have l2 : b2 < w.heap.size := World.block_lt_of_cell? w _ j2
  have l3 : b3 < w.heap.size := World.block_lt_of_cell? w _ j3
  have l4 : b4 < w.heap.size := World.block_lt_of_cell? w _ j4
  have HK : Hid (M b1 = .other ∧ M b2 = .other ∧ M b3 = .other ∧ M b4 = .other) := ⟨k1.1, k2.1, k3.1, k4.1⟩
  have hlen : (p.n.attrs.take k ++ x :: p.n.attrs.drop k).length = p.n.attrs.length + 1 := by simp; omega
  unfold at0 at j1
  have i1 : (0 : Int) ≤ (i : Int) := by omega
  have i2 : (i : Int) < (ps.length : Int) := by omega
  unfold maxLen at hm hac2
  clear h hp k1 k2 k3 k4 k5
  go_enter Tryz.func65, Tryz.ntmps65
  go_wp2_with fail
  refine wp_region_held_drew (S := (fun wx => wx.cell? ⟨b1, 0, none⟩ = some (.pointer (some ⟨tb, 0, none⟩)) ∧ wx.cell? ⟨b2, 0, none⟩ = some (.int .i64 i) ∧ wx.cell? ⟨b3, 0, none⟩ = some (.int .i64 k) ∧ wx.cell? ⟨b4, 0, none⟩ = some (.string x.1) ∧ wx.cell? ⟨b4, 1, none⟩ = some (.string x.2) ∧ wx.cell? ⟨tb, 0, none⟩ = some (.slice (some ⟨nb, 0, none⟩) ps.length nc))) (by kernel_rfl) ?_ (fun hHeld => ?_)
  · (try dsimp only)
    go_keep
  refine wpAnyH_take (i := 0) (v := ?_) rfl (by kernel_rfl) (by kernel_rfl) (by kernel_rfl) (fun _ _ _ h => h) (Or.inl ⟨by rfl, ?_⟩) (by assumption) ?_
  rotate_left
  · intro wy hSw
    (try dsimp only at hSw)
    go_simp
    with_reducible rfl
  simp only [Act.put]
  refine wpAnyH_take (i := 1) (v := ?_) rfl (by kernel_rfl) (by kernel_rfl) (by kernel_rfl) (fun _ _ _ h => h) (Or.inl ⟨by rfl, ?_⟩) (by assumption) ?_
  rotate_left
  · intro wy hSw
    (try dsimp only at hSw)
    go_simp
    with_reducible rfl
  simp only [Act.put]
  refine wpAnyH_take (i := 2) (v := ?_) rfl (by kernel_rfl) (by kernel_rfl) (by kernel_rfl) (fun _ _ _ h => h) (Or.inl ⟨by rfl, ?_⟩) (by assumption) ?_
  rotate_left
  · intro wy hSw
    (try dsimp only at hSw)
    go_simp
    with_reducible rfl
  simp only [Act.put]
  refine wpAnyH_take (i := 3) (v := ?_) rfl (by kernel_rfl) (by kernel_rfl) (by kernel_rfl) (fun _ _ _ h => h) (Or.inl ⟨by rfl, ?_⟩) (by assumption) ?_
  rotate_left
  · intro wy hSw
    (try dsimp only at hSw)
    go_simp
    with_reducible rfl
  simp only [Act.put]
  refine wpAnyH_take (i := 4) (v := ?_) rfl (by kernel_rfl) (by kernel_rfl) (by kernel_rfl) (fun _ _ _ h => h) (Or.inl ⟨by rfl, ?_⟩) (by assumption) ?_
  rotate_left
  · intro wy hSw
    (try dsimp only at hSw)
    go_simp
    with_reducible rfl
  simp only [Act.put]
  refine wpAnyH_take (i := 5) (v := ?_) rfl (by kernel_rfl) (by kernel_rfl) (by kernel_rfl) (fun _ _ _ h => h) (Or.inl ⟨by rfl, ?_⟩) (by assumption) ?_
  rotate_left
  · intro wy hSw
    (try dsimp only at hSw)
    go_simp
    with_reducible rfl
  simp only [Act.put]
  refine wpAnyH_take (i := 6) (v := ?_) rfl (by kernel_rfl) (by kernel_rfl) (by kernel_rfl) (fun _ _ _ h => h) (Or.inl ⟨by rfl, ?_⟩) (by assumption) ?_
  rotate_left
  · intro wy hSw
    (try dsimp only at hSw)
    go_simp
    with_reducible rfl
  simp only [Act.put]
  refine wpAnyH_take (i := 7) (v := ?_) rfl (by kernel_rfl) (by kernel_rfl) (by kernel_rfl) (fun _ _ _ h => h) (Or.inl ⟨by rfl, ?_⟩) (by assumption) ?_
  rotate_left
  · intro wy hSw
    (try dsimp only at hSw)
    go_simp
    with_reducible rfl
  simp only [Act.put]
  refine wpAnyH_take (i := 8) (v := ?_) rfl (by kernel_rfl) (by kernel_rfl) (by kernel_rfl) (fun _ _ _ h => h) (Or.inl ⟨by rfl, ?_⟩) (by assumption) ?_
  rotate_left
  · intro wy hSw
    (try dsimp only at hSw)
    go_simp
    with_reducible rfl
  simp only [Act.put]
  refine wpAnyH_take (i := 9) (v := ?_) rfl (by kernel_rfl) (by kernel_rfl) (by kernel_rfl) (fun _ _ _ h => h) (Or.inl ⟨by rfl, ?_⟩) (by assumption) ?_
  rotate_left
  · intro wy hSw
    (try dsimp only at hSw)
    go_simp
    with_reducible rfl
  simp only [Act.put]
  refine wpAnyH_take (i := 10) (v := ?_) rfl (by kernel_rfl) (by kernel_rfl) (by kernel_rfl) (fun _ _ _ h => h) (Or.inl ⟨by rfl, ?_⟩) (by assumption) ?_
  rotate_left
  · intro wy hSw
    (try dsimp only at hSw)
    go_simp
    with_reducible rfl
  simp only [Act.put]
  refine wpAnyH_take (i := 11) (v := ?_) rfl (by kernel_rfl) (by kernel_rfl) (by kernel_rfl) (fun _ _ _ h => h) (Or.inl ⟨by rfl, ?_⟩) (by assumption) ?_
  rotate_left
  · intro wy hSw
    (try dsimp only at hSw)
    go_simp
    with_reducible rfl
  simp only [Act.put]
  refine wpAnyH_take (i := 13) (v := ?_) rfl (by kernel_rfl) (by kernel_rfl) (by kernel_rfl) (fun _ _ _ h => h) (Or.inl ⟨by rfl, ?_⟩) (by assumption) ?_
  rotate_left
  · intro wy hSw
    (try dsimp only at hSw)
    go_simp
    with_reducible rfl
  simp only [Act.put]
  refine wpAnyH_take (i := 14) (v := ?_) rfl (by kernel_rfl) (by kernel_rfl) (by kernel_rfl) (fun _ _ _ h => h) (Or.inl ⟨by rfl, ?_⟩) (by assumption) ?_
  rotate_left
  · intro wy hSw
    (try dsimp only at hSw)
    go_simp
    with_reducible rfl
  simp only [Act.put]
  refine wpAnyH_ready (rs := [12, 15]) (by kernel_rfl) (by simp) ?_
  refine AllReadyH.cons rfl (fun K hK => ?_) ?_
  · go_simp
    refine hK.out _ _ ?_ (fun hHeld => ?_)
    · (try dsimp only)
      go_keep
    clear hK K
    refine wpAnyH_ready (rs := [15]) (by kernel_rfl) (by simp) ?_
    refine AllReadyH.cons rfl (fun K hK => ?_) ?_
    · go_simp
      refine hK.out _ _ ?_ (fun hHeld => ?_)
      · (try dsimp only)
        go_keep
      clear hK K
      refine wpAnyH_ready (rs := [16]) (by kernel_rfl) (by simp) ?_
      refine AllReadyH.cons rfl (fun K hK => ?_) ?_
      · go_simp
        have HL2 : Hid (Lies (w.alloc (.cells #[.string x.1, .string x.2] 79)).drew M tb (.slice (some ⟨nb, 0, none⟩) ps.length nc) uv ps us) := (H.out.alloc (.cells #[.string x.1, .string x.2] 79)).drew
        have hrw := (HL2.out.node i p HP.out).1
        rw [hav] at hrw
        refine (insertA_any hrw hf HL2.out.fresh k hk w.heap.size x (heap_alloc_new w _) (by rw [H.out.fresh _ (Nat.le_refl _)]; intro e; cases e)).mono ?_
        rintro e w2 ⟨g, cap1, rfl, M2, hr, st⟩
        obtain ⟨q1, q2, ⟨u3, q3⟩, q4⟩ := HL2.out.setAttrs rfl HP.out st (av' := .slice (some ⟨g, 0, none⟩) (p.n.attrs.length + 1) cap1) (at' := p.n.attrs.take k ++ x :: p.n.attrs.drop k) (by rw [hlen]; exact hr)
        have mv : Moved w M _ M2 := (((Moved.refl w M).alloc (.cells #[.string x.1, .string x.2] 79)).drew.trans q2)
        have mw : Moved w M w2 M2 := (((Moved.refl w M).alloc (.cells #[.string x.1, .string x.2] 79)).drew.trans (st.moved (by intro e; cases e)))
        have e1 := moved_cell mw HK.out.1 j1
        have e2 := moved_cell mw HK.out.2.1 j2
        have e3 := moved_cell mw HK.out.2.2.1 j3
        have e4 := moved_cell mw HK.out.2.2.2 j4
        have e5 := moved_cell mw HK.out.2.2.2 j5
        have e0 : w2.cell? ⟨tb, 0, none⟩ = some (.slice (some ⟨nb, 0, none⟩) ps.length nc) := (head_cell ((st.far tb (lt_of_heap HL2.out.head) (by rw [HL2.out.tree]; intro e; cases e)).trans HL2.out.head)).1
        have HQ : Hid _ := And.intro q1 mv
        clear q1 q2 hr st hrw mv mw
        dsimp only
        refine hK.out _ _ ?_ (fun hHeld => ?_)
        · (try dsimp only)
          go_keep
        clear hK K
        refine wpAnyH_take (i := 17) (v := ?_) rfl (by kernel_rfl) (by kernel_rfl) (by kernel_rfl) (fun _ _ _ h => h) (Or.inl ⟨by rfl, ?_⟩) (by assumption) ?_
        rotate_left
        · intro wy hSw
          (try dsimp only at hSw)
          go_simp
          with_reducible rfl
        simp only [Act.put]
        refine wpAnyH_take (i := 18) (v := ?_) rfl (by kernel_rfl) (by kernel_rfl) (by kernel_rfl) (fun _ _ _ h => h) (Or.inl ⟨by rfl, ?_⟩) (by assumption) ?_
        rotate_left
        · intro wy hSw
          (try dsimp only at hSw)
          go_simp
          with_reducible rfl
        simp only [Act.put]
        refine wpAnyH_ready (rs := [19]) (by kernel_rfl) (by simp) ?_
        refine AllReadyH.cons rfl (fun K hK => ?_) ?_
        · go_simp
          refine hK.out _ _ ?_ (fun hHeld => ?_)
          · (try dsimp only)
            exact ⟨moved_cell HQ.out.2 HK.out.1 j1, moved_cell HQ.out.2 HK.out.2.1 j2, moved_cell HQ.out.2 HK.out.2.2.1 j3, moved_cell HQ.out.2 HK.out.2.2.2 j4, moved_cell HQ.out.2 HK.out.2.2.2 j5, HQ.out.1.cell0⟩
          clear hK K
          refine wpAnyH_done (by kernel_rfl) ?_ _
          go_wp2
          go_end0
          exact ⟨rfl, M2, _, _, _, HQ.out.1, set_nodes, HQ.out.2⟩
        exact AllReadyH.nil
      exact AllReadyH.nil
    exact AllReadyH.nil
  refine AllReadyH.cons rfl (fun K hK => ?_) ?_
  · go_simp
    refine hK.out _ _ ?_ (fun hHeld => ?_)
    · (try dsimp only)
      go_keep
    clear hK K
    refine wpAnyH_ready (rs := [12]) (by kernel_rfl) (by simp) ?_
    refine AllReadyH.cons rfl (fun K hK => ?_) ?_
    · go_simp
      refine hK.out _ _ ?_ (fun hHeld => ?_)
      · (try dsimp only)
        go_keep
      clear hK K
      refine wpAnyH_ready (rs := [16]) (by kernel_rfl) (by simp) ?_
      refine AllReadyH.cons rfl (fun K hK => ?_) ?_
      · go_simp
        have HL2 : Hid (Lies (w.alloc (.cells #[.string x.1, .string x.2] 79)).drew M tb (.slice (some ⟨nb, 0, none⟩) ps.length nc) uv ps us) := (H.out.alloc (.cells #[.string x.1, .string x.2] 79)).drew
        have hrw := (HL2.out.node i p HP.out).1
        rw [hav] at hrw
        refine (insertA_any hrw hf HL2.out.fresh k hk w.heap.size x (heap_alloc_new w _) (by rw [H.out.fresh _ (Nat.le_refl _)]; intro e; cases e)).mono ?_
        rintro e w2 ⟨g, cap1, rfl, M2, hr, st⟩
        obtain ⟨q1, q2, ⟨u3, q3⟩, q4⟩ := HL2.out.setAttrs rfl HP.out st (av' := .slice (some ⟨g, 0, none⟩) (p.n.attrs.length + 1) cap1) (at' := p.n.attrs.take k ++ x :: p.n.attrs.drop k) (by rw [hlen]; exact hr)
        have mv : Moved w M _ M2 := (((Moved.refl w M).alloc (.cells #[.string x.1, .string x.2] 79)).drew.trans q2)
        have mw : Moved w M w2 M2 := (((Moved.refl w M).alloc (.cells #[.string x.1, .string x.2] 79)).drew.trans (st.moved (by intro e; cases e)))
        have e1 := moved_cell mw HK.out.1 j1
        have e2 := moved_cell mw HK.out.2.1 j2
        have e3 := moved_cell mw HK.out.2.2.1 j3
        have e4 := moved_cell mw HK.out.2.2.2 j4
        have e5 := moved_cell mw HK.out.2.2.2 j5
        have e0 : w2.cell? ⟨tb, 0, none⟩ = some (.slice (some ⟨nb, 0, none⟩) ps.length nc) := (head_cell ((st.far tb (lt_of_heap HL2.out.head) (by rw [HL2.out.tree]; intro e; cases e)).trans HL2.out.head)).1
        have HQ : Hid _ := And.intro q1 mv
        clear q1 q2 hr st hrw mv mw
        dsimp only
        refine hK.out _ _ ?_ (fun hHeld => ?_)
        · (try dsimp only)
          go_keep
        clear hK K
        refine wpAnyH_take (i := 17) (v := ?_) rfl (by kernel_rfl) (by kernel_rfl) (by kernel_rfl) (fun _ _ _ h => h) (Or.inl ⟨by rfl, ?_⟩) (by assumption) ?_
        rotate_left
        · intro wy hSw
          (try dsimp only at hSw)
          go_simp
          with_reducible rfl
        simp only [Act.put]
        refine wpAnyH_take (i := 18) (v := ?_) rfl (by kernel_rfl) (by kernel_rfl) (by kernel_rfl) (fun _ _ _ h => h) (Or.inl ⟨by rfl, ?_⟩) (by assumption) ?_
        rotate_left
        · intro wy hSw
          (try dsimp only at hSw)
          go_simp
          with_reducible rfl
        simp only [Act.put]
        refine wpAnyH_ready (rs := [19]) (by kernel_rfl) (by simp) ?_
        refine AllReadyH.cons rfl (fun K hK => ?_) ?_
        · go_simp
          refine hK.out _ _ ?_ (fun hHeld => ?_)
          · (try dsimp only)
            exact ⟨moved_cell HQ.out.2 HK.out.1 j1, moved_cell HQ.out.2 HK.out.2.1 j2, moved_cell HQ.out.2 HK.out.2.2.1 j3, moved_cell HQ.out.2 HK.out.2.2.2 j4, moved_cell HQ.out.2 HK.out.2.2.2 j5, HQ.out.1.cell0⟩
          clear hK K
          refine wpAnyH_done (by kernel_rfl) ?_ _
          go_wp2
          go_end0
          exact ⟨rfl, M2, _, _, _, HQ.out.1, set_nodes, HQ.out.2⟩
        exact AllReadyH.nil
      exact AllReadyH.nil
    exact AllReadyH.nil
  exact AllReadyH.nil
end Go.Proofs.YtoanbjdifddcoaaGreatDoor

/- Undo: whatever was done last is undone. -/
namespace Go.Proofs.YtoanbjdifddcoaaGreatDoor
open Go.RowKit

theorem pulled_few {ns mid : List Nd} {i w : Nat} {f : Int} (h : WF ns) (hp : Pulled ns i mid f w) : KidsFew mid := (h.pulled hp).kidsFew

theorem undo_any {w : World} {M : Nat → Lab} {tb : Nat} {nv uv : Value} {ps : List Pn} {us : List Value} {f : Value} {r : Rec} {ns' : List Nd} {K : Nat} (h : Lies w M tb nv uv ps (us ++ [f])) (hk : KeptF w M tb f r) (hW : WF (nodesOf ps)) (hF : Few (nodesOf ps) K) (hK : K ≤ 1000000) (hu : Undoes (nodesOf ps) ns' r) :
    Calls Tryz.prog 38 #[.pointer (some ⟨tb, 0, none⟩)] w (UPost w M tb us ns') := by
  cases r with
  | forget n =>
    obtain ⟨b1, b2, rfl, _⟩ := id hk
    obtain ⟨hn, rfl⟩ := hu
    have hnl : n < ps.length := by simpa [nodesOf] using hn
    refine undo_forget_call h fun w1 uv1 hL hm => ?_
    obtain ⟨c1, c2, he, m1, m2, k1, k2⟩ := Frg.moved hk hm
    cases he
    have e : ps = ps.take n ++ ps.drop n := (List.take_append_drop n ps).symm
    have hL' := hL
    rw [e] at hL'
    have hl : (ps.take n).length = n := by simp; omega
    rw [← hl] at k2
    refine (forget1_any hL' (by simp; omega) m1 m2 k1 k2).mono ?_
    rintro e w2 ⟨rfl, nv', g1, g2⟩
    exact ⟨rfl, M, nv', _, _, g1, by simp [nodesOf, List.map_take], g2⟩
  | move i fr wz =>
    obtain ⟨b1, b2, b3, b4, rfl, _⟩ := id hk
    obtain ⟨mid, f', w', h1, h2⟩ := hu
    refine undo_move_call h fun w1 uv1 hL hm => ?_
    refine (move1_any hL (MvF.moved hk hm) h1 h2 (pulled_few hW h1)).mono ?_
    rintro e w2 ⟨rfl, M', ps', g1, g2, g3⟩
    exact ⟨rfl, M', _, _, _, g1, g2, g3⟩
  | cut i =>
    obtain ⟨b1, b2, rfl, k1, k2⟩ := hk
    obtain ⟨n, xs, x, h1, h2, rfl⟩ := hu
    obtain ⟨p, hp, rfl⟩ := nodesOf_get h1
    exact undo_cut_call h fun w1 uv1 hL hm => set1_any hL hp h2 (k1.moved hm) (k2.moved hm)
  | back i k old =>
    obtain ⟨b0, b1, b2, b3, rfl, k0, k1, k2, k3⟩ := hk
    obtain ⟨n, x, h1, h2, rfl⟩ := hu
    obtain ⟨p, hp, rfl⟩ := nodesOf_get h1
    exact undo_back_call h fun w1 uv1 hL hm => set2_any hL hp h2 (k0.moved hm) (k1.moved hm) (k2.moved hm) (k3.moved hm)
  | ins i k x =>
    obtain ⟨b1, b2, b3, b4, rfl, k1, k2, k3, k4, k5⟩ := hk
    obtain ⟨n, h1, h2, rfl⟩ := hu
    obtain ⟨p, hp, rfl⟩ := nodesOf_get h1
    exact undo_ins_call h fun w1 uv1 hL hm => unset1_any hL hp h2 (by have := hF i _ h1; omega) (k1.moved hm) (k2.moved hm) (k3.moved hm) (k4.moved hm) (k5.moved hm)
  | say i old =>
    obtain ⟨b0, b1, b2, rfl, k0, k1, k2⟩ := hk
    obtain ⟨n, h1, rfl⟩ := hu
    obtain ⟨p, hp, rfl⟩ := nodesOf_get h1
    exact undo_say_call h fun w1 uv1 hL hm => say1_any hL hp (k0.moved hm) (k1.moved hm) (k2.moved hm)
end Go.Proofs.YtoanbjdifddcoaaGreatDoor
