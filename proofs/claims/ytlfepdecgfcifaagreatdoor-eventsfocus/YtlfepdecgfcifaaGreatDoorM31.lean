/- Elements, texts and comments; what undoes the making of a node; nothing can be undone any more. -/
import Derived.Test.YtlfepdecgfcifaaGreatDoorM02
import Derived.Test.YtlfepdecgfcifaaGreatDoorM30
import Derived.Laws.EntriesVeiled
import Derived.Test.YtlfepdecgfcifaaGreatDoorM08
import Derived.Test.YtlfepdecgfcifaaGreatDoorM12
import Derived.Test.YtlfepdecgfcifaaGreatDoorM07
namespace Go.Proofs.YtlfepdecgfcifaaGreatDoor
open Go.RowKit

set_option maxHeartbeats 2000000 in
theorem element_good {w : World} {M : Nat → Lab} {tb : Nat} {nv uv : Value} {ps : List Pn} {us : List Value} (h : Lies w M tb nv uv ps us) (hn : ps.length < 400) (hu : us.length ≤ 1099511627776) (tag : ByteArray) (ht : nameB tag = true) :
    Calls Tryz.prog 17 #[.pointer (some ⟨tb, 0, none⟩), .string tag] w (Made w M tb ps us (newP 2 tag ⟨#[]⟩)) := by
  have H : Hid (Lies w M tb nv uv ps us) := h
  clear h
  go_enter Tryz.func17, Tryz.ntmps17
  go_wp2_with (first
    | (go_at_call 46; refine (name_any _ _).mono ?_; rintro e w' ⟨rfl, rfl⟩; rw [ht])
    | (go_at_call 47; refine (create_good H.out hn hu 2 tag ⟨#[]⟩ (by decide)).mono ?_; rintro e w' ⟨rfl, M', nv', uv', f, h1, h2, h3⟩))
  go_ret2
  exact ⟨rfl, M', nv', uv', f, h1, h2, h3⟩

set_option maxHeartbeats 2000000 in
theorem element_bad {w : World} {M : Nat → Lab} {tb : Nat} {nv uv : Value} {ps : List Pn} {us : List Value} (h : Lies w M tb nv uv ps us) (hE : Errs w M) (hn : ps.length ≤ 400) (tag : ByteArray) (hbad : nameB tag = false ∨ ps.length = 400) :
    Calls Tryz.prog 17 #[.pointer (some ⟨tb, 0, none⟩), .string tag] w fun e w' => ∃ v, e = .returned (.tuple #[.int .i64 0, v]) ∧ isErr v ∧ Below w.heap.size w w' := by
  obtain ⟨t, a, hc⟩ := hE.cell 0 (by decide)
  have H : Hid (Lies w M tb nv uv ps us) := h
  have HE : Hid (Errs w M) := hE
  clear h hE
  cases ht : nameB tag
  · go_enter Tryz.func17, Tryz.ntmps17
    go_wp2_with (go_at_call 46; refine (name_any _ _).mono ?_; rintro e w' ⟨rfl, rfl⟩; rw [ht])
    go_quiet (fail)
    go_wp2
    go_ret2
    exact ⟨_, rfl, ⟨t, a, rfl⟩, below_drewN (Below.refl _ _) _⟩
  · have h4 : ps.length = 400 := by rcases hbad with h | h; · rw [ht] at h; cases h
                                    · exact h
    go_enter Tryz.func17, Tryz.ntmps17
    go_wp2_with (first
      | (go_at_call 46; refine (name_any _ _).mono ?_; rintro e w' ⟨rfl, rfl⟩; rw [ht])
      | (go_at_call 47; refine (create_bad H.out HE.out hn 2 tag ⟨#[]⟩ (.inr h4)).mono ?_; rintro e w' ⟨v, rfl, ⟨t2, a2, rfl⟩, hB⟩))
    go_ret2
    exact ⟨_, rfl, ⟨t2, a2, rfl⟩, hB⟩

set_option maxHeartbeats 2000000 in
theorem text_good {w : World} {M : Nat → Lab} {tb : Nat} {nv uv : Value} {ps : List Pn} {us : List Value} (h : Lies w M tb nv uv ps us) (hn : ps.length < 400) (hu : us.length ≤ 1099511627776) (words : ByteArray) (hw : words.size ≤ 20000) :
    Calls Tryz.prog 20 #[.pointer (some ⟨tb, 0, none⟩), .string words] w (Made w M tb ps us (newP 3 ⟨#[]⟩ words)) := by
  have H : Hid (Lies w M tb nv uv ps us) := h
  clear h
  go_enter Tryz.func20, Tryz.ntmps20
  go_wp2_with (go_at_call 47; refine (create_good H.out hn hu 3 ⟨#[]⟩ words hw).mono ?_; rintro e w' ⟨rfl, M', nv', uv', f, h1, h2, h3⟩)
  go_ret2
  exact ⟨rfl, M', nv', uv', f, h1, h2, h3⟩
set_option maxHeartbeats 2000000 in
theorem comment_good {w : World} {M : Nat → Lab} {tb : Nat} {nv uv : Value} {ps : List Pn} {us : List Value} (h : Lies w M tb nv uv ps us) (hn : ps.length < 400) (hu : us.length ≤ 1099511627776) (words : ByteArray) (hw : words.size ≤ 20000) :
    Calls Tryz.prog 19 #[.pointer (some ⟨tb, 0, none⟩), .string words] w (Made w M tb ps us (newP 4 ⟨#[]⟩ words)) := by
  have H : Hid (Lies w M tb nv uv ps us) := h
  clear h
  go_enter Tryz.func19, Tryz.ntmps19
  go_wp2_with (go_at_call 47; refine (create_good H.out hn hu 4 ⟨#[]⟩ words hw).mono ?_; rintro e w' ⟨rfl, M', nv', uv', f, h1, h2, h3⟩)
  go_ret2
  exact ⟨rfl, M', nv', uv', f, h1, h2, h3⟩

set_option maxHeartbeats 1000000 in
theorem settle_any {w : World} {M : Nat → Lab} {tb : Nat} {nv uv : Value} {ps : List Pn} {us : List Value} (h : Lies w M tb nv uv ps us) :
    Calls Tryz.prog 25 #[.pointer (some ⟨tb, 0, none⟩)] w fun e w' => e = .returned (.tuple #[]) ∧ Lies w' M tb nv (.slice none 0 0) ps [] ∧ Moved w M w' M := by
  have c1 := h.cell1
  have f1 := h.frozen 1
  have HR : Hid _ := h.headUndos (uv' := .slice none 0 0) (us' := []) (w1 := w) (M1 := M) ⟨rfl, rfl, rfl, Nat.le_refl _, fun _ _ => rfl, h.fresh, fun _ _ _ => rfl⟩ (Row.nil _ _ _ _ _)
  clear h
  go_enter Tryz.func25, Tryz.ntmps25
  go_wp2
  go_end0
  exact ⟨rfl, HR.out.1, HR.out.2⟩

/-- the last of the kept functions is let go -/
theorem Lies.pop {w : World} {M : Nat → Lab} {tb : Nat} {nv : Value} {ps : List Pn} {us : List Value} {f : Value} {ub uc m : Nat} (h : Lies w M tb nv (.slice (some ⟨ub, 0, none⟩) m uc) ps (us ++ [f])) :
    Lies ((w.setCell ⟨ub, us.length, none⟩ .nilFunc).setCell ⟨tb, 1, none⟩ (.slice (some ⟨ub, 0, none⟩) us.length us.length)) M tb nv (.slice (some ⟨ub, 0, none⟩) us.length us.length) ps us ∧
      Moved w M ((w.setCell ⟨ub, us.length, none⟩ .nilFunc).setCell ⟨tb, 1, none⟩ (.slice (some ⟨ub, 0, none⟩) us.length us.length)) M ∧
      (w.setCell ⟨ub, us.length, none⟩ .nilFunc).cell? ⟨tb, 1, none⟩ = some (.slice (some ⟨ub, 0, none⟩) m uc) ∧ (w.setCell ⟨ub, us.length, none⟩ .nilFunc).frozen? ⟨tb, 1, none⟩ = false := by
  have hl : (us ++ [f]).length = us.length + 1 := by simp
  have hr := h.undos
  rw [hl] at hr
  obtain ⟨g, cap, hv, h1, h2, h3, h4⟩ := hr.form (by omega)
  cases hv
  have st : Step w M (w.setCell ⟨ub, us.length, none⟩ .nilFunc) M .undos := step_setCell _ h3 h.fresh
  have hs := hr.set rfl us.length .nilFunc (by simp)
  have hrow : Row (w.setCell ⟨ub, us.length, none⟩ .nilFunc) M .undos 1 1 (.slice (some ⟨ub, 0, none⟩) us.length us.length) us.length us := by
    obtain ⟨_, a, cap', hv, k1, k2, k3⟩ := hs
    cases hv
    rcases k3 with ⟨e, _⟩ | ⟨g', cur, ha, hM, hg, k4, k5⟩
    · omega
    · refine ⟨by simp, _, us.length, rfl, Nat.le_refl _, by unfold maxLen at *; omega, .inr ⟨g', cur, ha, hM, hg, by omega, ?_⟩⟩
      have := congrArg (List.take us.length) k5
      rw [List.take_take] at this
      simpa [Nat.min_eq_left (Nat.le_succ _)] using this
  have HR := h.headUndos (us' := us) st hrow
  obtain ⟨_, hc1, _, hf1⟩ := head_cell ((st.far tb (lt_of_heap h.head) (by rw [h.tree]; intro e; cases e)).trans h.head)
  exact ⟨HR.1, HR.2, hc1, hf1⟩

theorem zeroNode (w : World) : (zeroValue 78).run Tryz.prog w = .ok (.agg #[.int .i64 0, .string ⟨#[]⟩, .string ⟨#[]⟩, .slice none 0 0, .int .i64 0, .slice none 0 0]) w := by
  obtain ⟨i0, hi, hz0, hz1, hz2⟩ := info_parts Tryz.infoNode
  simp [zeroValue, typeInfo, hi, hz0]

set_option maxHeartbeats 1000000 in
set_option maxRecDepth 100000 in
theorem forget1_any {w : World} {M : Nat → Lab} {tb : Nat} {nv uv : Value} {ps qs : List Pn} {us : List Value} {b1 b2 : Nat} (h : Lies w M tb nv uv (ps ++ qs) us) (hq : 0 < qs.length) (m1 : M b1 = .other) (m2 : M b2 = .other) (k1 : w.cell? ⟨b1, 0, none⟩ = some (.pointer (some ⟨tb, 0, none⟩))) (k2 : w.cell? ⟨b2, 0, none⟩ = some (.int .i64 ps.length)) :
    Calls Tryz.prog 90 #[.pointer (some ⟨b1, 0, none⟩), .pointer (some ⟨b2, 0, none⟩)] w fun e w' => e = .returned (.tuple #[]) ∧ ∃ nv', Lies w' M tb nv' uv ps us ∧ Moved w M w' M := by
  have hnr := h.nodes
  rw [List.length_append, flat_append] at hnr
  obtain ⟨nb, cap, rfl, hc, hm, hnM, hnl⟩ := hnr.form (by omega)
  have hd : Row w.drew M .nodes 78 6 (.slice (some ⟨nb, 0, none⟩) (ps.length + qs.length) cap) (ps.length + qs.length) (flat ps ++ flat qs) := hnr
  obtain ⟨w1, hr1, hrow, st⟩ := clear_tail (P := Tryz.prog) w.drew M .nodes 79 78 _ 6 Tryz.underlying79 zeroNode rfl (by simp [Value.cells, Value.oneCell']) (by decide) nb ps.length qs.length cap (cap - ps.length) (flat ps) (flat qs) hd (flat_length ps) hq h.fresh
  have l1 : b1 < w.heap.size := World.block_lt_of_cell? w _ k1
  have l2 : b2 < w.heap.size := World.block_lt_of_cell? w _ k2
  have j1 : w1.cell? ⟨b1, 0, none⟩ = some (.pointer (some ⟨tb, 0, none⟩)) := (World.cell?_of_block (a := ⟨b1, 0, none⟩) (st.far b1 l1 (by rw [m1]; intro e; cases e))).trans k1
  have j2 : w1.cell? ⟨b2, 0, none⟩ = some (.int .i64 ps.length) := (World.cell?_of_block (a := ⟨b2, 0, none⟩) (st.far b2 l2 (by rw [m2]; intro e; cases e))).trans k2
  have c0 := h.cell0
  obtain ⟨hc0, _, hf0, _⟩ := head_cell ((st.far tb (lt_of_heap h.head) (by rw [h.tree]; intro e; cases e)).trans h.head)
  have HR : Hid _ := h.drew.headNodes st hrow (fun i p hp => h.drew.node i p (by rw [List.getElem?_append_left (List.getElem?_eq_some_iff.1 hp).1]; exact hp))
  have HC : Hid (∀ ty, (Builtin.clear_ #[79] ty #[.slice (some ⟨nb, ps.length * 6, none⟩) qs.length (cap - ps.length)]).run Tryz.prog w.drew = .ok (.tuple #[]) w1) := hr1
  have hne : ¬ cap = ps.length := by omega
  have i1 : (ps.length : Int) ≤ (ps.length : Int) + (qs.length : Int) := by omega
  have i2 : (ps.length : Int) + (qs.length : Int) ≤ (cap : Int) := by omega
  have i3 : (0 : Int) ≤ (ps.length : Int) := by omega
  have i4 : (ps.length : Int) ≤ (cap : Int) := by omega
  unfold maxLen at hm
  clear h hnr hd hr1 hrow st
  go_enter Tryz.func90, Tryz.ntmps90
  go_wp2
  go_region_law ((refine step_clear _ (by rfl) (.tmp 7) 79 (by rfl) (.slice (some ⟨nb, ps.length * 6, none⟩) qs.length (cap - ps.length)) (by simp [Act.eval, Act.put]) w1 HC.out ?_))
  all_goals go_wp2
  all_goals go_region
  all_goals go_wp2
  all_goals go_end0
  all_goals exact ⟨rfl, _, HR.out.1.drew, ((Moved.refl w M).drew.trans HR.out.2).drew⟩

set_option maxHeartbeats 1000000 in
set_option maxRecDepth 100000 in
theorem undo_forget {w : World} {M : Nat → Lab} {tb : Nat} {nv uv : Value} {ps : List Pn} {p : Pn} {us : List Value} {f : Value} (h : Lies w M tb nv uv (ps ++ [p]) (us ++ [f])) (hF : Frg w M f tb ps.length) :
    Calls Tryz.prog 18 #[.pointer (some ⟨tb, 0, none⟩)] w fun e w' => e = .returned (.bool true) ∧ ∃ nv' uv', Lies w' M tb nv' uv' ps us ∧ Moved w M w' M := by
  have hF0 := hF
  obtain ⟨b1, b2, rfl, m1, m2, k1, k2⟩ := hF
  have hul : (us ++ [Value.func (.func 90) #[] #[.pointer (some ⟨b1, 0, none⟩), .pointer (some ⟨b2, 0, none⟩)]]).length = us.length + 1 := by simp
  have hur := h.undos
  rw [hul] at hur
  obtain ⟨ub, uc, rfl, huc, hum, huM, hulb⟩ := hur.form (by omega)
  have c1 := h.cell1
  have cu := (hur.cell rfl (j := us.length) (u := .func (.func 90) #[] #[.pointer (some ⟨b1, 0, none⟩), .pointer (some ⟨b2, 0, none⟩)]) (by simp))
  obtain ⟨cu1, cu2⟩ := cu
  unfold maxLen at hum
  obtain ⟨q1, q2, d1, d2⟩ := h.pop
  obtain ⟨c1', c2', he', m1', m2', k1', k2'⟩ := hF0.moved q2
  cases he'
  have H : Hid _ := And.intro q1 q2
  clear h hur hF0 q1 q2
  go_enter Tryz.func18, Tryz.ntmps18
  go_wp2_with (go_at_call 90; refine (forget1_any H.out.1 (by simp) m1' m2' k1' k2').mono ?_; rintro e w1 ⟨rfl, nv1, hL1, hm1⟩)
  go_ret
  exact ⟨rfl, nv1, _, hL1, H.out.2.trans hm1⟩
end Go.Proofs.YtlfepdecgfcifaaGreatDoor

/- What package tree's calls make of a tree of known nodes. -/
namespace Go.Proofs.YtlfepdecgfcifaaGreatDoor
open Go.RowKit

/-- a tree of these nodes lies there, and not too much was done -/
def PAt (Bw : World) (BM : Nat → Lab) (tb : Nat) (ns : List Nd) (U A K : Nat) (w : World) : Prop :=
  ∃ M nv uv ps us, Lies w M tb nv uv ps us ∧ Moved Bw BM w M ∧ nodesOf ps = ns ∧ us.length ≤ U ∧ SizedN ns A K
/-- the same, and the last node can be forgotten -/
def PFresh (Bw : World) (BM : Nat → Lab) (tb : Nat) (ns : List Nd) (n : Nd) (U A K : Nat) (w : World) : Prop :=
  ∃ M nv uv ps p us f, Lies w M tb nv uv (ps ++ [p]) (us ++ [f]) ∧ Frg w M f tb ps.length ∧ Moved Bw BM w M ∧ nodesOf ps = ns ∧ p.n = n ∧ us.length ≤ U ∧ SizedN ns A K

theorem PAt.parts {Bw : World} {BM : Nat → Lab} {tb : Nat} {ns : List Nd} {U A K : Nat} {w : World} (h : PAt Bw BM tb ns U A K w) : ∃ M nv uv ps us, Lies w M tb nv uv ps us ∧ Moved Bw BM w M ∧ nodesOf ps = ns ∧ us.length ≤ U ∧ SizedN ns A K ∧ ps.length = ns.length := by
  obtain ⟨M, nv, uv, ps, us, h1, h2, h3, h4, h5⟩ := h
  exact ⟨M, nv, uv, ps, us, h1, h2, h3, h4, h5, by rw [← h3]; simp [nodesOf]⟩
theorem PAt.below {Bw : World} {BM : Nat → Lab} {tb : Nat} {ns : List Nd} {U A K : Nat} {w w' : World} (h : PAt Bw BM tb ns U A K w) (hb : Below w.heap.size w w') : PAt Bw BM tb ns U A K w' := by
  obtain ⟨M, nv, uv, ps, us, h1, h2, h3, h4, h5⟩ := h
  exact ⟨M, nv, uv, ps, us, h1.below hb, h2.below hb, h3, h4, h5⟩
theorem PAt.mono {Bw : World} {BM : Nat → Lab} {tb : Nat} {ns : List Nd} {U A K U' A' K' : Nat} {w : World} (h : PAt Bw BM tb ns U A K w) (h1 : U ≤ U') (h2 : A ≤ A') (h3 : K ≤ K') : PAt Bw BM tb ns U' A' K' w := by
  obtain ⟨M, nv, uv, ps, us, g1, g2, g3, g4, g5⟩ := h
  exact ⟨M, nv, uv, ps, us, g1, g2, g3, Nat.le_trans g4 h1, g5.mono h2 h3⟩
theorem PFresh.at {Bw : World} {BM : Nat → Lab} {tb : Nat} {ns : List Nd} {n : Nd} {U A K : Nat} {w : World} (h : PFresh Bw BM tb ns n U A K w) (ha : n.attrs = []) (hk : n.kids = []) : PAt Bw BM tb (ns ++ [n]) (U + 1) A K w := by
  obtain ⟨M, nv, uv, ps, p, us, f, h1, _, h2, h3, h4, h5, h6⟩ := h
  exact ⟨M, nv, uv, _, _, h1, h2, by subst h4; rw [← h3]; simp [nodesOf], by simp; omega, h6.snoc _ ha hk⟩

theorem Made.fresh {Bw w w' : World} {BM M : Nat → Lab} {tb : Nat} {ps : List Pn} {us : List Value} {p : Pn} {e : Ending} {ns : List Nd} {U A K : Nat} (h : Made w M tb ps us p e w') (hm : Moved Bw BM w M) (hn : nodesOf ps = ns) (hu : us.length ≤ U) (hz : SizedN ns A K) : e = .returned (.tuple #[.int .i64 ns.length, .nilIface]) ∧ PFresh Bw BM tb ns p.n U A K w' := by
  obtain ⟨rfl, M', nv', uv', f, g1, g2, g3⟩ := h
  refine ⟨by rw [← hn]; simp [nodesOf], M', nv', uv', ps, p, us, f, g1, g2, hm.trans g3, hn, rfl, hu, hz⟩

section
variable {Bw : World} {BM : Nat → Lab} {tb : Nat} {ns : List Nd} {U A K : Nat} {w : World}

theorem PAt.element (h : PAt Bw BM tb ns U A K w) (hl : ns.length < 400) (hU : U ≤ 10000000000) (tag : ByteArray) (ht : nameB tag = true) :
    Calls Tryz.prog 17 #[.pointer (some ⟨tb, 0, none⟩), .string tag] w fun e w' => e = .returned (.tuple #[.int .i64 ns.length, .nilIface]) ∧ PFresh Bw BM tb ns ⟨2, tag, ⟨#[]⟩, [], -1, []⟩ U A K w' := by
  obtain ⟨M, nv, uv, ps, us, h1, h2, h3, h4, h5, h6⟩ := h.parts
  exact (element_good h1 (by omega) (by omega) tag ht).mono fun e w' hm => hm.fresh h2 h3 h4 h5
theorem PAt.text (h : PAt Bw BM tb ns U A K w) (hl : ns.length < 400) (hU : U ≤ 10000000000) (s : ByteArray) (ht : s.size ≤ 20000) :
    Calls Tryz.prog 20 #[.pointer (some ⟨tb, 0, none⟩), .string s] w fun e w' => e = .returned (.tuple #[.int .i64 ns.length, .nilIface]) ∧ PFresh Bw BM tb ns ⟨3, ⟨#[]⟩, s, [], -1, []⟩ U A K w' := by
  obtain ⟨M, nv, uv, ps, us, h1, h2, h3, h4, h5, h6⟩ := h.parts
  exact (text_good h1 (by omega) (by omega) s ht).mono fun e w' hm => hm.fresh h2 h3 h4 h5
theorem PAt.comment (h : PAt Bw BM tb ns U A K w) (hl : ns.length < 400) (hU : U ≤ 10000000000) (s : ByteArray) (ht : s.size ≤ 20000) :
    Calls Tryz.prog 19 #[.pointer (some ⟨tb, 0, none⟩), .string s] w fun e w' => e = .returned (.tuple #[.int .i64 ns.length, .nilIface]) ∧ PFresh Bw BM tb ns ⟨4, ⟨#[]⟩, s, [], -1, []⟩ U A K w' := by
  obtain ⟨M, nv, uv, ps, us, h1, h2, h3, h4, h5, h6⟩ := h.parts
  exact (comment_good h1 (by omega) (by omega) s ht).mono fun e w' hm => hm.fresh h2 h3 h4 h5
theorem PFresh.undo {n : Nd} (h : PFresh Bw BM tb ns n U A K w) :
    Calls Tryz.prog 18 #[.pointer (some ⟨tb, 0, none⟩)] w fun e w' => e = .returned (.bool true) ∧ PAt Bw BM tb ns U A K w' := by
  obtain ⟨M, nv, uv, ps, p, us, f, h1, hf, h2, h3, h4, h5, h6⟩ := h
  refine (undo_forget h1 hf).mono ?_
  rintro e w' ⟨rfl, nv', uv', g1, g2⟩
  exact ⟨rfl, M, nv', uv', ps, us, g1, h2.trans g2, h3, h5, h6⟩

theorem PAt.elementBad (h : PAt Bw BM tb ns U A K w) (hE : Errs Bw BM) (hl : ns.length ≤ 400) (tag : ByteArray) (ht : nameB tag = false ∨ ns.length = 400) :
    Calls Tryz.prog 17 #[.pointer (some ⟨tb, 0, none⟩), .string tag] w fun e w' => (∃ t a, e = .returned (.tuple #[.int .i64 0, .iface t (.pointer (some a))])) ∧ PAt Bw BM tb ns U A K w' := by
  obtain ⟨M, nv, uv, ps, us, h1, h2, h3, h4, h5, h6⟩ := h.parts
  refine (element_bad h1 (hE.moved h2) (by omega) tag (by rcases ht with e | e; exact .inl e; exact .inr (by omega))).mono ?_
  rintro e w' ⟨v, rfl, ⟨t, a, rfl⟩, hB⟩
  exact ⟨⟨t, a, rfl⟩, h.below hB⟩

set_option maxHeartbeats 1000000 in
theorem PAt.textBad (h : PAt Bw BM tb ns U A K w) (hE : Errs Bw BM) (hl : ns.length ≤ 400) (s : ByteArray) (ht : 20000 < s.size ∨ ns.length = 400) :
    Calls Tryz.prog 20 #[.pointer (some ⟨tb, 0, none⟩), .string s] w fun e w' => (∃ t a, e = .returned (.tuple #[.int .i64 0, .iface t (.pointer (some a))])) ∧ PAt Bw BM tb ns U A K w' := by
  obtain ⟨M, nv, uv, ps, us, h1, h2, h3, h4, h5, h6⟩ := h.parts
  have HL : Hid (Lies w M tb nv uv ps us) := h1
  have HE2 : Hid (Errs w M) := hE.moved h2
  have HBad : Hid (20000 < s.size ∨ ps.length = 400) := by rcases ht with e | e; exact .inl e; exact .inr (by omega)
  have hl2 : ps.length ≤ 400 := by omega
  have HP : Hid (PAt Bw BM tb ns U A K w) := h
  clear h1 h2 h3 h4 h5 h hE ht
  go_enter Tryz.func20, Tryz.ntmps20
  go_wp2_with (go_at_call 47; refine (create_bad HL.out HE2.out hl2 _ _ _ HBad.out).mono ?_; rintro e w1 ⟨v, rfl, ⟨t, a, rfl⟩, hB⟩)
  go_ret2
  exact ⟨⟨t, a, rfl⟩, HP.out.below hB⟩
set_option maxHeartbeats 1000000 in
theorem PAt.commentBad (h : PAt Bw BM tb ns U A K w) (hE : Errs Bw BM) (hl : ns.length ≤ 400) (s : ByteArray) (ht : 20000 < s.size ∨ ns.length = 400) :
    Calls Tryz.prog 19 #[.pointer (some ⟨tb, 0, none⟩), .string s] w fun e w' => (∃ t a, e = .returned (.tuple #[.int .i64 0, .iface t (.pointer (some a))])) ∧ PAt Bw BM tb ns U A K w' := by
  obtain ⟨M, nv, uv, ps, us, h1, h2, h3, h4, h5, h6⟩ := h.parts
  have HL : Hid (Lies w M tb nv uv ps us) := h1
  have HE2 : Hid (Errs w M) := hE.moved h2
  have HBad : Hid (20000 < s.size ∨ ps.length = 400) := by rcases ht with e | e; exact .inl e; exact .inr (by omega)
  have hl2 : ps.length ≤ 400 := by omega
  have HP : Hid (PAt Bw BM tb ns U A K w) := h
  clear h1 h2 h3 h4 h5 h hE ht
  go_enter Tryz.func19, Tryz.ntmps19
  go_wp2_with (go_at_call 47; refine (create_bad HL.out HE2.out hl2 _ _ _ HBad.out).mono ?_; rintro e w1 ⟨v, rfl, ⟨t, a, rfl⟩, hB⟩)
  go_ret2
  exact ⟨⟨t, a, rfl⟩, HP.out.below hB⟩

theorem PAt.set (h : PAt Bw BM tb ns U A K w) (hE : Errs Bw BM) (hU : U ≤ 10000000000) (hA : A ≤ 10000000000) {i : Nat} (hi : i < ns.length) (name value : ByteArray) (hvs : value.size ≤ 9223372036854775807) (x : Int) (hx : x = i) :
    Calls Tryz.prog 21 #[.pointer (some ⟨tb, 0, none⟩), .int .i64 x, .string name, .string value] w fun e w' => (∃ v, e = .returned v) ∧ PAt Bw BM tb (setS ns i name value) (U + 1) (A + 1) K w' := by
  subst hx
  obtain ⟨M, nv, uv, ps, us, h1, h2, h3, h4, h5, h6⟩ := h.parts
  obtain ⟨p, hp⟩ : ∃ p, ps[i]? = some p := ⟨ps[i]'(by omega), List.getElem?_eq_getElem _⟩
  have hg : ns[i]? = some p.n := h3 ▸ nodes_get hp
  have hsz := h5 i p.n hg
  have done : ∀ e w', WasSet w M tb nv ps us i p name value e w' → (p.n.kind = 2 ∧ nameB name = true ∧ value.size ≤ 20000) → (∃ v, e = .returned v) ∧ PAt Bw BM tb (setS ns i name value) (U + 1) (A + 1) K w' := by
    rintro e w' ⟨rfl, M', uv', av', f, g1, g2⟩ hgood
    refine ⟨⟨_, rfl⟩, M', nv, uv', _, _, g1, h2.trans g2, ?_, by simp; omega, h5.set i name value⟩
    unfold setS
    rw [hg]
    simp only [if_pos hgood]
    rw [← h3]
    simp [nodesOf, List.map_set]
  by_cases hbad : p.n.kind ≠ 2 ∨ nameB name = false ∨ 20000 < value.size
  · refine (set_bad h1 (hE.moved h2) hp name value hvs hbad).mono ?_
    rintro e w' ⟨⟨v, rfl, _⟩, hB⟩
    have hno : ¬ (p.n.kind = 2 ∧ nameB name = true ∧ value.size ≤ 20000) := by
      rintro ⟨q1, q2, q3⟩
      rcases hbad with q | q | q
      · exact q q1
      · rw [q2] at q; cases q
      · omega
    refine ⟨⟨v, rfl⟩, ?_⟩
    unfold setS
    rw [hg]
    simp only [if_neg hno]
    exact (h.below hB).mono (by omega) (by omega) (Nat.le_refl _)
  · have hk : p.n.kind = 2 := Classical.byContradiction fun h => hbad (.inl h)
    have hn : nameB name = true := by
      cases hn : nameB name
      · exact absurd (.inr (.inl hn)) hbad
      · rfl
    have hv : value.size ≤ 20000 := Nat.le_of_not_lt fun h => hbad (.inr (.inr h))
    cases hf : findA p.n.attrs name with
    | none => exact (set_new h1 (hE.moved h2) hp name value hk hn hv (by omega) (by omega) hf).mono fun e w' hw => done e w' hw ⟨hk, hn, hv⟩
    | some q => exact (set_old h1 (hE.moved h2) hp name value hk hn hv (by omega) hf).mono fun e w' hw => done e w' hw ⟨hk, hn, hv⟩

theorem PAt.put (h : PAt Bw BM tb ns U A K w) (hE : Errs Bw BM) (hU : U ≤ 10000000000) (hK : K ≤ 10000000000) {a b : Nat} {na nb : Nd} (ha : ns[a]? = some na) (hb : ns[b]? = some nb) (hab : a ≠ b) (hb0 : 0 < b) (hra : na.parent = -1) (hrb : nb.parent = -1) (x y : Int) (hx : x = a) (hy : y = b) :
    Calls Tryz.prog 23 #[.pointer (some ⟨tb, 0, none⟩), .int .i64 x, .int .i64 y, .int .i64 na.kids.length] w fun e w' => (∃ v, e = .returned v) ∧ PAt Bw BM tb (putS ns a b) (U + 1) A (K + 1) w' := by
  subst hx
  subst hy
  obtain ⟨M, nv, uv, ps, us, h1, h2, h3, h4, h5, h6⟩ := h.parts
  obtain ⟨pa, hpa, ea⟩ := nodesOf_get (ps := ps) (h3 ▸ ha)
  obtain ⟨pb, hpb, eb⟩ := nodesOf_get (ps := ps) (h3 ▸ hb)
  subst ea
  subst eb
  have hsz := h5 a pa.n ha
  cases hkd : kidsB pa.n.kind
  · refine (put_bad h1 (hE.moved h2) hpa hpb hb0 _ hkd).mono ?_
    rintro e w' ⟨⟨v, rfl, _⟩, rfl⟩
    refine ⟨⟨v, rfl⟩, ?_⟩
    unfold putS
    rw [ha, hb]
    simp only [hkd, Bool.false_eq_true, if_false]
    exact h.mono (by omega) (Nat.le_refl _) (by omega)
  · refine (put_good h1 hpa hpb hab hb0 (by omega) hra hrb hkd (by omega)).mono ?_
    rintro e w' ⟨rfl, M', uv', kv', f, g1, g2⟩
    refine ⟨⟨_, rfl⟩, M', nv, uv', _, _, g1, h2.trans g2, ?_, by simp; omega, h5.put a b⟩
    unfold putS
    rw [ha, hb]
    simp only [hkd, if_true]
    rw [← h3]
    simp [nodesOf, putP, List.map_set]

theorem PAt.parent (h : PAt Bw BM tb ns U A K w) {i : Nat} {n : Nd} (hi : ns[i]? = some n) (x : Int) (hx : x = i) :
    Calls Tryz.prog 22 #[.pointer (some ⟨tb, 0, none⟩), .int .i64 x] w fun e w' => e = .returned (.int .i64 n.parent) ∧ w' = w := by
  subst hx
  obtain ⟨M, nv, uv, ps, us, h1, h2, h3, h4, h5, h6⟩ := h.parts
  obtain ⟨p, hp, e⟩ := nodesOf_get (ps := ps) (h3 ▸ hi)
  subst e
  exact parent_any h1 hp
theorem PAt.kids (h : PAt Bw BM tb ns U A K w) (hK : K ≤ 10000000000) {i : Nat} {n : Nd} (hi : ns[i]? = some n) (x : Int) (hx : x = i) :
    Calls Tryz.prog 24 #[.pointer (some ⟨tb, 0, none⟩), .int .i64 x] w fun e w' => ∃ a c, e = .returned (.slice a n.kids.length c) ∧ Below w.heap.size w w' := by
  subst hx
  obtain ⟨M, nv, uv, ps, us, h1, h2, h3, h4, h5, h6⟩ := h.parts
  obtain ⟨p, hp, e⟩ := nodesOf_get (ps := ps) (h3 ▸ hi)
  subst e
  refine (kids_any h1 hp (by have := (h5 i p.n hi).2; omega)).mono ?_
  rintro e w' ⟨v', rfl, ho, hB⟩
  obtain ⟨a, c, rfl⟩ := own_shape ho
  exact ⟨a, c, rfl, hB⟩
end
end Go.Proofs.YtlfepdecgfcifaaGreatDoor
