/- The end of a row is cleared, and cut off. -/
import Derived.Test.YtlfepdecgfcifaaGreatDoorM00
import Derived.Test.YtlfepdecgfcifaaGreatDoorM03
import Derived.Laws.EntriesVeiled
namespace Go.Proofs.YtlfepdecgfcifaaGreatDoor
open Go.RowKit

section
variable {P : Program}
theorem clear_tail (w : World) (M : Nat → Lab) (l : Lab) (t e : TypeId) (z : Value) (size : Nat) (ht : P.underlying t = some (.slice e)) (hv : ∀ w, (zeroValue e).run P w = .ok z w) (hzs : z.cells.size = size) (hz1 : ∀ u ∈ z.cells.toList, u.oneCell' = true) (hsz : 0 < size)
    (g n k cap c : Nat) (xs ys : List Value) (hr : Row w M l e size (.slice (some ⟨g, 0, none⟩) (n + k) cap) (n + k) (xs ++ ys)) (hx : xs.length = n * size) (hk : 0 < k) (hfr : ∀ b, w.heap.size ≤ b → M b = .other) :
    ∃ w', (∀ ty, (Builtin.clear_ #[t] ty #[.slice (some ⟨g, n * size, none⟩) k c]).run P w = .ok (.tuple #[]) w') ∧ Row w' M l e size (.slice (some ⟨g, 0, none⟩) n cap) n xs ∧ Step w M w' M l := by
  obtain ⟨hl, a, cap', hv', h1, h2, h3⟩ := hr
  cases hv'
  rcases h3 with ⟨h3, _⟩ | ⟨g', cur, ha, hM, hg, h4, h5⟩
  · omega
  · cases ha
    have hzl : (Builtin.zeroCells z.cells k).toList.length = k * size := by simp [size_zeroCells, hzs]
    have hfit : n * size + k * size ≤ cur.size := by
      rw [← Nat.add_mul]
      exact Nat.le_trans (Nat.mul_le_mul_right _ h1) h4
    have hone : ∀ u ∈ (Builtin.zeroCells z.cells k).toList, u.oneCell' = true := by
      intro u hu
      simp only [Builtin.zeroCells, Array.toList_map, List.mem_map] at hu
      obtain ⟨j, hj, rfl⟩ := hu
      have hjs : j % z.cells.size < z.cells.size := Nat.mod_lt _ (by omega)
      rw [getElem!_pos z.cells _ hjs]
      exact hz1 _ (by simp)
    have hst := run_storeCells_at P g (n * size) e (Builtin.zeroCells z.cells k).toList 0 cur w hg (by rw [hzl]; simpa using hfit) hone
    rw [Nat.add_zero, hzl] at hst
    refine ⟨w.setRow g (cur.toList.take (n * size) ++ (Builtin.zeroCells z.cells k).toList ++ cur.toList.drop (n * size + k * size)).toArray, fun ty => ?_, ⟨hx, _, cap, rfl, by omega, h2, .inr ⟨g, _, rfl, hM, setRow_heap w g cur _ e _ hg, ?_, ?_⟩⟩, ⟨rfl, rfl, rfl, by simp [World.setRow], fun _ _ => rfl, ?_, ?_⟩⟩
    · obtain ⟨k', rfl⟩ : ∃ k', k = k' + 1 := ⟨k - 1, by omega⟩
      simp [Builtin.clear_, run_underlying ht, hv, hst]
    · simp only [List.size_toArray, List.length_append, List.length_take, List.length_drop, Array.length_toList, hzl]
      omega
    · have := congrArg (List.take (n * size)) h5
      rw [List.take_take, List.take_append_of_le_length (by omega), List.take_of_length_le (l := xs) (by omega), Nat.min_eq_left (Nat.mul_le_mul_right _ (by omega))] at this
      simp only [List.append_assoc]
      rw [List.take_append_of_le_length (by simp; omega), List.take_take, Nat.min_self, this]
    · intro b hb
      exact hfr b (by simpa [World.setRow] using hb)
    · intro b hb hne
      exact setRow_other w g b _ (fun e => hne (by rw [e]; exact hM))

theorem step_clear (w : World) {ops : Array Oper} {o : Oper} {a : Act} {K : Act → World → Prop} {Q : Exit → Act → World → Prop} {E : Prop} (hgd : o.guard = none) (x : Operand) (t : TypeId)
    (ho : o.op = .call { callee := .builtin .clear, args := #[x], argTypes := #[t] }) (v : Value) (hx : a.eval x = v) (w' : World) (hr : ∀ ty, (Builtin.clear_ #[t] ty #[v]).run P w = .ok (.tuple #[]) w')
    (h : K (a.put o.dst (.tuple #[])) w') : if Region.wanted o (yielded ops a.tmps) = true then Oper.wp P o a w K Q else E := by
  have hw : Region.wanted o (yielded ops a.tmps) = true := by simp [Region.wanted, hgd]
  rw [if_pos hw]
  unfold Oper.wp execOp
  simp only [ho, resolve, invoke, builtin, Sem.run_bind, Sem.run_pure, Result.andThen_ok, List.map_toArray, List.map_cons, List.map_nil, hx, hr]
  exact h
end
end Go.Proofs.YtlfepdecgfcifaaGreatDoor

/- Elements, texts and comments; what undoes the making of a node; nothing can be undone any more. -/
namespace Go.Proofs.YtlfepdecgfcifaaGreatDoor
open Go.RowKit

set_option maxHeartbeats 2000000 in
theorem element_good {w : World} {M : Nat → Lab} {tb : Nat} {nv uv : Value} {ps : List Pn} {us : List Value} (h : Lies w M tb nv uv ps us) (hn : ps.length < 400) (hu : us.length ≤ 1099511627776) (tag : ByteArray) (ht : nameB tag = true) :
    Calls Tryz.prog 17 #[.pointer (some ⟨tb, 0, none⟩), .string tag] w (Made w M tb ps us (newP 2 tag ⟨#[]⟩)) := by
  have H : Hid (Lies w M tb nv uv ps us) := h
  clear h
  go_enter Tryz.func17, Tryz.ntmps17
  go_wp2_with (first
    | (go_at_call 46; refine (name_any _ _).mono ?_; rintro e w' ⟨rfl, rfl⟩; rw [ht])
    | (go_at_call 47; refine (create_good H.out hn hu 2 tag ⟨#[]⟩ (by decide)).mono ?_; rintro e w' ⟨rfl, M', nv', uv', f, h1, h2, h3⟩))
  go_ret2
  exact ⟨rfl, M', nv', uv', f, h1, h2, h3⟩

set_option maxHeartbeats 2000000 in
theorem element_bad {w : World} {M : Nat → Lab} {tb : Nat} {nv uv : Value} {ps : List Pn} {us : List Value} (h : Lies w M tb nv uv ps us) (hE : Errs w M) (hn : ps.length ≤ 400) (tag : ByteArray) (hbad : nameB tag = false ∨ ps.length = 400) :
    Calls Tryz.prog 17 #[.pointer (some ⟨tb, 0, none⟩), .string tag] w fun e w' => ∃ v, e = .returned (.tuple #[.int .i64 0, v]) ∧ isErr v ∧ Below w.heap.size w w' := by
  obtain ⟨t, a, hc⟩ := hE.cell 0 (by decide)
  have H : Hid (Lies w M tb nv uv ps us) := h
  have HE : Hid (Errs w M) := hE
  clear h hE
  cases ht : nameB tag
  · go_enter Tryz.func17, Tryz.ntmps17
    go_wp2_with (go_at_call 46; refine (name_any _ _).mono ?_; rintro e w' ⟨rfl, rfl⟩; rw [ht])
    go_quiet (fail)
    go_wp2
    go_ret2
    exact ⟨_, rfl, ⟨t, a, rfl⟩, below_drewN (Below.refl _ _) _⟩
  · have h4 : ps.length = 400 := by rcases hbad with h | h; · rw [ht] at h; cases h
                                    · exact h
    go_enter Tryz.func17, Tryz.ntmps17
    go_wp2_with (first
      | (go_at_call 46; refine (name_any _ _).mono ?_; rintro e w' ⟨rfl, rfl⟩; rw [ht])
      | (go_at_call 47; refine (create_bad H.out HE.out hn 2 tag ⟨#[]⟩ (.inr h4)).mono ?_; rintro e w' ⟨v, rfl, ⟨t2, a2, rfl⟩, hB⟩))
    go_ret2
    exact ⟨_, rfl, ⟨t2, a2, rfl⟩, hB⟩

set_option maxHeartbeats 2000000 in
theorem text_good {w : World} {M : Nat → Lab} {tb : Nat} {nv uv : Value} {ps : List Pn} {us : List Value} (h : Lies w M tb nv uv ps us) (hn : ps.length < 400) (hu : us.length ≤ 1099511627776) (words : ByteArray) (hw : words.size ≤ 20000) :
    Calls Tryz.prog 20 #[.pointer (some ⟨tb, 0, none⟩), .string words] w (Made w M tb ps us (newP 3 ⟨#[]⟩ words)) := by
  have H : Hid (Lies w M tb nv uv ps us) := h
  clear h
  go_enter Tryz.func20, Tryz.ntmps20
  go_wp2_with (go_at_call 47; refine (create_good H.out hn hu 3 ⟨#[]⟩ words hw).mono ?_; rintro e w' ⟨rfl, M', nv', uv', f, h1, h2, h3⟩)
  go_ret2
  exact ⟨rfl, M', nv', uv', f, h1, h2, h3⟩
set_option maxHeartbeats 2000000 in
theorem comment_good {w : World} {M : Nat → Lab} {tb : Nat} {nv uv : Value} {ps : List Pn} {us : List Value} (h : Lies w M tb nv uv ps us) (hn : ps.length < 400) (hu : us.length ≤ 1099511627776) (words : ByteArray) (hw : words.size ≤ 20000) :
    Calls Tryz.prog 19 #[.pointer (some ⟨tb, 0, none⟩), .string words] w (Made w M tb ps us (newP 4 ⟨#[]⟩ words)) := by
  have H : Hid (Lies w M tb nv uv ps us) := h
  clear h
  go_enter Tryz.func19, Tryz.ntmps19
  go_wp2_with (go_at_call 47; refine (create_good H.out hn hu 4 ⟨#[]⟩ words hw).mono ?_; rintro e w' ⟨rfl, M', nv', uv', f, h1, h2, h3⟩)
  go_ret2
  exact ⟨rfl, M', nv', uv', f, h1, h2, h3⟩

set_option maxHeartbeats 1000000 in
theorem settle_any {w : World} {M : Nat → Lab} {tb : Nat} {nv uv : Value} {ps : List Pn} {us : List Value} (h : Lies w M tb nv uv ps us) :
    Calls Tryz.prog 25 #[.pointer (some ⟨tb, 0, none⟩)] w fun e w' => e = .returned (.tuple #[]) ∧ Lies w' M tb nv (.slice none 0 0) ps [] ∧ Moved w M w' M := by
  have c1 := h.cell1
  have f1 := h.frozen 1
  have HR : Hid _ := h.headUndos (uv' := .slice none 0 0) (us' := []) (w1 := w) (M1 := M) ⟨rfl, rfl, rfl, Nat.le_refl _, fun _ _ => rfl, h.fresh, fun _ _ _ => rfl⟩ (Row.nil _ _ _ _ _)
  clear h
  go_enter Tryz.func25, Tryz.ntmps25
  go_wp2
  go_end0
  exact ⟨rfl, HR.out.1, HR.out.2⟩

/-- the last of the kept functions is let go -/
theorem Lies.pop {w : World} {M : Nat → Lab} {tb : Nat} {nv : Value} {ps : List Pn} {us : List Value} {f : Value} {ub uc m : Nat} (h : Lies w M tb nv (.slice (some ⟨ub, 0, none⟩) m uc) ps (us ++ [f])) :
    Lies ((w.setCell ⟨ub, us.length, none⟩ .nilFunc).setCell ⟨tb, 1, none⟩ (.slice (some ⟨ub, 0, none⟩) us.length us.length)) M tb nv (.slice (some ⟨ub, 0, none⟩) us.length us.length) ps us ∧
      Moved w M ((w.setCell ⟨ub, us.length, none⟩ .nilFunc).setCell ⟨tb, 1, none⟩ (.slice (some ⟨ub, 0, none⟩) us.length us.length)) M ∧
      (w.setCell ⟨ub, us.length, none⟩ .nilFunc).cell? ⟨tb, 1, none⟩ = some (.slice (some ⟨ub, 0, none⟩) m uc) ∧ (w.setCell ⟨ub, us.length, none⟩ .nilFunc).frozen? ⟨tb, 1, none⟩ = false := by
  have hl : (us ++ [f]).length = us.length + 1 := by simp
  have hr := h.undos
  rw [hl] at hr
  obtain ⟨g, cap, hv, h1, h2, h3, h4⟩ := hr.form (by omega)
  cases hv
  have st : Step w M (w.setCell ⟨ub, us.length, none⟩ .nilFunc) M .undos := step_setCell _ h3 h.fresh
  have hs := hr.set rfl us.length .nilFunc (by simp)
  have hrow : Row (w.setCell ⟨ub, us.length, none⟩ .nilFunc) M .undos 1 1 (.slice (some ⟨ub, 0, none⟩) us.length us.length) us.length us := by
    obtain ⟨_, a, cap', hv, k1, k2, k3⟩ := hs
    cases hv
    rcases k3 with ⟨e, _⟩ | ⟨g', cur, ha, hM, hg, k4, k5⟩
    · omega
    · refine ⟨by simp, _, us.length, rfl, Nat.le_refl _, by unfold maxLen at *; omega, .inr ⟨g', cur, ha, hM, hg, by omega, ?_⟩⟩
      have := congrArg (List.take us.length) k5
      rw [List.take_take] at this
      simpa [Nat.min_eq_left (Nat.le_succ _)] using this
  have HR := h.headUndos (us' := us) st hrow
  obtain ⟨_, hc1, _, hf1⟩ := head_cell ((st.far tb (lt_of_heap h.head) (by rw [h.tree]; intro e; cases e)).trans h.head)
  exact ⟨HR.1, HR.2, hc1, hf1⟩

theorem zeroNode (w : World) : (zeroValue 78).run Tryz.prog w = .ok (.agg #[.int .i64 0, .string ⟨#[]⟩, .string ⟨#[]⟩, .slice none 0 0, .int .i64 0, .slice none 0 0]) w := by
  obtain ⟨i0, hi, hz0, hz1, hz2⟩ := info_parts Tryz.infoNode
  simp [zeroValue, typeInfo, hi, hz0]

set_option maxHeartbeats 1000000 in
set_option maxRecDepth 100000 in
theorem forget1_any {w : World} {M : Nat → Lab} {tb : Nat} {nv uv : Value} {ps qs : List Pn} {us : List Value} {b1 b2 : Nat} (h : Lies w M tb nv uv (ps ++ qs) us) (hq : 0 < qs.length) (m1 : M b1 = .other) (m2 : M b2 = .other) (k1 : w.cell? ⟨b1, 0, none⟩ = some (.pointer (some ⟨tb, 0, none⟩))) (k2 : w.cell? ⟨b2, 0, none⟩ = some (.int .i64 ps.length)) :
    Calls Tryz.prog 90 #[.pointer (some ⟨b1, 0, none⟩), .pointer (some ⟨b2, 0, none⟩)] w fun e w' => e = .returned (.tuple #[]) ∧ ∃ nv', Lies w' M tb nv' uv ps us ∧ Moved w M w' M := by
  have hnr := h.nodes
  rw [List.length_append, flat_append] at hnr
  obtain ⟨nb, cap, rfl, hc, hm, hnM, hnl⟩ := hnr.form (by omega)
  have hd : Row w.drew M .nodes 78 6 (.slice (some ⟨nb, 0, none⟩) (ps.length + qs.length) cap) (ps.length + qs.length) (flat ps ++ flat qs) := hnr
  obtain ⟨w1, hr1, hrow, st⟩ := clear_tail (P := Tryz.prog) w.drew M .nodes 79 78 _ 6 Tryz.underlying79 zeroNode rfl (by simp [Value.cells, Value.oneCell']) (by decide) nb ps.length qs.length cap (cap - ps.length) (flat ps) (flat qs) hd (flat_length ps) hq h.fresh
  have l1 : b1 < w.heap.size := World.block_lt_of_cell? w _ k1
  have l2 : b2 < w.heap.size := World.block_lt_of_cell? w _ k2
  have j1 : w1.cell? ⟨b1, 0, none⟩ = some (.pointer (some ⟨tb, 0, none⟩)) := (World.cell?_of_block (a := ⟨b1, 0, none⟩) (st.far b1 l1 (by rw [m1]; intro e; cases e))).trans k1
  have j2 : w1.cell? ⟨b2, 0, none⟩ = some (.int .i64 ps.length) := (World.cell?_of_block (a := ⟨b2, 0, none⟩) (st.far b2 l2 (by rw [m2]; intro e; cases e))).trans k2
  have c0 := h.cell0
  obtain ⟨hc0, _, hf0, _⟩ := head_cell ((st.far tb (lt_of_heap h.head) (by rw [h.tree]; intro e; cases e)).trans h.head)
  have HR : Hid _ := h.drew.headNodes st hrow (fun i p hp => h.drew.node i p (by rw [List.getElem?_append_left (List.getElem?_eq_some_iff.1 hp).1]; exact hp))
  have HC : Hid (∀ ty, (Builtin.clear_ #[79] ty #[.slice (some ⟨nb, ps.length * 6, none⟩) qs.length (cap - ps.length)]).run Tryz.prog w.drew = .ok (.tuple #[]) w1) := hr1
  have hne : ¬ cap = ps.length := by omega
  have i1 : (ps.length : Int) ≤ (ps.length : Int) + (qs.length : Int) := by omega
  have i2 : (ps.length : Int) + (qs.length : Int) ≤ (cap : Int) := by omega
  have i3 : (0 : Int) ≤ (ps.length : Int) := by omega
  have i4 : (ps.length : Int) ≤ (cap : Int) := by omega
  unfold maxLen at hm
  clear h hnr hd hr1 hrow st
  go_enter Tryz.func90, Tryz.ntmps90
  go_wp2
  go_region_law ((refine step_clear _ (by rfl) (.tmp 7) 79 (by rfl) (.slice (some ⟨nb, ps.length * 6, none⟩) qs.length (cap - ps.length)) (by simp [Act.eval, Act.put]) w1 HC.out ?_))
  all_goals go_wp2
  all_goals go_region
  all_goals go_wp2
  all_goals go_end0
  all_goals exact ⟨rfl, _, HR.out.1.drew, ((Moved.refl w M).drew.trans HR.out.2).drew⟩

set_option maxHeartbeats 1000000 in
set_option maxRecDepth 100000 in
theorem undo_forget {w : World} {M : Nat → Lab} {tb : Nat} {nv uv : Value} {ps : List Pn} {p : Pn} {us : List Value} {f : Value} (h : Lies w M tb nv uv (ps ++ [p]) (us ++ [f])) (hF : Frg w M f tb ps.length) :
    Calls Tryz.prog 18 #[.pointer (some ⟨tb, 0, none⟩)] w fun e w' => e = .returned (.bool true) ∧ ∃ nv' uv', Lies w' M tb nv' uv' ps us ∧ Moved w M w' M := by
  have hF0 := hF
  obtain ⟨b1, b2, rfl, m1, m2, k1, k2⟩ := hF
  have hul : (us ++ [Value.func (.func 90) #[] #[.pointer (some ⟨b1, 0, none⟩), .pointer (some ⟨b2, 0, none⟩)]]).length = us.length + 1 := by simp
  have hur := h.undos
  rw [hul] at hur
  obtain ⟨ub, uc, rfl, huc, hum, huM, hulb⟩ := hur.form (by omega)
  have c1 := h.cell1
  have cu := (hur.cell rfl (j := us.length) (u := .func (.func 90) #[] #[.pointer (some ⟨b1, 0, none⟩), .pointer (some ⟨b2, 0, none⟩)]) (by simp))
  obtain ⟨cu1, cu2⟩ := cu
  unfold maxLen at hum
  obtain ⟨q1, q2, d1, d2⟩ := h.pop
  obtain ⟨c1', c2', he', m1', m2', k1', k2'⟩ := hF0.moved q2
  cases he'
  have H : Hid _ := And.intro q1 q2
  clear h hur hF0 q1 q2
  go_enter Tryz.func18, Tryz.ntmps18
  go_wp2_with (go_at_call 90; refine (forget1_any H.out.1 (by simp) m1' m2' k1' k2').mono ?_; rintro e w1 ⟨rfl, nv1, hL1, hm1⟩)
  go_ret
  exact ⟨rfl, nv1, _, hL1, H.out.2.trans hm1⟩
end Go.Proofs.YtlfepdecgfcifaaGreatDoor
