/- What looks at a tree: kids, places, ways. -/
import Derived.Test.YtkaeenafejdkfaaGreatDoorM04
import Derived.Deep.LoopGhost
import Derived.Lib.SliceRun
import Derived.Test.YtkaeenafejdkfaaGreatDoorM03
import Derived.BigRegion
namespace Go.Proofs.YtkaeenafejdkfaaGreatDoor
open Go.RowKit

theorem Tryz.infoInt : (Tryz.prog.info? 3).map (fun i => (i.zero, i.size, i.bytes)) = some (some (.int .i64 0), 1, 8) := by kernel_rfl

set_option maxHeartbeats 1000000 in
set_option maxRecDepth 100000 in
theorem clone_any {w : World} {M : Nat → Lab} {l : Lab} {v : Value} {n : Nat} {xs : List Int} (h : Row w M l 3 1 v n (xs.map intV)) (hn : n ≤ 1099511627776) :
    Calls Tryz.prog 91 #[v] w fun e w' => ∃ v', e = .returned v' ∧ w'.ownsRow w.heap.size 3 1 v' n (xs.map intV) ∧ Below w.heap.size w w' := by
  obtain ⟨i0, hi, hz0, hz1, hz2⟩ := info_parts Tryz.infoInt
  have qs : ∀ (w : World) (a : Option Addr) (n c n' c' : Nat), (binOp .eql 48 (.slice a n c) (.slice none n' c')).run Tryz.prog w = .ok (.bool a.isNone) w := fun w a n c n' c' => Lib.run_eql_slice_nil w _ _ a n c n' c' Tryz.underlying48
  obtain ⟨hl, a, cap, rfl, h1, h2, h3⟩ := id h
  cases a with
  | none =>
    have hz : n = 0 ∧ cap = 0 := by
      rcases h3 with ⟨h3, _⟩ | ⟨g, cur, ha, _⟩
      · exact ⟨by omega, h3⟩
      · cases ha
    obtain ⟨rfl, rfl⟩ := hz
    have hx : xs.map intV = [] := List.eq_nil_of_length_eq_zero (by simpa using hl)
    have HX : Hid (xs.map intV = []) := hx
    clear h hl h3 hx
    go_enter Tryz.func91, Tryz.ntmps91
    go_wp2
    go_ret
    exact ⟨_, rfl, by rw [HX.out]; exact World.ownsRow_nil _ _ _ _, Below.refl _ _⟩
  | some ad =>
    obtain ⟨g, rfl⟩ : ∃ g, ad = ⟨g, 0, none⟩ := by
      rcases h3 with ⟨_, h3 | ⟨g, h3⟩⟩ | ⟨g, cur, ha, _⟩
      · cases h3
      · exact ⟨g, by cases h3; rfl⟩
      · exact ⟨g, by cases ha; rfl⟩
    have hcells : Hid (∀ j u, (xs.map intV)[j]? = some u → (w.alloc (.cells #[] 3)).cell? ((⟨g, 0, none⟩ : Addr).add j) = some u) := by
      intro j u hu
      have hadd : (⟨g, 0, none⟩ : Addr).add j = ⟨g, j, none⟩ := by unfold Addr.add; split <;> simp_all
      have hc := (h.cell rfl hu).1
      rw [hadd]
      exact (World.cell?_of_block (a := ⟨g, j, none⟩) (Below.heap_alloc w _ g (World.block_lt_of_cell? w _ hc))).trans hc
    have hone : Hid (∀ u ∈ xs.map intV, u.oneCell' = true) := by
      intro u hu
      obtain ⟨k, _, rfl⟩ := List.mem_map.1 hu
      rfl
    have hown : Hid ((w.alloc (.cells #[] 3)).ownsRow w.heap.size 3 1 (.slice (some ⟨w.heap.size, 0, none⟩) 0 0) 0 []) := World.ownsRow_made w #[] 0 (Nat.le_refl _) (by unfold maxLen; omega) rfl
    have HL : Hid ((xs.map intV).length = n * 1) := hl
    clear h hl h3
    unfold maxLen at h2
    go_enter Tryz.func91, Tryz.ntmps91
    go_wp2_with (at_builtin; refine wpList_append_own_at _ (by rfl) (.tmp 5) (.tmp 6) 48 (by rfl) w.heap.size 3 i0 (.int .i64 0) 1 8 Tryz.underlying48 hi hz0 hz1 hz2 rfl (by decide) (.slice (some ⟨w.heap.size, 0, none⟩) 0 0) 0 [] (by rfl) hown.out ⟨g, 0, none⟩ n cap (xs.map intV) (by rfl) HL.out hcells.out hone.out (by unfold maxLen; omega) (by omega) (by simp) ?_; intro v' w' hv hg _ _; have HV : Hid _ := And.intro hv hg; clear hv hg)
    go_ret
    refine ⟨_, rfl, by simpa using HV.out.1, ?_⟩
    exact ((Below.refl _ _).alloc (Nat.le_refl _) _).grown HV.out.2 (by simp) (fun k hk => by simp [Value.ownBlock] at hk; omega)

set_option maxHeartbeats 1000000 in
theorem kids_any {w : World} {M : Nat → Lab} {tb : Nat} {nv uv : Value} {ps : List Pn} {us : List Value} (h : Lies w M tb nv uv ps us) {i : Nat} {p : Pn} (hp : ps[i]? = some p) (hk : p.n.kids.length ≤ 1099511627776) :
    Calls Tryz.prog 44 #[.pointer (some ⟨tb, 0, none⟩), .int .i64 i] w fun e w' => ∃ v', e = .returned v' ∧ w'.ownsRow w.heap.size 3 1 v' p.n.kids.length (p.n.kids.map intV) ∧ Below w.heap.size w w' := by
  have hb := hasB_of hp
  obtain ⟨nb, cap, rfl, hc, hm, _, _, hi⟩ := h.form hp
  have c0 := h.cell0
  have c5 := (h.cellN rfl (f := 5) hp (by omega) rfl).1
  have hr := (h.node i p hp).2
  obtain ⟨ka, kc, hkv, _, _⟩ := hr.shape
  rw [hkv] at c5
  have HR : Hid (Row w M (.kids i) 3 1 (.slice ka p.n.kids.length kc) p.n.kids.length (p.n.kids.map intV)) := hkv ▸ hr
  have H : Hid (Lies w M tb (.slice (some ⟨nb, 0, none⟩) ps.length cap) uv ps us) := h
  unfold maxLen at hm
  clear h hr hkv
  go_enter Tryz.func44, Tryz.ntmps44
  go_wp2_with (first
    | (go_at_call 73; refine (has_any H.out _).mono ?_; rintro e w' ⟨rfl, rfl⟩; rw [hb])
    | (go_at_call 91; refine (clone_any HR.out hk).mono ?_; rintro e w1 ⟨v1, rfl, ho, hB⟩))
  go_ret
  exact ⟨_, rfl, ho, hB⟩

def kidsB (k : Int) : Bool := decide (k = 1 ∨ k = 2)
set_option maxHeartbeats 1000000 in
theorem mayHaveKids_any {w : World} {M : Nat → Lab} {tb : Nat} {nv uv : Value} {ps : List Pn} {us : List Value} (h : Lies w M tb nv uv ps us) {i : Nat} {p : Pn} (hp : ps[i]? = some p) :
    Calls Tryz.prog 88 #[.pointer (some ⟨tb, 0, none⟩), .int .i64 i] w fun e w' => e = .returned (.bool (kidsB p.n.kind)) ∧ w' = w := by
  obtain ⟨nb, cap, rfl, hc, hm, _, _, hi⟩ := h.form hp
  have c0 := h.cell0
  have c4 := (h.cellN rfl (f := 0) hp (by omega) rfl).1
  rw [Nat.add_zero] at c4
  unfold maxLen at hm
  clear h
  go_enter Tryz.func88, Tryz.ntmps88
  go_wp2
  all_goals go_ret
  all_goals refine ⟨ret_bool ?_, rfl⟩
  all_goals (unfold kidsB; by_cases h1 : p.n.kind = 1 <;> by_cases h2 : p.n.kind = 2 <;> simp_all)

set_option maxHeartbeats 2000000 in
theorem index_any {w : World} {M : Nat → Lab} {l : Lab} {v : Value} {n : Nat} {xs : List Int} (h : Row w M l 3 1 v n (xs.map intV)) (x : Int) (hx : x ∈ xs) :
    Calls Tryz.prog 170 #[v, .int .i64 x] w fun e w' => e = .returned (.int .i64 (idx xs x : Nat)) ∧ w' = w := by
  have hln : xs.length = n := by have := h.1; simpa using this
  have hpos : 0 < n := by
    rw [← hln]
    exact List.length_pos_of_mem hx
  obtain ⟨g, cap, rfl, hc, hm, _, _⟩ := h.form hpos
  unfold maxLen at hm
  have hcell : Hid (∀ k y, xs[k]? = some y → w.cell? ⟨g, k, none⟩ = some (.int .i64 y)) := by
    intro k y hk
    exact (h.cell rfl (j := k) (u := .int .i64 y) (by simp [hk, intV])).1
  have hlt : idx xs x < xs.length := List.findIdx_lt_length.2 ⟨x, hx, by simp⟩
  have HG : Hid (xs[idx xs x]? = some x) := idx_get hx
  have HB : Hid (∀ k, k < idx xs x → xs[k]? ≠ some x) := by
    intro k hk e
    have := List.not_of_lt_findIdx hk
    rw [List.getElem?_eq_getElem (by omega)] at e
    rw [Option.some.inj e] at this
    simp at this
  clear h
  generalize idx xs x = r at *
  go_enter Tryz.func170, Tryz.ntmps170
  go_wp2
  go_loop [8] (fun i => ∃ k : Nat, k ≤ r ∧ i = .int .i64 k) (fun i => r + 1 - (intOf i).toNat)
  case atStart => exact ⟨0, by omega, rfl⟩
  case round =>
    obtain ⟨k, hk, rfl⟩ := hrel
    have hks : ∃ y, xs[k]? = some y := ⟨xs[k]'(by omega), List.getElem?_eq_getElem _⟩
    obtain ⟨y, hy⟩ := hks
    have ck := hcell.out k y hy
    by_cases hkr : k = r
    · subst hkr
      obtain rfl : y = x := Option.some.inj (hy.symm.trans HG.out)
      clear hy
      go_wp2
      go_ret
      exact ⟨rfl, rfl⟩
    · have hne : (x == y) = false := by
        rw [beq_eq_false_iff_ne]
        intro e
        subst e
        exact HB.out k (by omega) hy
      have hne' : ¬ x = y := by simpa using hne
      clear hy
      go_wp2
      go_round
      case rel => exact ⟨k + 1, by omega, by go_num⟩
      case measure => simp [intOf]; omega
end Go.Proofs.YtkaeenafejdkfaaGreatDoor

/- append onto a slice of the call's own, of another slice that may be nil. -/
namespace Go.Proofs.YtkaeenafejdkfaaGreatDoor
open Go.RowKit

/-- what a slice yields -/
def SrcOf (w : World) (size : Nat) (x : Value) (m : Nat) (news : List Value) : Prop :=
  news.length = m * size ∧ (∀ u ∈ news, u.oneCell' = true) ∧ ∃ a c, x = .slice a m c ∧ ((a = none ∧ m = 0) ∨ ∃ ad, a = some ad ∧ ∀ j u, news[j]? = some u → w.cell? (ad.add j) = some u)

theorem SrcOf.keep {w w' : World} {size m : Nat} {x : Value} {news : List Value} (h : SrcOf w size x m news) (hc : ∀ a v, w.cell? a = some v → w'.cell? a = some v) : SrcOf w' size x m news := by
  obtain ⟨h1, h2, a, c, h3, h4⟩ := h
  refine ⟨h1, h2, a, c, h3, ?_⟩
  rcases h4 with h4 | ⟨ad, h5, h6⟩
  · exact .inl h4
  · exact .inr ⟨ad, h5, fun j u hu => hc _ _ (h6 j u hu)⟩

theorem add0 (g j : Nat) : (⟨g, 0, none⟩ : Addr).add j = ⟨g, j, none⟩ := by unfold Addr.add; split <;> simp_all

theorem Row.src {w : World} {M : Nat → Lab} {l : Lab} {e : TypeId} {size n : Nat} {v : Value} {xs : List Value} (h : Row w M l e size v n xs) (h1 : ∀ u ∈ xs, u.oneCell' = true) : SrcOf w size v n xs := by
  obtain ⟨a, cap, hv, hc, hm⟩ := h.shape
  refine ⟨h.1, h1, a, cap, hv, ?_⟩
  cases a with
  | none =>
    obtain ⟨_, a', cap', hv', _, _, h3⟩ := id h
    rw [hv] at hv'
    cases hv'
    rcases h3 with ⟨h3, _⟩ | ⟨g, cur, h3, _⟩
    · exact .inl ⟨rfl, by omega⟩
    · cases h3
  | some ad =>
    have hz : ∃ g, ad = ⟨g, 0, none⟩ := by
      obtain ⟨_, a', cap', hv', _, _, h3⟩ := id h
      rw [hv] at hv'
      cases hv'
      rcases h3 with ⟨_, h3 | ⟨g, h3⟩⟩ | ⟨g, cur, h3, _⟩
      · cases h3
      · exact ⟨g, by cases h3; rfl⟩
      · exact ⟨g, by cases h3; rfl⟩
    obtain ⟨g, rfl⟩ := hz
    refine .inr ⟨_, rfl, fun j u hu => ?_⟩
    rw [add0]
    exact (h.cell hv hu).1

theorem own_src {w : World} {B : Nat} {e : TypeId} {size n : Nat} {v : Value} {xs : List Value} (h : w.ownsRow B e size v n xs) (h1 : ∀ u ∈ xs, u.oneCell' = true) : SrcOf w size v n xs := by
  refine ⟨h.1, h1, ?_⟩
  rcases h.2 with ⟨rfl, rfl⟩ | ⟨g, cap, cur, rfl, hb, hg, _⟩
  · exact ⟨none, 0, rfl, .inl ⟨rfl, rfl⟩⟩
  · exact ⟨_, cap, rfl, .inr ⟨_, rfl, h.cells (g := g) rfl⟩⟩

theorem own_same {w w' : World} {B : Nat} {e : TypeId} {size n : Nat} {v : Value} {xs : List Value} (h : w.ownsRow B e size v n xs) (hs : ∀ k, v.ownBlock = some k → w'.heap[k]? = w.heap[k]?) : w'.ownsRow B e size v n xs := by
  refine ⟨h.1, ?_⟩
  rcases h.2 with h0 | ⟨g, cap, cur, rfl, hb, hg, h1⟩
  · exact .inl h0
  · exact .inr ⟨g, cap, cur, rfl, hb, (hs g rfl).trans hg, h1⟩
theorem own_below {w w' : World} {B C : Nat} {e : TypeId} {size n : Nat} {v : Value} {xs : List Value} (h : w.ownsRow B e size v n xs) (hb : Below C w w') (hC : w.heap.size ≤ C) : w'.ownsRow B e size v n xs :=
  own_same h fun k hk => hb.block k (Nat.lt_of_lt_of_le (h.lt k hk).2 hC)

section
variable {P : Program}

theorem run_app_own (w : World) (base : Nat) (t ty e : TypeId) (i : TypeInfo) (z : Value) (size bytes : Nat) (ht : P.underlying t = some (.slice e)) (hi : P.info? e = some i) (hz : i.zero = some z)
    (hsize : i.size = size) (hby : i.bytes = bytes) (hzs : z.cells.size = size) (hsz : 0 < size)
    (v : Value) (n : Nat) (xs : List Value) (hown : w.ownsRow base e size v n xs)
    (x : Value) (m : Nat) (news : List Value) (hsrc : SrcOf w size x m news)
    (h63 : n + m ≤ maxLen) (hbytes : (n + m) * bytes ≤ 140737488355328) (hbase : base ≤ w.heap.size) :
    ∃ v' w', (Builtin.append_ #[t, t] ty #[v, x]).run P w = .ok v' w' ∧ w'.ownsRow base e size v' (n + m) (xs ++ news) ∧ w.grownBy w' v.ownBlock ∧ (v'.ownBlock = v.ownBlock ∨ v'.ownBlock = some w.heap.size) := by
  obtain ⟨hl, h1, a, c, rfl, hs⟩ := hsrc
  rcases hs with ⟨rfl, rfl⟩ | ⟨ad, rfl, hnews⟩
  · have hn : news = [] := List.eq_nil_of_length_eq_zero (by simpa using hl)
    subst hn
    subst hsize
    refine ⟨v, w, ?_, by simpa using hown, ⟨rfl, rfl, rfl, Nat.le_refl _, fun _ _ _ => rfl⟩, .inl rfl⟩
    rcases hown.2 with ⟨rfl, rfl⟩ | ⟨g, cap, cur, rfl, hb, hg, hnc, _⟩
    · simp [Builtin.append_, run_underlying ht, sizeOf, typeInfo, hi, Builtin.lenOf, Builtin.firstCells]
    · simp [Builtin.append_, run_underlying ht, sizeOf, typeInfo, hi, Builtin.lenOf, Builtin.firstCells, loadCells, hnc, storeCells]
  · obtain ⟨v', w', h2, h3, h4, _, h5⟩ := run_append_own_at (P := P) w base t ty e i z size bytes ht hi hz hsize hby hzs hsz v n xs hown ad m c news hl hnews h1 h63 hbytes hbase
    exact ⟨v', w', h2, h3, h4, h5⟩

theorem wp_app_own (w : World) {o : Oper} {a : Act} {K : Act → World → Prop} {Q : Exit → Act → World → Prop} (s x : Operand) (t : TypeId)
    (ho : o.op = .call { callee := .builtin .append, args := #[s, x], argTypes := #[t, t] })
    (base : Nat) (e : TypeId) (i : TypeInfo) (z : Value) (size bytes : Nat) (ht : P.underlying t = some (.slice e)) (hi : P.info? e = some i) (hz : i.zero = some z)
    (hsize : i.size = size) (hby : i.bytes = bytes) (hzs : z.cells.size = size) (hsz : 0 < size)
    (v : Value) (n : Nat) (xs : List Value) (hs : a.eval s = v) (hown : w.ownsRow base e size v n xs)
    (xv : Value) (m : Nat) (news : List Value) (hx : a.eval x = xv) (hsrc : SrcOf w size xv m news)
    (h63 : n + m ≤ maxLen) (hbytes : (n + m) * bytes ≤ 140737488355328) (hbase : base ≤ w.heap.size)
    (h : ∀ v' w', w'.ownsRow base e size v' (n + m) (xs ++ news) → w.grownBy w' v.ownBlock → (v'.ownBlock = v.ownBlock ∨ v'.ownBlock = some w.heap.size) → K (a.put o.dst v') w') : o.wp P a w K Q := by
  obtain ⟨v', w', hr, h2, h3, h5⟩ := run_app_own (P := P) w base t o.type e i z size bytes ht hi hz hsize hby hzs hsz v n xs hown xv m news hsrc h63 hbytes hbase
  unfold Oper.wp execOp
  simp only [ho, resolve, invoke, builtin, Sem.run_bind, Sem.run_pure, Result.andThen_ok, List.map_toArray, List.map_cons, List.map_nil, hs, hx, hr]
  exact h v' w' h2 h3 h5

theorem wpList_app_own (w : World) {ops : Array Oper} {rest : List Oper} {o : Oper} {a : Act} {Q : Exit → Act → World → Prop} (hgd : o.guard = none) (s x : Operand) (t : TypeId)
    (ho : o.op = .call { callee := .builtin .append, args := #[s, x], argTypes := #[t, t] })
    (base : Nat) (e : TypeId) (i : TypeInfo) (z : Value) (size bytes : Nat) (ht : P.underlying t = some (.slice e)) (hi : P.info? e = some i) (hz : i.zero = some z)
    (hsize : i.size = size) (hby : i.bytes = bytes) (hzs : z.cells.size = size) (hsz : 0 < size)
    (v : Value) (n : Nat) (xs : List Value) (hs : a.eval s = v) (hown : w.ownsRow base e size v n xs)
    (xv : Value) (m : Nat) (news : List Value) (hx : a.eval x = xv) (hsrc : SrcOf w size xv m news)
    (h63 : n + m ≤ maxLen) (hbytes : (n + m) * bytes ≤ 140737488355328) (hbase : base ≤ w.heap.size)
    (h : ∀ v' w', w'.ownsRow base e size v' (n + m) (xs ++ news) → w.grownBy w' v.ownBlock → (v'.ownBlock = v.ownBlock ∨ v'.ownBlock = some w.heap.size) → wpList P ops Q rest (a.put o.dst v') w') :
    wpList P ops Q (o :: rest) a w :=
  wpList_plain hgd fun _ hK => wp_app_own w s x t ho base e i z size bytes ht hi hz hsize hby hzs hsz v n xs hs hown xv m news hx hsrc h63 hbytes hbase fun v' w' h2 h3 h5 => hK _ _ (h v' w' h2 h3 h5)
end
end Go.Proofs.YtkaeenafejdkfaaGreatDoor

/- Where a kid stands; small facts on lists that a call owns. -/
namespace Go.Proofs.YtkaeenafejdkfaaGreatDoor
open Go.RowKit

set_option maxHeartbeats 2000000 in
set_option maxRecDepth 100000 in
theorem place_any {w : World} {M : Nat → Lab} {tb : Nat} {nv uv : Value} {ps : List Pn} {us : List Value} (h : Lies w M tb nv uv ps us) {i q : Nat} {p m : Pn} (hp : ps[i]? = some p) (hq : p.n.parent = q) (hm : ps[q]? = some m) (hk : (i : Int) ∈ m.n.kids) :
    Calls Tryz.prog 151 #[.pointer (some ⟨tb, 0, none⟩), .int .i64 i] w fun e w' => e = .returned (.int .i64 (idx m.n.kids i : Nat)) ∧ ∃ n, w' = w.drewN n := by
  obtain ⟨nb, cap, rfl, hc, hmx, _, _, hi⟩ := h.form hp
  have hqi : q < ps.length := (List.getElem?_eq_some_iff.1 hm).1
  have c0 := h.cell0
  have c4 := (h.cellN rfl (f := 4) hp (by omega) rfl).1
  rw [hq] at c4
  have c5 := (h.cellN rfl (f := 5) hm (by omega) rfl).1
  have hr := (h.node q m hm).2
  obtain ⟨ka, kc, hkv, _, _⟩ := hr.shape
  rw [hkv] at c5
  have HR : Hid (Row w M (.kids q) 3 1 (.slice ka m.n.kids.length kc) m.n.kids.length (m.n.kids.map intV)) := hkv ▸ hr
  unfold maxLen at hmx
  have i1 : (0 : Int) ≤ (i : Int) := by omega
  have i2 : (i : Int) < (ps.length : Int) := by omega
  have i3 : (0 : Int) ≤ (q : Int) := by omega
  have i4 : (q : Int) < (ps.length : Int) := by omega
  clear h hr hkv hp hm hq
  go_enter Tryz.func151, Tryz.ntmps151
  go_wp2
  go_quiet ((go_at_call 170; refine Calls.quiet_of_same (index_any (M := M) (l := .kids q) (n := m.n.kids.length) ?_ _ hk); exact HR.out.keep (fun _ _ _ => rfl) (fun _ _ => rfl)))
  go_wp2
  go_ret
  exact ⟨rfl, _, rfl⟩

theorem own_cell {w : World} {B : Nat} {v : Value} {n : Nat} {xs : List Int} (h : w.ownsRow B 3 1 v n (xs.map intV)) : xs.length = n ∧ ∃ a c, v = .slice a n c ∧ n ≤ c ∧ c ≤ maxLen ∧ ∀ k y, xs[k]? = some y → ∃ g, a = some ⟨g, 0, none⟩ ∧ w.cell? ⟨g, k, none⟩ = some (.int .i64 y) ∧ w.frozen? ⟨g, k, none⟩ = false := by
  have hl : xs.length = n := by have := h.1; simpa using this
  refine ⟨hl, ?_⟩
  rcases h.2 with ⟨rfl, rfl⟩ | ⟨g, cap, cur, rfl, hb, hg, h1, h2, h3, h4⟩
  · refine ⟨none, 0, rfl, Nat.le_refl _, by unfold maxLen; omega, fun k y hk => ?_⟩
    rw [List.length_eq_zero_iff.1 hl] at hk
    simp at hk
  · refine ⟨_, cap, rfl, h1, h2, fun k y hk => ⟨g, rfl, ?_, ?_⟩⟩
    · rw [cell_of_row w g k cur 3 (0, 0) hg]
      have hk' : (xs.map intV)[k]? = some (.int .i64 y) := by simp [hk, intV]
      rw [← h4, List.getElem?_take] at hk'
      split at hk'
      · simpa using hk'
      · cases hk'
    · simp [World.frozen?, hg]

def nodesOf (ps : List Pn) : List Nd := ps.map Pn.n

theorem nodesOf_get {ps : List Pn} {i : Nat} {n : Nd} (h : (nodesOf ps)[i]? = some n) : ∃ p, ps[i]? = some p ∧ p.n = n := by
  simpa [nodesOf] using h

theorem below_size {B : Nat} {w w' : World} (h : Below B w w') : w.heap.size ≤ w'.heap.size := h.size

theorem own_keep {w w' : World} {A B : Nat} {v : Value} {n : Nat} {xs : List Value} (h : w.ownsRow A 3 1 v n xs) (hb : Below B w w') (hB : ∀ k, v.ownBlock = some k → k < B) : w'.ownsRow A 3 1 v n xs := by
  refine ⟨h.1, ?_⟩
  rcases h.2 with h0 | ⟨g, cap, cur, rfl, h1, h2, h3⟩
  · exact .inl h0
  · exact .inr ⟨g, cap, cur, rfl, h1, (hb.block g (hB g rfl)).trans h2, h3⟩

theorem hasB_lt {n i : Nat} (h : i < n) : hasB n i = true := by unfold hasB; simp; omega

theorem nodes_get {ps : List Pn} {j : Nat} {p : Pn} (h : ps[j]? = some p) : (nodesOf ps)[j]? = some p.n := by
  simp [nodesOf, h]

theorem one_attr (l : List (ByteArray × ByteArray)) : ∀ u ∈ attrCells l, u.oneCell' = true := by
  intro u hu
  obtain ⟨x, _, hx⟩ := List.mem_flatMap.1 hu
  simp at hx
  rcases hx with rfl | rfl <;> rfl

theorem one_int (l : List Int) : ∀ u ∈ l.map intV, u.oneCell' = true := by
  intro u hu
  obtain ⟨k, _, rfl⟩ := List.mem_map.1 hu
  rfl

theorem SrcOf.below {w w' : World} {size m : Nat} {x : Value} {news : List Value} (h : SrcOf w size x m news) (hb : Below w.heap.size w w') : SrcOf w' size x m news :=
  h.keep fun a _ hv => (hb.cell (World.block_lt_of_cell? w a hv)).trans hv

theorem own_shape {w : World} {B : Nat} {e : TypeId} {size n : Nat} {v : Value} {xs : List Value} (h : w.ownsRow B e size v n xs) : ∃ a c, v = .slice a n c := by
  rcases h.2 with ⟨rfl, rfl⟩ | ⟨g, cap, cur, rfl, _⟩
  · exact ⟨none, 0, rfl⟩
  · exact ⟨_, _, rfl⟩

theorem below_grown {w w' : World} (hg : w.grownBy w' none) : Below w.heap.size w w' := (Below.refl _ _).grown hg (Nat.le_refl _) (fun _ h => by cases h)
end Go.Proofs.YtkaeenafejdkfaaGreatDoor

/- Whether a node is another one, or lies in it. -/
namespace Go.Proofs.YtkaeenafejdkfaaGreatDoor
open Go.RowKit

/-- a node and all in which it lies, up to its root -/
inductive Up (ns : List Nd) : Nat → List Nat → Prop where
  | root {i : Nat} {n : Nd} (h : ns[i]? = some n) (hp : n.parent = -1) : Up ns i [i]
  | up {i p : Nat} {l : List Nat} {n : Nd} (h : ns[i]? = some n) (hp : n.parent = p) (hu : Up ns p l) : Up ns i (i :: l)

set_option maxHeartbeats 4000000 in
set_option maxRecDepth 100000 in
theorem within_any {w : World} {M : Nat → Lab} {tb : Nat} {nv uv : Value} {ps : List Pn} {us : List Value} (h : Lies w M tb nv uv ps us) {i : Nat} {l : List Nat} (hu : Up (nodesOf ps) i l) (j : Nat) :
    Calls Tryz.prog 89 #[.pointer (some ⟨tb, 0, none⟩), .int .i64 i, .int .i64 j] w fun e w' => e = .returned (.bool (decide (j ∈ l))) ∧ w' = w := by
  have H : Hid (Lies w M tb nv uv ps us) := h
  have HU : Hid (Up (nodesOf ps) i l) := hu
  clear h hu
  go_enter Tryz.func89, Tryz.ntmps89
  go_wp2
  go_loopg [1] (l.length + 1) (fun k id wr => wr = w ∧ ((∃ (x : Nat) (l' : List Nat), id = .int .i64 x ∧ l'.length + 1 = k ∧ Hid (Up (nodesOf ps) x l') ∧ Hid (j ∈ l' ↔ j ∈ l)) ∨ (id = .int .i64 (-1) ∧ k = 0 ∧ Hid (¬ j ∈ l))))
  case atStart => exact ⟨rfl, .inl ⟨i, l, rfl, rfl, HU, (Iff.rfl : j ∈ l ↔ j ∈ l)⟩⟩
  case round =>
    obtain ⟨rfl, hrel⟩ := hrel
    rcases hrel with ⟨x, l', rfl, hk, hup, hiff⟩ | ⟨rfl, hk, hno⟩
    · by_cases hxj : x = j
      · subst hxj
        have HD : Hid (decide (x ∈ l) = true) := by
          show decide _ = true
          rw [decide_eq_true_eq]
          refine hiff.out.1 ?_
          have := hup.out
          cases this <;> simp
        go_wp2
        go_ret
        exact ⟨ret_bool HD.out.symm, rfl⟩
      · have hne : ¬ ((x : Int) = (j : Int)) := by omega
        have hb1 : ((x : Int) != (j : Int)) = true := by simp [hne]
        have hneb : ((x : Int) == (j : Int)) = false := by simpa using hne
        have hn1 : ¬ ((x : Int) = -1) := by omega
        have hb2 : ((x : Int) != -1) = true := by simp
        have hupo := hup.out
        cases hupo with
        | root hn hp =>
          obtain ⟨p, hp1, rfl⟩ := nodesOf_get hn
          obtain ⟨nb, cap, hnv, hc, hm, _, _, hxl⟩ := H.out.form hp1
          have hL := H.out
          rw [hnv] at hL
          have c0 := hL.cell0
          have c4 := (hL.cellN rfl (f := 4) hp1 (by omega) rfl).1
          rw [hp] at c4
          unfold maxLen at hm
          have HN : Hid (¬ j ∈ l) := by
            intro hj
            have := hiff.out.2 hj
            simp at this
            omega
          clear hL hn hp hp1 hnv
          go_wp2
          go_roundg 0
          case measure => omega
          case rel => exact ⟨rfl, .inr ⟨rfl, rfl, HN⟩⟩
        | @up _ q l2 n hn hp hu2 =>
          obtain ⟨p, hp1, rfl⟩ := nodesOf_get hn
          obtain ⟨nb, cap, hnv, hc, hm, _, _, hxl⟩ := H.out.form hp1
          have hL := H.out
          rw [hnv] at hL
          have c0 := hL.cell0
          have c4 := (hL.cellN rfl (f := 4) hp1 (by omega) rfl).1
          rw [hp] at c4
          unfold maxLen at hm
          have HN : Hid (j ∈ l2 ↔ j ∈ l) := by
            show _ ↔ _
            rw [← hiff.out, List.mem_cons]
            constructor
            · exact .inr
            · rintro (h | h)
              · omega
              · exact h
          have HU2 : Hid (Up (nodesOf ps) q l2) := hu2
          clear hL hn hp hp1 hnv hu2
          go_wp2
          go_roundg (l2.length + 1)
          case measure => simp at hk; omega
          case rel => exact ⟨rfl, .inl ⟨q, l2, rfl, rfl, HU2, HN⟩⟩
    · have hn2 : ¬ ((-1 : Int) = (j : Int)) := by omega
      have hn2b : ((-1 : Int) == (j : Int)) = false := by simp
      have HD : Hid (decide (j ∈ l) = false) := by
        show decide _ = false
        rw [decide_eq_false_iff_not]
        exact hno.out
      go_wp2
      go_ret
      exact ⟨ret_bool HD.out.symm, rfl⟩
end Go.Proofs.YtkaeenafejdkfaaGreatDoor
