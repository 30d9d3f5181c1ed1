/- append onto a slice of the call's own, of another slice that may be nil. -/
import Derived.Test.YtkaeenafejdkfaaGreatDoorM03
import Derived.Test.YtkaeenafejdkfaaGreatDoorM08
import Derived.BigRegion
namespace Go.Proofs.YtkaeenafejdkfaaGreatDoor
open Go.RowKit

/-- what a slice yields -/
def SrcOf (w : World) (size : Nat) (x : Value) (m : Nat) (news : List Value) : Prop :=
  news.length = m * size ∧ (∀ u ∈ news, u.oneCell' = true) ∧ ∃ a c, x = .slice a m c ∧ ((a = none ∧ m = 0) ∨ ∃ ad, a = some ad ∧ ∀ j u, news[j]? = some u → w.cell? (ad.add j) = some u)

theorem SrcOf.keep {w w' : World} {size m : Nat} {x : Value} {news : List Value} (h : SrcOf w size x m news) (hc : ∀ a v, w.cell? a = some v → w'.cell? a = some v) : SrcOf w' size x m news := by
  obtain ⟨h1, h2, a, c, h3, h4⟩ := h
  refine ⟨h1, h2, a, c, h3, ?_⟩
  rcases h4 with h4 | ⟨ad, h5, h6⟩
  · exact .inl h4
  · exact .inr ⟨ad, h5, fun j u hu => hc _ _ (h6 j u hu)⟩

theorem add0 (g j : Nat) : (⟨g, 0, none⟩ : Addr).add j = ⟨g, j, none⟩ := by unfold Addr.add; split <;> simp_all

theorem Row.src {w : World} {M : Nat → Lab} {l : Lab} {e : TypeId} {size n : Nat} {v : Value} {xs : List Value} (h : Row w M l e size v n xs) (h1 : ∀ u ∈ xs, u.oneCell' = true) : SrcOf w size v n xs := by
  obtain ⟨a, cap, hv, hc, hm⟩ := h.shape
  refine ⟨h.1, h1, a, cap, hv, ?_⟩
  cases a with
  | none =>
    obtain ⟨_, a', cap', hv', _, _, h3⟩ := id h
    rw [hv] at hv'
    cases hv'
    rcases h3 with ⟨h3, _⟩ | ⟨g, cur, h3, _⟩
    · exact .inl ⟨rfl, by omega⟩
    · cases h3
  | some ad =>
    have hz : ∃ g, ad = ⟨g, 0, none⟩ := by
      obtain ⟨_, a', cap', hv', _, _, h3⟩ := id h
      rw [hv] at hv'
      cases hv'
      rcases h3 with ⟨_, h3 | ⟨g, h3⟩⟩ | ⟨g, cur, h3, _⟩
      · cases h3
      · exact ⟨g, by cases h3; rfl⟩
      · exact ⟨g, by cases h3; rfl⟩
    obtain ⟨g, rfl⟩ := hz
    refine .inr ⟨_, rfl, fun j u hu => ?_⟩
    rw [add0]
    exact (h.cell hv hu).1

theorem own_src {w : World} {B : Nat} {e : TypeId} {size n : Nat} {v : Value} {xs : List Value} (h : w.ownsRow B e size v n xs) (h1 : ∀ u ∈ xs, u.oneCell' = true) : SrcOf w size v n xs := by
  refine ⟨h.1, h1, ?_⟩
  rcases h.2 with ⟨rfl, rfl⟩ | ⟨g, cap, cur, rfl, hb, hg, _⟩
  · exact ⟨none, 0, rfl, .inl ⟨rfl, rfl⟩⟩
  · exact ⟨_, cap, rfl, .inr ⟨_, rfl, h.cells (g := g) rfl⟩⟩

theorem own_same {w w' : World} {B : Nat} {e : TypeId} {size n : Nat} {v : Value} {xs : List Value} (h : w.ownsRow B e size v n xs) (hs : ∀ k, v.ownBlock = some k → w'.heap[k]? = w.heap[k]?) : w'.ownsRow B e size v n xs := by
  refine ⟨h.1, ?_⟩
  rcases h.2 with h0 | ⟨g, cap, cur, rfl, hb, hg, h1⟩
  · exact .inl h0
  · exact .inr ⟨g, cap, cur, rfl, hb, (hs g rfl).trans hg, h1⟩
theorem own_below {w w' : World} {B C : Nat} {e : TypeId} {size n : Nat} {v : Value} {xs : List Value} (h : w.ownsRow B e size v n xs) (hb : Below C w w') (hC : w.heap.size ≤ C) : w'.ownsRow B e size v n xs :=
  own_same h fun k hk => hb.block k (Nat.lt_of_lt_of_le (h.lt k hk).2 hC)

section
variable {P : Program}

theorem run_app_own (w : World) (base : Nat) (t ty e : TypeId) (i : TypeInfo) (z : Value) (size bytes : Nat) (ht : P.underlying t = some (.slice e)) (hi : P.info? e = some i) (hz : i.zero = some z)
    (hsize : i.size = size) (hby : i.bytes = bytes) (hzs : z.cells.size = size) (hsz : 0 < size)
    (v : Value) (n : Nat) (xs : List Value) (hown : w.ownsRow base e size v n xs)
    (x : Value) (m : Nat) (news : List Value) (hsrc : SrcOf w size x m news)
    (h63 : n + m ≤ maxLen) (hbytes : (n + m) * bytes ≤ 140737488355328) (hbase : base ≤ w.heap.size) :
    ∃ v' w', (Builtin.append_ #[t, t] ty #[v, x]).run P w = .ok v' w' ∧ w'.ownsRow base e size v' (n + m) (xs ++ news) ∧ w.grownBy w' v.ownBlock ∧ (v'.ownBlock = v.ownBlock ∨ v'.ownBlock = some w.heap.size) := by
  obtain ⟨hl, h1, a, c, rfl, hs⟩ := hsrc
  rcases hs with ⟨rfl, rfl⟩ | ⟨ad, rfl, hnews⟩
  · have hn : news = [] := List.eq_nil_of_length_eq_zero (by simpa using hl)
    subst hn
    subst hsize
    refine ⟨v, w, ?_, by simpa using hown, ⟨rfl, rfl, rfl, Nat.le_refl _, fun _ _ _ => rfl⟩, .inl rfl⟩
    rcases hown.2 with ⟨rfl, rfl⟩ | ⟨g, cap, cur, rfl, hb, hg, hnc, _⟩
    · simp [Builtin.append_, run_underlying ht, sizeOf, typeInfo, hi, Builtin.lenOf, Builtin.firstCells]
    · simp [Builtin.append_, run_underlying ht, sizeOf, typeInfo, hi, Builtin.lenOf, Builtin.firstCells, loadCells, hnc, storeCells]
  · obtain ⟨v', w', h2, h3, h4, _, h5⟩ := run_append_own_at (P := P) w base t ty e i z size bytes ht hi hz hsize hby hzs hsz v n xs hown ad m c news hl hnews h1 h63 hbytes hbase
    exact ⟨v', w', h2, h3, h4, h5⟩

theorem wp_app_own (w : World) {o : Oper} {a : Act} {K : Act → World → Prop} {Q : Exit → Act → World → Prop} (s x : Operand) (t : TypeId)
    (ho : o.op = .call { callee := .builtin .append, args := #[s, x], argTypes := #[t, t] })
    (base : Nat) (e : TypeId) (i : TypeInfo) (z : Value) (size bytes : Nat) (ht : P.underlying t = some (.slice e)) (hi : P.info? e = some i) (hz : i.zero = some z)
    (hsize : i.size = size) (hby : i.bytes = bytes) (hzs : z.cells.size = size) (hsz : 0 < size)
    (v : Value) (n : Nat) (xs : List Value) (hs : a.eval s = v) (hown : w.ownsRow base e size v n xs)
    (xv : Value) (m : Nat) (news : List Value) (hx : a.eval x = xv) (hsrc : SrcOf w size xv m news)
    (h63 : n + m ≤ maxLen) (hbytes : (n + m) * bytes ≤ 140737488355328) (hbase : base ≤ w.heap.size)
    (h : ∀ v' w', w'.ownsRow base e size v' (n + m) (xs ++ news) → w.grownBy w' v.ownBlock → (v'.ownBlock = v.ownBlock ∨ v'.ownBlock = some w.heap.size) → K (a.put o.dst v') w') : o.wp P a w K Q := by
  obtain ⟨v', w', hr, h2, h3, h5⟩ := run_app_own (P := P) w base t o.type e i z size bytes ht hi hz hsize hby hzs hsz v n xs hown xv m news hsrc h63 hbytes hbase
  unfold Oper.wp execOp
  simp only [ho, resolve, invoke, builtin, Sem.run_bind, Sem.run_pure, Result.andThen_ok, List.map_toArray, List.map_cons, List.map_nil, hs, hx, hr]
  exact h v' w' h2 h3 h5

theorem wpList_app_own (w : World) {ops : Array Oper} {rest : List Oper} {o : Oper} {a : Act} {Q : Exit → Act → World → Prop} (hgd : o.guard = none) (s x : Operand) (t : TypeId)
    (ho : o.op = .call { callee := .builtin .append, args := #[s, x], argTypes := #[t, t] })
    (base : Nat) (e : TypeId) (i : TypeInfo) (z : Value) (size bytes : Nat) (ht : P.underlying t = some (.slice e)) (hi : P.info? e = some i) (hz : i.zero = some z)
    (hsize : i.size = size) (hby : i.bytes = bytes) (hzs : z.cells.size = size) (hsz : 0 < size)
    (v : Value) (n : Nat) (xs : List Value) (hs : a.eval s = v) (hown : w.ownsRow base e size v n xs)
    (xv : Value) (m : Nat) (news : List Value) (hx : a.eval x = xv) (hsrc : SrcOf w size xv m news)
    (h63 : n + m ≤ maxLen) (hbytes : (n + m) * bytes ≤ 140737488355328) (hbase : base ≤ w.heap.size)
    (h : ∀ v' w', w'.ownsRow base e size v' (n + m) (xs ++ news) → w.grownBy w' v.ownBlock → (v'.ownBlock = v.ownBlock ∨ v'.ownBlock = some w.heap.size) → wpList P ops Q rest (a.put o.dst v') w') :
    wpList P ops Q (o :: rest) a w :=
  wpList_plain hgd fun _ hK => wp_app_own w s x t ho base e i z size bytes ht hi hz hsize hby hzs hsz v n xs hs hown xv m news hx hsrc h63 hbytes hbase fun v' w' h2 h3 h5 => hK _ _ (h v' w' h2 h3 h5)
end
end Go.Proofs.YtkaeenafejdkfaaGreatDoor

/- Where a kid stands; small facts on lists that a call owns. -/
namespace Go.Proofs.YtkaeenafejdkfaaGreatDoor
open Go.RowKit

set_option maxHeartbeats 2000000 in
set_option maxRecDepth 100000 in
theorem place_any {w : World} {M : Nat → Lab} {tb : Nat} {nv uv : Value} {ps : List Pn} {us : List Value} (h : Lies w M tb nv uv ps us) {i q : Nat} {p m : Pn} (hp : ps[i]? = some p) (hq : p.n.parent = q) (hm : ps[q]? = some m) (hk : (i : Int) ∈ m.n.kids) :
    Calls Tryz.prog 151 #[.pointer (some ⟨tb, 0, none⟩), .int .i64 i] w fun e w' => e = .returned (.int .i64 (idx m.n.kids i : Nat)) ∧ ∃ n, w' = w.drewN n := by
  obtain ⟨nb, cap, rfl, hc, hmx, _, _, hi⟩ := h.form hp
  have hqi : q < ps.length := (List.getElem?_eq_some_iff.1 hm).1
  have c0 := h.cell0
  have c4 := (h.cellN rfl (f := 4) hp (by omega) rfl).1
  rw [hq] at c4
  have c5 := (h.cellN rfl (f := 5) hm (by omega) rfl).1
  have hr := (h.node q m hm).2
  obtain ⟨ka, kc, hkv, _, _⟩ := hr.shape
  rw [hkv] at c5
  have HR : Hid (Row w M (.kids q) 3 1 (.slice ka m.n.kids.length kc) m.n.kids.length (m.n.kids.map intV)) := hkv ▸ hr
  unfold maxLen at hmx
  have i1 : (0 : Int) ≤ (i : Int) := by omega
  have i2 : (i : Int) < (ps.length : Int) := by omega
  have i3 : (0 : Int) ≤ (q : Int) := by omega
  have i4 : (q : Int) < (ps.length : Int) := by omega
  clear h hr hkv hp hm hq
  go_enter Tryz.func151, Tryz.ntmps151
  go_wp2
  go_quiet ((go_at_call 170; refine Calls.quiet_of_same (index_any (M := M) (l := .kids q) (n := m.n.kids.length) ?_ _ hk); exact HR.out.keep (fun _ _ _ => rfl) (fun _ _ => rfl)))
  go_wp2
  go_ret
  exact ⟨rfl, _, rfl⟩

theorem own_cell {w : World} {B : Nat} {v : Value} {n : Nat} {xs : List Int} (h : w.ownsRow B 3 1 v n (xs.map intV)) : xs.length = n ∧ ∃ a c, v = .slice a n c ∧ n ≤ c ∧ c ≤ maxLen ∧ ∀ k y, xs[k]? = some y → ∃ g, a = some ⟨g, 0, none⟩ ∧ w.cell? ⟨g, k, none⟩ = some (.int .i64 y) ∧ w.frozen? ⟨g, k, none⟩ = false := by
  have hl : xs.length = n := by have := h.1; simpa using this
  refine ⟨hl, ?_⟩
  rcases h.2 with ⟨rfl, rfl⟩ | ⟨g, cap, cur, rfl, hb, hg, h1, h2, h3, h4⟩
  · refine ⟨none, 0, rfl, Nat.le_refl _, by unfold maxLen; omega, fun k y hk => ?_⟩
    rw [List.length_eq_zero_iff.1 hl] at hk
    simp at hk
  · refine ⟨_, cap, rfl, h1, h2, fun k y hk => ⟨g, rfl, ?_, ?_⟩⟩
    · rw [cell_of_row w g k cur 3 (0, 0) hg]
      have hk' : (xs.map intV)[k]? = some (.int .i64 y) := by simp [hk, intV]
      rw [← h4, List.getElem?_take] at hk'
      split at hk'
      · simpa using hk'
      · cases hk'
    · simp [World.frozen?, hg]

def nodesOf (ps : List Pn) : List Nd := ps.map Pn.n

theorem nodesOf_get {ps : List Pn} {i : Nat} {n : Nd} (h : (nodesOf ps)[i]? = some n) : ∃ p, ps[i]? = some p ∧ p.n = n := by
  simpa [nodesOf] using h

theorem below_size {B : Nat} {w w' : World} (h : Below B w w') : w.heap.size ≤ w'.heap.size := h.size

theorem own_keep {w w' : World} {A B : Nat} {v : Value} {n : Nat} {xs : List Value} (h : w.ownsRow A 3 1 v n xs) (hb : Below B w w') (hB : ∀ k, v.ownBlock = some k → k < B) : w'.ownsRow A 3 1 v n xs := by
  refine ⟨h.1, ?_⟩
  rcases h.2 with h0 | ⟨g, cap, cur, rfl, h1, h2, h3⟩
  · exact .inl h0
  · exact .inr ⟨g, cap, cur, rfl, h1, (hb.block g (hB g rfl)).trans h2, h3⟩

theorem hasB_lt {n i : Nat} (h : i < n) : hasB n i = true := by unfold hasB; simp; omega

theorem nodes_get {ps : List Pn} {j : Nat} {p : Pn} (h : ps[j]? = some p) : (nodesOf ps)[j]? = some p.n := by
  simp [nodesOf, h]

theorem one_attr (l : List (ByteArray × ByteArray)) : ∀ u ∈ attrCells l, u.oneCell' = true := by
  intro u hu
  obtain ⟨x, _, hx⟩ := List.mem_flatMap.1 hu
  simp at hx
  rcases hx with rfl | rfl <;> rfl

theorem one_int (l : List Int) : ∀ u ∈ l.map intV, u.oneCell' = true := by
  intro u hu
  obtain ⟨k, _, rfl⟩ := List.mem_map.1 hu
  rfl

theorem SrcOf.below {w w' : World} {size m : Nat} {x : Value} {news : List Value} (h : SrcOf w size x m news) (hb : Below w.heap.size w w') : SrcOf w' size x m news :=
  h.keep fun a _ hv => (hb.cell (World.block_lt_of_cell? w a hv)).trans hv

theorem own_shape {w : World} {B : Nat} {e : TypeId} {size n : Nat} {v : Value} {xs : List Value} (h : w.ownsRow B e size v n xs) : ∃ a c, v = .slice a n c := by
  rcases h.2 with ⟨rfl, rfl⟩ | ⟨g, cap, cur, rfl, _⟩
  · exact ⟨none, 0, rfl⟩
  · exact ⟨_, _, rfl⟩

theorem below_grown {w w' : World} (hg : w.grownBy w' none) : Below w.heap.size w w' := (Below.refl _ _).grown hg (Nat.le_refl _) (fun _ h => by cases h)
end Go.Proofs.YtkaeenafejdkfaaGreatDoor

/- Whether a node is another one, or lies in it. -/
namespace Go.Proofs.YtkaeenafejdkfaaGreatDoor
open Go.RowKit

/-- a node and all in which it lies, up to its root -/
inductive Up (ns : List Nd) : Nat → List Nat → Prop where
  | root {i : Nat} {n : Nd} (h : ns[i]? = some n) (hp : n.parent = -1) : Up ns i [i]
  | up {i p : Nat} {l : List Nat} {n : Nd} (h : ns[i]? = some n) (hp : n.parent = p) (hu : Up ns p l) : Up ns i (i :: l)

set_option maxHeartbeats 4000000 in
set_option maxRecDepth 100000 in
theorem within_any {w : World} {M : Nat → Lab} {tb : Nat} {nv uv : Value} {ps : List Pn} {us : List Value} (h : Lies w M tb nv uv ps us) {i : Nat} {l : List Nat} (hu : Up (nodesOf ps) i l) (j : Nat) :
    Calls Tryz.prog 89 #[.pointer (some ⟨tb, 0, none⟩), .int .i64 i, .int .i64 j] w fun e w' => e = .returned (.bool (decide (j ∈ l))) ∧ w' = w := by
  have H : Hid (Lies w M tb nv uv ps us) := h
  have HU : Hid (Up (nodesOf ps) i l) := hu
  clear h hu
  go_enter Tryz.func89, Tryz.ntmps89
  go_wp2
  go_loopg [1] (l.length + 1) (fun k id wr => wr = w ∧ ((∃ (x : Nat) (l' : List Nat), id = .int .i64 x ∧ l'.length + 1 = k ∧ Hid (Up (nodesOf ps) x l') ∧ Hid (j ∈ l' ↔ j ∈ l)) ∨ (id = .int .i64 (-1) ∧ k = 0 ∧ Hid (¬ j ∈ l))))
  case atStart => exact ⟨rfl, .inl ⟨i, l, rfl, rfl, HU, (Iff.rfl : j ∈ l ↔ j ∈ l)⟩⟩
  case round =>
    obtain ⟨rfl, hrel⟩ := hrel
    rcases hrel with ⟨x, l', rfl, hk, hup, hiff⟩ | ⟨rfl, hk, hno⟩
    · by_cases hxj : x = j
      · subst hxj
        have HD : Hid (decide (x ∈ l) = true) := by
          show decide _ = true
          rw [decide_eq_true_eq]
          refine hiff.out.1 ?_
          have := hup.out
          cases this <;> simp
        go_wp2
        go_ret
        exact ⟨ret_bool HD.out.symm, rfl⟩
      · have hne : ¬ ((x : Int) = (j : Int)) := by omega
        have hb1 : ((x : Int) != (j : Int)) = true := by simp [hne]
        have hneb : ((x : Int) == (j : Int)) = false := by simpa using hne
        have hn1 : ¬ ((x : Int) = -1) := by omega
        have hb2 : ((x : Int) != -1) = true := by simp
        have hupo := hup.out
        cases hupo with
        | root hn hp =>
          obtain ⟨p, hp1, rfl⟩ := nodesOf_get hn
          obtain ⟨nb, cap, hnv, hc, hm, _, _, hxl⟩ := H.out.form hp1
          have hL := H.out
          rw [hnv] at hL
          have c0 := hL.cell0
          have c4 := (hL.cellN rfl (f := 4) hp1 (by omega) rfl).1
          rw [hp] at c4
          unfold maxLen at hm
          have HN : Hid (¬ j ∈ l) := by
            intro hj
            have := hiff.out.2 hj
            simp at this
            omega
          clear hL hn hp hp1 hnv
          go_wp2
          go_roundg 0
          case measure => omega
          case rel => exact ⟨rfl, .inr ⟨rfl, rfl, HN⟩⟩
        | @up _ q l2 n hn hp hu2 =>
          obtain ⟨p, hp1, rfl⟩ := nodesOf_get hn
          obtain ⟨nb, cap, hnv, hc, hm, _, _, hxl⟩ := H.out.form hp1
          have hL := H.out
          rw [hnv] at hL
          have c0 := hL.cell0
          have c4 := (hL.cellN rfl (f := 4) hp1 (by omega) rfl).1
          rw [hp] at c4
          unfold maxLen at hm
          have HN : Hid (j ∈ l2 ↔ j ∈ l) := by
            show _ ↔ _
            rw [← hiff.out, List.mem_cons]
            constructor
            · exact .inr
            · rintro (h | h)
              · omega
              · exact h
          have HU2 : Hid (Up (nodesOf ps) q l2) := hu2
          clear hL hn hp hp1 hnv hu2
          go_wp2
          go_roundg (l2.length + 1)
          case measure => simp at hk; omega
          case rel => exact ⟨rfl, .inl ⟨q, l2, rfl, rfl, HU2, HN⟩⟩
    · have hn2 : ¬ ((-1 : Int) = (j : Int)) := by omega
      have hn2b : ((-1 : Int) == (j : Int)) = false := by simp
      have HD : Hid (decide (j ∈ l) = false) := by
        show decide _ = false
        rw [decide_eq_false_iff_not]
        exact hno.out
      go_wp2
      go_ret
      exact ⟨ret_bool HD.out.symm, rfl⟩
end Go.Proofs.YtkaeenafejdkfaaGreatDoor

/- Trees in general, and what undoes a change: plain mathematics. -/
namespace Go.Proofs.YtkaeenafejdkfaaGreatDoor

theorem Up.get {ns : List Nd} {j : Nat} {l : List Nat} (h : Up ns j l) : ∃ n, ns[j]? = some n := by
  cases h with
  | root h _ => exact ⟨_, h⟩
  | up h _ _ => exact ⟨_, h⟩
theorem Up.head {ns : List Nd} {j : Nat} {l : List Nat} (h : Up ns j l) : j ∈ l := by
  cases h <;> simp
theorem Up.det {ns : List Nd} {j : Nat} {l : List Nat} (h : Up ns j l) : ∀ {k : List Nat}, Up ns j k → l = k := by
  induction h with
  | root h hp =>
    intro k hk
    cases hk with
    | root _ _ => rfl
    | up h' hp' _ =>
      obtain rfl := Option.some.inj (h.symm.trans h')
      omega
  | up h hp hu ih =>
    intro k hk
    cases hk with
    | root h' hp' =>
      obtain rfl := Option.some.inj (h.symm.trans h')
      omega
    | up h' hp' hu' =>
      obtain rfl := Option.some.inj (h.symm.trans h')
      have e := Int.ofNat.inj (hp.symm.trans hp')
      subst e
      rw [ih hu']
theorem Up.lt {ns : List Nd} {j : Nat} {l : List Nat} (h : Up ns j l) : ∀ x ∈ l, x < ns.length := by
  induction h with
  | root h _ => intro x hx; simp at hx; subst hx; exact (List.getElem?_eq_some_iff.1 h).1
  | up h _ _ ih =>
    intro x hx
    rcases List.mem_cons.1 hx with rfl | hx
    · exact (List.getElem?_eq_some_iff.1 h).1
    · exact ih x hx
/-- from a node of a chain on, the rest is that node's chain -/
theorem Up.tail {ns : List Nd} {j : Nat} {l : List Nat} (h : Up ns j l) : ∀ x ∈ l, ∃ k, Up ns x k ∧ k.length ≤ l.length := by
  induction h with
  | root h hp => intro x hx; simp at hx; subst hx; exact ⟨_, .root h hp, Nat.le_refl _⟩
  | up h hp hu ih =>
    intro x hx
    rcases List.mem_cons.1 hx with rfl | hx
    · exact ⟨_, .up h hp hu, Nat.le_refl _⟩
    · obtain ⟨k, h1, h2⟩ := ih x hx
      exact ⟨k, h1, by simp; omega⟩
theorem Up.nodup {ns : List Nd} {j : Nat} {l : List Nat} (h : Up ns j l) : l.Nodup := by
  induction h with
  | root h hp => simp
  | @up i p l n h hp hu ih =>
    rw [List.nodup_cons]
    refine ⟨fun hm => ?_, ih⟩
    obtain ⟨k, h1, h2⟩ := hu.tail _ hm
    have := h1.det (.up h hp hu)
    rw [this] at h2
    simp at h2
    omega

theorem short {N : Nat} : ∀ (l : List Int), l.Nodup → (∀ x ∈ l, ∃ b : Nat, x = b ∧ b < N) → l.length ≤ N := by
  induction N with
  | zero =>
    intro l _ h
    cases l with
    | nil => exact Nat.le_refl _
    | cons x l => obtain ⟨b, _, h2⟩ := h x (List.mem_cons_self ..); omega
  | succ N ih =>
    intro l hl h
    have h1 := ih (l.erase (N : Int)) (hl.erase _) (fun x hx => by
      have hx' := (List.Nodup.mem_erase_iff hl).1 hx
      obtain ⟨b, e1, e2⟩ := h x hx'.2
      refine ⟨b, e1, ?_⟩
      have : b ≠ N := fun e => hx'.1 (by rw [e1, e])
      omega)
    by_cases hm : (N : Int) ∈ l
    · rw [List.length_erase_of_mem hm] at h1
      omega
    · rw [List.erase_of_not_mem hm] at h1
      omega
theorem nodup_cast : ∀ (l : List Nat), l.Nodup → (l.map fun (x : Nat) => (x : Int)).Nodup
  | [], _ => List.nodup_nil
  | x :: l, h => by
    obtain ⟨h1, h2⟩ := List.nodup_cons.1 h
    rw [List.map_cons, List.nodup_cons]
    refine ⟨fun hm => ?_, nodup_cast l h2⟩
    obtain ⟨y, hy, e⟩ := List.mem_map.1 hm
    have e := Int.ofNat.inj e
    subst e
    exact h1 hy
theorem Up.short {ns : List Nd} {j : Nat} {l : List Nat} (h : Up ns j l) : l.length ≤ ns.length := by
  have := Go.Proofs.YtkaeenafejdkfaaGreatDoor.short (N := ns.length) (l.map fun (x : Nat) => (x : Int)) (nodup_cast l h.nodup) (by
    intro x hx
    obtain ⟨y, hy, e⟩ := List.mem_map.1 hx
    exact ⟨y, e.symm, h.lt y hy⟩)
  simpa using this

/-- what holds of every tree -/
structure WF (ns : List Nd) : Prop where
  root : ∃ n, ns[0]? = some n ∧ n.kind = 1 ∧ n.parent = -1
  len : ns.length ≤ 400
  nodup : ∀ (j : Nat) (n : Nd), ns[j]? = some n → n.kids.Nodup
  kid : ∀ (j : Nat) (n : Nd), ns[j]? = some n → ∀ x ∈ n.kids, ∃ (c : Nat) (m : Nd), x = c ∧ ns[c]? = some m ∧ m.parent = j
  par : ∀ (j : Nat) (n : Nd), ns[j]? = some n → n.parent = -1 ∨ ∃ (q : Nat) (m : Nd), n.parent = q ∧ ns[q]? = some m ∧ (j : Int) ∈ m.kids
  up : ∀ (j : Nat) (n : Nd), ns[j]? = some n → ∃ l, Up ns j l

theorem WF.pne {ns : List Nd} (h : WF ns) {j q : Nat} {n : Nd} (hj : ns[j]? = some n) (hq : n.parent = q) : q ≠ j := by
  intro e
  subst e
  obtain ⟨l, hl⟩ := h.up q n hj
  cases hl with
  | root h' hp' =>
    obtain rfl := Option.some.inj (hj.symm.trans h')
    omega
  | @up _ p l2 _ h' hp' hu =>
    obtain rfl := Option.some.inj (hj.symm.trans h')
    have e := Int.ofNat.inj (hq.symm.trans hp')
    subst e
    have := hu.det (.up h' hp' hu)
    have := congrArg List.length this
    simp at this
theorem WF.few {ns : List Nd} (h : WF ns) {j : Nat} {n : Nd} (hj : ns[j]? = some n) : n.kids.length ≤ 400 := by
  refine Nat.le_trans (short (N := ns.length) n.kids (h.nodup j n hj) fun x hx => ?_) h.len
  obtain ⟨c, m, e1, e2, _⟩ := h.kid j n hj x hx
  exact ⟨c, e1, (List.getElem?_eq_some_iff.1 e2).1⟩
theorem WF.rootNotKid {ns : List Nd} (h : WF ns) {a i : Nat} {m n : Nd} (ha : ns[a]? = some m) (hi : ns[i]? = some n) (hr : n.parent = -1) : (i : Int) ∉ m.kids := by
  intro hm
  obtain ⟨c, k, e1, e2, e3⟩ := h.kid a m ha _ hm
  have e := Int.ofNat.inj e1
  subst e
  obtain rfl := Option.some.inj (e2.symm.trans hi)
  omega

theorem get2 (ns : List Nd) {a i : Nat} (x y : Nd) (hai : a ≠ i) (ha : a < ns.length) (hi : i < ns.length) (j : Nat) : ((ns.set a x).set i y)[j]? = if j = i then some y else if j = a then some x else ns[j]? := by
  by_cases h1 : j = i
  · subst h1
    rw [if_pos rfl, List.getElem?_set_self (by rw [List.length_set]; exact hi)]
  · rw [if_neg h1, List.getElem?_set_ne (Ne.symm h1)]
    by_cases h2 : j = a
    · subst h2
      rw [if_pos rfl, List.getElem?_set_self ha]
    · rw [if_neg h2, List.getElem?_set_ne (Ne.symm h2)]

/-- a node was pulled out of where it was -/
inductive Pulled (ns : List Nd) (i : Nat) : List Nd → Int → Nat → Prop where
  | root {n : Nd} (h : ns[i]? = some n) (hp : n.parent = -1) : Pulled ns i ns (-1) 0
  | kid {n m : Nd} {q : Nat} (h : ns[i]? = some n) (hp : n.parent = q) (hm : ns[q]? = some m) (hk : (i : Int) ∈ m.kids) (hq : q ≠ i) : Pulled ns i ((ns.set q { m with kids := m.kids.eraseIdx (idx m.kids i) }).set i { n with parent := -1 }) q (idx m.kids i)
/-- a root was pushed among the kids of another node -/
inductive Pushed (ns : List Nd) (i k : Nat) : Int → List Nd → Prop where
  | none : Pushed ns i k (-1) ns
  | kid {n m : Nd} {a : Nat} (hm : ns[a]? = some m) (h : ns[i]? = some n) (ha : a ≠ i) (hk : k ≤ m.kids.length) : Pushed ns i k a ((ns.set a { m with kids := m.kids.take k ++ (i : Int) :: m.kids.drop k }).set i { n with parent := a })

theorem WF.pulls {ns : List Nd} (h : WF ns) {i : Nat} {n : Nd} (hi : ns[i]? = some n) : ∃ ns' f w, Pulled ns i ns' f w := by
  rcases h.par i n hi with e | ⟨q, m, e1, e2, e3⟩
  · exact ⟨_, _, _, .root hi e⟩
  · exact ⟨_, _, _, .kid hi e1 e2 e3 (h.pne hi e1)⟩

theorem idx_lt {l : List Int} {x : Int} (h : x ∈ l) : idx l x < l.length := List.findIdx_lt_length.2 ⟨x, h, by simp⟩

theorem erase_mem {l : List Int} {x y : Int} (hn : l.Nodup) (hx : x ∈ l) : y ∈ l.eraseIdx (idx l x) ↔ y ∈ l ∧ y ≠ x := by
  have hg := idx_get hx
  have hlt := idx_lt hx
  generalize idx l x = k at *
  have e : l = l.take k ++ x :: l.drop (k + 1) := by
    have := List.getElem?_eq_some_iff.1 hg
    obtain ⟨h1, h2⟩ := this
    rw [← h2, ← List.drop_eq_getElem_cons h1, List.take_append_drop]
  have en := hn
  rw [e, List.nodup_append] at en
  obtain ⟨n1, n2, n3⟩ := en
  obtain ⟨n4, n5⟩ := List.nodup_cons.1 n2
  rw [List.eraseIdx_eq_take_drop_succ]
  constructor
  · intro hy
    rcases List.mem_append.1 hy with hy | hy
    · exact ⟨List.mem_of_mem_take hy, n3 y hy x (List.mem_cons_self ..)⟩
    · refine ⟨List.mem_of_mem_drop hy, fun e => ?_⟩
      subst e
      exact n4 hy
  · rintro ⟨hy, hne⟩
    rw [e] at hy
    rcases List.mem_append.1 hy with hy | hy
    · exact List.mem_append_left _ hy
    · rcases List.mem_cons.1 hy with hy | hy
      · exact absurd hy hne
      · exact List.mem_append_right _ hy

theorem WF.pulled {ns ns' : List Nd} {i w : Nat} {f : Int} (h : WF ns) (hp : Pulled ns i ns' f w) : WF ns' := by
  cases hp with
  | root _ _ => exact h
  | @kid n m q hi hq hm hk hqi =>
    have hil := (List.getElem?_eq_some_iff.1 hi).1
    have hql := (List.getElem?_eq_some_iff.1 hm).1
    have G := get2 ns { m with kids := m.kids.eraseIdx (idx m.kids i) } { n with parent := -1 } hqi hql hil
    -- every node that was there is there, with its parent (but for i)
    have F : ∀ (c : Nat) (x : Nd), ns[c]? = some x → c ≠ i → ∃ x', ((ns.set q { m with kids := m.kids.eraseIdx (idx m.kids i) }).set i { n with parent := -1 })[c]? = some x' ∧ x'.parent = x.parent ∧ x'.kind = x.kind ∧ (c ≠ q → x'.kids = x.kids) := by
      intro c x hc hci
      rw [G c, if_neg hci]
      by_cases hcq : c = q
      · subst hcq
        obtain rfl := Option.some.inj (hc.symm.trans hm)
        exact ⟨_, if_pos rfl, rfl, rfl, fun e => absurd rfl e⟩
      · rw [if_neg hcq]
        exact ⟨x, hc, rfl, rfl, fun _ => rfl⟩
    have Gi := G i
    rw [if_pos rfl] at Gi
    have Gq := G q
    rw [if_neg hqi, if_pos rfl] at Gq
    refine ⟨?_, by rw [List.length_set, List.length_set]; exact h.len, ?_, ?_, ?_, ?_⟩
    · obtain ⟨n0, h0, h1, h2⟩ := h.root
      have h0i : 0 ≠ i := by
        intro e
        subst e
        obtain rfl := Option.some.inj (h0.symm.trans hi)
        omega
      obtain ⟨x', g1, g2, g3, _⟩ := F 0 n0 h0 h0i
      exact ⟨x', g1, g3.trans h1, g2.trans h2⟩
    · intro j x hx
      rw [G j] at hx
      split at hx
      · cases hx; exact h.nodup i n hi
      · split at hx
        · cases hx; exact List.Nodup.sublist (List.eraseIdx_sublist ..) (h.nodup q m hm)
        · exact h.nodup j x hx
    · intro j x hx y hy
      rw [G j] at hx
      have main : ∀ y, (∃ x0, ns[j]? = some x0 ∧ y ∈ x0.kids) → y ≠ i → ∃ (c : Nat) (m' : Nd), y = c ∧ ((ns.set q { m with kids := m.kids.eraseIdx (idx m.kids i) }).set i { n with parent := -1 })[c]? = some m' ∧ m'.parent = j := by
        rintro y ⟨x0, k1, k2⟩ hne
        obtain ⟨c, m', e1, e2, e3⟩ := h.kid j x0 k1 y k2
        have hci : c ≠ i := fun e => hne (by rw [e1, e])
        obtain ⟨x', g1, g2, _, _⟩ := F c m' e2 hci
        exact ⟨c, x', e1, g1, g2.trans e3⟩
      split at hx
      · rename_i hji
        subst hji
        cases hx
        refine main y ⟨n, hi, hy⟩ ?_
        intro e
        subst e
        obtain ⟨c, m', e1, e2, e3⟩ := h.kid j n hi _ hy
        have e := Int.ofNat.inj e1
        subst e
        exact h.pne e2 e3 rfl
      · split at hx
        · rename_i hjq
          subst hjq
          cases hx
          have := (erase_mem (h.nodup j m hm) hk).1 hy
          exact main y ⟨m, hm, this.1⟩ this.2
        · refine main y ⟨x, hx, hy⟩ ?_
          intro e
          subst e
          obtain ⟨c, m', e1, e2, e3⟩ := h.kid j x hx _ hy
          have e := Int.ofNat.inj e1
          subst e
          obtain rfl := Option.some.inj (e2.symm.trans hi)
          have := Int.ofNat.inj (hq.symm.trans e3)
          omega
    · intro j x hx
      by_cases hji : j = i
      · subst hji
        rw [Gi] at hx
        cases hx
        exact .inl rfl
      · have hx0 : ∃ x0, ns[j]? = some x0 ∧ x.parent = x0.parent := by
          rw [G j, if_neg hji] at hx
          split at hx
          · rename_i hjq
            subst hjq
            cases hx
            exact ⟨m, hm, rfl⟩
          · exact ⟨x, hx, rfl⟩
        obtain ⟨x0, h0, h1⟩ := hx0
        rcases h.par j x0 h0 with e | ⟨r, y, e1, e2, e3⟩
        · exact .inl (h1.trans e)
        · refine .inr ?_
          by_cases hri : r = i
          · subst hri
            obtain rfl := Option.some.inj (e2.symm.trans hi)
            exact ⟨r, _, h1.trans e1, Gi, e3⟩
          · by_cases hrq : r = q
            · subst hrq
              obtain rfl := Option.some.inj (e2.symm.trans hm)
              exact ⟨r, _, h1.trans e1, Gq, (erase_mem (h.nodup r y hm) hk).2 ⟨e3, by omega⟩⟩
            · exact ⟨r, y, h1.trans e1, by rw [G r, if_neg hri, if_neg hrq]; exact e2, e3⟩
    · have U : ∀ (j : Nat) l, Up ns j l → ∃ l', Up ((ns.set q { m with kids := m.kids.eraseIdx (idx m.kids i) }).set i { n with parent := -1 }) j l' := by
        intro j l hl
        induction hl with
        | @root j x hx hp =>
          by_cases hji : j = i
          · subst hji; exact ⟨_, .root Gi rfl⟩
          · obtain ⟨x', g1, g2, _⟩ := F j x hx hji
            exact ⟨_, .root g1 (g2.trans hp)⟩
        | @up j p l x hx hp hu ih =>
          by_cases hji : j = i
          · subst hji; exact ⟨_, .root Gi rfl⟩
          · obtain ⟨x', g1, g2, _⟩ := F j x hx hji
            obtain ⟨l', hl'⟩ := ih
            exact ⟨_, .up g1 (g2.trans hp) hl'⟩
      intro j x hx
      have hj : j < ns.length := by
        have := (List.getElem?_eq_some_iff.1 hx).1
        simpa using this
      obtain ⟨l, hl⟩ := h.up j _ (List.getElem?_eq_getElem hj)
      exact U j l hl
end Go.Proofs.YtkaeenafejdkfaaGreatDoor
