/- append onto a slice of the call's own, of another slice that may be nil. -/
import Derived.Test.YtlfepdecgfcifaaDoorM01
import Derived.Test.YtlfepdecgfcifaaDoorM03
import Derived.BigRegion
namespace Go.Proofs.YtlfepdecgfcifaaDoor
open Go.RowKit

/-- what a slice yields -/
def SrcOf (w : World) (size : Nat) (x : Value) (m : Nat) (news : List Value) : Prop :=
  news.length = m * size ∧ (∀ u ∈ news, u.oneCell' = true) ∧ ∃ a c, x = .slice a m c ∧ ((a = none ∧ m = 0) ∨ ∃ ad, a = some ad ∧ ∀ j u, news[j]? = some u → w.cell? (ad.add j) = some u)

theorem SrcOf.keep {w w' : World} {size m : Nat} {x : Value} {news : List Value} (h : SrcOf w size x m news) (hc : ∀ a v, w.cell? a = some v → w'.cell? a = some v) : SrcOf w' size x m news := by
  obtain ⟨h1, h2, a, c, h3, h4⟩ := h
  refine ⟨h1, h2, a, c, h3, ?_⟩
  rcases h4 with h4 | ⟨ad, h5, h6⟩
  · exact .inl h4
  · exact .inr ⟨ad, h5, fun j u hu => hc _ _ (h6 j u hu)⟩

theorem add0 (g j : Nat) : (⟨g, 0, none⟩ : Addr).add j = ⟨g, j, none⟩ := by unfold Addr.add; split <;> simp_all

theorem Row.src {w : World} {M : Nat → Lab} {l : Lab} {e : TypeId} {size n : Nat} {v : Value} {xs : List Value} (h : Row w M l e size v n xs) (h1 : ∀ u ∈ xs, u.oneCell' = true) : SrcOf w size v n xs := by
  obtain ⟨a, cap, hv, hc, hm⟩ := h.shape
  refine ⟨h.1, h1, a, cap, hv, ?_⟩
  cases a with
  | none =>
    obtain ⟨_, a', cap', hv', _, _, h3⟩ := id h
    rw [hv] at hv'
    cases hv'
    rcases h3 with ⟨h3, _⟩ | ⟨g, cur, h3, _⟩
    · exact .inl ⟨rfl, by omega⟩
    · cases h3
  | some ad =>
    have hz : ∃ g, ad = ⟨g, 0, none⟩ := by
      obtain ⟨_, a', cap', hv', _, _, h3⟩ := id h
      rw [hv] at hv'
      cases hv'
      rcases h3 with ⟨_, h3 | ⟨g, h3⟩⟩ | ⟨g, cur, h3, _⟩
      · cases h3
      · exact ⟨g, by cases h3; rfl⟩
      · exact ⟨g, by cases h3; rfl⟩
    obtain ⟨g, rfl⟩ := hz
    refine .inr ⟨_, rfl, fun j u hu => ?_⟩
    rw [add0]
    exact (h.cell hv hu).1

theorem own_src {w : World} {B : Nat} {e : TypeId} {size n : Nat} {v : Value} {xs : List Value} (h : w.ownsRow B e size v n xs) (h1 : ∀ u ∈ xs, u.oneCell' = true) : SrcOf w size v n xs := by
  refine ⟨h.1, h1, ?_⟩
  rcases h.2 with ⟨rfl, rfl⟩ | ⟨g, cap, cur, rfl, hb, hg, _⟩
  · exact ⟨none, 0, rfl, .inl ⟨rfl, rfl⟩⟩
  · exact ⟨_, cap, rfl, .inr ⟨_, rfl, h.cells (g := g) rfl⟩⟩

theorem own_same {w w' : World} {B : Nat} {e : TypeId} {size n : Nat} {v : Value} {xs : List Value} (h : w.ownsRow B e size v n xs) (hs : ∀ k, v.ownBlock = some k → w'.heap[k]? = w.heap[k]?) : w'.ownsRow B e size v n xs := by
  refine ⟨h.1, ?_⟩
  rcases h.2 with h0 | ⟨g, cap, cur, rfl, hb, hg, h1⟩
  · exact .inl h0
  · exact .inr ⟨g, cap, cur, rfl, hb, (hs g rfl).trans hg, h1⟩
theorem own_below {w w' : World} {B C : Nat} {e : TypeId} {size n : Nat} {v : Value} {xs : List Value} (h : w.ownsRow B e size v n xs) (hb : Below C w w') (hC : w.heap.size ≤ C) : w'.ownsRow B e size v n xs :=
  own_same h fun k hk => hb.block k (Nat.lt_of_lt_of_le (h.lt k hk).2 hC)

section
variable {P : Program}

theorem run_app_own (w : World) (base : Nat) (t ty e : TypeId) (i : TypeInfo) (z : Value) (size bytes : Nat) (ht : P.underlying t = some (.slice e)) (hi : P.info? e = some i) (hz : i.zero = some z)
    (hsize : i.size = size) (hby : i.bytes = bytes) (hzs : z.cells.size = size) (hsz : 0 < size)
    (v : Value) (n : Nat) (xs : List Value) (hown : w.ownsRow base e size v n xs)
    (x : Value) (m : Nat) (news : List Value) (hsrc : SrcOf w size x m news)
    (h63 : n + m ≤ maxLen) (hbytes : (n + m) * bytes ≤ 140737488355328) (hbase : base ≤ w.heap.size) :
    ∃ v' w', (Builtin.append_ #[t, t] ty #[v, x]).run P w = .ok v' w' ∧ w'.ownsRow base e size v' (n + m) (xs ++ news) ∧ w.grownBy w' v.ownBlock ∧ (v'.ownBlock = v.ownBlock ∨ v'.ownBlock = some w.heap.size) := by
  obtain ⟨hl, h1, a, c, rfl, hs⟩ := hsrc
  rcases hs with ⟨rfl, rfl⟩ | ⟨ad, rfl, hnews⟩
  · have hn : news = [] := List.eq_nil_of_length_eq_zero (by simpa using hl)
    subst hn
    subst hsize
    refine ⟨v, w, ?_, by simpa using hown, ⟨rfl, rfl, rfl, Nat.le_refl _, fun _ _ _ => rfl⟩, .inl rfl⟩
    rcases hown.2 with ⟨rfl, rfl⟩ | ⟨g, cap, cur, rfl, hb, hg, hnc, _⟩
    · simp [Builtin.append_, run_underlying ht, sizeOf, typeInfo, hi, Builtin.lenOf, Builtin.firstCells]
    · simp [Builtin.append_, run_underlying ht, sizeOf, typeInfo, hi, Builtin.lenOf, Builtin.firstCells, loadCells, hnc, storeCells]
  · obtain ⟨v', w', h2, h3, h4, _, h5⟩ := run_append_own_at (P := P) w base t ty e i z size bytes ht hi hz hsize hby hzs hsz v n xs hown ad m c news hl hnews h1 h63 hbytes hbase
    exact ⟨v', w', h2, h3, h4, h5⟩

theorem wp_app_own (w : World) {o : Oper} {a : Act} {K : Act → World → Prop} {Q : Exit → Act → World → Prop} (s x : Operand) (t : TypeId)
    (ho : o.op = .call { callee := .builtin .append, args := #[s, x], argTypes := #[t, t] })
    (base : Nat) (e : TypeId) (i : TypeInfo) (z : Value) (size bytes : Nat) (ht : P.underlying t = some (.slice e)) (hi : P.info? e = some i) (hz : i.zero = some z)
    (hsize : i.size = size) (hby : i.bytes = bytes) (hzs : z.cells.size = size) (hsz : 0 < size)
    (v : Value) (n : Nat) (xs : List Value) (hs : a.eval s = v) (hown : w.ownsRow base e size v n xs)
    (xv : Value) (m : Nat) (news : List Value) (hx : a.eval x = xv) (hsrc : SrcOf w size xv m news)
    (h63 : n + m ≤ maxLen) (hbytes : (n + m) * bytes ≤ 140737488355328) (hbase : base ≤ w.heap.size)
    (h : ∀ v' w', w'.ownsRow base e size v' (n + m) (xs ++ news) → w.grownBy w' v.ownBlock → (v'.ownBlock = v.ownBlock ∨ v'.ownBlock = some w.heap.size) → K (a.put o.dst v') w') : o.wp P a w K Q := by
  obtain ⟨v', w', hr, h2, h3, h5⟩ := run_app_own (P := P) w base t o.type e i z size bytes ht hi hz hsize hby hzs hsz v n xs hown xv m news hsrc h63 hbytes hbase
  unfold Oper.wp execOp
  simp only [ho, resolve, invoke, builtin, Sem.run_bind, Sem.run_pure, Result.andThen_ok, List.map_toArray, List.map_cons, List.map_nil, hs, hx, hr]
  exact h v' w' h2 h3 h5

theorem wpList_app_own (w : World) {ops : Array Oper} {rest : List Oper} {o : Oper} {a : Act} {Q : Exit → Act → World → Prop} (hgd : o.guard = none) (s x : Operand) (t : TypeId)
    (ho : o.op = .call { callee := .builtin .append, args := #[s, x], argTypes := #[t, t] })
    (base : Nat) (e : TypeId) (i : TypeInfo) (z : Value) (size bytes : Nat) (ht : P.underlying t = some (.slice e)) (hi : P.info? e = some i) (hz : i.zero = some z)
    (hsize : i.size = size) (hby : i.bytes = bytes) (hzs : z.cells.size = size) (hsz : 0 < size)
    (v : Value) (n : Nat) (xs : List Value) (hs : a.eval s = v) (hown : w.ownsRow base e size v n xs)
    (xv : Value) (m : Nat) (news : List Value) (hx : a.eval x = xv) (hsrc : SrcOf w size xv m news)
    (h63 : n + m ≤ maxLen) (hbytes : (n + m) * bytes ≤ 140737488355328) (hbase : base ≤ w.heap.size)
    (h : ∀ v' w', w'.ownsRow base e size v' (n + m) (xs ++ news) → w.grownBy w' v.ownBlock → (v'.ownBlock = v.ownBlock ∨ v'.ownBlock = some w.heap.size) → wpList P ops Q rest (a.put o.dst v') w') :
    wpList P ops Q (o :: rest) a w :=
  wpList_plain hgd fun _ hK => wp_app_own w s x t ho base e i z size bytes ht hi hz hsize hby hzs hsz v n xs hs hown xv m news hx hsrc h63 hbytes hbase fun v' w' h2 h3 h5 => hK _ _ (h v' w' h2 h3 h5)
end
end Go.Proofs.YtlfepdecgfcifaaDoor

/- Where a kid stands; small facts on lists that a call owns. -/
namespace Go.Proofs.YtlfepdecgfcifaaDoor
open Go.RowKit

set_option maxHeartbeats 2000000 in
set_option maxRecDepth 100000 in
theorem place_any {w : World} {M : Nat → Lab} {tb : Nat} {nv uv : Value} {ps : List Pn} {us : List Value} (h : Lies w M tb nv uv ps us) {i q : Nat} {p m : Pn} (hp : ps[i]? = some p) (hq : p.n.parent = q) (hm : ps[q]? = some m) (hk : (i : Int) ∈ m.n.kids) :
    Calls Tryd.prog 72 #[.pointer (some ⟨tb, 0, none⟩), .int .i64 i] w fun e w' => e = .returned (.int .i64 (idx m.n.kids i : Nat)) ∧ ∃ n, w' = w.drewN n := by
  obtain ⟨nb, cap, rfl, hc, hmx, _, _, hi⟩ := h.form hp
  have hqi : q < ps.length := (List.getElem?_eq_some_iff.1 hm).1
  have c0 := h.cell0
  have c4 := (h.cellN rfl (f := 4) hp (by omega) rfl).1
  rw [hq] at c4
  have c5 := (h.cellN rfl (f := 5) hm (by omega) rfl).1
  have hr := (h.node q m hm).2
  obtain ⟨ka, kc, hkv, _, _⟩ := hr.shape
  rw [hkv] at c5
  have HR : Hid (Row w M (.kids q) 3 1 (.slice ka m.n.kids.length kc) m.n.kids.length (m.n.kids.map intV)) := hkv ▸ hr
  unfold maxLen at hmx
  have i1 : (0 : Int) ≤ (i : Int) := by omega
  have i2 : (i : Int) < (ps.length : Int) := by omega
  have i3 : (0 : Int) ≤ (q : Int) := by omega
  have i4 : (q : Int) < (ps.length : Int) := by omega
  clear h hr hkv hp hm hq
  go_enter Tryd.func72, Tryd.ntmps72
  go_wp2
  go_quiet ((go_at_call 76; refine Calls.quiet_of_same (index_any (M := M) (l := .kids q) (n := m.n.kids.length) ?_ _ hk); exact HR.out.keep (fun _ _ _ => rfl) (fun _ _ => rfl)))
  go_wp2
  go_ret
  exact ⟨rfl, _, rfl⟩

theorem own_cell {w : World} {B : Nat} {v : Value} {n : Nat} {xs : List Int} (h : w.ownsRow B 3 1 v n (xs.map intV)) : xs.length = n ∧ ∃ a c, v = .slice a n c ∧ n ≤ c ∧ c ≤ maxLen ∧ ∀ k y, xs[k]? = some y → ∃ g, a = some ⟨g, 0, none⟩ ∧ w.cell? ⟨g, k, none⟩ = some (.int .i64 y) ∧ w.frozen? ⟨g, k, none⟩ = false := by
  have hl : xs.length = n := by have := h.1; simpa using this
  refine ⟨hl, ?_⟩
  rcases h.2 with ⟨rfl, rfl⟩ | ⟨g, cap, cur, rfl, hb, hg, h1, h2, h3, h4⟩
  · refine ⟨none, 0, rfl, Nat.le_refl _, by unfold maxLen; omega, fun k y hk => ?_⟩
    rw [List.length_eq_zero_iff.1 hl] at hk
    simp at hk
  · refine ⟨_, cap, rfl, h1, h2, fun k y hk => ⟨g, rfl, ?_, ?_⟩⟩
    · rw [cell_of_row w g k cur 3 (0, 0) hg]
      have hk' : (xs.map intV)[k]? = some (.int .i64 y) := by simp [hk, intV]
      rw [← h4, List.getElem?_take] at hk'
      split at hk'
      · simpa using hk'
      · cases hk'
    · simp [World.frozen?, hg]

def nodesOf (ps : List Pn) : List Nd := ps.map Pn.n

theorem nodesOf_get {ps : List Pn} {i : Nat} {n : Nd} (h : (nodesOf ps)[i]? = some n) : ∃ p, ps[i]? = some p ∧ p.n = n := by
  simpa [nodesOf] using h

theorem below_size {B : Nat} {w w' : World} (h : Below B w w') : w.heap.size ≤ w'.heap.size := h.size

theorem own_keep {w w' : World} {A B : Nat} {v : Value} {n : Nat} {xs : List Value} (h : w.ownsRow A 3 1 v n xs) (hb : Below B w w') (hB : ∀ k, v.ownBlock = some k → k < B) : w'.ownsRow A 3 1 v n xs := by
  refine ⟨h.1, ?_⟩
  rcases h.2 with h0 | ⟨g, cap, cur, rfl, h1, h2, h3⟩
  · exact .inl h0
  · exact .inr ⟨g, cap, cur, rfl, h1, (hb.block g (hB g rfl)).trans h2, h3⟩

theorem hasB_lt {n i : Nat} (h : i < n) : hasB n i = true := by unfold hasB; simp; omega

theorem nodes_get {ps : List Pn} {j : Nat} {p : Pn} (h : ps[j]? = some p) : (nodesOf ps)[j]? = some p.n := by
  simp [nodesOf, h]

theorem one_attr (l : List (ByteArray × ByteArray)) : ∀ u ∈ attrCells l, u.oneCell' = true := by
  intro u hu
  obtain ⟨x, _, hx⟩ := List.mem_flatMap.1 hu
  simp at hx
  rcases hx with rfl | rfl <;> rfl

theorem one_int (l : List Int) : ∀ u ∈ l.map intV, u.oneCell' = true := by
  intro u hu
  obtain ⟨k, _, rfl⟩ := List.mem_map.1 hu
  rfl

theorem SrcOf.below {w w' : World} {size m : Nat} {x : Value} {news : List Value} (h : SrcOf w size x m news) (hb : Below w.heap.size w w') : SrcOf w' size x m news :=
  h.keep fun a _ hv => (hb.cell (World.block_lt_of_cell? w a hv)).trans hv

theorem own_shape {w : World} {B : Nat} {e : TypeId} {size n : Nat} {v : Value} {xs : List Value} (h : w.ownsRow B e size v n xs) : ∃ a c, v = .slice a n c := by
  rcases h.2 with ⟨rfl, rfl⟩ | ⟨g, cap, cur, rfl, _⟩
  · exact ⟨none, 0, rfl⟩
  · exact ⟨_, _, rfl⟩

theorem below_grown {w w' : World} (hg : w.grownBy w' none) : Below w.heap.size w w' := (Below.refl _ _).grown hg (Nat.le_refl _) (fun _ h => by cases h)
end Go.Proofs.YtlfepdecgfcifaaDoor

/- Ways from roots down to nodes, and which of two stands first. -/
namespace Go.Proofs.YtlfepdecgfcifaaDoor
open Go.RowKit


def cmpI (x y : Int) : Int := if x < y then -1 else if y < x then 1 else 0
/-- the rest of two lists, behind so many that are alike -/
theorem cmpL_drop (s t : List Int) (k : Nat) (x y : Int) (hs : s[k]? = some x) (ht : t[k]? = some y) : cmpL (s.drop k) (t.drop k) = if x < y then -1 else if y < x then 1 else cmpL (s.drop (k + 1)) (t.drop (k + 1)) := by
  obtain ⟨hks, rfl⟩ := List.getElem?_eq_some_iff.1 hs
  obtain ⟨hkt, rfl⟩ := List.getElem?_eq_some_iff.1 ht
  rw [List.drop_eq_getElem_cons hks, List.drop_eq_getElem_cons hkt]
  rfl

/-- a list whose two ends have been exchanged, so many times -/
def revTo (xs : List Int) (k : Nat) : List Int := (List.range xs.length).map fun i => if i < k ∨ xs.length ≤ i + k then xs.getD (xs.length - 1 - i) 0 else xs.getD i 0
theorem revTo_length (xs : List Int) (k : Nat) : (revTo xs k).length = xs.length := by simp [revTo]
theorem revTo_get (xs : List Int) (k i : Nat) (h : i < xs.length) : (revTo xs k)[i]? = some (if i < k ∨ xs.length ≤ i + k then xs.getD (xs.length - 1 - i) 0 else xs.getD i 0) := by
  simp [revTo, List.getElem?_range h]
theorem revTo_zero (xs : List Int) : revTo xs 0 = xs := by
  apply List.ext_getElem?
  intro i
  by_cases h : i < xs.length
  · rw [revTo_get xs 0 i h, if_neg (by omega), List.getD_eq_getElem?_getD, List.getElem?_eq_getElem h]
    rfl
  · rw [List.getElem?_eq_none (by rw [revTo_length]; omega), List.getElem?_eq_none (by omega)]
theorem revTo_done (xs : List Int) (k : Nat) (hk : xs.length ≤ 2 * k + 1) : revTo xs k = xs.reverse := by
  apply List.ext_getElem?
  intro i
  by_cases h : i < xs.length
  · rw [revTo_get xs k i h, List.getElem?_reverse h, List.getElem?_eq_getElem (by omega)]
    split
    · rw [List.getD_eq_getElem?_getD, List.getElem?_eq_getElem (by omega)]
      rfl
    · rw [List.getD_eq_getElem?_getD, List.getElem?_eq_getElem h]
      have e : i = xs.length - 1 - i := by omega
      simp only [Option.getD_some]
      congr 2
  · rw [List.getElem?_eq_none (by rw [revTo_length]; omega), List.getElem?_eq_none (by simp; omega)]
theorem revTo_step (xs : List Int) (k : Nat) (hk : 2 * k + 1 < xs.length) : ((revTo xs k).set k (xs.getD (xs.length - 1 - k) 0)).set (xs.length - 1 - k) (xs.getD k 0) = revTo xs (k + 1) := by
  apply List.ext_getElem?
  intro i
  by_cases h : i < xs.length
  · rw [revTo_get xs (k + 1) i h]
    by_cases h1 : i = xs.length - 1 - k
    · subst h1
      rw [List.getElem?_set_self (by rw [List.length_set, revTo_length]; omega), if_pos (by omega)]
      congr 2
      omega
    · rw [List.getElem?_set_ne (by omega)]
      by_cases h2 : i = k
      · subst h2
        rw [List.getElem?_set_self (by rw [revTo_length]; omega), if_pos (by omega)]
      · rw [List.getElem?_set_ne (by omega), revTo_get xs k i h]
        by_cases h3 : i < k ∨ xs.length ≤ i + k
        · rw [if_pos h3, if_pos (by omega)]
        · rw [if_neg h3, if_neg (by omega)]
  · rw [List.getElem?_eq_none (by rw [List.length_set, List.length_set, revTo_length]; omega), List.getElem?_eq_none (by rw [revTo_length]; omega)]

/-- a store into a row of one's own -/
theorem own_set {w : World} {B : Nat} {g n c : Nat} {xs : List Int} (h : w.ownsRow B 3 1 (.slice (some ⟨g, 0, none⟩) n c) n (xs.map intV)) (j : Nat) (x : Int) :
    (w.setCell ⟨g, j, none⟩ (.int .i64 x)).ownsRow B 3 1 (.slice (some ⟨g, 0, none⟩) n c) n ((xs.set j x).map intV) := by
  refine ⟨by have := h.1; simpa using this, ?_⟩
  rcases h.2 with ⟨h0, _⟩ | ⟨g', cap, cur, hv, hb, hg, h1, h2, h3, h4⟩
  · cases h0
  · cases hv
    refine .inr ⟨g, _, _, rfl, hb, setCell_heap w g j _ cur 3 (0, 0) hg, h1, h2, by rw [Array.size_setIfInBounds]; exact h3, ?_⟩
    rw [Array.toList_setIfInBounds, List.take_set, h4, List.map_set]
    rfl

set_option maxHeartbeats 4000000 in
set_option maxRecDepth 100000 in
theorem reverse_any {w : World} {B : Nat} {v : Value} {n : Nat} {xs : List Int} (h : w.ownsRow B 3 1 v n (xs.map intV)) (hn : n ≤ 1099511627776) :
    Calls Tryd.prog 80 #[v] w fun e w' => e = .returned (.tuple #[]) ∧ w'.ownsRow B 3 1 v n (xs.reverse.map intV) ∧ Below B w w' := by
  obtain ⟨rfl, a, ca, rfl, h1, h2, hcv⟩ := own_cell h
  have hbg : ∀ g, a = some ⟨g, 0, none⟩ → B ≤ g := fun g hg => (h.lt g (by subst hg; rfl)).1
  unfold maxLen at h2
  have H : Hid (w.ownsRow B 3 1 (.slice a xs.length ca) xs.length (xs.map intV)) := h
  clear hcv h
  go_enter Tryd.func80, Tryd.ntmps80
  go_wp2
  go_loopw [2, 3] (fun i j wr => ∃ k : Nat, 2 * k ≤ xs.length + 1 ∧ i = .int .i64 k ∧ j = .int .i64 ((xs.length : Int) - 1 - k) ∧ Hid (wr.ownsRow B 3 1 (.slice a xs.length ca) xs.length ((revTo xs k).map intV)) ∧ Hid (Below B w wr)) (fun i _ _ => xs.length - (intOf i).toNat)
  case atStart => exact ⟨0, by omega, rfl, by simp, (by rw [revTo_zero]; exact H.out : w.ownsRow B 3 1 (.slice a xs.length ca) xs.length ((revTo xs 0).map intV)), Below.refl _ _⟩
  case round =>
    obtain ⟨k, hk, rfl, rfl, hown, hbel⟩ := hrel
    by_cases hlt : 2 * k + 1 < xs.length
    · obtain ⟨_, a', c', hv', _, _, hcell⟩ := own_cell hown.out
      cases hv'
      obtain ⟨g, rfl, ck, fk⟩ := hcell k _ (revTo_get xs k k (by omega))
      obtain ⟨g', hg', cm, fm⟩ := hcell (xs.length - 1 - k) _ (revTo_get xs k (xs.length - 1 - k) (by omega))
      cases hg'
      rw [if_neg (by omega)] at ck cm
      have hj : ((xs.length : Int) - 1 - k) = ((xs.length - 1 - k : Nat) : Int) := by omega
      have hne : k ≠ xs.length - 1 - k := by omega
      have hkx : xs.length - 1 - k < xs.length := by omega
      have s1 := own_set hown.out k (xs.getD (xs.length - 1 - k) 0)
      have s2 := own_set s1 (xs.length - 1 - k) (xs.getD k 0)
      have hx2 : (wr.setCell ⟨g, k, none⟩ (.int .i64 (xs.getD (xs.length - 1 - k) 0))).cell? ⟨g, xs.length - 1 - k, none⟩ = some (.int .i64 (xs.getD (xs.length - 1 - k) 0)) ∧ (wr.setCell ⟨g, k, none⟩ (.int .i64 (xs.getD (xs.length - 1 - k) 0))).frozen? ⟨g, xs.length - 1 - k, none⟩ = false := by
        obtain ⟨_, a2, c2, hv2, _, _, hcell2⟩ := own_cell s1
        cases hv2
        obtain ⟨g2, hg2, q1, q2⟩ := hcell2 (xs.length - 1 - k) (xs.getD (xs.length - 1 - k) 0) (by rw [List.getElem?_set_ne hne, revTo_get xs k _ (by omega), if_neg (by omega)])
        cases hg2
        exact ⟨q1, q2⟩
      obtain ⟨hx2, hx3⟩ := hx2
      have hkr : k < xs.length - 1 - k := by omega
      rw [revTo_step xs k hlt] at s2
      have S2 : Hid _ := s2
      rw [hj]
      have HJ : Hid ((xs.length : Int) - 1 - (k + 1 : Nat) = ((xs.length - 1 - k : Nat) : Int) - 1) := by show _ = _; omega
      clear s1 s2 hj hcell
      generalize xs.length - 1 - k = r at *
      generalize xs.getD k 0 = x at *
      generalize xs.getD r 0 = y at *
      have i1 : (k : Int) < (r : Int) := by omega
      have i2 : (r : Int) < (xs.length : Int) := by omega
      have i3 : (k : Int) < (xs.length : Int) := by omega
      have i4 : (0 : Int) ≤ (k : Int) := by omega
      have i5 : (0 : Int) ≤ (r : Int) := by omega
      go_wp2
      go_region
      go_wp2
      go_roundw
      case rel => go_light; exact ⟨k + 1, by omega, by go_num, congrArg (Value.int .i64) HJ.out.symm, S2.out, ((hbel.out.setCell (hbg g rfl) _).setCell (hbg g rfl) _).drew⟩
      case measure => go_light; simp [intOf]; omega
    · go_wp2
      go_end0
      exact ⟨rfl, by rw [← revTo_done xs k (by omega)]; exact hown.out, hbel.out⟩
end Go.Proofs.YtlfepdecgfcifaaDoor

/- What Order answers. -/
namespace Go.Proofs.YtlfepdecgfcifaaDoor
open Go.RowKit




/-- what Order answers of two nodes -/
def ordV (r q : Nat) (s t : List Int) : Value := .tuple #[.int .i64 (if r = q then cmpL s t else 0), .bool (decide (r = q))]

end Go.Proofs.YtlfepdecgfcifaaDoor
