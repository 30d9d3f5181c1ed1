/- append onto a slice of the call's own, of another slice that may be nil. -/
import Derived.Test.YtlfepdecgfcifaaGreatDoorM01
import Derived.Test.YtlfepdecgfcifaaGreatDoorM02
import Derived.BigRegion
import Derived.Deep.RegionLaw
namespace Go.Proofs.YtlfepdecgfcifaaGreatDoor
open Go.RowKit

/-- what a slice yields -/
def SrcOf (w : World) (size : Nat) (x : Value) (m : Nat) (news : List Value) : Prop :=
  news.length = m * size ∧ (∀ u ∈ news, u.oneCell' = true) ∧ ∃ a c, x = .slice a m c ∧ ((a = none ∧ m = 0) ∨ ∃ ad, a = some ad ∧ ∀ j u, news[j]? = some u → w.cell? (ad.add j) = some u)

theorem SrcOf.keep {w w' : World} {size m : Nat} {x : Value} {news : List Value} (h : SrcOf w size x m news) (hc : ∀ a v, w.cell? a = some v → w'.cell? a = some v) : SrcOf w' size x m news := by
  obtain ⟨h1, h2, a, c, h3, h4⟩ := h
  refine ⟨h1, h2, a, c, h3, ?_⟩
  rcases h4 with h4 | ⟨ad, h5, h6⟩
  · exact .inl h4
  · exact .inr ⟨ad, h5, fun j u hu => hc _ _ (h6 j u hu)⟩

theorem add0 (g j : Nat) : (⟨g, 0, none⟩ : Addr).add j = ⟨g, j, none⟩ := by unfold Addr.add; split <;> simp_all

theorem Row.src {w : World} {M : Nat → Lab} {l : Lab} {e : TypeId} {size n : Nat} {v : Value} {xs : List Value} (h : Row w M l e size v n xs) (h1 : ∀ u ∈ xs, u.oneCell' = true) : SrcOf w size v n xs := by
  obtain ⟨a, cap, hv, hc, hm⟩ := h.shape
  refine ⟨h.1, h1, a, cap, hv, ?_⟩
  cases a with
  | none =>
    obtain ⟨_, a', cap', hv', _, _, h3⟩ := id h
    rw [hv] at hv'
    cases hv'
    rcases h3 with ⟨h3, _⟩ | ⟨g, cur, h3, _⟩
    · exact .inl ⟨rfl, by omega⟩
    · cases h3
  | some ad =>
    have hz : ∃ g, ad = ⟨g, 0, none⟩ := by
      obtain ⟨_, a', cap', hv', _, _, h3⟩ := id h
      rw [hv] at hv'
      cases hv'
      rcases h3 with ⟨_, h3 | ⟨g, h3⟩⟩ | ⟨g, cur, h3, _⟩
      · cases h3
      · exact ⟨g, by cases h3; rfl⟩
      · exact ⟨g, by cases h3; rfl⟩
    obtain ⟨g, rfl⟩ := hz
    refine .inr ⟨_, rfl, fun j u hu => ?_⟩
    rw [add0]
    exact (h.cell hv hu).1

theorem own_src {w : World} {B : Nat} {e : TypeId} {size n : Nat} {v : Value} {xs : List Value} (h : w.ownsRow B e size v n xs) (h1 : ∀ u ∈ xs, u.oneCell' = true) : SrcOf w size v n xs := by
  refine ⟨h.1, h1, ?_⟩
  rcases h.2 with ⟨rfl, rfl⟩ | ⟨g, cap, cur, rfl, hb, hg, _⟩
  · exact ⟨none, 0, rfl, .inl ⟨rfl, rfl⟩⟩
  · exact ⟨_, cap, rfl, .inr ⟨_, rfl, h.cells (g := g) rfl⟩⟩

theorem own_same {w w' : World} {B : Nat} {e : TypeId} {size n : Nat} {v : Value} {xs : List Value} (h : w.ownsRow B e size v n xs) (hs : ∀ k, v.ownBlock = some k → w'.heap[k]? = w.heap[k]?) : w'.ownsRow B e size v n xs := by
  refine ⟨h.1, ?_⟩
  rcases h.2 with h0 | ⟨g, cap, cur, rfl, hb, hg, h1⟩
  · exact .inl h0
  · exact .inr ⟨g, cap, cur, rfl, hb, (hs g rfl).trans hg, h1⟩
theorem own_below {w w' : World} {B C : Nat} {e : TypeId} {size n : Nat} {v : Value} {xs : List Value} (h : w.ownsRow B e size v n xs) (hb : Below C w w') (hC : w.heap.size ≤ C) : w'.ownsRow B e size v n xs :=
  own_same h fun k hk => hb.block k (Nat.lt_of_lt_of_le (h.lt k hk).2 hC)

section
variable {P : Program}

theorem run_app_own (w : World) (base : Nat) (t ty e : TypeId) (i : TypeInfo) (z : Value) (size bytes : Nat) (ht : P.underlying t = some (.slice e)) (hi : P.info? e = some i) (hz : i.zero = some z)
    (hsize : i.size = size) (hby : i.bytes = bytes) (hzs : z.cells.size = size) (hsz : 0 < size)
    (v : Value) (n : Nat) (xs : List Value) (hown : w.ownsRow base e size v n xs)
    (x : Value) (m : Nat) (news : List Value) (hsrc : SrcOf w size x m news)
    (h63 : n + m ≤ maxLen) (hbytes : (n + m) * bytes ≤ 140737488355328) (hbase : base ≤ w.heap.size) :
    ∃ v' w', (Builtin.append_ #[t, t] ty #[v, x]).run P w = .ok v' w' ∧ w'.ownsRow base e size v' (n + m) (xs ++ news) ∧ w.grownBy w' v.ownBlock ∧ (v'.ownBlock = v.ownBlock ∨ v'.ownBlock = some w.heap.size) := by
  obtain ⟨hl, h1, a, c, rfl, hs⟩ := hsrc
  rcases hs with ⟨rfl, rfl⟩ | ⟨ad, rfl, hnews⟩
  · have hn : news = [] := List.eq_nil_of_length_eq_zero (by simpa using hl)
    subst hn
    subst hsize
    refine ⟨v, w, ?_, by simpa using hown, ⟨rfl, rfl, rfl, Nat.le_refl _, fun _ _ _ => rfl⟩, .inl rfl⟩
    rcases hown.2 with ⟨rfl, rfl⟩ | ⟨g, cap, cur, rfl, hb, hg, hnc, _⟩
    · simp [Builtin.append_, run_underlying ht, sizeOf, typeInfo, hi, Builtin.lenOf, Builtin.firstCells]
    · simp [Builtin.append_, run_underlying ht, sizeOf, typeInfo, hi, Builtin.lenOf, Builtin.firstCells, loadCells, hnc, storeCells]
  · obtain ⟨v', w', h2, h3, h4, _, h5⟩ := run_append_own_at (P := P) w base t ty e i z size bytes ht hi hz hsize hby hzs hsz v n xs hown ad m c news hl hnews h1 h63 hbytes hbase
    exact ⟨v', w', h2, h3, h4, h5⟩

theorem wp_app_own (w : World) {o : Oper} {a : Act} {K : Act → World → Prop} {Q : Exit → Act → World → Prop} (s x : Operand) (t : TypeId)
    (ho : o.op = .call { callee := .builtin .append, args := #[s, x], argTypes := #[t, t] })
    (base : Nat) (e : TypeId) (i : TypeInfo) (z : Value) (size bytes : Nat) (ht : P.underlying t = some (.slice e)) (hi : P.info? e = some i) (hz : i.zero = some z)
    (hsize : i.size = size) (hby : i.bytes = bytes) (hzs : z.cells.size = size) (hsz : 0 < size)
    (v : Value) (n : Nat) (xs : List Value) (hs : a.eval s = v) (hown : w.ownsRow base e size v n xs)
    (xv : Value) (m : Nat) (news : List Value) (hx : a.eval x = xv) (hsrc : SrcOf w size xv m news)
    (h63 : n + m ≤ maxLen) (hbytes : (n + m) * bytes ≤ 140737488355328) (hbase : base ≤ w.heap.size)
    (h : ∀ v' w', w'.ownsRow base e size v' (n + m) (xs ++ news) → w.grownBy w' v.ownBlock → (v'.ownBlock = v.ownBlock ∨ v'.ownBlock = some w.heap.size) → K (a.put o.dst v') w') : o.wp P a w K Q := by
  obtain ⟨v', w', hr, h2, h3, h5⟩ := run_app_own (P := P) w base t o.type e i z size bytes ht hi hz hsize hby hzs hsz v n xs hown xv m news hsrc h63 hbytes hbase
  unfold Oper.wp execOp
  simp only [ho, resolve, invoke, builtin, Sem.run_bind, Sem.run_pure, Result.andThen_ok, List.map_toArray, List.map_cons, List.map_nil, hs, hx, hr]
  exact h v' w' h2 h3 h5

theorem wpList_app_own (w : World) {ops : Array Oper} {rest : List Oper} {o : Oper} {a : Act} {Q : Exit → Act → World → Prop} (hgd : o.guard = none) (s x : Operand) (t : TypeId)
    (ho : o.op = .call { callee := .builtin .append, args := #[s, x], argTypes := #[t, t] })
    (base : Nat) (e : TypeId) (i : TypeInfo) (z : Value) (size bytes : Nat) (ht : P.underlying t = some (.slice e)) (hi : P.info? e = some i) (hz : i.zero = some z)
    (hsize : i.size = size) (hby : i.bytes = bytes) (hzs : z.cells.size = size) (hsz : 0 < size)
    (v : Value) (n : Nat) (xs : List Value) (hs : a.eval s = v) (hown : w.ownsRow base e size v n xs)
    (xv : Value) (m : Nat) (news : List Value) (hx : a.eval x = xv) (hsrc : SrcOf w size xv m news)
    (h63 : n + m ≤ maxLen) (hbytes : (n + m) * bytes ≤ 140737488355328) (hbase : base ≤ w.heap.size)
    (h : ∀ v' w', w'.ownsRow base e size v' (n + m) (xs ++ news) → w.grownBy w' v.ownBlock → (v'.ownBlock = v.ownBlock ∨ v'.ownBlock = some w.heap.size) → wpList P ops Q rest (a.put o.dst v') w') :
    wpList P ops Q (o :: rest) a w :=
  wpList_plain hgd fun _ hK => wp_app_own w s x t ho base e i z size bytes ht hi hz hsize hby hzs hsz v n xs hs hown xv m news hx hsrc h63 hbytes hbase fun v' w' h2 h3 h5 => hK _ _ (h v' w' h2 h3 h5)
end
end Go.Proofs.YtlfepdecgfcifaaGreatDoor

/- Where a kid stands; small facts on lists that a call owns. -/
namespace Go.Proofs.YtlfepdecgfcifaaGreatDoor
open Go.RowKit

set_option maxHeartbeats 2000000 in
set_option maxRecDepth 100000 in
theorem place_any {w : World} {M : Nat → Lab} {tb : Nat} {nv uv : Value} {ps : List Pn} {us : List Value} (h : Lies w M tb nv uv ps us) {i q : Nat} {p m : Pn} (hp : ps[i]? = some p) (hq : p.n.parent = q) (hm : ps[q]? = some m) (hk : (i : Int) ∈ m.n.kids) :
    Calls Tryz.prog 91 #[.pointer (some ⟨tb, 0, none⟩), .int .i64 i] w fun e w' => e = .returned (.int .i64 (idx m.n.kids i : Nat)) ∧ ∃ n, w' = w.drewN n := by
  obtain ⟨nb, cap, rfl, hc, hmx, _, _, hi⟩ := h.form hp
  have hqi : q < ps.length := (List.getElem?_eq_some_iff.1 hm).1
  have c0 := h.cell0
  have c4 := (h.cellN rfl (f := 4) hp (by omega) rfl).1
  rw [hq] at c4
  have c5 := (h.cellN rfl (f := 5) hm (by omega) rfl).1
  have hr := (h.node q m hm).2
  obtain ⟨ka, kc, hkv, _, _⟩ := hr.shape
  rw [hkv] at c5
  have HR : Hid (Row w M (.kids q) 3 1 (.slice ka m.n.kids.length kc) m.n.kids.length (m.n.kids.map intV)) := hkv ▸ hr
  unfold maxLen at hmx
  have i1 : (0 : Int) ≤ (i : Int) := by omega
  have i2 : (i : Int) < (ps.length : Int) := by omega
  have i3 : (0 : Int) ≤ (q : Int) := by omega
  have i4 : (q : Int) < (ps.length : Int) := by omega
  clear h hr hkv hp hm hq
  go_enter Tryz.func91, Tryz.ntmps91
  go_wp2
  go_quiet ((go_at_call 39; refine Calls.quiet_of_same (index_any (M := M) (l := .kids q) (n := m.n.kids.length) ?_ _ hk); exact HR.out.keep (fun _ _ _ => rfl) (fun _ _ => rfl)))
  go_wp2
  go_ret
  exact ⟨rfl, _, rfl⟩

theorem own_cell {w : World} {B : Nat} {v : Value} {n : Nat} {xs : List Int} (h : w.ownsRow B 3 1 v n (xs.map intV)) : xs.length = n ∧ ∃ a c, v = .slice a n c ∧ n ≤ c ∧ c ≤ maxLen ∧ ∀ k y, xs[k]? = some y → ∃ g, a = some ⟨g, 0, none⟩ ∧ w.cell? ⟨g, k, none⟩ = some (.int .i64 y) ∧ w.frozen? ⟨g, k, none⟩ = false := by
  have hl : xs.length = n := by have := h.1; simpa using this
  refine ⟨hl, ?_⟩
  rcases h.2 with ⟨rfl, rfl⟩ | ⟨g, cap, cur, rfl, hb, hg, h1, h2, h3, h4⟩
  · refine ⟨none, 0, rfl, Nat.le_refl _, by unfold maxLen; omega, fun k y hk => ?_⟩
    rw [List.length_eq_zero_iff.1 hl] at hk
    simp at hk
  · refine ⟨_, cap, rfl, h1, h2, fun k y hk => ⟨g, rfl, ?_, ?_⟩⟩
    · rw [cell_of_row w g k cur 3 (0, 0) hg]
      have hk' : (xs.map intV)[k]? = some (.int .i64 y) := by simp [hk, intV]
      rw [← h4, List.getElem?_take] at hk'
      split at hk'
      · simpa using hk'
      · cases hk'
    · simp [World.frozen?, hg]

def nodesOf (ps : List Pn) : List Nd := ps.map Pn.n

theorem nodesOf_get {ps : List Pn} {i : Nat} {n : Nd} (h : (nodesOf ps)[i]? = some n) : ∃ p, ps[i]? = some p ∧ p.n = n := by
  simpa [nodesOf] using h

theorem below_size {B : Nat} {w w' : World} (h : Below B w w') : w.heap.size ≤ w'.heap.size := h.size

theorem own_keep {w w' : World} {A B : Nat} {v : Value} {n : Nat} {xs : List Value} (h : w.ownsRow A 3 1 v n xs) (hb : Below B w w') (hB : ∀ k, v.ownBlock = some k → k < B) : w'.ownsRow A 3 1 v n xs := by
  refine ⟨h.1, ?_⟩
  rcases h.2 with h0 | ⟨g, cap, cur, rfl, h1, h2, h3⟩
  · exact .inl h0
  · exact .inr ⟨g, cap, cur, rfl, h1, (hb.block g (hB g rfl)).trans h2, h3⟩

theorem hasB_lt {n i : Nat} (h : i < n) : hasB n i = true := by unfold hasB; simp; omega

theorem nodes_get {ps : List Pn} {j : Nat} {p : Pn} (h : ps[j]? = some p) : (nodesOf ps)[j]? = some p.n := by
  simp [nodesOf, h]

theorem one_attr (l : List (ByteArray × ByteArray)) : ∀ u ∈ attrCells l, u.oneCell' = true := by
  intro u hu
  obtain ⟨x, _, hx⟩ := List.mem_flatMap.1 hu
  simp at hx
  rcases hx with rfl | rfl <;> rfl

theorem one_int (l : List Int) : ∀ u ∈ l.map intV, u.oneCell' = true := by
  intro u hu
  obtain ⟨k, _, rfl⟩ := List.mem_map.1 hu
  rfl

theorem SrcOf.below {w w' : World} {size m : Nat} {x : Value} {news : List Value} (h : SrcOf w size x m news) (hb : Below w.heap.size w w') : SrcOf w' size x m news :=
  h.keep fun a _ hv => (hb.cell (World.block_lt_of_cell? w a hv)).trans hv

theorem own_shape {w : World} {B : Nat} {e : TypeId} {size n : Nat} {v : Value} {xs : List Value} (h : w.ownsRow B e size v n xs) : ∃ a c, v = .slice a n c := by
  rcases h.2 with ⟨rfl, rfl⟩ | ⟨g, cap, cur, rfl, _⟩
  · exact ⟨none, 0, rfl⟩
  · exact ⟨_, _, rfl⟩

theorem below_grown {w w' : World} (hg : w.grownBy w' none) : Below w.heap.size w w' := (Below.refl _ _).grown hg (Nat.le_refl _) (fun _ h => by cases h)
end Go.Proofs.YtlfepdecgfcifaaGreatDoor

/- Where an attribute stands. -/
namespace Go.Proofs.YtlfepdecgfcifaaGreatDoor
open Go.RowKit

def eqS (a b : ByteArray) : Bool := a.toList == b.toList
def findA (l : List (ByteArray × ByteArray)) (name : ByteArray) : Option Nat := l.findIdx? fun x => eqS x.1 name
def findI (l : List (ByteArray × ByteArray)) (name : ByteArray) : Int := match findA l name with
  | some k => k
  | none => -1

set_option maxHeartbeats 1000000 in
theorem find1_any (n v name : ByteArray) (b : Nat) (w : World) (hb : w.cell? ⟨b, 0, none⟩ = some (.string name)) :
    Calls Tryz.prog 79 #[.agg #[.string n, .string v], .pointer (some ⟨b, 0, none⟩)] w fun e w' => e = .returned (.bool (eqS n name)) ∧ Below w.heap.size w w' := by
  have hlt : b < w.heap.size := World.block_lt_of_cell? w _ hb
  go_enter Tryz.func79, Tryz.ntmps79
  go_wp2
  go_ret
  exact ⟨rfl, (Below.refl _ _).alloc (Nat.le_refl _) _⟩

theorem findI_some {l : List (ByteArray × ByteArray)} {name : ByteArray} {k : Nat} {x : ByteArray × ByteArray} (hx : l[k]? = some x) (he : eqS x.1 name = true) (hb : ∀ j, j < k → ∀ y, l[j]? = some y → eqS y.1 name = false) : findA l name = some k := by
  unfold findA
  rw [List.findIdx?_eq_some_iff_getElem]
  obtain ⟨hk, rfl⟩ := List.getElem?_eq_some_iff.1 hx
  refine ⟨hk, he, fun j hj => ?_⟩
  have := hb j hj l[j] (List.getElem?_eq_getElem (by omega))
  simp [this]
theorem findI_none {l : List (ByteArray × ByteArray)} {name : ByteArray} (hb : ∀ j, j < l.length → ∀ y, l[j]? = some y → eqS y.1 name = false) : findA l name = none := by
  unfold findA
  rw [List.findIdx?_eq_none_iff]
  intro x hx
  obtain ⟨j, hj, rfl⟩ := List.getElem_of_mem hx
  exact hb j hj _ (List.getElem?_eq_getElem hj)

set_option maxHeartbeats 4000000 in
set_option maxRecDepth 100000 in
theorem indexFunc_any {w : World} {M : Nat → Lab} {l : Lab} {v : Value} {at_ : List (ByteArray × ByteArray)} (h : Row w M l 51 2 v at_.length (attrCells at_)) (name : ByteArray) (b : Nat) (hb : w.cell? ⟨b, 0, none⟩ = some (.string name)) :
    Calls Tryz.prog 78 #[v, .func (.func 79) #[] #[.pointer (some ⟨b, 0, none⟩)]] w fun e w' => e = .returned (.int .i64 (findI at_ name)) ∧ Below w.heap.size w w' := by
  obtain ⟨a, cap, rfl, h1, h2⟩ := h.shape
  have hcell : Hid (∀ k x, at_[k]? = some x → ∃ g, a = some ⟨g, 0, none⟩ ∧ g < w.heap.size ∧ w.cell? ⟨g, k * 2, none⟩ = some (.string x.1) ∧ w.cell? ⟨g, k * 2 + 1, none⟩ = some (.string x.2)) := by
    intro k x hk
    have hkl : k < at_.length := (List.getElem?_eq_some_iff.1 hk).1
    obtain ⟨g, c, hv, _, _, _, hg⟩ := h.form (by omega)
    cases hv
    obtain ⟨q1, q2⟩ := attrCells_get at_ k x hk
    exact ⟨g, rfl, hg, (h.cell rfl q1).1, (h.cell rfl q2).1⟩
  have hlt : b < w.heap.size := World.block_lt_of_cell? w _ hb
  unfold maxLen at h2
  clear h
  go_enter Tryz.func78, Tryz.ntmps78
  go_wp2
  go_loopw [8] (fun i wr => ∃ k : Nat, k ≤ at_.length ∧ i = .int .i64 k ∧ Hid (∀ j, j < k → ∀ y, at_[j]? = some y → eqS y.1 name = false) ∧ Hid (Below w.heap.size w wr)) (fun i _ => at_.length - (intOf i).toNat)
  case atStart => exact ⟨0, by omega, rfl, (fun j hj => absurd hj (by omega) : ∀ j, j < 0 → ∀ y, at_[j]? = some y → eqS y.1 name = false), Below.refl _ _⟩
  case round =>
    obtain ⟨k, hk, rfl, hno, hbel⟩ := hrel
    by_cases hkl : k < at_.length
    · obtain ⟨x, hx⟩ : ∃ x, at_[k]? = some x := ⟨_, List.getElem?_eq_getElem hkl⟩
      obtain ⟨g, rfl, hg, c1, c2⟩ := hcell.out k x hx
      have c1' := (hbel.out.cell (p := ⟨g, k * 2, none⟩) hg).trans c1
      have c2' := (hbel.out.cell (p := ⟨g, k * 2 + 1, none⟩) hg).trans c2
      have hb' := (hbel.out.cell (p := ⟨b, 0, none⟩) hlt).trans hb
      have HX : Hid (at_[k]? = some x) := hx
      clear hx c1 c2
      cases he : eqS x.1 name
      · go_wp2_with (go_at_call 79; refine (find1_any x.1 x.2 name b _ hb').mono ?_; rintro e w1 ⟨rfl, hB⟩; rw [he])
        go_roundw
        case rel =>
          go_light
          refine ⟨k + 1, by omega, by go_num, ?_, (hbel.out.trans (hB.mono hbel.out.size) : Below w.heap.size w w1)⟩
          intro j hj y hy
          by_cases hjk : j = k
          · subst hjk
            obtain rfl := Option.some.inj (hy.symm.trans HX.out)
            exact he
          · exact hno.out j (by omega) y hy
        case measure => go_light; simp [intOf]; omega
      · have HF : Hid (findI at_ name = k) := by
          show findI at_ name = k
          simp only [findI, findI_some HX.out he hno.out]
        go_wp2_with (go_at_call 79; refine (find1_any x.1 x.2 name b _ hb').mono ?_; rintro e w1 ⟨rfl, hB⟩; rw [he])
        go_ret
        exact ⟨ret_int HF.out.symm, hbel.out.trans (hB.mono hbel.out.size)⟩
    · have hke : k = at_.length := by omega
      have HF : Hid (findI at_ name = -1) := by
        show findI at_ name = -1
        simp only [findI, findI_none (hke ▸ hno.out)]
      go_wp2
      go_ret
      exact ⟨ret_int HF.out.symm, hbel.out⟩

set_option maxHeartbeats 2000000 in
theorem find_any {w : World} {M : Nat → Lab} {tb : Nat} {uv : Value} {ps : List Pn} {us : List Value} {nb nc : Nat} (h : Lies w M tb (.slice (some ⟨nb, 0, none⟩) ps.length nc) uv ps us) {i : Nat} {p : Pn} (hp : ps[i]? = some p) (name : ByteArray) :
    Calls Tryz.prog 49 #[.pointer (some ⟨nb, i * 6, none⟩), .string name] w fun e w' => e = .returned (.int .i64 (findI p.n.attrs name)) ∧ Below w.heap.size w w' := by
  have c3 := (h.cellN rfl (f := 3) hp (by omega) rfl).1
  have hlt : nb < w.heap.size := World.block_lt_of_cell? w _ c3
  have hr := (h.node i p hp).1
  obtain ⟨ka, kc, hkv, _, _⟩ := hr.shape
  rw [hkv] at c3
  have HR : Hid (Row (w.alloc (.cells #[.string name] 9)) M (.attrs i) 51 2 (.slice ka p.n.attrs.length kc) p.n.attrs.length (attrCells p.n.attrs)) := by
    rw [hkv] at hr
    exact hr.keep (fun b hb _ => Below.heap_alloc w _ b hb) (fun _ _ => rfl)
  clear h hr hkv
  go_enter Tryz.func49, Tryz.ntmps49
  go_wp2_with (go_at_call 78; refine (indexFunc_any HR.out name _ (by simp)).mono ?_; rintro e w1 ⟨rfl, hB⟩)
  go_ret
  exact ⟨rfl, ((Below.refl _ _).alloc (Nat.le_refl _) _).trans (hB.mono (by simp))⟩

set_option maxHeartbeats 2000000 in
theorem wantElement_any {w : World} {M : Nat → Lab} {tb : Nat} {nv uv : Value} {ps : List Pn} {us : List Value} (h : Lies w M tb nv uv ps us) (hE : Errs w M) {i : Nat} {p : Pn} (hp : ps[i]? = some p) :
    Calls Tryz.prog 48 #[.pointer (some ⟨tb, 0, none⟩), .int .i64 i] w fun e w' => (∃ v, e = .returned v ∧ (if p.n.kind = 2 then v = .nilIface else isErr v)) ∧ w' = w := by
  have hb := hasB_of hp
  obtain ⟨nb, cap, rfl, hc, hm, _, _, hi⟩ := h.form hp
  obtain ⟨t, a, hc3⟩ := hE.cell 3 (by decide)
  have c0 := h.cell0
  have c4 := (h.cellN rfl (f := 0) hp (by omega) rfl).1
  rw [Nat.add_zero] at c4
  have H : Hid (Lies w M tb (.slice (some ⟨nb, 0, none⟩) ps.length cap) uv ps us) := h
  unfold maxLen at hm
  clear h hE
  by_cases hk : p.n.kind = 2
  · rw [hk] at c4
    simp only [if_pos hk]
    go_enter Tryz.func48, Tryz.ntmps48
    go_wp2_with (go_at_call 54; refine (has_any H.out _).mono ?_; rintro e w' ⟨rfl, rfl⟩; rw [hb])
    go_ret
    exact ⟨⟨_, rfl, rfl⟩, rfl⟩
  · have hkb : (p.n.kind == 2) = false := by simpa using hk
    simp only [if_neg hk]
    go_enter Tryz.func48, Tryz.ntmps48
    go_wp2_with (go_at_call 54; refine (has_any H.out _).mono ?_; rintro e w' ⟨rfl, rfl⟩; rw [hb])
    go_ret
    exact ⟨⟨_, rfl, ⟨t, a, rfl⟩⟩, rfl⟩
end Go.Proofs.YtlfepdecgfcifaaGreatDoor

/- What Set makes of a tree. -/
namespace Go.Proofs.YtlfepdecgfcifaaGreatDoor
open Go.RowKit

/-- a node's attributes turn: their row, and where the node says that it lies -/
theorem Lies.setAttrs {w w1 : World} {M M1 : Nat → Lab} {tb : Nat} {nv uv : Value} {ps : List Pn} {us : List Value} (h : Lies w M tb nv uv ps us) {nb m c0 : Nat} (hv : nv = .slice (some ⟨nb, 0, none⟩) m c0) {i : Nat} {p : Pn} (hp : ps[i]? = some p) (st : Step w M w1 M1 (.attrs i))
    {av' : Value} {at' : List (ByteArray × ByteArray)} (hr : Row w1 M1 (.attrs i) 51 2 av' at'.length (attrCells at')) :
    Lies (w1.setCell ⟨nb, i * 6 + 3, none⟩ av') M1 tb nv uv (ps.set i ⟨{ p.n with attrs := at' }, av', p.kv⟩) us ∧ Moved w M (w1.setCell ⟨nb, i * 6 + 3, none⟩ av') M1 ∧ (∃ u, w1.cell? ⟨nb, i * 6 + 3, none⟩ = some u) ∧ w1.frozen? ⟨nb, i * 6 + 3, none⟩ = false := by
  have hi : i < ps.length := (List.getElem?_eq_some_iff.1 hp).1
  obtain ⟨g, cap, hg, _, _, hM, hgl⟩ := h.nodes.form (by omega)
  have e1 : g = nb := by rw [hv] at hg; cases hg; rfl
  subst e1
  have hn1 : Row w1 M1 .nodes 78 6 nv ps.length (flat ps) := h.nodes.step st (by intro e; cases e)
  have hM1 : M1 g = .nodes := (st.lab g hgl).trans hM
  have st2 : Step w1 M1 (w1.setCell ⟨g, i * 6 + 3, none⟩ av') M1 .nodes := step_setCell av' hM1 st.fresh
  have hc := hn1.cell hv (flat_get ps i 3 p hp (by omega))
  refine ⟨⟨st2.fresh, (st.lab tb (lt_of_heap h.head)).trans h.tree, ?_, ?_, (h.undos.step st (by intro e; cases e)).step st2 (by intro e; cases e), ?_⟩, (st.moved (by intro e; cases e)).trans (st2.moved (by intro e; cases e)), ⟨_, hc.1⟩, hc.2⟩
  · have ht : M1 tb = .tree := (st.lab tb (lt_of_heap h.head)).trans h.tree
    have hl : tb < w1.heap.size := Nat.lt_of_lt_of_le (lt_of_heap h.head) st.size
    exact ((st2.far tb hl (by rw [ht]; intro e; cases e)).trans (st.far tb (lt_of_heap h.head) (by rw [h.tree]; intro e; cases e))).trans h.head
  · rw [List.length_set, flat_set ps i 3 p ⟨{ p.n with attrs := at' }, av', p.kv⟩ av' hp (by omega) rfl]
    exact hn1.set hv _ _ (by rw [flat_length]; omega)
  · intro j q hq
    by_cases hij : i = j
    · subst hij
      rw [List.getElem?_set_self hi] at hq
      cases hq
      exact ⟨hr.step st2 (by intro e; cases e), ((h.node i p hp).2.step st (by intro e; cases e)).step st2 (by intro e; cases e)⟩
    · rw [List.getElem?_set_ne hij] at hq
      exact ⟨((h.node j q hq).1.step st (by intro e; cases e; exact hij rfl)).step st2 (by intro e; cases e), ((h.node j q hq).2.step st (by intro e; cases e)).step st2 (by intro e; cases e)⟩

theorem flat_same (ps : List Pn) : ∀ (i : Nat) (p p' : Pn), ps[i]? = some p → p'.cells = p.cells → flat (ps.set i p') = flat ps := by
  induction ps with
  | nil => intro i p p' h; simp at h
  | cons q ps ih =>
    intro i p p' h he
    cases i with
    | zero => simp at h; subst h; rw [List.set_cons_zero, flat_cons, flat_cons, he]
    | succ i => rw [List.set_cons_succ, flat_cons, flat_cons, ih i p p' (by simpa using h) he]

/-- a node's attributes turn in their place -/
theorem Lies.turnAttrs {w w1 : World} {M M1 : Nat → Lab} {tb : Nat} {nv uv : Value} {ps : List Pn} {us : List Value} (h : Lies w M tb nv uv ps us) {i : Nat} {p : Pn} (hp : ps[i]? = some p) (st : Step w M w1 M1 (.attrs i))
    {at' : List (ByteArray × ByteArray)} (hr : Row w1 M1 (.attrs i) 51 2 p.av at'.length (attrCells at')) :
    Lies w1 M1 tb nv uv (ps.set i ⟨{ p.n with attrs := at' }, p.av, p.kv⟩) us ∧ Moved w M w1 M1 := by
  have hi : i < ps.length := (List.getElem?_eq_some_iff.1 hp).1
  refine ⟨⟨st.fresh, (st.lab tb (lt_of_heap h.head)).trans h.tree, (st.far tb (lt_of_heap h.head) (by rw [h.tree]; intro e; cases e)).trans h.head, ?_, h.undos.step st (by intro e; cases e), ?_⟩, st.moved (by intro e; cases e)⟩
  · rw [List.length_set, flat_same ps i p ⟨{ p.n with attrs := at' }, p.av, p.kv⟩ hp rfl]
    exact h.nodes.step st (by intro e; cases e)
  · intro j q hq
    by_cases hij : i = j
    · subst hij
      rw [List.getElem?_set_self hi] at hq
      cases hq
      exact ⟨hr, (h.node i p hp).2.step st (by intro e; cases e)⟩
    · rw [List.getElem?_set_ne hij] at hq
      exact ⟨(h.node j q hq).1.step st (by intro e; cases e; exact hij rfl), (h.node j q hq).2.step st (by intro e; cases e)⟩

/-- what Set makes of a list of attributes -/
def setAttr (l : List (ByteArray × ByteArray)) (name value : ByteArray) : List (ByteArray × ByteArray) := match findA l name with
  | some k => l.set k ((l.getD k (name, value)).1, value)
  | none => l ++ [(name, value)]

theorem Tryz.infoAttr : (Tryz.prog.info? 51).map (fun i => (i.zero, i.size, i.bytes)) = some (some (.agg #[.string ⟨#[]⟩, .string ⟨#[]⟩]), 2, 32) := by kernel_rfl

set_option maxHeartbeats 4000000 in
set_option maxRecDepth 100000 in
theorem set_bad {w : World} {M : Nat → Lab} {tb : Nat} {nv uv : Value} {ps : List Pn} {us : List Value} (h : Lies w M tb nv uv ps us) (hE : Errs w M) {i : Nat} {p : Pn} (hp : ps[i]? = some p) (name value : ByteArray) (hv : value.size ≤ 9223372036854775807) (hbad : p.n.kind ≠ 2 ∨ nameB name = false ∨ 20000 < value.size) :
    Calls Tryz.prog 21 #[.pointer (some ⟨tb, 0, none⟩), .int .i64 i, .string name, .string value] w fun e w' => (∃ v, e = .returned v ∧ isErr v) ∧ Below w.heap.size w w' := by
  obtain ⟨t1, a1, hc1⟩ := hE.cell 0 (by decide)
  obtain ⟨t2, a2, hc2⟩ := hE.cell 1 (by decide)
  have l1 : 0 < w.heap.size := World.block_lt_of_cell? w _ hc1
  have l2 : 1 < w.heap.size := World.block_lt_of_cell? w _ hc2
  have W0 : Hid (∀ o1 o2, Lies ((w.alloc o1).alloc o2) M tb nv uv ps us ∧ Errs ((w.alloc o1).alloc o2) M) := fun o1 o2 => ⟨(h.alloc o1).alloc o2, hE.below (((Below.refl _ _).alloc (Nat.le_refl _) _).alloc (by simp) _)⟩
  clear h hE
  by_cases hk : p.n.kind = 2
  · cases hn : nameB name
    · go_enter Tryz.func21, Tryz.ntmps21
      go_wp2_with (first
        | (go_at_call 48; refine (wantElement_any (W0.out _ _).1 (W0.out _ _).2 hp).mono ?_; rintro e w' ⟨⟨v, rfl, hv⟩, rfl⟩; rw [if_pos hk] at hv; subst hv)
        | (go_at_call 46; refine (name_any _ _).mono ?_; rintro e w' ⟨rfl, rfl⟩; rw [hn]))
      all_goals go_ret
      all_goals exact ⟨⟨_, rfl, ⟨t1, a1, rfl⟩⟩, ((Below.refl _ _).alloc (Nat.le_refl _) _).alloc (by simp) _⟩
    · have hvs : 20000 < value.size := by
        rcases hbad with h | h | h
        · exact absurd hk h
        · rw [hn] at h; cases h
        · exact h
      go_enter Tryz.func21, Tryz.ntmps21
      go_wp2_with (first
        | (go_at_call 48; refine (wantElement_any (W0.out _ _).1 (W0.out _ _).2 hp).mono ?_; rintro e w' ⟨⟨v, rfl, hv⟩, rfl⟩; rw [if_pos hk] at hv; subst hv)
        | (go_at_call 46; refine (name_any _ _).mono ?_; rintro e w' ⟨rfl, rfl⟩; rw [hn]))
      all_goals go_ret
      all_goals exact ⟨⟨_, rfl, ⟨t2, a2, rfl⟩⟩, ((Below.refl _ _).alloc (Nat.le_refl _) _).alloc (by simp) _⟩
  · go_enter Tryz.func21, Tryz.ntmps21
    go_wp2_with (go_at_call 48; refine (wantElement_any (W0.out _ _).1 (W0.out _ _).2 hp).mono ?_; rintro e w' ⟨⟨v, rfl, hv⟩, rfl⟩; rw [if_neg hk] at hv; obtain ⟨t3, a3, rfl⟩ := hv)
    all_goals go_ret
    all_goals exact ⟨⟨_, rfl, ⟨t3, a3, rfl⟩⟩, ((Below.refl _ _).alloc (Nat.le_refl _) _).alloc (by simp) _⟩
end Go.Proofs.YtlfepdecgfcifaaGreatDoor
