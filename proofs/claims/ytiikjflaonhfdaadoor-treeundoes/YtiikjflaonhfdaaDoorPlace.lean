/- Where a kid stands; small facts on lists that a call owns. -/
import Derived.Test.YtiikjflaonhfdaaDoorLook
import Derived.Test.YtiikjflaonhfdaaDoorApp
import Derived.BigRegion
namespace Go.Proofs.YtiikjflaonhfdaaDoor
open Go.RowKit

set_option maxHeartbeats 2000000 in
set_option maxRecDepth 100000 in
theorem place_any {w : World} {M : Nat → Lab} {tb : Nat} {nv uv : Value} {ps : List Pn} {us : List Value} (h : Lies w M tb nv uv ps us) {i q : Nat} {p m : Pn} (hp : ps[i]? = some p) (hq : p.n.parent = q) (hm : ps[q]? = some m) (hk : (i : Int) ∈ m.n.kids) :
    Calls Tryd.prog 74 #[.pointer (some ⟨tb, 0, none⟩), .int .i64 i] w fun e w' => e = .returned (.int .i64 (idx m.n.kids i : Nat)) ∧ ∃ n, w' = w.drewN n := by
  obtain ⟨nb, cap, rfl, hc, hmx, _, _, hi⟩ := h.form hp
  have hqi : q < ps.length := (List.getElem?_eq_some_iff.1 hm).1
  have c0 := h.cell0
  have c4 := (h.cellN rfl (f := 4) hp (by omega) rfl).1
  rw [hq] at c4
  have c5 := (h.cellN rfl (f := 5) hm (by omega) rfl).1
  have hr := (h.node q m hm).2
  obtain ⟨ka, kc, hkv, _, _⟩ := hr.shape
  rw [hkv] at c5
  have HR : Hid (Row w M (.kids q) 3 1 (.slice ka m.n.kids.length kc) m.n.kids.length (m.n.kids.map intV)) := hkv ▸ hr
  unfold maxLen at hmx
  have i1 : (0 : Int) ≤ (i : Int) := by omega
  have i2 : (i : Int) < (ps.length : Int) := by omega
  have i3 : (0 : Int) ≤ (q : Int) := by omega
  have i4 : (q : Int) < (ps.length : Int) := by omega
  clear h hr hkv hp hm hq
  go_enter Tryd.func74, Tryd.ntmps74
  go_wp2
  go_quiet ((go_at_call 78; refine Calls.quiet_of_same (index_any (M := M) (l := .kids q) (n := m.n.kids.length) ?_ _ hk); exact HR.out.keep (fun _ _ _ => rfl) (fun _ _ => rfl)))
  go_wp2
  go_ret
  exact ⟨rfl, _, rfl⟩

theorem own_cell {w : World} {B : Nat} {v : Value} {n : Nat} {xs : List Int} (h : w.ownsRow B 3 1 v n (xs.map intV)) : xs.length = n ∧ ∃ a c, v = .slice a n c ∧ n ≤ c ∧ c ≤ maxLen ∧ ∀ k y, xs[k]? = some y → ∃ g, a = some ⟨g, 0, none⟩ ∧ w.cell? ⟨g, k, none⟩ = some (.int .i64 y) ∧ w.frozen? ⟨g, k, none⟩ = false := by
  have hl : xs.length = n := by have := h.1; simpa using this
  refine ⟨hl, ?_⟩
  rcases h.2 with ⟨rfl, rfl⟩ | ⟨g, cap, cur, rfl, hb, hg, h1, h2, h3, h4⟩
  · refine ⟨none, 0, rfl, Nat.le_refl _, by unfold maxLen; omega, fun k y hk => ?_⟩
    rw [List.length_eq_zero_iff.1 hl] at hk
    simp at hk
  · refine ⟨_, cap, rfl, h1, h2, fun k y hk => ⟨g, rfl, ?_, ?_⟩⟩
    · rw [cell_of_row w g k cur 3 (0, 0) hg]
      have hk' : (xs.map intV)[k]? = some (.int .i64 y) := by simp [hk, intV]
      rw [← h4, List.getElem?_take] at hk'
      split at hk'
      · simpa using hk'
      · cases hk'
    · simp [World.frozen?, hg]

def nodesOf (ps : List Pn) : List Nd := ps.map Pn.n

theorem nodesOf_get {ps : List Pn} {i : Nat} {n : Nd} (h : (nodesOf ps)[i]? = some n) : ∃ p, ps[i]? = some p ∧ p.n = n := by
  simpa [nodesOf] using h

theorem below_size {B : Nat} {w w' : World} (h : Below B w w') : w.heap.size ≤ w'.heap.size := h.size

theorem own_keep {w w' : World} {A B : Nat} {v : Value} {n : Nat} {xs : List Value} (h : w.ownsRow A 3 1 v n xs) (hb : Below B w w') (hB : ∀ k, v.ownBlock = some k → k < B) : w'.ownsRow A 3 1 v n xs := by
  refine ⟨h.1, ?_⟩
  rcases h.2 with h0 | ⟨g, cap, cur, rfl, h1, h2, h3⟩
  · exact .inl h0
  · exact .inr ⟨g, cap, cur, rfl, h1, (hb.block g (hB g rfl)).trans h2, h3⟩

theorem hasB_lt {n i : Nat} (h : i < n) : hasB n i = true := by unfold hasB; simp; omega

theorem nodes_get {ps : List Pn} {j : Nat} {p : Pn} (h : ps[j]? = some p) : (nodesOf ps)[j]? = some p.n := by
  simp [nodesOf, h]

theorem one_attr (l : List (ByteArray × ByteArray)) : ∀ u ∈ attrCells l, u.oneCell' = true := by
  intro u hu
  obtain ⟨x, _, hx⟩ := List.mem_flatMap.1 hu
  simp at hx
  rcases hx with rfl | rfl <;> rfl

theorem one_int (l : List Int) : ∀ u ∈ l.map intV, u.oneCell' = true := by
  intro u hu
  obtain ⟨k, _, rfl⟩ := List.mem_map.1 hu
  rfl

theorem SrcOf.below {w w' : World} {size m : Nat} {x : Value} {news : List Value} (h : SrcOf w size x m news) (hb : Below w.heap.size w w') : SrcOf w' size x m news :=
  h.keep fun a _ hv => (hb.cell (World.block_lt_of_cell? w a hv)).trans hv

theorem own_shape {w : World} {B : Nat} {e : TypeId} {size n : Nat} {v : Value} {xs : List Value} (h : w.ownsRow B e size v n xs) : ∃ a c, v = .slice a n c := by
  rcases h.2 with ⟨rfl, rfl⟩ | ⟨g, cap, cur, rfl, _⟩
  · exact ⟨none, 0, rfl⟩
  · exact ⟨_, _, rfl⟩

theorem below_grown {w w' : World} (hg : w.grownBy w' none) : Below w.heap.size w w' := (Below.refl _ _).grown hg (Nat.le_refl _) (fun _ h => by cases h)
end Go.Proofs.YtiikjflaonhfdaaDoor
