/- Say, of any tree, and what it keeps. -/
import Derived.Test.YtjfklhfdonbpgaaGreatDoorM11
import Derived.Test.YtjfklhfdonbpgaaGreatDoorUnset
import Derived.Test.YtjfklhfdonbpgaaGreatDoorM00
namespace Go.Proofs.YtjfklhfdonbpgaaGreatDoor
open Go.RowKit

theorem cell_three (w : World) (a b c : Value) (r s t : TypeId) : (((w.alloc (.cells #[a] r)).alloc (.cells #[b] s)).alloc (.cells #[c] t)).cell? ⟨w.heap.size, 0, none⟩ = some a ∧ (((w.alloc (.cells #[a] r)).alloc (.cells #[b] s)).alloc (.cells #[c] t)).cell? ⟨w.heap.size + 1, 0, none⟩ = some b ∧ (((w.alloc (.cells #[a] r)).alloc (.cells #[b] s)).alloc (.cells #[c] t)).cell? ⟨w.heap.size + 1 + 1, 0, none⟩ = some c := by
  have h1 := heap_alloc_new w (.cells #[a] r)
  have h2 := heap_alloc_new (w.alloc (.cells #[a] r)) (.cells #[b] s)
  have h3 := heap_alloc_new ((w.alloc (.cells #[a] r)).alloc (.cells #[b] s)) (.cells #[c] t)
  have e1 : (w.alloc (.cells #[a] r)).heap.size = w.heap.size + 1 := by simp
  have e2 : ((w.alloc (.cells #[a] r)).alloc (.cells #[b] s)).heap.size = w.heap.size + 1 + 1 := by simp
  rw [e1] at h2
  rw [e2] at h3
  have k1 := ((Below.heap_alloc _ (.cells #[c] t) w.heap.size (by rw [e2]; omega)).trans (Below.heap_alloc _ (.cells #[b] s) w.heap.size (by rw [e1]; omega))).trans h1
  have k2 := (Below.heap_alloc _ (.cells #[c] t) (w.heap.size + 1) (by rw [e2]; omega)).trans h2
  exact ⟨by rw [cell_of_row _ _ 0 _ _ _ k1]; rfl, by rw [cell_of_row _ _ 0 _ _ _ k2]; rfl, by rw [cell_of_row _ _ 0 _ _ _ h3]; rfl⟩

set_option maxHeartbeats 4000000 in
set_option maxRecDepth 100000 in
theorem say_any {w : World} {M : Nat → Lab} {tb : Nat} {nv uv : Value} {ps : List Pn} {us : List Value} (h : Lies w M tb nv uv ps us) (hE : Errs w M) (hW : WF (nodesOf ps)) {K : Nat} (hF : Few (nodesOf ps) K) (hu : us.length ≤ 1000000) (a : Int) (text : ByteArray) (ht : text.size ≤ 9223372036854775807) :
    Calls Tryz.prog 33 #[.pointer (some ⟨tb, 0, none⟩), .int .i64 a, .string text] w fun e w' => (∃ v, e = .returned v) ∧ (Below w.heap.size w w' ∨ Done w M tb ps us K w') := by
  obtain ⟨t1, a1, hc1⟩ := hE.cell 1 (by decide)
  obtain ⟨t2, a2, hc2⟩ := hE.cell 2 (by decide)
  obtain ⟨t3, a3, hc3⟩ := hE.cell 3 (by decide)
  have l1 : 1 < w.heap.size := World.block_lt_of_cell? w _ hc1
  have l2 : 2 < w.heap.size := World.block_lt_of_cell? w _ hc2
  have l3 : 3 < w.heap.size := World.block_lt_of_cell? w _ hc3
  have l0 : ((w.alloc (.cells #[.pointer (some ⟨tb, 0, none⟩)] 23)).alloc (.cells #[.int .i64 a] 3)).cell? ⟨1, 0, none⟩ = some (Value.iface t1 (Value.pointer (some a1))) := (World.cell?_of_block (a := ⟨1, 0, none⟩) ((Below.heap_alloc _ _ 1 (by simp; omega)).trans (Below.heap_alloc _ _ 1 l1))).trans hc1
  have H : Hid (∀ o1 o2, Lies ((w.alloc o1).alloc o2) M tb nv uv ps us) := fun o1 o2 => (h.alloc o1).alloc o2
  have B0 : Hid (∀ o1 o2, Below w.heap.size w ((w.alloc o1).alloc o2)) := fun o1 o2 => ((Below.refl _ _).alloc (Nat.le_refl _) _).alloc (by simp) _
  cases hb : hasB ps.length a
  · clear h hE hW hF
    go_enter Tryz.func33, Tryz.ntmps33
    go_wp2_with (go_at_call 45; refine (has_any (H.out _ _) _).mono ?_; rintro e w' ⟨rfl, rfl⟩; rw [hb])
    all_goals go_ret
    all_goals exact ⟨⟨_, rfl⟩, .inl (B0.out _ _)⟩
  obtain ⟨i, p, rfl, hp⟩ := hasB_get hb
  have HP : Hid (ps[i]? = some p) := hp
  cases hk : kidsB p.n.kind
  · by_cases hsz : text.size ≤ 20000
    · obtain ⟨nb, nc, rfl, hc, hm, hnM, hnl, hil⟩ := h.form hp
      have hlt : tb < w.heap.size := lt_of_heap h.head
      have c0 := h.cell0
      obtain ⟨c2, c2f⟩ := h.cellN rfl (f := 2) hp (by omega) rfl
      have hS : Hid (∀ o1 o2 o3, Lies ((((w.alloc o1).alloc o2).alloc o3).setCell ⟨nb, i * 6 + 2, none⟩ (.string text)) M tb (.slice (some ⟨nb, 0, none⟩) ps.length nc) uv (ps.set i ⟨{ p.n with words := text }, p.av, p.kv⟩) us ∧ Step (((w.alloc o1).alloc o2).alloc o3) M ((((w.alloc o1).alloc o2).alloc o3).setCell ⟨nb, i * 6 + 2, none⟩ (.string text)) M .nodes) := fun o1 o2 o3 =>
        (((h.alloc o1).alloc o2).alloc o3).setNode rfl (f := 2) (c := .string text) hp (by omega) (p' := ⟨{ p.n with words := text }, p.av, p.kv⟩) rfl ((((h.alloc o1).alloc o2).alloc o3).node i p hp).1 ((((h.alloc o1).alloc o2).alloc o3).node i p hp).2
      have c0' : ∀ o1 o2 o3, (((w.alloc o1).alloc o2).alloc o3).cell? ⟨tb, 0, none⟩ = some (.slice (some ⟨nb, 0, none⟩) ps.length nc) := fun o1 o2 o3 => (((h.alloc o1).alloc o2).alloc o3).cell0
      have c2' : ∀ o1 o2 o3, (((w.alloc o1).alloc o2).alloc o3).cell? ⟨nb, i * 6 + 2, none⟩ = some (.string p.n.words) := fun o1 o2 o3 => ((((h.alloc o1).alloc o2).alloc o3).cellN rfl (f := 2) hp (by omega) rfl).1
      have c2f' : ∀ o1 o2 o3, (((w.alloc o1).alloc o2).alloc o3).frozen? ⟨nb, i * 6 + 2, none⟩ = false := fun o1 o2 o3 => ((((h.alloc o1).alloc o2).alloc o3).cellN rfl (f := 2) hp (by omega) rfl).2
      have HFr : Hid (∀ b, w.heap.size ≤ b → M b = .other) := h.fresh
      have i1 : (0 : Int) ≤ (i : Int) := by omega
      have i2 : (i : Int) < (ps.length : Int) := by omega
      unfold maxLen at hm
      clear h hE hp
      go_enter Tryz.func33, Tryz.ntmps33
      go_wp2_with (first
        | (go_at_call 45; refine (has_any (H.out _ _) _).mono ?_; rintro e w' ⟨rfl, rfl⟩; rw [hb])
        | (go_at_call 53; refine (mayHaveKids_any (H.out _ _) HP.out).mono ?_; rintro e w' ⟨rfl, rfl⟩; rw [hk]))
      go_region
      all_goals go_wp2_with fail
      all_goals go_region
      all_goals go_wp2_with (go_at_call 55; refine (keep_any ((hS.out _ _ _).1.drew.drew) _ _ _ (by omega)).mono ?_; rintro e w3 ⟨rfl, M3, uv3, hL3, hm3⟩)
      all_goals go_ret
      all_goals
        have mv := ((hS.out (.cells #[.pointer (some ⟨tb, 0, none⟩)] 23) (.cells #[.int .i64 i] 3) (.cells #[.string p.n.words] 9)).2.moved (by intro e; cases e)).drew.drew.trans hm3
        refine ⟨⟨_, rfl⟩, .inr ⟨M3, _, uv3, _, _, .say i p.n.words, hL3, ⟨_, _, _, rfl, Cap.moved ⟨HFr.out _ (by omega), ?_⟩ mv, Cap.moved ⟨HFr.out _ (Nat.le_refl _), ?_⟩ mv, Cap.moved ⟨HFr.out _ (by omega), ?_⟩ mv⟩, ?_, ?_, ((((Moved.refl w M).alloc _).alloc _).alloc _).trans mv, ?_⟩⟩
        · exact (cell_three _ _ _ _ _ _ _).2.2
        · exact (cell_three _ _ _ _ _ _ _).1
        · exact (cell_three _ _ _ _ _ _ _).2.1
        · rw [show nodesOf (ps.set i _) = (nodesOf ps).set i _ by rw [nodesOf, List.map_set]; rfl]
          exact hW.turn (nodes_get HP.out) rfl rfl rfl
        · rw [show nodesOf (ps.set i _) = (nodesOf ps).set i _ by rw [nodesOf, List.map_set]; rfl]
          refine ⟨_, List.getElem?_set_self (by simpa [nodesOf] using hil), ?_⟩
          rw [List.set_set]
          exact (set_same (nodes_get HP.out)).symm
        · rw [show nodesOf (ps.set i _) = (nodesOf ps).set i _ by rw [nodesOf, List.map_set]; rfl]
          refine few_set hF ?_
          show p.n.attrs.length ≤ K + 1
          exact Nat.le_succ_of_le (hF i p.n (nodes_get HP.out))
    · clear h hE hW hF hp
      go_enter Tryz.func33, Tryz.ntmps33
      go_wp2_with (first
        | (go_at_call 45; refine (has_any (H.out _ _) _).mono ?_; rintro e w' ⟨rfl, rfl⟩; rw [hb])
        | (go_at_call 53; refine (mayHaveKids_any (H.out _ _) HP.out).mono ?_; rintro e w' ⟨rfl, rfl⟩; rw [hk]))
      all_goals go_ret
      all_goals exact ⟨⟨_, rfl⟩, .inl (B0.out _ _)⟩
  · clear h hE hW hF hp
    go_enter Tryz.func33, Tryz.ntmps33
    go_wp2_with (first
      | (go_at_call 45; refine (has_any (H.out _ _) _).mono ?_; rintro e w' ⟨rfl, rfl⟩; rw [hb])
      | (go_at_call 53; refine (mayHaveKids_any (H.out _ _) HP.out).mono ?_; rintro e w' ⟨rfl, rfl⟩; rw [hk]))
    all_goals go_ret
    all_goals exact ⟨⟨_, rfl⟩, .inl (B0.out _ _)⟩
end Go.Proofs.YtjfklhfdonbpgaaGreatDoor

/- What the kept functions do. -/
namespace Go.Proofs.YtjfklhfdonbpgaaGreatDoor
open Go.RowKit

/-- a kept function has run -/
def Ran (w : World) (M : Nat → Lab) (tb : Nat) (us : List Value) (ns' : List Nd) (e : Ending) (w' : World) : Prop :=
  e = .returned (.tuple #[]) ∧ ∃ M' nv' uv' ps', Lies w' M' tb nv' uv' ps' us ∧ nodesOf ps' = ns' ∧ Moved w M w' M'

theorem set_nodes {ps : List Pn} {i : Nat} {q : Pn} : nodesOf (ps.set i q) = (nodesOf ps).set i q.n := by
  rw [nodesOf, List.map_set]; rfl

set_option maxHeartbeats 4000000 in
set_option maxRecDepth 100000 in
theorem say1_any {w : World} {M : Nat → Lab} {tb : Nat} {nv uv : Value} {ps : List Pn} {us : List Value} (h : Lies w M tb nv uv ps us) {i : Nat} {p : Pn} (hp : ps[i]? = some p) {old : ByteArray} {b0 b1 b2 : Nat} (k0 : Cap w M b0 0 (.string old)) (k1 : Cap w M b1 0 (at0 tb)) (k2 : Cap w M b2 0 (.int .i64 i)) :
    Calls Tryz.prog 67 #[.pointer (some ⟨b0, 0, none⟩), .pointer (some ⟨b1, 0, none⟩), .pointer (some ⟨b2, 0, none⟩)] w (Ran w M tb us ((nodesOf ps).set i { p.n with words := old })) := by
  obtain ⟨nb, nc, rfl, hc, hm, hnM, hnl, hil⟩ := h.form hp
  have c0 := h.cell0
  obtain ⟨c2, c2f⟩ := h.cellN rfl (f := 2) hp (by omega) rfl
  have HS : Hid _ := h.setNode rfl (f := 2) (c := .string old) hp (by omega) (p' := ⟨{ p.n with words := old }, p.av, p.kv⟩) rfl (h.node i p hp).1 (h.node i p hp).2
  have j0 := k0.2
  have j1 := k1.2
  have j2 := k2.2
  unfold at0 at j1
  have i1 : (0 : Int) ≤ (i : Int) := by omega
  have i2 : (i : Int) < (ps.length : Int) := by omega
  unfold maxLen at hm
  clear h hp k0 k1 k2
  go_enter Tryz.func67, Tryz.ntmps67
  go_wp2_with fail
  all_goals go_region
  all_goals go_wp2
  all_goals go_end0
  all_goals exact ⟨rfl, M, _, _, _, HS.out.1.drew, set_nodes, (HS.out.2.moved (by intro e; cases e)).drew⟩

set_option maxHeartbeats 4000000 in
set_option maxRecDepth 100000 in
theorem set2_any {w : World} {M : Nat → Lab} {tb : Nat} {nv uv : Value} {ps : List Pn} {us : List Value} (h : Lies w M tb nv uv ps us) {i k : Nat} {p : Pn} (hp : ps[i]? = some p) {x : ByteArray × ByteArray} (hx : p.n.attrs[k]? = some x) {old : ByteArray} {b0 b1 b2 b3 : Nat} (k0 : Cap w M b0 0 (.string old)) (k1 : Cap w M b1 0 (at0 tb)) (k2 : Cap w M b2 0 (.int .i64 i)) (k3 : Cap w M b3 0 (.int .i64 k)) :
    Calls Tryz.prog 64 #[.pointer (some ⟨b0, 0, none⟩), .pointer (some ⟨b1, 0, none⟩), .pointer (some ⟨b2, 0, none⟩), .pointer (some ⟨b3, 0, none⟩)] w (Ran w M tb us ((nodesOf ps).set i { p.n with attrs := p.n.attrs.set k (x.1, old) })) := by
  obtain ⟨nb, nc, rfl, hc, hm, hnM, hnl, hil⟩ := h.form hp
  have hkl : k < p.n.attrs.length := (List.getElem?_eq_some_iff.1 hx).1
  obtain ⟨ag, ac, hav, hac1, hac2, hagM, hagl⟩ := (h.node i p hp).1.form (by omega)
  have c0 := h.cell0
  obtain ⟨c3, c3f⟩ := h.cellN rfl (f := 3) hp (by omega) rfl
  rw [hav] at c3
  obtain ⟨cx, cxf⟩ := (h.node i p hp).1.cell hav (attrCells_get p.n.attrs k x hx).2
  have st : Step w M (w.setCell ⟨ag, k * 2 + 1, none⟩ (.string old)) M (.attrs i) := step_setCell _ hagM h.fresh
  have hrs := (h.node i p hp).1.set hav (k * 2 + 1) (.string old) (by rw [attrCells_length]; omega)
  have HQ : Hid _ := h.turnAttrs hp st (at' := p.n.attrs.set k (x.1, old)) (by rw [List.length_set, attrCells_set p.n.attrs k x old hx]; exact hrs)
  have j0 := k0.2
  have j1 := k1.2
  have j2 := k2.2
  have j3 := k3.2
  unfold at0 at j1
  have i1 : (0 : Int) ≤ (i : Int) := by omega
  have i2 : (i : Int) < (ps.length : Int) := by omega
  have i3 : (0 : Int) ≤ (k : Int) := by omega
  have i4 : (k : Int) < (p.n.attrs.length : Int) := by omega
  unfold maxLen at hm hac2
  clear h hp hx k0 k1 k2 k3 st hrs
  go_enter Tryz.func64, Tryz.ntmps64
  go_wp2_with fail
  all_goals go_region
  all_goals go_wp2
  all_goals go_end0
  all_goals exact ⟨rfl, M, _, _, _, HQ.out.1.drew, set_nodes, HQ.out.2.drew⟩

end Go.Proofs.YtjfklhfdonbpgaaGreatDoor
