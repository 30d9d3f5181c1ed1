/- Say, of any tree, and what it keeps. -/
import Derived.Test.YtiikjflaonhfdaaDoorSetU
namespace Go.Proofs.YtiikjflaonhfdaaDoor
open Go.RowKit

theorem cell_three (w : World) (a b c : Value) (r s t : TypeId) : (((w.alloc (.cells #[a] r)).alloc (.cells #[b] s)).alloc (.cells #[c] t)).cell? ⟨w.heap.size, 0, none⟩ = some a ∧ (((w.alloc (.cells #[a] r)).alloc (.cells #[b] s)).alloc (.cells #[c] t)).cell? ⟨w.heap.size + 1, 0, none⟩ = some b ∧ (((w.alloc (.cells #[a] r)).alloc (.cells #[b] s)).alloc (.cells #[c] t)).cell? ⟨w.heap.size + 1 + 1, 0, none⟩ = some c := by
  have h1 := heap_alloc_new w (.cells #[a] r)
  have h2 := heap_alloc_new (w.alloc (.cells #[a] r)) (.cells #[b] s)
  have h3 := heap_alloc_new ((w.alloc (.cells #[a] r)).alloc (.cells #[b] s)) (.cells #[c] t)
  have e1 : (w.alloc (.cells #[a] r)).heap.size = w.heap.size + 1 := by simp
  have e2 : ((w.alloc (.cells #[a] r)).alloc (.cells #[b] s)).heap.size = w.heap.size + 1 + 1 := by simp
  rw [e1] at h2
  rw [e2] at h3
  have k1 := ((Below.heap_alloc _ (.cells #[c] t) w.heap.size (by rw [e2]; omega)).trans (Below.heap_alloc _ (.cells #[b] s) w.heap.size (by rw [e1]; omega))).trans h1
  have k2 := (Below.heap_alloc _ (.cells #[c] t) (w.heap.size + 1) (by rw [e2]; omega)).trans h2
  exact ⟨by rw [cell_of_row _ _ 0 _ _ _ k1]; rfl, by rw [cell_of_row _ _ 0 _ _ _ k2]; rfl, by rw [cell_of_row _ _ 0 _ _ _ h3]; rfl⟩

set_option maxHeartbeats 4000000 in
set_option maxRecDepth 100000 in
theorem say_any {w : World} {M : Nat → Lab} {tb : Nat} {nv uv : Value} {ps : List Pn} {us : List Value} (h : Lies w M tb nv uv ps us) (hE : Errs w M) (hW : WF (nodesOf ps)) {K : Nat} (hF : Few (nodesOf ps) K) (hu : us.length ≤ 1000000) (a : Int) (text : ByteArray) (ht : text.size ≤ 9223372036854775807) :
    Calls Tryd.prog 29 #[.pointer (some ⟨tb, 0, none⟩), .int .i64 a, .string text] w fun e w' => (∃ v, e = .returned v) ∧ (Below w.heap.size w w' ∨ Done w M tb ps us K w') := by
  obtain ⟨t1, a1, hc1⟩ := hE.cell 4 (by decide)
  obtain ⟨t2, a2, hc2⟩ := hE.cell 5 (by decide)
  obtain ⟨t3, a3, hc3⟩ := hE.cell 3 (by decide)
  have l1 : 4 < w.heap.size := World.block_lt_of_cell? w _ hc1
  have l2 : 5 < w.heap.size := World.block_lt_of_cell? w _ hc2
  have l3 : 3 < w.heap.size := World.block_lt_of_cell? w _ hc3
  have H : Hid (∀ o1 o2, Lies ((w.alloc o1).alloc o2) M tb nv uv ps us) := fun o1 o2 => (h.alloc o1).alloc o2
  have B0 : Hid (∀ o1 o2, Below w.heap.size w ((w.alloc o1).alloc o2)) := fun o1 o2 => ((Below.refl _ _).alloc (Nat.le_refl _) _).alloc (by simp) _
  cases hb : hasB ps.length a
  · clear h hE hW hF
    go_enter Tryd.func29, Tryd.ntmps29
    go_wp2_with (go_at_call 41; refine (has_any (H.out _ _) _).mono ?_; rintro e w' ⟨rfl, rfl⟩; rw [hb])
    all_goals go_ret
    all_goals exact ⟨⟨_, rfl⟩, .inl (B0.out _ _)⟩
  obtain ⟨i, p, rfl, hp⟩ := hasB_get hb
  have HP : Hid (ps[i]? = some p) := hp
  cases hk : kidsB p.n.kind
  · by_cases hsz : text.size ≤ 20000
    · obtain ⟨nb, nc, rfl, hc, hm, hnM, hnl, hil⟩ := h.form hp
      have hlt : tb < w.heap.size := lt_of_heap h.head
      have c0 := h.cell0
      obtain ⟨c2, c2f⟩ := h.cellN rfl (f := 2) hp (by omega) rfl
      have hS : Hid (∀ o1 o2 o3, Lies ((((w.alloc o1).alloc o2).alloc o3).setCell ⟨nb, i * 6 + 2, none⟩ (.string text)) M tb (.slice (some ⟨nb, 0, none⟩) ps.length nc) uv (ps.set i ⟨{ p.n with words := text }, p.av, p.kv⟩) us ∧ Step (((w.alloc o1).alloc o2).alloc o3) M ((((w.alloc o1).alloc o2).alloc o3).setCell ⟨nb, i * 6 + 2, none⟩ (.string text)) M .nodes) := fun o1 o2 o3 =>
        (((h.alloc o1).alloc o2).alloc o3).setNode rfl (f := 2) (c := .string text) hp (by omega) (p' := ⟨{ p.n with words := text }, p.av, p.kv⟩) rfl ((((h.alloc o1).alloc o2).alloc o3).node i p hp).1 ((((h.alloc o1).alloc o2).alloc o3).node i p hp).2
      have c0' : ∀ o1 o2 o3, (((w.alloc o1).alloc o2).alloc o3).cell? ⟨tb, 0, none⟩ = some (.slice (some ⟨nb, 0, none⟩) ps.length nc) := fun o1 o2 o3 => (((h.alloc o1).alloc o2).alloc o3).cell0
      have c2' : ∀ o1 o2 o3, (((w.alloc o1).alloc o2).alloc o3).cell? ⟨nb, i * 6 + 2, none⟩ = some (.string p.n.words) := fun o1 o2 o3 => ((((h.alloc o1).alloc o2).alloc o3).cellN rfl (f := 2) hp (by omega) rfl).1
      have c2f' : ∀ o1 o2 o3, (((w.alloc o1).alloc o2).alloc o3).frozen? ⟨nb, i * 6 + 2, none⟩ = false := fun o1 o2 o3 => ((((h.alloc o1).alloc o2).alloc o3).cellN rfl (f := 2) hp (by omega) rfl).2
      have HFr : Hid (∀ b, w.heap.size ≤ b → M b = .other) := h.fresh
      have i1 : (0 : Int) ≤ (i : Int) := by omega
      have i2 : (i : Int) < (ps.length : Int) := by omega
      unfold maxLen at hm
      clear h hE hp
      go_enter Tryd.func29, Tryd.ntmps29
      go_wp2_with (first
        | (go_at_call 41; refine (has_any (H.out _ _) _).mono ?_; rintro e w' ⟨rfl, rfl⟩; rw [hb])
        | (go_at_call 44; refine (mayHaveKids_any (H.out _ _) HP.out).mono ?_; rintro e w' ⟨rfl, rfl⟩; rw [hk]))
      go_region
      all_goals go_wp2_with fail
      all_goals go_region
      all_goals go_wp2_with (go_at_call 38; refine (keep_any ((hS.out _ _ _).1.drew.drew) _ _ _ (by omega)).mono ?_; rintro e w3 ⟨rfl, M3, uv3, hL3, hm3⟩)
      all_goals go_ret
      all_goals
        have mv := ((hS.out (.cells #[.pointer (some ⟨tb, 0, none⟩)] 27) (.cells #[.int .i64 i] 3) (.cells #[.string p.n.words] 9)).2.moved (by intro e; cases e)).drew.drew.trans hm3
        refine ⟨⟨_, rfl⟩, .inr ⟨M3, _, uv3, _, _, .say i p.n.words, hL3, ⟨_, _, _, rfl, Cap.moved ⟨HFr.out _ (by omega), ?_⟩ mv, Cap.moved ⟨HFr.out _ (Nat.le_refl _), ?_⟩ mv, Cap.moved ⟨HFr.out _ (by omega), ?_⟩ mv⟩, ?_, ?_, ((((Moved.refl w M).alloc _).alloc _).alloc _).trans mv, ?_⟩⟩
        · exact (cell_three _ _ _ _ _ _ _).2.2
        · exact (cell_three _ _ _ _ _ _ _).1
        · exact (cell_three _ _ _ _ _ _ _).2.1
        · rw [show nodesOf (ps.set i _) = (nodesOf ps).set i _ by rw [nodesOf, List.map_set]; rfl]
          exact hW.turn (nodes_get HP.out) rfl rfl rfl
        · rw [show nodesOf (ps.set i _) = (nodesOf ps).set i _ by rw [nodesOf, List.map_set]; rfl]
          refine ⟨_, List.getElem?_set_self (by simpa [nodesOf] using hil), ?_⟩
          rw [List.set_set]
          exact (set_same (nodes_get HP.out)).symm
        · rw [show nodesOf (ps.set i _) = (nodesOf ps).set i _ by rw [nodesOf, List.map_set]; rfl]
          refine few_set hF ?_
          show p.n.attrs.length ≤ K + 1
          exact Nat.le_succ_of_le (hF i p.n (nodes_get HP.out))
    · clear h hE hW hF hp
      go_enter Tryd.func29, Tryd.ntmps29
      go_wp2_with (first
        | (go_at_call 41; refine (has_any (H.out _ _) _).mono ?_; rintro e w' ⟨rfl, rfl⟩; rw [hb])
        | (go_at_call 44; refine (mayHaveKids_any (H.out _ _) HP.out).mono ?_; rintro e w' ⟨rfl, rfl⟩; rw [hk]))
      all_goals go_ret
      all_goals exact ⟨⟨_, rfl⟩, .inl (B0.out _ _)⟩
  · clear h hE hW hF hp
    go_enter Tryd.func29, Tryd.ntmps29
    go_wp2_with (first
      | (go_at_call 41; refine (has_any (H.out _ _) _).mono ?_; rintro e w' ⟨rfl, rfl⟩; rw [hb])
      | (go_at_call 44; refine (mayHaveKids_any (H.out _ _) HP.out).mono ?_; rintro e w' ⟨rfl, rfl⟩; rw [hk]))
    all_goals go_ret
    all_goals exact ⟨⟨_, rfl⟩, .inl (B0.out _ _)⟩
end Go.Proofs.YtiikjflaonhfdaaDoor
