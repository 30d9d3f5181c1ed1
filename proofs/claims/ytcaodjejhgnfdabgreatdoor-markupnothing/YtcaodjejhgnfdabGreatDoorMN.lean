/- What is made of the empty text: a document alone; what is written of no tree: nothing, and that there is no such node. -/
import Derived.Test.YtcaodjejhgnfdabGreatDoorChecked
import Derived.Test.YtcaodjejhgnfdabGreatDoorCode
import Derived.WalkKit
import Derived.WalkSmall
import Derived.Deep.Light
import Derived.Deep.QuietTactic
import Derived.BigQuiet
import Derived.Defers
import Derived.Recover
import Derived.LoopN
import Derived.Laws.Pointers
import Derived.Laws.EntriesVeiled
namespace Go.Proofs.YtcaodjejhgnfdabGreatDoor
open Go.RowKit

theorem below_drewN {B : Nat} {a w : World} (h : Below B a w) (n : Nat) : Below B a (w.drewN n) := ⟨h.os, h.tape, h.output, h.size, h.block⟩

theorem atEnd_empty {w : World} {b : Nat} (h0 : w.cell? ⟨b, 0, none⟩ = some (.string ⟨#[]⟩)) (h1 : w.cell? ⟨b, 1, none⟩ = some (.int .i64 0)) :
    Calls Tryz.prog 111 #[.pointer (some ⟨b, 0, none⟩)] w fun e w' => e = .returned (.bool true) ∧ Below w.heap.size w w' := by
  go_enter Tryz.func111, Tryz.ntmps111
  go_wp2
  go_quiet (fail)
  go_wp2
  go_ret
  exact ⟨by go_light; rfl, below_drewN (Below.refl _ _) _⟩

set_option maxHeartbeats 1000000 in
theorem next_empty {w : World} {b : Nat} (h0 : w.cell? ⟨b, 0, none⟩ = some (.string ⟨#[]⟩)) (h1 : w.cell? ⟨b, 1, none⟩ = some (.int .i64 0)) :
    Calls Tryz.prog 73 #[.pointer (some ⟨b, 0, none⟩)] w fun e w' => e = .returned (.tuple #[.agg #[.int .i64 0, .int .i64 0, .string ⟨#[]⟩, .string ⟨#[]⟩, .slice none 0 0], .bool false]) ∧ Below w.heap.size w w' := by
  have hlt : b < w.heap.size := World.block_lt_of_cell? w _ h0
  go_enter Tryz.func73, Tryz.ntmps73
  go_wp2_with fail
  refine (atEnd_empty ((World.cell?_alloc_lt _ _ ⟨b, 0, none⟩ hlt).trans h0) ((World.cell?_alloc_lt _ _ ⟨b, 1, none⟩ hlt).trans h1)).mono ?_
  rintro e w1 ⟨rfl, hB⟩
  have hb0 := hB.block w.heap.size (by simp)
  rw [heap_alloc_new w] at hb0
  have d0 := cell_of_row w1 w.heap.size 0 _ _ _ hb0
  have d1 := cell_of_row w1 w.heap.size 1 _ _ _ hb0
  have d2 := cell_of_row w1 w.heap.size 2 _ _ _ hb0
  have d3 := cell_of_row w1 w.heap.size 3 _ _ _ hb0
  have d4 := cell_of_row w1 w.heap.size 4 _ _ _ hb0
  have df : ∀ o, w1.frozen? ⟨w.heap.size, o, none⟩ = false := fun o => (by simp [World.frozen?, hb0])
  simp at d0 d1 d2 d3 d4
  have HB : Hid (Below w.heap.size w w1) := ((Below.refl _ _).alloc (Nat.le_refl _) _).trans (hB.mono (by simp))
  clear hB hb0
  go_wp2_with fail
  refine bodyPost_ret (v := .tuple #[.agg #[.int .i64 0, .int .i64 0, .string ⟨#[]⟩, .string ⟨#[]⟩, .slice none 0 0], .bool false]) ?_ rfl ⟨rfl, ?_⟩
  · simp [results, Tryz.results73, go_sem, d0, d1, d2, d3, d4]
  · exact ((((HB.out.setCell (Nat.le_refl _) _).setCell (Nat.le_refl _) _).setCell (Nat.le_refl _) _).setCell (Nat.le_refl _) _).setCell (Nat.le_refl _) _

theorem two_cells {w : World} {b : Nat} {t : TypeId} {fr : Nat × Nat} {a0 a1 : Value} (h : w.heap[b]? = some (.cells #[a0, a1] t fr)) : w.cell? ⟨b, 0, none⟩ = some a0 ∧ w.cell? ⟨b, 1, none⟩ = some a1 := by
  refine ⟨?_, ?_⟩ <;> (rw [cell_of_row w b _ _ _ _ h]; rfl)
theorem three_cells {w : World} {b : Nat} {t : TypeId} {fr : Nat × Nat} {a0 a1 a2 : Value} (h : w.heap[b]? = some (.cells #[a0, a1, a2] t fr)) : w.cell? ⟨b, 0, none⟩ = some a0 ∧ w.cell? ⟨b, 1, none⟩ = some a1 ∧ w.cell? ⟨b, 2, none⟩ = some a2 := by
  refine ⟨?_, ?_, ?_⟩ <;> (rw [cell_of_row w b _ _ _ _ h]; rfl)

/-- a document alone -/
def Alone (w : World) (tb : Nat) : Prop := ∃ nb uv, w.heap[tb]? = some (.cells #[.slice (some ⟨nb, 0, none⟩) 1 1, uv] 104 (0, 0))

set_option maxHeartbeats 1000000 in
theorem new_any (w : World) : Calls Tryz.prog 40 #[] w fun e w' => ∃ tb, e = .returned (.pointer (some ⟨tb, 0, none⟩)) ∧ Alone w' tb ∧ w.heap.size ≤ tb ∧ tb < w'.heap.size ∧ Below w.heap.size w w' := by
  go_enter Tryz.func40, Tryz.ntmps40
  go_wp2
  go_ret
  refine ⟨w.heap.size + 1, rfl, ⟨w.heap.size, .slice none 0 0, ?_⟩, by omega, by simp, (((Below.refl _ _).alloc (Nat.le_refl _) _).alloc (by simp) _)⟩
  · have := heap_alloc_new (w.alloc (.cells #[.int .i64 1, .string ⟨#[]⟩, .string ⟨#[]⟩, .slice none 0 0, .int .i64 (-1), .slice none 0 0] 126)) (.cells #[.slice (some ⟨w.heap.size, 0, none⟩) 1 1, .slice none 0 0] 104)
    simpa using this

theorem settle_any {w : World} {tb : Nat} (h : Alone w tb) : Calls Tryz.prog 48 #[.pointer (some ⟨tb, 0, none⟩)] w fun e w' => e = .returned (.tuple #[]) ∧ w' = w.setCell ⟨tb, 1, none⟩ (.slice none 0 0) := by
  obtain ⟨nb, uv, hh⟩ := h
  obtain ⟨c0, c1⟩ := two_cells hh
  have f1 : w.frozen? ⟨tb, 1, none⟩ = false := by simp [World.frozen?, hh]
  clear hh
  go_enter Tryz.func48, Tryz.ntmps48
  go_wp2
  go_end0
  exact ⟨rfl, rfl⟩
theorem Alone.settled {w : World} {tb : Nat} (h : Alone w tb) : Alone (w.setCell ⟨tb, 1, none⟩ (.slice none 0 0)) tb := by
  obtain ⟨nb, uv, hh⟩ := h
  exact ⟨nb, .slice none 0 0, by simp [World.setCell, Array.getElem?_modify, hh]⟩

theorem size_alone {w : World} {tb : Nat} (h : Alone w tb) : Calls Tryz.prog 20 #[.pointer (some ⟨tb, 0, none⟩)] w fun e w' => e = .returned (.int .i64 1) ∧ w' = w := by
  obtain ⟨nb, uv, hh⟩ := h
  obtain ⟨c0, c1⟩ := two_cells hh
  clear hh
  go_enter Tryz.func20, Tryz.ntmps20
  go_wp2
  go_ret
  exact ⟨rfl, rfl⟩

set_option maxHeartbeats 4000000 in
set_option maxRecDepth 100000 in
theorem grow_empty (w : World) : Calls Tryz.prog 34 #[.string ⟨#[]⟩] w fun e w' => ∃ tb, e = .returned (.pointer (some ⟨tb, 0, none⟩)) ∧ Alone w' tb ∧ w.heap.size ≤ tb ∧ tb < w'.heap.size ∧ Below w.heap.size w w' := by
  go_enter Tryz.func34, Tryz.ntmps34
  go_wp2_with fail
  refine (new_any _).mono ?_
  rintro e w1 ⟨tb, rfl, hA, h1, h2, hB⟩
  have H1 : Hid (Alone w1 tb ∧ Below w.heap.size w w1) := ⟨hA, hB⟩
  have hs := hB.size
  clear hA hB
  go_wp2_with fail
  refine (next_empty (by simp) (by simp)).mono ?_
  rintro e w2 ⟨rfl, hB⟩
  have g0 := hB.block w1.heap.size (by simp; omega)
  rw [Below.heap_alloc _ _ _ (by simp), heap_alloc_new w1] at g0
  obtain ⟨d0, d1, d2⟩ := three_cells g0
  have H2 : Hid (Alone w2 tb ∧ Below w.heap.size w w2) := by
    have bl : Below w1.heap.size w1 w2 := (((Below.refl _ _).alloc (Nat.le_refl _) _).alloc (by simp) _).trans (hB.mono (by simp; omega))
    obtain ⟨nb, uv, hh⟩ := H1.out.1
    exact ⟨⟨nb, uv, (bl.block tb h2).trans hh⟩, H1.out.2.trans (bl.mono hs)⟩
  have hs2 := H2.out.2.size
  have l2 : w1.heap.size < w2.heap.size := World.block_lt_of_cell? w2 _ d0
  clear hB g0 H1
  go_wp2_with fail
  refine wp_loop_rounds 1 ?_
  rw [rounds_succ]
  go_wp2_with fail
  have HA : Hid (∀ o, Alone (w2.alloc o) tb) := fun o => by
    obtain ⟨nb, uv, hh⟩ := H2.out.1
    exact ⟨nb, uv, (Below.heap_alloc _ _ _ (lt_of_cell (two_cells hh).1)).trans hh⟩
  have ht2 : tb < w2.heap.size := by omega
  refine (settle_any (HA.out _)).mono ?_
  rintro e w3 ⟨rfl, hw3⟩
  have e0 : w3.cell? ⟨w1.heap.size, 0, none⟩ = some (.pointer (some ⟨tb, 0, none⟩)) := by
    subst hw3
    exact ((World.cell?_of_block (a := ⟨w1.heap.size, 0, none⟩) (Below.heap_setCell _ _ _ _ (by show w1.heap.size ≠ tb; omega))).trans (World.cell?_alloc_lt _ _ ⟨w1.heap.size, 0, none⟩ l2)).trans d0
  have H3 : Hid (Alone w3 tb ∧ Below w.heap.size w w3 ∧ tb < w3.heap.size) := by
    subst hw3
    exact ⟨(HA.out _).settled, (H2.out.2.alloc hs2 _).setCell h1 _, by simp [World.setCell]; omega⟩
  clear hw3
  go_wp2
  go_ret
  exact ⟨tb, rfl, H3.out.1, h1, H3.out.2.2, H3.out.2.1⟩

/-- what Read hands on -/
theorem read1_empty {w : World} {b : Nat} (h0 : w.cell? ⟨b, 0, none⟩ = some (.string ⟨#[]⟩)) : Calls Tryz.prog 33 #[.pointer (some ⟨b, 0, none⟩)] w fun e w' => ∃ tb, e = .returned (.pointer (some ⟨tb, 0, none⟩)) ∧ Alone w' tb ∧ w.heap.size ≤ tb ∧ tb < w'.heap.size ∧ Below w.heap.size w w' := by
  go_enter Tryz.func33, Tryz.ntmps33
  go_wp2_with fail
  refine (grow_empty _).mono ?_
  rintro e w1 ⟨tb, rfl, h⟩
  go_wp2
  go_ret
  exact ⟨tb, rfl, h⟩

/-- the deferred function of a frame that returns -/
theorem guard_idle (p : Addr) (w : World) :
    CallsD Tryz.prog 72 #[.pointer (some p)] .returning w fun e u' w' => e = .returned (.tuple #[]) ∧ u' = .returning ∧ w' = w := by
  refine callsD_of_wpS Tryz.func72 rfl fun c₀ cs hu => ?_
  apply wpS_seq
  apply wpS_region
  simp [wpOpsS, go_sem, recoverD, hu, Tryz.ntmps72, Exit.thenS]
  apply wpS_seq
  apply wpS_seq
  apply wpS_region
  simp [wpOpsS, go_sem, Exit.thenS]
  refine wpS_cond (t := true) (by simp [Act.eval, Array.replicate]) ?_
  simp only [if_true]
  refine wpS_of_wp (wp_ret ?_)
  cases c₀
  simp_all [bodyPostS, results, Tryz.results72, Exit.thenS]
end Go.Proofs.YtcaodjejhgnfdabGreatDoor
