/- MarkupNothing, walked. -/
import Derived.Test.YtcaodjejhgnfdabGreatDoorMN
namespace Go.Proofs.YtcaodjejhgnfdabGreatDoor
open Go.RowKit

def ReadPost (w : World) (e : Ending) (w' : World) : Prop := ∃ tb, e = .returned (.tuple #[.pointer (some ⟨tb, 0, none⟩), .nilIface]) ∧ Alone w' tb ∧ tb < w'.heap.size ∧ Below w.heap.size w w'

set_option maxHeartbeats 4000000 in
theorem guard_empty {w : World} {b : Nat} (h0 : w.cell? ⟨b, 0, none⟩ = some (.string ⟨#[]⟩)) : Calls Tryz.prog 32 #[.func (.func 33) #[] #[.pointer (some ⟨b, 0, none⟩)]] w (ReadPost w) := by
  have hmf : ∀ (fn : Fn) (first cap : Array Value) (w : World), (Instr.makeFunc fn first cap).run Tryz.prog w = .ok (.func fn first cap) w := fun _ _ _ _ => rfl
  have hlt : b < w.heap.size := World.block_lt_of_cell? w _ h0
  go_enter_defers Tryz.func32, Tryz.ntmps32
  go_wp2_with fail
  refine (read1_empty ((World.cell?_alloc_lt _ _ ⟨b, 0, none⟩ hlt).trans h0)).mono ?_
  rintro e w1 ⟨tb, rfl, hA, h1, h2, hB⟩
  have hb0 := hB.block w.heap.size (by simp)
  rw [heap_alloc_new w] at hb0
  have d0 : w1.cell? ⟨w.heap.size, 0, none⟩ = some .nilIface := by rw [cell_of_row w1 w.heap.size 0 _ _ _ hb0]; rfl
  have f0 : w1.frozen? ⟨w.heap.size, 0, none⟩ = false := by simp [World.frozen?, hb0]
  have hne : w.heap.size ≠ tb := by simp at h1; omega
  have H1 : Hid (Alone w1 tb ∧ Below w.heap.size w w1) := ⟨hA, ((Below.refl _ _).alloc (Nat.le_refl _) _).trans (hB.mono (by simp))⟩
  clear hA hB hb0
  go_wp2_with fail
  refine leaves_cons (f := 72) (args := #[.pointer (some ⟨w.heap.size, 0, none⟩)]) (by simp) (by simp [go_sem]) ?_
  refine (guard_idle ⟨w.heap.size, 0, none⟩ _).mono ?_
  rintro e u' w'' ⟨rfl, rfl, rfl⟩
  have hA2 : Alone (w1.setCell ⟨w.heap.size, 0, none⟩ .nilIface) tb := by
    obtain ⟨nb, uv, hh⟩ := H1.out.1
    exact ⟨nb, uv, (Below.heap_setCell _ _ _ _ (by show tb ≠ w.heap.size; omega)).trans hh⟩
  have hl1 : w.heap.size < w1.heap.size := World.block_lt_of_cell? w1 _ d0
  refine ⟨.tuple #[.pointer (some ⟨tb, 0, none⟩), .nilIface], ?_, tb, rfl, hA2, by simpa [World.setCell] using h2, H1.out.2.setCell (Nat.le_refl _) _⟩
  simp [results, Tryz.results32, go_sem, d0]

set_option maxHeartbeats 4000000 in
theorem read_empty (w : World) : Calls Tryz.prog 9 #[.string ⟨#[]⟩] w (ReadPost w) := by
  go_enter Tryz.func9, Tryz.ntmps9
  go_wp2_with fail
  refine (guard_empty (by simp)).mono ?_
  rintro e w1 ⟨tb, rfl, hA, h2, hB⟩
  go_wp2_with fail
  go_ret2
  exact ⟨tb, rfl, hA, h2, ((Below.refl _ _).alloc (Nat.le_refl _) _).trans (hB.mono (by simp))⟩

theorem kind_nil (w : World) : Calls Tryz.prog 35 #[.pointer none, .int .i64 0] w fun e w' => e = .returned (.int .i64 0) ∧ w' = w := by
  go_enter Tryz.func35, Tryz.ntmps35
  go_wp2
  go_ret
  exact ⟨rfl, rfl⟩

set_option maxHeartbeats 4000000 in
theorem write_nil {w : World} {A : Nat → Addr} (h : Errs7 w A) : Calls Tryz.prog 10 #[.pointer none, .int .i64 0] w fun e w' => e = .returned (.tuple #[.string ⟨#[]⟩, .iface 233 (.pointer (some (A 3)))]) ∧ Below w.heap.size w w' := by
  have c3 := h.cell 3 (by decide)
  simp only [gl] at c3
  have hlt : 2 < w.heap.size := World.block_lt_of_cell? w _ c3
  clear h
  go_enter Tryz.func10, Tryz.ntmps10
  go_wp2_with (go_at_call 35; refine (kind_nil _).mono ?_; rintro e w' ⟨rfl, rfl⟩)
  go_quiet (fail)
  go_wp2_with fail
  go_ret2
  exact ⟨rfl, below_drewN (((Below.refl _ _).alloc (Nat.le_refl _) _).alloc (by simp) _) _⟩

set_option maxHeartbeats 4000000 in
theorem nothing_any {w : World} {A : Nat → Addr} (h : Errs7 w A) : Calls Tryz.prog 21 #[] w fun e w' => e = .returned (.bool true) ∧ Below w.heap.size w w' := by
  have H : Hid (Errs7 w A) := h
  clear h
  go_enter Tryz.func21, Tryz.ntmps21
  go_wp2_with fail
  refine (write_nil H.out).mono ?_
  rintro e w1 ⟨rfl, hB⟩
  have H1 : Hid (Errs7 w1 A) := H.out.below hB
  go_wp2_with fail
  refine (coded_any H1.out 3 (by decide)).mono ?_
  rintro e w2 ⟨rfl, hB2⟩
  clear H1
  go_wp2_with fail
  go_ret
  exact ⟨rfl, hB.trans (hB2.mono hB.size)⟩

set_option maxHeartbeats 4000000 in
theorem markupNothing_any {w : World} {A : Nat → Addr} (h : Errs7 w A) (s : ByteArray) : Calls Tryz.prog 6 #[.string s] w fun e w' => e = .returned (.bool true) ∧ Below w.heap.size w w' := by
  have H : Hid (Errs7 w A) := h
  clear h
  go_enter Tryz.func6, Tryz.ntmps6
  go_wp2_with fail
  refine (read_empty _).mono ?_
  rintro e w1 ⟨tb, rfl, hA, h2, hB⟩
  have HA : Hid (Alone w1 tb) := hA
  have HB : Hid (Below w.heap.size w w1) := hB
  clear hA hB
  go_wp2_with (first
    | (go_at_call 20; refine (size_alone HA.out).mono ?_; rintro e w' ⟨rfl, rfl⟩)
    | (go_at_call 21; refine (nothing_any (H.out.below HB.out)).mono ?_; rintro e w2 ⟨rfl, hB2⟩))
  go_ret
  exact ⟨rfl, HB.out.trans (hB2.mono HB.out.size)⟩
end Go.Proofs.YtcaodjejhgnfdabGreatDoor
