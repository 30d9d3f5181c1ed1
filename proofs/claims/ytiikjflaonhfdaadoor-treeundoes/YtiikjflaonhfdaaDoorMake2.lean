/- New trees and new nodes. -/
import Derived.Test.YtiikjflaonhfdaaDoorMake
import Derived.Test.YtiikjflaonhfdaaDoorName
namespace Go.Proofs.YtiikjflaonhfdaaDoor
open Go.RowKit

/-- the variables of package api's errors -/
def errG (g : Nat) : Bool := g == 2 || g == 3 || g == 4 || g == 5
/-- package api's errors lie in memory -/
structure Errs (w : World) (M : Nat → Lab) : Prop where
  lab : ∀ g, errG g = true → M g = .other
  cell : ∀ g, errG g = true → ∃ t a, w.cell? ⟨g, 0, none⟩ = some (.iface t (.pointer (some a)))

theorem Errs.moved {w w' : World} {M M' : Nat → Lab} (h : Errs w M) (m : Moved w M w' M') : Errs w' M' where
  lab g hg := by
    obtain ⟨t, a, hc⟩ := h.cell g hg
    exact (m.lab g (World.block_lt_of_cell? w _ hc)).trans (h.lab g hg)
  cell g hg := by
    obtain ⟨t, a, hc⟩ := h.cell g hg
    have hlt : g < w.heap.size := World.block_lt_of_cell? w _ hc
    exact ⟨t, a, (World.cell?_of_block (a := ⟨g, 0, none⟩) (m.far g hlt (h.lab g hg))).trans hc⟩
theorem Errs.below {w w' : World} {M : Nat → Lab} (h : Errs w M) (m : Below w.heap.size w w') : Errs w' M := h.moved ((Moved.refl w M).below m)

def docP : Pn := ⟨⟨1, ⟨#[]⟩, ⟨#[]⟩, [], -1, []⟩, .slice none 0 0, .slice none 0 0⟩

theorem below_drewN {B : Nat} {a w : World} (h : Below B a w) (n : Nat) : Below B a (w.drewN n) := ⟨h.os, h.tape, h.output, h.size, h.block⟩

set_option maxHeartbeats 1000000 in
theorem new_any (w : World) : Calls Tryd.prog 6 #[] w fun e w' => ∃ tb nv uv M', e = .returned (.pointer (some ⟨tb, 0, none⟩)) ∧ Lies w' M' tb nv uv [docP] [] ∧ Moved w (fun _ => .other) w' M' := by
  go_enter Tryd.func6, Tryd.ntmps6
  go_wp2
  go_ret
  have e1 : ∀ b, b < w.heap.size → b ≠ w.heap.size ∧ b ≠ w.heap.size + 1 := fun b hb => ⟨by omega, by omega⟩
  refine ⟨w.heap.size + 1, .slice (some ⟨w.heap.size, 0, none⟩) 1 1, .slice none 0 0, fun b => if b = w.heap.size then .nodes else if b = w.heap.size + 1 then .tree else .other, rfl, ⟨?_, by simp, ?_, ?_, Row.nil _ _ _ _ _, ?_⟩, ⟨rfl, rfl, rfl, by simp; omega, ?_, ?_⟩⟩
  · intro b hb
    have hb' : w.heap.size + 1 + 1 ≤ b := by simpa using hb
    simp [show b ≠ w.heap.size by omega, show b ≠ w.heap.size + 1 by omega]
  · have := heap_alloc_new (w.alloc (.cells #[.int .i64 1, .string ⟨#[]⟩, .string ⟨#[]⟩, .slice none 0 0, .int .i64 (-1), .slice none 0 0] 44)) (.cells #[.slice (some ⟨w.heap.size, 0, none⟩) 1 1, .slice none 0 0] 48)
    simpa using this
  · refine ⟨rfl, some ⟨w.heap.size, 0, none⟩, 1, rfl, by decide, by unfold maxLen; omega, .inr ⟨w.heap.size, #[.int .i64 1, .string ⟨#[]⟩, .string ⟨#[]⟩, .slice none 0 0, .int .i64 (-1), .slice none 0 0], rfl, by simp, ?_, by simp, rfl⟩⟩
    rw [Below.heap_alloc _ _ _ (by simp)]
    exact heap_alloc_new w _
  · intro i p hp
    have : i = 0 := by
      rcases Nat.eq_zero_or_pos i with e | e
      · exact e
      · rw [List.getElem?_eq_none (by simp; omega)] at hp; cases hp
    subst this
    cases hp
    exact ⟨Row.nil _ _ _ _ _, Row.nil _ _ _ _ _⟩
  · intro b hb
    simp [e1 b hb]
  · intro b hb _
    rw [Below.heap_alloc _ _ _ (by simp; omega), Below.heap_alloc _ _ _ hb]

/-- an error of the program's -/
def isErr (v : Value) : Prop := ∃ t a, v = .iface t (.pointer (some a))

set_option maxHeartbeats 2000000 in
set_option maxRecDepth 100000 in
theorem create_bad {w : World} {M : Nat → Lab} {tb : Nat} {nv uv : Value} {ps : List Pn} {us : List Value} (h : Lies w M tb nv uv ps us) (hE : Errs w M) (hn : ps.length ≤ 400) (kind : Int) (tag words : ByteArray) (hbad : 20000 < words.size ∨ ps.length = 400) :
    Calls Tryd.prog 16 #[.pointer (some ⟨tb, 0, none⟩), .agg #[.int .i64 kind, .string tag, .string words, .slice none 0 0, .int .i64 0, .slice none 0 0]] w fun e w' =>
      ∃ v, e = .returned (.tuple #[.int .i64 0, v]) ∧ isErr v ∧ Below w.heap.size w w' := by
  obtain ⟨t, a, hc⟩ := hE.cell 3 (by decide)
  have hlt : 3 < w.heap.size := World.block_lt_of_cell? w _ hc
  have H : Hid (Lies w M tb nv uv ps us) := h
  clear h hE
  by_cases h2 : 20000 < words.size
  · go_enter Tryd.func16, Tryd.ntmps16
    go_wp2
    go_quiet (fail)
    go_wp2
    go_ret2
    exact ⟨_, rfl, ⟨t, a, rfl⟩, below_drewN ((Below.refl _ _).alloc (Nat.le_refl _) _) _⟩
  · have hr : decide (ps.length < 400) = false := by simp; omega
    go_enter Tryd.func16, Tryd.ntmps16
    go_wp2_with (go_at_call 37; refine (room_any (H.out.alloc _) hn).mono ?_; rintro e w' ⟨rfl, rfl⟩; rw [hr])
    go_quiet (fail)
    go_wp2
    go_ret2
    exact ⟨_, rfl, ⟨t, a, rfl⟩, below_drewN ((Below.refl _ _).alloc (Nat.le_refl _) _) _⟩

/-- a new root -/
def newP (kind : Int) (tag words : ByteArray) : Pn := ⟨⟨kind, tag, words, [], -1, []⟩, .slice none 0 0, .slice none 0 0⟩

/-- a node was made -/
def Made (w : World) (M : Nat → Lab) (tb : Nat) (ps : List Pn) (us : List Value) (p : Pn) (e : Ending) (w' : World) : Prop :=
  e = .returned (.tuple #[.int .i64 ps.length, .nilIface]) ∧ ∃ M' nv' uv' f, Lies w' M' tb nv' uv' (ps ++ [p]) (us ++ [f]) ∧ Frg w' M' f tb ps.length ∧ Moved w M w' M'

theorem six_cells {w : World} {b : Nat} {t : TypeId} {fr : Nat × Nat} {a0 a1 a2 a3 a4 a5 : Value} (h : w.heap[b]? = some (.cells #[a0, a1, a2, a3, a4, a5] t fr)) :
    w.cell? ⟨b, 0, none⟩ = some a0 ∧ w.cell? ⟨b, 1, none⟩ = some a1 ∧ w.cell? ⟨b, 2, none⟩ = some a2 ∧ w.cell? ⟨b, 3, none⟩ = some a3 ∧ w.cell? ⟨b, 4, none⟩ = some a4 ∧ w.cell? ⟨b, 5, none⟩ = some a5 := by
  refine ⟨?_, ?_, ?_, ?_, ?_, ?_⟩ <;> (rw [cell_of_row w b _ _ _ _ h]; rfl)

set_option maxHeartbeats 2000000 in
set_option maxRecDepth 100000 in
theorem create_good {w : World} {M : Nat → Lab} {tb : Nat} {nv uv : Value} {ps : List Pn} {us : List Value} (h : Lies w M tb nv uv ps us) (hn : ps.length < 400) (hu : us.length ≤ 1099511627776) (kind : Int) (tag words : ByteArray) (hw : words.size ≤ 20000) :
    Calls Tryd.prog 16 #[.pointer (some ⟨tb, 0, none⟩), .agg #[.int .i64 kind, .string tag, .string words, .slice none 0 0, .int .i64 0, .slice none 0 0]] w (Made w M tb ps us (newP kind tag words)) := by
  have H : Hid (Lies w M tb nv uv ps us) := h
  have hr : decide (ps.length < 400) = true := by simp; omega
  clear h
  go_enter Tryd.func16, Tryd.ntmps16
  go_wp2_with (first
    | (go_at_call 37; refine (room_any (H.out.alloc _) (by omega)).mono ?_; rintro e w' ⟨rfl, rfl⟩; rw [hr])
    | (go_at_call 39; refine (forget_any (H.out.alloc _)).mono ?_; rintro e w1 ⟨ca, rfl, hF, hB⟩; have H1 : Hid _ := And.intro ((H.out.alloc _).below hB) (And.intro hF hB); clear hF hB)
    | (go_at_call 38; refine (keep_any H1.out.1 _ _ ca hu).mono ?_; rintro e w2 ⟨rfl, M2, uv2, hL2, hm2⟩; obtain ⟨hb0, hb1, hb2, hb3, hb4, hb5⟩ := six_cells (((hm2.far _ (Nat.lt_of_lt_of_le (by simp) H1.out.2.2.size) (H.out.fresh _ (Nat.le_refl _))).trans (H1.out.2.2.block _ (by simp))).trans (heap_alloc_new w _)); have H2 : Hid _ := And.intro hL2 hm2; clear hL2 hm2)
    | (go_at_call 40; refine (add_any H2.out.1 (by omega) kind 0 tag words none 0 0 [] (Row.nil _ _ _ _ _)).mono ?_; rintro e w3 ⟨rfl, M3, nv3, hL3, hm3⟩))
  go_ret2
  refine ⟨rfl, M3, nv3, uv2, _, hL3, (H1.out.2.1.moved H2.out.2).moved hm3, ?_⟩
  exact ((((Moved.refl _ _).alloc _).below H1.out.2.2).trans H2.out.2).trans hm3
end Go.Proofs.YtiikjflaonhfdaaDoor
