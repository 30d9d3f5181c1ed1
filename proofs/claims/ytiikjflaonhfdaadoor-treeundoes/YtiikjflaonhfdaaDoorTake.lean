/- A kid becomes a root, and what is kept to undo that. -/
import Derived.Test.YtiikjflaonhfdaaDoorPull
namespace Go.Proofs.YtiikjflaonhfdaaDoor
open Go.RowKit

/-- a function that moves a node back -/
def MvF (w : World) (M : Nat → Lab) (f : Value) (tb id : Nat) (frm was : Int) : Prop :=
  ∃ b1 b2 b3 b4, f = .func (.func 66) #[] #[.pointer (some ⟨b1, 0, none⟩), .pointer (some ⟨b2, 0, none⟩), .pointer (some ⟨b3, 0, none⟩), .pointer (some ⟨b4, 0, none⟩)] ∧ (M b1 = .other ∧ M b2 = .other ∧ M b3 = .other ∧ M b4 = .other) ∧
    w.cell? ⟨b1, 0, none⟩ = some (.pointer (some ⟨tb, 0, none⟩)) ∧ w.cell? ⟨b2, 0, none⟩ = some (.int .i64 id) ∧ w.cell? ⟨b3, 0, none⟩ = some (.int .i64 frm) ∧ w.cell? ⟨b4, 0, none⟩ = some (.int .i64 was)

theorem MvF.moved {w w' : World} {M M' : Nat → Lab} {f : Value} {tb id : Nat} {frm was : Int} (h : MvF w M f tb id frm was) (m : Moved w M w' M') : MvF w' M' f tb id frm was := by
  obtain ⟨b1, b2, b3, b4, rfl, ⟨h1, h2, h3, h4⟩, k1, k2, k3, k4⟩ := h
  have lb : ∀ {b : Nat} {v : Value}, w.cell? ⟨b, 0, none⟩ = some v → M b = .other → M' b = .other := fun {b v} hc ho => (m.lab b (World.block_lt_of_cell? w _ hc)).trans ho
  exact ⟨b1, b2, b3, b4, rfl, ⟨lb k1 h1, lb k2 h2, lb k3 h3, lb k4 h4⟩, moved_cell m h1 k1, moved_cell m h2 k2, moved_cell m h3 k3, moved_cell m h4 k4⟩

set_option maxHeartbeats 1000000 in
theorem push_none (tb : Nat) (i k : Int) (w : World) : Calls Tryd.prog 65 #[.pointer (some ⟨tb, 0, none⟩), .int .i64 (-1), .int .i64 i, .int .i64 k] w fun e w' => e = .returned (.tuple #[]) ∧ w' = w := by
  go_enter Tryd.func65, Tryd.ntmps65
  go_wp2
  first
    | (go_end0; exact ⟨rfl, rfl⟩)
    | exact bodyPost_ret (v := .tuple #[]) (by simp [results, go_sem]) rfl ⟨rfl, rfl⟩

set_option maxHeartbeats 4000000 in
set_option maxRecDepth 100000 in
theorem move_take {w : World} {M : Nat → Lab} {tb : Nat} {nv uv : Value} {ps : List Pn} {us : List Value} (h : Lies w M tb nv uv ps us) {i q : Nat} {p m : Pn} (hp : ps[i]? = some p) (hq : p.n.parent = q) (hm : ps[q]? = some m) (hk : (i : Int) ∈ m.n.kids) (hiq : q ≠ i) :
    Calls Tryd.prog 46 #[.pointer (some ⟨tb, 0, none⟩), .int .i64 (-1), .int .i64 i, .int .i64 0] w fun e w' => ∃ ca, e = .returned (.func (.func 66) #[] ca) ∧ ∃ kv', Lies w' M tb nv uv (pullP ps q i m p kv') us ∧ Moved w M w' M ∧ MvF w' M (.func (.func 66) #[] ca) tb i q (idx m.n.kids i : Nat) := by
  have HP : Hid (ps[i]? = some p ∧ p.n.parent = q ∧ ps[q]? = some m ∧ (i : Int) ∈ m.n.kids) := ⟨hp, hq, hm, hk⟩
  have H : Hid (Lies w M tb nv uv ps us) := h
  clear h hp hq hm hk
  go_enter Tryd.func46, Tryd.ntmps46
  go_wp2_with (first
    | (go_at_call 64; refine (pull_kid ((H.out.alloc _).alloc _) HP.out.1 HP.out.2.1 HP.out.2.2.1 HP.out.2.2.2 hiq).mono ?_; rintro e w1 ⟨rfl, kv1, hL1, hm1⟩
       have b0 : w1.cell? ⟨w.heap.size, 0, none⟩ = some (.pointer (some ⟨tb, 0, none⟩)) := moved_cell hm1 (H.out.fresh _ (Nat.le_refl _)) (by simp)
       have b1 : w1.cell? ⟨w.heap.size + 1, 0, none⟩ = some (.int .i64 i) := moved_cell hm1 (H.out.fresh _ (by omega)) (by simp)
       have l0 : w.heap.size + 1 < w1.heap.size := World.block_lt_of_cell? w1 _ b1
       have l1 : w.heap.size < w1.heap.size := by omega
       have H1 : Hid _ := And.intro hL1 hm1
       clear hL1 hm1)
    | (go_at_call 65; refine (push_none tb _ _ _).mono ?_; rintro e w2 ⟨rfl, rfl⟩))
  go_ret
  have h0 := H.out.fresh w.heap.size (Nat.le_refl _)
  have h1 := H.out.fresh (w.heap.size + 1) (by omega)
  refine ⟨_, rfl, kv1, (H1.out.1.alloc _).alloc _, ((((Moved.refl w M).alloc _).alloc _).trans H1.out.2 |>.alloc _).alloc _, ⟨_, _, _, _, rfl, ⟨h0, h1, H1.out.1.fresh _ (Nat.le_refl _), H1.out.1.fresh _ (by omega)⟩, ?_, ?_, ?_, ?_⟩⟩
  · exact moved_cell (((Moved.refl w1 M).alloc _).alloc _) h0 b0
  · exact moved_cell (((Moved.refl w1 M).alloc _).alloc _) h1 b1
  · simp
  · simp
end Go.Proofs.YtiikjflaonhfdaaDoor
