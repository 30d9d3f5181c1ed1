/- The next height that may do; whether a gap takes what is so wide. -/
import Derived.Test.YthpffpgbmgnkcaaFLMem
import Derived.Deep.Light
namespace Go.Proofs.Ythpffpgbmgnkcaa
open Go.RowKit

/-- numbers that are still to be told, kept by a function -/
structure HtAt (w : World) (base top cb : Nat) (zs : List Int) : Prop where
  ex : ∃ g off cap, w.heap[cb]? = some (.cells #[.slice (some ⟨g, off, none⟩) zs.length cap] 68 (0, 0)) ∧ base ≤ cb ∧ g ≠ cb ∧ g < top ∧ g < w.heap.size ∧ zs.length ≤ cap ∧ cap ≤ 9223372036854775807 ∧ ∀ i z, zs[i]? = some z → w.cell? ⟨g, off + i, none⟩ = some (.int .i64 z)

theorem HtAt.below {w w' : World} {base top cb : Nat} {zs : List Int} (h : HtAt w base top cb zs) (hb : Below w.heap.size w w') : HtAt w' base top cb zs := by
  obtain ⟨g, off, cap, h1, h2, h3, ht, h4, h5, h6, h8⟩ := h.ex
  exact ⟨g, off, cap, (hb.block cb (lt_of_heap h1)).trans h1, h2, h3, ht, Nat.lt_of_lt_of_le h4 hb.size, h5, h6, fun i z hz => (hb.cell (p := ⟨g, off + i, none⟩) h4).trans (h8 i z hz)⟩

/-- one number told -/
theorem told {w : World} {base top cb g off n c off' c' : Nat} {zs : List Int} (h1 : w.heap[cb]? = some (.cells #[.slice (some ⟨g, off, none⟩) n c] 68 (0, 0))) (h2 : base ≤ cb) (h3 : g ≠ cb) (ht : g < top) (h4 : g < w.heap.size) (h5 : zs.length ≤ c') (h6 : c' ≤ 9223372036854775807)
    (h8 : ∀ i y, zs[i]? = some y → w.cell? ⟨g, off' + i, none⟩ = some (.int .i64 y)) :
    HtAt (w.setCell ⟨cb, 0, none⟩ (.slice (some ⟨g, off', none⟩) zs.length c')) base top cb zs ∧ Below base w (w.setCell ⟨cb, 0, none⟩ (.slice (some ⟨g, off', none⟩) zs.length c')) ∧ (w.setCell ⟨cb, 0, none⟩ (.slice (some ⟨g, off', none⟩) zs.length c')).heap.size = w.heap.size ∧
      ∀ b, ¬ b = cb → (w.setCell ⟨cb, 0, none⟩ (.slice (some ⟨g, off', none⟩) zs.length c')).heap[b]? = w.heap[b]? := by
  have hs : (w.setCell ⟨cb, 0, none⟩ (.slice (some ⟨g, off', none⟩) zs.length c')).heap.size = w.heap.size := by simp [World.setCell]
  have far : ∀ b, ¬ b = cb → (w.setCell ⟨cb, 0, none⟩ (.slice (some ⟨g, off', none⟩) zs.length c')).heap[b]? = w.heap[b]? := fun b hb => Below.heap_setCell w _ _ b hb
  refine ⟨⟨g, off', c', by rw [heap_set w cb 0 _ _ _ _ h1]; rfl, h2, h3, ht, by rw [hs]; exact h4, h5, h6, fun i y hy => ?_⟩, (Below.refl base w).setCell h2 _, hs, far⟩
  rw [World.cell?_of_block (w := w) (a := ⟨g, off' + i, none⟩) (far g h3)]
  exact h8 i y hy

set_option maxHeartbeats 400000 in
set_option maxRecDepth 100000 in
theorem next_any {w : World} {base top cb : Nat} {z : Int} {zs : List Int} (h : HtAt w base top cb (z :: zs)) :
    Calls Try.prog 28 #[.pointer (some ⟨cb, 0, none⟩)] w fun e w' => e = .returned (.int .i64 z) ∧ HtAt w' base top cb zs ∧ Below base w w' ∧ w'.heap.size = w.heap.size ∧ ∀ b, b ≠ cb → w'.heap[b]? = w.heap[b]? := by
  obtain ⟨g, off, cap, h1, h2, h3, ht, h4, h5, h6, h8⟩ := h.ex
  obtain ⟨c0, f0⟩ := one_c h1
  have z0 := h8 0 z rfl
  rw [Nat.add_zero] at z0
  rw [List.length_cons] at h5 c0 h1
  have H1 : Hid (w.heap[cb]? = some (.cells #[.slice (some ⟨g, off, none⟩) (zs.length + 1) cap] 68 (0, 0))) := h1
  have H8 : Hid (∀ i y, zs[i]? = some y → w.cell? ⟨g, off + 1 + i, none⟩ = some (.int .i64 y)) := fun i y hy => by
    have := h8 (i + 1) y (by simpa using hy)
    rwa [show off + (i + 1) = off + 1 + i by omega] at this
  clear h h8 h1
  go_enter Try.func28, Try.ntmps28
  go_wp2
  all_goals go_returns
  · have hz : zs = [] := List.eq_nil_of_length_eq_zero (by omega)
    exact ⟨rfl, told H1.out h2 h3 ht h4 (by rw [hz]; exact Nat.le_refl _) (by omega) (fun i y hy => by rw [hz] at hy; simp at hy)⟩
  · exact ⟨rfl, told H1.out h2 h3 ht h4 (by omega) (by omega) H8.out⟩

set_option maxHeartbeats 400000 in
theorem takes_any (l r wd : Int) (wh : Bool) (h1 : -20000000000 ≤ l) (h2 : l ≤ 20000000000) (h3 : -20000000000 ≤ r) (h4 : r ≤ 20000000000) (w : World) :
    Calls Try.prog 26 #[.agg #[.int .i64 l, .int .i64 r, .bool wh], .int .i64 wd] w fun e w' => e = .returned (.bool (wh || decide (wd ≤ r - l))) ∧ w' = w.alloc (.cells #[.int .i64 l, .int .i64 r, .bool wh] 55) := by
  cases wh
  all_goals
    go_enter Try.func26, Try.ntmps26
    go_wp2
    all_goals
      go_returns
      exact ⟨rfl, rfl⟩
end Go.Proofs.Ythpffpgbmgnkcaa
