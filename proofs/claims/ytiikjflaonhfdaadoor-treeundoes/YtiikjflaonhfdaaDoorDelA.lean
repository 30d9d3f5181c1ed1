/- slices.Delete of one attribute. -/
import Derived.Test.YtiikjflaonhfdaaDoorDel
namespace Go.Proofs.YtiikjflaonhfdaaDoor
open Go.RowKit

theorem zeroAttr (w : World) : (zeroValue 78).run Tryd.prog w = .ok (.agg #[.string ⟨#[]⟩, .string ⟨#[]⟩]) w := by
  obtain ⟨i0, hi, hz0, hz1, hz2⟩ := info_parts Tryd.infoAttr
  simp [zeroValue, typeInfo, hi, hz0]
theorem attrs_one (xs : List (ByteArray × ByteArray)) : ∀ u ∈ attrCells xs, u.oneCell' = true := by
  intro u hu
  obtain ⟨x, _, hx⟩ := List.mem_flatMap.1 hu
  simp at hx
  rcases hx with rfl | rfl <;> rfl
theorem attrCells_take (l : List (ByteArray × ByteArray)) : ∀ k, attrCells (l.take k) = (attrCells l).take (k * 2) := by
  induction l with
  | nil => intro k; simp [attrCells]
  | cons y l ih =>
    intro k
    cases k with
    | zero => simp [attrCells]
    | succ k =>
      have e : ∀ l', attrCells (y :: l') = .string y.1 :: .string y.2 :: attrCells l' := fun _ => rfl
      rw [List.take_succ_cons, e, e, ih k, show (k + 1) * 2 = k * 2 + 1 + 1 by omega, List.take_succ_cons, List.take_succ_cons]
theorem attrCells_drop (l : List (ByteArray × ByteArray)) : ∀ k, attrCells (l.drop k) = (attrCells l).drop (k * 2) := by
  induction l with
  | nil => intro k; simp [attrCells]
  | cons y l ih =>
    intro k
    cases k with
    | zero => simp
    | succ k =>
      have e : ∀ l', attrCells (y :: l') = .string y.1 :: .string y.2 :: attrCells l' := fun _ => rfl
      rw [List.drop_succ_cons, e, ih k, show (k + 1) * 2 = k * 2 + 1 + 1 by omega, List.drop_succ_cons, List.drop_succ_cons]
theorem erase_attrs (xs : List (ByteArray × ByteArray)) (k : Nat) : attrCells (xs.eraseIdx k) = (attrCells xs).take (k * 2) ++ (attrCells xs).drop ((k + 1) * 2) := by
  rw [List.eraseIdx_eq_take_drop_succ, attrCells_append, attrCells_take, attrCells_drop]

set_option maxHeartbeats 4000000 in
set_option maxRecDepth 100000 in
theorem deleteA_any {w : World} {M : Nat → Lab} {l : Lab} {g m cap : Nat} {xs : List (ByteArray × ByteArray)} (h : Row w M l 78 2 (.slice (some ⟨g, 0, none⟩) (m + 1) cap) (m + 1) (attrCells xs)) (k : Nat) (hk : k < m + 1) (hf : ∀ b, w.heap.size ≤ b → M b = .other) :
    Calls Tryd.prog 50 #[.slice (some ⟨g, 0, none⟩) (m + 1) cap, .int .i64 k, .int .i64 ((k : Int) + 1)] w fun e w' => e = .returned (.slice (some ⟨g, 0, none⟩) m cap) ∧ Row w' M l 78 2 (.slice (some ⟨g, 0, none⟩) m cap) m (attrCells (xs.eraseIdx k)) ∧ Step w M w' M l := by
  obtain ⟨i0, hi, hz0, hz1, hz2⟩ := info_parts Tryd.infoAttr
  obtain ⟨a, cap2, hv, hc, hm⟩ := h.shape
  cases hv
  have hd : Row w.drew M l 78 2 (.slice (some ⟨g, 0, none⟩) (m + 1) cap) (m + 1) (attrCells xs) := h
  have hlen : (attrCells xs).length = (m + 1) * 2 := h.1
  obtain ⟨w1, hr1, hrow1, st1⟩ := del_row (P := Tryd.prog) w.drew M l 41 78 i0 2 Tryd.underlying41 hi hz1 g (m + 1) cap k _ hd hk (by
    intro u hu
    exact attrs_one xs u hu) hf
  rw [← erase_attrs] at hrow1
  have hel : (attrCells (xs.eraseIdx k)).length = m * 2 := by
    rw [attrCells_length] at hlen
    rw [attrCells_length, List.length_eraseIdx, if_pos (by omega)]
    omega
  obtain ⟨w2, hr2, hrow2, st2⟩ := clear_tail (P := Tryd.prog) w1 M l 41 78 _ 2 Tryd.underlying41 zeroAttr rfl (by simp [Value.cells, Value.oneCell']) (by decide) g m 1 cap (cap - m) (attrCells (xs.eraseIdx k)) _ hrow1 hel (by decide) st1.fresh
  have HA : Hid (∀ ty, (Builtin.append_ #[41, 41] ty #[.slice (some ⟨g, 0, none⟩) k cap, .slice (cutAt g 2 cap (k + 1)) (m - k) (cap - (k + 1))]).run Tryd.prog w.drew = .ok (.slice (some ⟨g, 0, none⟩) m cap) w1) := by
    intro ty
    have := hr1 ty
    rw [show m + 1 - (k + 1) = m - k by omega, show m + 1 - 1 = m by omega] at this
    exact this
  have hcl : ∀ ty, (Builtin.clear_ #[41] ty #[.slice (some ⟨g, m * 2, none⟩) 1 (cap - m)]).run Tryd.prog w1 = .ok (.tuple #[]) w2 := by
    intro ty
    exact hr2 ty
  have HR : Hid (Row w2 M l 78 2 (.slice (some ⟨g, 0, none⟩) m cap) m (attrCells (xs.eraseIdx k)) ∧ Step w M w2 M l) := ⟨hrow2, ⟨st2.os.trans st1.os, st2.tape.trans st1.tape, st2.output.trans st1.output, Nat.le_trans st1.size st2.size, fun b hb => (st2.lab b (Nat.lt_of_lt_of_le hb st1.size)).trans (st1.lab b hb), st2.fresh, fun b hb hne => (st2.far b (Nat.lt_of_lt_of_le hb st1.size) (by rw [st1.lab b hb]; exact hne)).trans (st1.far b hb hne)⟩⟩
  unfold maxLen at hm
  have HC : Hid (cutAt g 2 cap (k + 1) = if cap = k + 1 then some ⟨g, 0, none⟩ else some ⟨g, (k + 1) * 2, none⟩) := by
    show cutAt _ _ _ _ = _
    simp [cutAt]
  have n1 : ((k : Int) == (k : Int) + 1) = false := by simp; omega
  have n2 : ¬ ((k : Int) = (k : Int) + 1) := by omega
  have n3 : ¬ cap = m := by omega
  have i1 : (k : Int) ≤ (cap : Int) := by omega
  have i2 : (k : Int) + 1 ≤ (m : Int) + 1 := by omega
  have i3 : (m : Int) + 1 ≤ (cap : Int) := by omega
  have i4 : (0 : Int) ≤ (k : Int) := by omega
  have i5 : (0 : Int) ≤ (k : Int) + 1 := by omega
  clear h hf hd hr1 hrow1 st1 hr2 hrow2 st2 hel hlen
  go_enter Tryd.func50, Tryd.ntmps50
  go_wp2_with fail
  go_region_law ((refine step_append_run _ (by rfl) (.tmp 22) (.tmp 25) 41 (by rfl) (.slice (some ⟨g, 0, none⟩) k cap) (.slice (cutAt g 2 cap (k + 1)) (m - k) (cap - (k + 1))) (by simp [Act.eval, Act.put]) (by rw [HC.out]; simp [Act.eval, Act.put]) _ w1 HA.out ?_))
  all_goals go_wp2
  all_goals go_ret
  all_goals go_light
  all_goals first
    | exact ⟨rfl, HR.out.1, HR.out.2⟩
    | (obtain rfl : cap = k + 1 := by assumption
       exact ⟨rfl, HR.out.1, HR.out.2⟩)
end Go.Proofs.YtiikjflaonhfdaaDoor
