/- What plain.Code answers of each of package api's errors: its number, and no place. Condition: package api's errors and the type handle of package errors lie as the program's text lays them. -/
import Derived.Test.YtcaodjejhgnfdabGreatDoorIs
import Derived.WalkSmall
import Derived.Deep.Light
namespace Go.Proofs.YtcaodjejhgnfdabGreatDoor
open Go.RowKit

/-- which of the program's variables is the i-th error -/
def gl : Nat → Nat
  | 0 => 4 | 1 => 0 | 2 => 5 | 3 => 2 | 4 => 1 | 5 => 3 | _ => 6

/-- package api's errors lie in memory, each apart -/
structure Errs7 (w : World) (A : Nat → Addr) : Prop where
  cell : ∀ i, i < 7 → w.cell? ⟨gl i, 0, none⟩ = some (.iface 233 (.pointer (some (A i))))
  row : ∀ i, i < 7 → ∃ c t, w.heap[(A i).block]? = some (.cells c t (0, 0))
  ne : ∀ i j, i < 7 → j < 7 → i ≠ j → A i ≠ A j
  typ : w.cell? ⟨7, 0, none⟩ = some (.iface 183 (.agg #[.pointer (some ⟨9, 33, none⟩)]))

theorem lt_of_cell {w : World} {a : Addr} {v : Value} (h : w.cell? a = some v) : a.block < w.heap.size := World.block_lt_of_cell? w a h

theorem Errs7.below {w w' : World} {A : Nat → Addr} (h : Errs7 w A) (hb : Below w.heap.size w w') : Errs7 w' A where
  cell i hi := (hb.cell (lt_of_cell (h.cell i hi))).trans (h.cell i hi)
  row i hi := by
    obtain ⟨c, t, hr⟩ := h.row i hi
    exact ⟨c, t, (hb.block _ (Array.getElem?_eq_some_iff.1 hr).1).trans hr⟩
  ne := h.ne
  typ := (hb.cell (lt_of_cell h.typ)).trans h.typ

/-- errors.Is of the k-th and the j-th -/
theorem is_any {w : World} {A : Nat → Addr} (h : Errs7 w A) (k j : Nat) (hk : k < 7) (hj : j < 7) :
    Calls Tryz.prog 59 #[.iface 233 (.pointer (some (A k))), .iface 233 (.pointer (some (A j)))] w fun e w' => e = .returned (.bool (k == j)) ∧ w' = w := by
  by_cases e : k = j
  · subst e
    rw [show (k == k) = true by simp]
    exact is_same _ w
  · rw [show (k == j) = false by simp [e]]
    obtain ⟨ca, ta, ha⟩ := h.row k hk
    obtain ⟨cb, tb, hb⟩ := h.row j hj
    exact is_other _ _ ca cb ta tb w (h.ne k j hk hj e) ha hb

set_option maxHeartbeats 4000000 in
set_option maxRecDepth 100000 in
theorem code_any {w : World} {A : Nat → Addr} (h : Errs7 w A) (k : Nat) (hk : k < 7) :
    Calls Tryz.prog 18 #[.iface 233 (.pointer (some (A k)))] w fun e w' => e = .returned (.tuple #[.int .i64 ((k + 1 : Nat) : Int), .int .i64 (-1)]) ∧ Below w.heap.size w w' := by
  have c0 := h.cell 0 (by decide)
  have c1 := h.cell 1 (by decide)
  have c2 := h.cell 2 (by decide)
  have c3 := h.cell 3 (by decide)
  have c4 := h.cell 4 (by decide)
  have c5 := h.cell 5 (by decide)
  have c6 := h.cell 6 (by decide)
  simp only [gl] at c0 c1 c2 c3 c4 c5 c6
  have H : Hid (Errs7 w A) := h
  clear h
  go_enter Tryz.func18, Tryz.ntmps18
  go_wp2
  have hW1 : Below w.heap.size w (w.alloc (.cells #[.iface 233 (.pointer (some (A 0))), .iface 233 (.pointer (some (A 1))), .iface 233 (.pointer (some (A 2))), .iface 233 (.pointer (some (A 3))), .iface 233 (.pointer (some (A 4))), .iface 233 (.pointer (some (A 5))), .iface 233 (.pointer (some (A 6)))] 33)) := (Below.refl _ _).alloc (Nat.le_refl _) _
  have hc : ∀ j, j < 7 → (w.alloc (.cells #[.iface 233 (.pointer (some (A 0))), .iface 233 (.pointer (some (A 1))), .iface 233 (.pointer (some (A 2))), .iface 233 (.pointer (some (A 3))), .iface 233 (.pointer (some (A 4))), .iface 233 (.pointer (some (A 5))), .iface 233 (.pointer (some (A 6)))] 33)).cell? ⟨w.heap.size, j, none⟩ = some (.iface 233 (.pointer (some (A j)))) := by
    intro j hj
    rw [cell_of_row _ w.heap.size j _ 33 (0, 0) (heap_alloc_new w _)]
    match j, hj with
    | 0, _ => rfl
    | 1, _ => rfl
    | 2, _ => rfl
    | 3, _ => rfl
    | 4, _ => rfl
    | 5, _ => rfl
    | 6, _ => rfl
  generalize (w.alloc (.cells #[.iface 233 (.pointer (some (A 0))), .iface 233 (.pointer (some (A 1))), .iface 233 (.pointer (some (A 2))), .iface 233 (.pointer (some (A 3))), .iface 233 (.pointer (some (A 4))), .iface 233 (.pointer (some (A 5))), .iface 233 (.pointer (some (A 6)))] 33)) = W1 at *
  have h1 : Hid (Errs7 W1 A) := H.out.below hW1
  have HC : Hid (∀ j, j < 7 → W1.cell? ⟨w.heap.size, j, none⟩ = some (.iface 233 (.pointer (some (A j))))) := hc
  clear H c0 c1 c2 c3 c4 c5 c6 hc
  go_loop [4, 19] (fun n i => ∃ j : Nat, j ≤ 7 ∧ i = .int .i64 j ∧ n = .int .i64 ((if k < j then k + 1 else 0 : Nat) : Int)) (fun _ i => 7 - (intOf i).toNat)
  case atStart => exact ⟨0, by omega, rfl, rfl⟩
  case round =>
    obtain ⟨j, hj, rfl, rfl⟩ := hrel
    by_cases hlt : j < 7
    · have hcj := HC.out j hlt
      have hi := is_any h1.out k j hk hlt
      by_cases hjk : k = j
      · subst hjk
        rw [show (k == k) = true by simp] at hi
        rw [if_neg (Nat.lt_irrefl k)]
        have HI : Hid (Calls Tryz.prog 59 #[.iface 233 (.pointer (some (A k))), .iface 233 (.pointer (some (A k)))] W1 fun e w' => e = .returned (.bool true) ∧ w' = W1) := hi
        clear hi
        go_wp2_with (go_at_call 59; refine HI.out.mono ?_; rintro e w' ⟨rfl, hw'⟩; subst hw')
        go_round
        case rel => go_light; exact ⟨k + 1, by omega, by go_num, by rw [if_pos (Nat.lt_succ_self k)]; go_num⟩
        case measure => go_light; simp [intOf]; omega
      · rw [show (k == j) = false by simp [hjk]] at hi
        have HI : Hid (Calls Tryz.prog 59 #[.iface 233 (.pointer (some (A k))), .iface 233 (.pointer (some (A j)))] W1 fun e w' => e = .returned (.bool false) ∧ w' = W1) := hi
        have HN : Hid ((if k < j then k + 1 else 0 : Nat) = (if k < j + 1 then k + 1 else 0 : Nat)) := by
          show _ = _
          by_cases h1 : k < j
          · rw [if_pos h1, if_pos (by omega)]
          · rw [if_neg h1, if_neg (by omega)]
        clear hi
        generalize (if k < j then k + 1 else 0 : Nat) = q at *
        go_wp2_with (go_at_call 59; refine HI.out.mono ?_; rintro e w' ⟨rfl, hw'⟩; subst hw')
        go_round
        case rel => go_light; exact ⟨j + 1, by omega, by go_num, by rw [HN.out]⟩
        case measure => go_light; simp [intOf]; omega
    · obtain rfl : j = 7 := by omega
      rw [if_pos hk]
      have hty : ∀ o, (W1.alloc o).cell? ⟨7, 0, none⟩ = some (.iface 183 (.agg #[.pointer (some ⟨9, 33, none⟩)])) := fun o => (World.cell?_alloc_lt _ _ ⟨7, 0, none⟩ (lt_of_cell h1.out.typ)).trans h1.out.typ
      have HT := hty
      clear hty
      go_wp2_with fail
      refine (as_miss _ _ _ (HT _)).mono ?_
      rintro e W2 ⟨rfl, hb2⟩
      clear HT
      have hb : Below w.heap.size w W2 := hW1.trans (((Below.refl _ _).alloc hW1.size _).trans (hb2.mono (by have := hW1.size; simp; omega)))
      clear hb2
      go_wp2_with fail
      go_ret2
      exact ⟨rfl, hb⟩

set_option maxHeartbeats 1000000 in
theorem coded_any {w : World} {A : Nat → Addr} (h : Errs7 w A) (k : Nat) (hk : k < 7) :
    Calls Tryz.prog 17 #[.iface 233 (.pointer (some (A k))), .int .i64 ((k + 1 : Nat) : Int)] w fun e w' => e = .returned (.bool true) ∧ Below w.heap.size w w' := by
  have H : Hid (Errs7 w A) := h
  clear h
  go_enter Tryz.func17, Tryz.ntmps17
  go_wp2_with fail
  refine (code_any H.out k hk).mono ?_
  rintro e W1 ⟨rfl, hb⟩
  go_wp2_with fail
  go_ret
  exact ⟨rfl, hb⟩

end Go.Proofs.YtcaodjejhgnfdabGreatDoor
