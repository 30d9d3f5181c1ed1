/- What ink.Width answers of texts of at most 3000 bytes: the sum of what each rune is wide, rounded down by itself. -/
import Derived.Test.YtpembplhhgimeaaList
import Derived.WalkSmall
namespace Go.Proofs.Ytpembplhhgimeaa
open Go.RowKit

set_option maxHeartbeats 1000000 in
set_option maxRecDepth 100000 in
theorem inkWidth_any (n : Int) (s : ByteArray) (hs : s.size ≤ 3000) (w : World) :
    Calls Try.prog 6 #[.int .i64 n, .string s] w fun e w' => e = .returned (.int .i64 (wsum (held n) (runes s))) ∧ Below w.heap.size w w' := by
  have hh := held_bd n
  go_enter Try.func6, Try.ntmps6
  go_wp2_with (go_at_call 16; refine (bounded_any _ _).mono ?_; rintro e w' ⟨rfl, rfl⟩)
  go_loopw [5] (fun t wr => ∃ (pos fuel : Nat) (acc : List (Nat × Nat)), wr.heap[w'.heap.size]? = some (.stringIter s pos) ∧ Below w'.heap.size w' wr ∧ Hid (acc ++ runesFrom s fuel pos = runes s) ∧ s.size ≤ pos + fuel ∧ t = .int .i64 (wsum (held n) acc)) (fun _ wr => s.size - wr.iterPos w'.heap.size)
  case atStart =>
    exact ⟨0, s.size, [], World.iter_heap w' s 0, (Below.refl _ w').alloc (Nat.le_refl _) _, rfl, by omega, rfl⟩
  case round =>
    obtain ⟨pos, fuel, acc, hit, hbw, hacc, hfu, rfl⟩ := hrel
    have hsz : w'.heap.size < wr.heap.size := (Array.getElem?_eq_some_iff.1 hit).1
    have hle := runes_of s acc fuel pos hacc
    have hw := wsum_bd (held n) hh.1 hh.2 acc
    by_cases hp : pos < s.size
    · have hnx : ∀ ty, (Instr.next (.pointer (some ⟨w'.heap.size, 0, none⟩)) true ty).run Try.prog wr = _ := fun ty => Lib.run_next_any_at wr w'.heap.size s pos ty hit hp
      have hwd := decode_pos s pos hp
      have hd1 := decode_le s pos
      have hit2 := Lib.iterAt_heap wr w'.heap.size s pos (pos + (Utf8.decode s pos).2) hit
      have hbw2 := Lib.below_iterAt hbw (k := w'.heap.size) (Nat.le_refl _) s (pos + (Utf8.decode s pos).2)
      obtain ⟨f, rfl⟩ : ∃ f, fuel = f + 1 := ⟨fuel - 1, by omega⟩
      have hp2 := part_bd (held n) ((Utf8.decode s pos).1 : Int) hh.1 hh.2
      go_wp2_with (go_at_call 17; refine (adv_any _ _).mono ?_; rintro e W1 ⟨rfl, rfl⟩)
      go_roundw
      case rel =>
        go_light
        refine ⟨pos + (Utf8.decode s pos).2, f, acc ++ [(pos, (Utf8.decode s pos).1)], hit2, hbw2, ?_, by omega, ?_⟩
        · have := hacc.out
          rw [runesFrom_step s f pos hp] at this
          show _ = _
          rw [List.append_assoc]; exact this
        · rw [wsum_append, wsum_cons, wsum_nil]
          rw [Int.add_zero]
      case measure =>
        go_light
        simp only [World.iterPos, hit2, hit]
        omega
    · have hnx : ∀ ty, (Instr.next (.pointer (some ⟨w'.heap.size, 0, none⟩)) true ty).run Try.prog wr = _ := fun ty => Lib.run_next_end_at wr w'.heap.size s pos ty hit hp
      have e : runes s = acc := by have := hacc.out; rw [runesFrom_end s fuel pos hp, List.append_nil] at this; exact this.symm
      have E : Hid (wsum (held n) acc = wsum (held n) (runes s)) := by rw [e]; rfl
      clear e
      go_wp2
      go_ret
      exact ⟨ret_int E.out, hbw⟩
end Go.Proofs.Ytpembplhhgimeaa
