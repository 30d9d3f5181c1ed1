/- What the document's Width answers of texts of at most 3000 bytes: the same sum as ink.Width's. -/
import Derived.Test.YtpembplhhgimeaaList
import Derived.WalkSmall
import Derived.Deep.QuietTactic
import Derived.BigQuiet
namespace Go.Proofs.Ytpembplhhgimeaa
open Go.RowKit

/-- an owned row of the call's, opened -/
theorem row_open {w : World} {B n : Nat} {v : Value} {xs : List Value} (h : w.ownsRow B 3 1 v n xs) :
    (v = .slice none 0 0 ∧ n = 0) ∨ ∃ g cap, v = .slice (some ⟨g, 0, none⟩) n cap ∧ B ≤ g ∧ g < w.heap.size ∧ n ≤ cap ∧ ∀ j u, xs[j]? = some u → w.cell? ⟨g, j, none⟩ = some u := by
  rcases h.2 with h2 | ⟨g, cap, cur, rfl, hb, hg, hn, _, _, _⟩
  · exact .inl h2
  · refine .inr ⟨g, cap, rfl, hb, (Array.getElem?_eq_some_iff.1 hg).1, hn, fun j u hu => ?_⟩
    have := h.cells (g := g) rfl j u hu
    rwa [show (⟨g, 0, none⟩ : Addr).add j = ⟨g, j, none⟩ by unfold Addr.add; split <;> simp_all] at this

theorem wsum_take (z : Int) (l : List (Nat × Nat)) (k : Nat) (h : k < l.length) : wsum z (l.take (k + 1)) = wsum z (l.take k) + z * adv (l[k].2 : Int) / 1000 := by
  rw [List.take_succ_eq_append_getElem h, wsum_append, wsum_cons, wsum_nil, Int.add_zero]

theorem sub_mod_div (a : Int) : (a - a % 1000) / 1000 = a / 1000 := by omega

theorem rune_le (s : ByteArray) : ∀ f pos, ∀ x ∈ runesFrom s f pos, x.2 ≤ 2147483647
  | 0, _ => by simp [runesFrom]
  | f + 1, pos => by
    intro x hx
    by_cases h : pos < s.size
    · rw [runesFrom_step s f pos h] at hx
      rcases List.mem_cons.1 hx with rfl | hx
      · exact decode_le s pos
      · exact rune_le s f _ x hx
    · rw [runesFrom_end s _ pos h] at hx; cases hx

set_option maxHeartbeats 2000000 in
set_option maxRecDepth 100000 in
theorem refWidth_any (n : Int) (s : ByteArray) (hs : s.size ≤ 3000) (w : World) :
    Calls Try.prog 7 #[.int .i64 n, .string s] w fun e w' => e = .returned (.int .i64 (wsum (held n) (runes s))) ∧ Below w.heap.size w w' := by
  have hh := held_bd n
  have hl := runes_length s
  go_enter Try.func7, Try.ntmps7
  go_wp2_with (go_at_call 15; refine (runes_any s (by omega) _).mono ?_; rintro e w1 ⟨v, u, rfl, hv, hu, hb⟩)
  clear hu
  rcases row_open hv with ⟨rfl, h0⟩ | ⟨g, cap, rfl, hBg, hg, hcap, hc⟩
  · clear hv
    have e0 : runes s = [] := List.eq_nil_of_length_eq_zero h0
    have E : Hid (0 = wsum (held n) (runes s)) := by show _ = _; rw [e0]; rfl
    clear e0 h0
    go_loop [7, 8] (fun t i => t = .int .i64 0 ∧ i = .int .i64 0) (fun _ _ => 0)
    case atStart => exact ⟨rfl, rfl⟩
    case round =>
      obtain ⟨rfl, rfl⟩ := hrel
      go_wp2
      go_ret
      exact ⟨ret_int E.out, hb⟩
  · clear hv
    have hc' : ∀ k (h : k < (runes s).length), w1.cell? ⟨g, k, none⟩ = some (.int .i64 ((runes s)[k].2 : Int)) := fun k h => hc k _ (by simp [runeV, List.getElem?_eq_getElem h])
    have hr : ∀ k (h : k < (runes s).length), (runes s)[k].2 ≤ 2147483647 := fun k h => rune_le s _ _ _ (List.getElem_mem h)
    clear hc
    go_loopw [7, 8] (fun t i wr => ∃ (k : Nat), k ≤ (runes s).length ∧ i = .int .i64 k ∧ t = .int .i64 (wsum (held n) ((runes s).take k)) ∧ Hid (∃ nq, wr = w1.drewN nq)) (fun _ i _ => (runes s).length - (intOf i).toNat)
    case atStart => exact ⟨0, Nat.zero_le _, rfl, rfl, ⟨0, rfl⟩⟩
    case round =>
      obtain ⟨k, hk, rfl, rfl, hW⟩ := hrel
      have hw := wsum_bd (held n) hh.1 hh.2 ((runes s).take k)
      have hlk : ((runes s).take k).length ≤ k := List.length_take_le _ _
      by_cases hlt : k < (runes s).length
      · have HS : Hid (wsum (held n) ((runes s).take (k + 1)) = wsum (held n) ((runes s).take k) + held n * adv ((runes s)[k].2 : Int) / 1000) := wsum_take _ _ k hlt
        have hck : wr.cell? ⟨g, k, none⟩ = some (.int .i64 ((runes s)[k].2 : Int)) := by obtain ⟨q, rfl⟩ := hW.out; exact hc' k hlt
        have hrk := hr k hlt
        obtain ⟨r, hrr⟩ : ∃ r, (runes s)[k].2 = r := ⟨_, rfl⟩
        rw [hrr] at HS hck hrk
        clear hrr hr hc'
        have hp2 := part_bd (held n) (r : Int) hh.1 hh.2
        go_wp2
        go_quiet ((first | (go_at_call 18; exact Calls.quiet_of_same (held_any _ _)) | (go_at_call 17; exact Calls.quiet_of_same (adv_any _ _))))
        go_wp2
        go_roundw
        case rel =>
          go_light
          refine ⟨k + 1, by omega, by go_num, ?_, by obtain ⟨q, rfl⟩ := hW.out; exact ⟨q + nq, by rw [World.drewN_drewN]⟩⟩
          rw [HS.out]
          rw [sub_mod_div]
        case measure => go_light; simp [intOf]; omega
      · have E : Hid (wsum (held n) ((runes s).take k) = wsum (held n) (runes s)) := by show _ = _; rw [List.take_of_length_le (by omega)]
        go_wp2
        go_ret
        exact ⟨ret_int E.out, by obtain ⟨q, rfl⟩ := hW.out; exact below_drewN hb _⟩

def ascI (n : Int) : Int := held n * 4 / 5
theorem asc_of (a : Int) : (a - a % 5) / 5 = a / 5 := by omega

set_option maxHeartbeats 400000 in
theorem inkAscent_any (n : Int) (w : World) : Calls Try.prog 8 #[.int .i64 n] w fun e w' => e = .returned (.int .i64 (ascI n)) ∧ w' = w := by
  have hh := held_bd n
  go_enter Try.func8, Try.ntmps8
  go_wp2_with (go_at_call 16; refine (bounded_any _ _).mono ?_; rintro e w' ⟨rfl, rfl⟩)
  go_ret
  exact ⟨ret_int rfl, rfl⟩

set_option maxHeartbeats 400000 in
theorem refAscent_any (n : Int) (w : World) : Calls Try.prog 9 #[.int .i64 n] w fun e w' => e = .returned (.int .i64 (ascI n)) ∧ w' = w := by
  have hh := held_bd n
  go_enter Try.func9, Try.ntmps9
  go_wp2_with (go_at_call 18; refine (held_any _ _).mono ?_; rintro e w' ⟨rfl, rfl⟩)
  go_ret
  exact ⟨ret_int (asc_of _), rfl⟩

theorem asc_bd (n : Int) : 0 ≤ ascI n ∧ ascI n ≤ 16777216 := by have := held_bd n; unfold ascI; omega

set_option maxHeartbeats 400000 in
theorem inkDescent_any (n : Int) (w : World) : Calls Try.prog 10 #[.int .i64 n] w fun e w' => e = .returned (.int .i64 (held n - ascI n)) ∧ w' = w := by
  have hh := held_bd n
  have ha := asc_bd n
  go_enter Try.func10, Try.ntmps10
  go_wp2_with (first | (go_at_call 16; refine (bounded_any _ _).mono ?_; rintro e w' ⟨rfl, rfl⟩) | (go_at_call 8; refine (inkAscent_any _ _).mono ?_; rintro e w' ⟨rfl, rfl⟩))
  go_ret
  exact ⟨ret_int rfl, rfl⟩

set_option maxHeartbeats 400000 in
theorem refDescent_any (n : Int) (w : World) : Calls Try.prog 11 #[.int .i64 n] w fun e w' => e = .returned (.int .i64 (held n - ascI n)) ∧ w' = w := by
  have hh := held_bd n
  have ha := asc_bd n
  go_enter Try.func11, Try.ntmps11
  go_wp2_with (first | (go_at_call 18; refine (held_any _ _).mono ?_; rintro e w' ⟨rfl, rfl⟩) | (go_at_call 9; refine (refAscent_any _ _).mono ?_; rintro e w' ⟨rfl, rfl⟩))
  go_ret
  exact ⟨ret_int rfl, rfl⟩
end Go.Proofs.Ytpembplhhgimeaa
