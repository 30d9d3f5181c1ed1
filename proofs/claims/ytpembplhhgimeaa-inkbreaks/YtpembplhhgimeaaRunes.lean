/- What the document's runeAt answers at any place of a text: the rune that the language's own decoding finds there, and how many bytes it has. -/
import Derived.Test.YtpembplhhgimeaaLeaf
import Derived.WalkSmall
namespace Go.Proofs.Ytpembplhhgimeaa
open Go.RowKit

theorem ret_two {a b c d : Int} (h : (a, b) = (c, d)) : Ending.returned (.tuple #[.int .i64 a, .int .i64 b]) = .returned (.tuple #[.int .i64 c, .int .i64 d]) := by
  simp only [Prod.mk.injEq] at h; rw [h.1, h.2]

theorem pr {x y u v : Int} (h1 : x = u) (h2 : y = v) : (x, y) = (u, v) := by rw [h1, h2]

set_option maxHeartbeats 8000000 in
set_option maxRecDepth 100000 in
theorem runeAt_any (s : ByteArray) (i : Int) (h0 : 0 ≤ i) (h1 : i ≤ 281474976710656) (w : World) :
    Calls Try.prog 21 #[.string s, .int .i64 i] w fun e w' => e = .returned (.tuple #[.int .i64 (runeI s i).1, .int .i64 (runeI s i).2]) ∧ w' = w := by
  have ba := bAt_bd s i
  have bb := bAt_bd s (i + 1)
  have bc := bAt_bd s (i + 2)
  have bd := bAt_bd s (i + 3)
  go_enter Try.func21, Try.ntmps21
  go_wp2_with (first
    | (go_at_call 30; refine (byteAt_any _ _ _).mono ?_; rintro e w' ⟨rfl, rfl⟩)
    | (go_at_call 31; refine (between1_any _ _ _ _).mono ?_; rintro e w' ⟨rfl, rfl⟩))
  all_goals go_ret2
  all_goals go_light
  all_goals refine ⟨ret_two ?_, rfl⟩
  all_goals simp only [runeI]
  all_goals generalize bAt s i = a at *
  all_goals generalize bAt s (i + 1) = b at *
  all_goals generalize bAt s (i + 2) = c at *
  all_goals generalize bAt s (i + 3) = d at *
  all_goals (try simp only [beq_iff_eq, beq_eq_false_iff_ne, ne_eq, decide_eq_true_eq, decide_eq_false_iff_not, Bool.not_eq_true', Bool.not_eq_false'] at *)
  all_goals (unfold rune4; simp only []; repeat' split)
  all_goals first | omega | (refine pr ?_ ?_ <;> omega)
end Go.Proofs.Ytpembplhhgimeaa
