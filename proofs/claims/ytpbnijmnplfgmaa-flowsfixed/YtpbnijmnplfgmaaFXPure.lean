/- What lies at a place, as plain numbers. -/
import Derived.Test.YtpbnijmnplfgmaaFWRef0
namespace Go.Proofs.Ytpbnijmnplfgmaa
open Go.RowKit

/-- what is within, ahead of its bounds -/
def i0N (I Fi rest : Int) (aI both : Bool) : Int := if !aI then I else if both then max rest 0 else Fi
def beginN (Fr To At free : Int) (aF aT : Bool) : Int := if !aF then Fr else if !aT then free - To else At

/-- where it begins, left margin, inner width, right margin -/
def fixedN (R Fr To L I T A Fi Mn Mx At : Int) (aF aT aL aI aR : Bool) : Int × Int × Int × Int :=
  let i0 := i0N I Fi (R - A - z aL L - z aR T - Fr - To) aI (!aF && !aT)
  let i1 := bnd1 i0 Mx
  let i2 := max i1 (max Mn 0)
  let bn := decide (0 ≤ Mx ∧ Mx < i0) || decide (i1 < max Mn 0)
  let p := if (!aF && !aT) && !(aI && !bn) then takeN (z aL L) (z aR T) (R - A - z aL L - z aR T - Fr - To - i2) aL aR else (z aL L, z aR T)
  (beginN Fr To At (R - A - z aL L - z aR T - i2) aF aT, p.1, i2, p.2)

theorem ret_int4 {a b c d a' b' c' d' : Int} (h1 : a = a') (h2 : b = b') (h3 : c = c') (h4 : d = d') : Ending.returned (.tuple #[.int .i64 a, .int .i64 b, .int .i64 c, .int .i64 d]) = .returned (.tuple #[.int .i64 a', .int .i64 b', .int .i64 c', .int .i64 d']) := by rw [h1, h2, h3, h4]

theorem i0N_f (I Fi r : Int) (b : Bool) : i0N I Fi r false b = I := rfl
theorem i0N_tf (I Fi r : Int) : i0N I Fi r true false = Fi := rfl
theorem i0N_tt (I Fi r : Int) : i0N I Fi r true true = max r 0 := rfl
theorem beginN_f (Fr To At f : Int) (b : Bool) : beginN Fr To At f false b = Fr := rfl
theorem beginN_tf (Fr To At f : Int) : beginN Fr To At f true false = f - To := rfl
theorem beginN_tt (Fr To At f : Int) : beginN Fr To At f true true = At := rfl
theorem takeN_ff (l r t : Int) : takeN l r t false false = (l, r) := rfl
theorem takeN_ft (l r t : Int) : takeN l r t false true = (l, t) := rfl
theorem takeN_tf (l r t : Int) : takeN l r t true false = (t, r) := rfl
theorem takeN_tt (l r t : Int) : takeN l r t true true = (max t 0 / 2, t - max t 0 / 2) := rfl
theorem hidI {p : Prop} (h : p) : Hid p := h
theorem z_t (n : Int) : z true n = 0 := rfl
theorem z_f (n : Int) : z false n = n := rfl

theorem fixedN_is (R Fr To L I T A Fi Mn Mx At : Int) (aF aT aL aI aR : Bool) :
    fixedN R Fr To L I T A Fi Mn Mx At aF aT aL aI aR =
      (beginN Fr To At (R - A - z aL L - z aR T - max (bnd1 (i0N I Fi (R - A - z aL L - z aR T - Fr - To) aI (!aF && !aT)) Mx) (max Mn 0)) aF aT,
       (if (!aF && !aT) && !(aI && !(decide (0 ≤ Mx ∧ Mx < i0N I Fi (R - A - z aL L - z aR T - Fr - To) aI (!aF && !aT)) || decide (bnd1 (i0N I Fi (R - A - z aL L - z aR T - Fr - To) aI (!aF && !aT)) Mx < max Mn 0))) then
          takeN (z aL L) (z aR T) (R - A - z aL L - z aR T - Fr - To - max (bnd1 (i0N I Fi (R - A - z aL L - z aR T - Fr - To) aI (!aF && !aT)) Mx) (max Mn 0)) aL aR else (z aL L, z aR T)).1,
       max (bnd1 (i0N I Fi (R - A - z aL L - z aR T - Fr - To) aI (!aF && !aT)) Mx) (max Mn 0),
       (if (!aF && !aT) && !(aI && !(decide (0 ≤ Mx ∧ Mx < i0N I Fi (R - A - z aL L - z aR T - Fr - To) aI (!aF && !aT)) || decide (bnd1 (i0N I Fi (R - A - z aL L - z aR T - Fr - To) aI (!aF && !aT)) Mx < max Mn 0))) then
          takeN (z aL L) (z aR T) (R - A - z aL L - z aR T - Fr - To - max (bnd1 (i0N I Fi (R - A - z aL L - z aR T - Fr - To) aI (!aF && !aT)) Mx) (max Mn 0)) aL aR else (z aL L, z aR T)).2) := rfl

theorem take_bd (x1 x2 rest : Int) (tk aL aR : Bool) (k1 : -16777216 ≤ x1) (k2 : x1 ≤ 16777216) (k3 : -16777216 ≤ x2) (k4 : x2 ≤ 16777216) (h1 : -400000000 ≤ rest) (h2 : rest ≤ 400000000) :
    -400000000 ≤ (if tk then takeN x1 x2 rest aL aR else (x1, x2)).1 ∧ (if tk then takeN x1 x2 rest aL aR else (x1, x2)).1 ≤ 400000000 ∧ -400000000 ≤ (if tk then takeN x1 x2 rest aL aR else (x1, x2)).2 ∧ (if tk then takeN x1 x2 rest aL aR else (x1, x2)).2 ≤ 400000000 := by
  cases tk <;> cases aL <;> cases aR <;> simp [takeN] <;> omega

theorem bnd_cases (n l m : Int) :
    ((0 ≤ m ∧ m < n) ∧ m < max l 0 ∧ bndV n l m = max l 0 ∧ bndB n l m = true) ∨ ((0 ≤ m ∧ m < n) ∧ max l 0 ≤ m ∧ bndV n l m = m ∧ bndB n l m = true) ∨
    (¬ (0 ≤ m ∧ m < n) ∧ n < max l 0 ∧ bndV n l m = max l 0 ∧ bndB n l m = true) ∨ (¬ (0 ≤ m ∧ m < n) ∧ max l 0 ≤ n ∧ bndV n l m = n ∧ bndB n l m = false) := by
  unfold bndV bndB bnd1
  by_cases h : 0 ≤ m ∧ m < n
  · rw [if_pos h]
    by_cases k : m < max l 0
    · exact .inl ⟨h, k, by omega, by simp [h]⟩
    · exact .inr (.inl ⟨h, by omega, by omega, by simp [h]⟩)
  · rw [if_neg h]
    by_cases k : n < max l 0
    · refine .inr (.inr (.inl ⟨h, k, by omega, ?_⟩)); rw [decide_eq_false h, decide_eq_true k]; rfl
    · refine .inr (.inr (.inr ⟨h, by omega, by omega, ?_⟩)); rw [decide_eq_false h, decide_eq_false k]; rfl
end Go.Proofs.Ytpbnijmnplfgmaa
