/- What the law plays. -/
import Derived.Test.YtiikjflaonhfdaaDoorPlay
namespace Go.Proofs.YtiikjflaonhfdaaDoor
open Go.RowKit

/-- what is handed over to make a change -/
structure OpD where
  kind : Int
  a : Int
  b : Int
  c : Int
  s : ByteArray
  t : ByteArray
def OpD.val (o : OpD) : Value := .agg #[.int .i64 o.kind, .int .i64 o.a, .int .i64 o.b, .int .i64 o.c, .string o.s, .string o.t]

def Played (w0 : World) (M0 : Nat → Lab) (tb K U : Nat) (base : List Nd) (o : OpD) (e : Ending) (w' : World) : Prop :=
  e = .returned (.tuple #[]) ∧ ∃ base' ns' U', U' ≤ U + 1 ∧ (o.kind ≠ 10 → base' = base) ∧ UAt w0 M0 tb (K + 1) base' ns' U' w'

theorem Stepped.played {w0 w' : World} {M0 : Nat → Lab} {tb K U : Nat} {base : List Nd} {o : OpD} {e : Ending} (h : Stepped w0 M0 tb K U base e w') : ∃ base' ns' U', U' ≤ U + 1 ∧ (o.kind ≠ 10 → base' = base) ∧ UAt w0 M0 tb (K + 1) base' ns' U' w' := by
  obtain ⟨_, ns', U', hU, hu⟩ := h
  exact ⟨base, ns', U', hU, fun _ => rfl, hu⟩

set_option maxHeartbeats 4000000 in
set_option maxRecDepth 100000 in
theorem play_any {w0 : World} {M0 : Nat → Lab} {tb K U : Nat} {base ns : List Nd} {w : World} (h : UAt w0 M0 tb K base ns U w) (hE : Errs w0 M0) (hK : K ≤ 1000) (o : OpD) (hs : o.s.size ≤ 9223372036854775807) (ht : o.t.size ≤ 9223372036854775807) :
    Calls Tryd.prog 11 #[.pointer (some ⟨tb, 0, none⟩), o.val] w (Played w0 M0 tb K U base o) := by
  have H : Hid (UAt w0 M0 tb K base ns U w) := h
  have HE : Hid (Errs w0 M0) := hE
  obtain ⟨kind, a, b, c, s, t⟩ := o
  clear h hE
  unfold OpD.val
  have HB : Hid (∀ o, UAt w0 M0 tb K base ns U (w.alloc o)) := fun o => H.out.below ((Below.refl _ _).alloc (Nat.le_refl _) _)
  by_cases k1 : kind = 1
  · subst k1
    go_enter Tryd.func11, Tryd.ntmps11
    go_wp2_with (go_at_call 7; refine ((HB.out _).element HE.out hK s).mono ?_; rintro e w' hS; obtain ⟨⟨v, rfl⟩, _⟩ := id hS; have HS : Hid _ := hS; clear hS)
    all_goals go_end0
    all_goals exact ⟨rfl, Stepped.played HS.out⟩
  by_cases k2 : kind = 2
  · subst k2
    go_enter Tryd.func11, Tryd.ntmps11
    go_wp2_with (go_at_call 23; refine ((HB.out _).text HE.out hK s).mono ?_; rintro e w' hS; obtain ⟨⟨v, rfl⟩, _⟩ := id hS; have HS : Hid _ := hS; clear hS)
    all_goals go_end0
    all_goals exact ⟨rfl, Stepped.played HS.out⟩
  by_cases k3 : kind = 3
  · subst k3
    go_enter Tryd.func11, Tryd.ntmps11
    go_wp2_with (go_at_call 24; refine ((HB.out _).comment HE.out hK s).mono ?_; rintro e w' hS; obtain ⟨⟨v, rfl⟩, _⟩ := id hS; have HS : Hid _ := hS; clear hS)
    all_goals go_end0
    all_goals exact ⟨rfl, Stepped.played HS.out⟩
  by_cases k4 : kind = 4
  · subst k4
    go_enter Tryd.func11, Tryd.ntmps11
    go_wp2_with (go_at_call 25; refine ((HB.out _).put HE.out hK a b c).mono ?_; rintro e w' hS; obtain ⟨⟨v, rfl⟩, _⟩ := id hS; have HS : Hid _ := hS; clear hS)
    all_goals go_end0
    all_goals exact ⟨rfl, Stepped.played HS.out⟩
  by_cases k5 : kind = 5
  · subst k5
    go_enter Tryd.func11, Tryd.ntmps11
    go_wp2_with (go_at_call 26; refine ((HB.out _).take HE.out hK a).mono ?_; rintro e w' hS; obtain ⟨⟨v, rfl⟩, _⟩ := id hS; have HS : Hid _ := hS; clear hS)
    all_goals go_end0
    all_goals exact ⟨rfl, Stepped.played HS.out⟩
  by_cases k6 : kind = 6
  · subst k6
    go_enter Tryd.func11, Tryd.ntmps11
    go_wp2_with (go_at_call 27; refine ((HB.out _).set HE.out hK a s t ht).mono ?_; rintro e w' hS; obtain ⟨⟨v, rfl⟩, _⟩ := id hS; have HS : Hid _ := hS; clear hS)
    all_goals go_end0
    all_goals exact ⟨rfl, Stepped.played HS.out⟩
  by_cases k7 : kind = 7
  · subst k7
    go_enter Tryd.func11, Tryd.ntmps11
    go_wp2_with (go_at_call 28; refine ((HB.out _).unset HE.out hK a s).mono ?_; rintro e w' hS; obtain ⟨⟨v, rfl⟩, _⟩ := id hS; have HS : Hid _ := hS; clear hS)
    all_goals go_end0
    all_goals exact ⟨rfl, Stepped.played HS.out⟩
  by_cases k8 : kind = 8
  · subst k8
    go_enter Tryd.func11, Tryd.ntmps11
    go_wp2_with (go_at_call 29; refine ((HB.out _).say HE.out hK a s hs).mono ?_; rintro e w' hS; obtain ⟨⟨v, rfl⟩, _⟩ := id hS; have HS : Hid _ := hS; clear hS)
    all_goals go_end0
    all_goals exact ⟨rfl, Stepped.played HS.out⟩
  by_cases k9 : kind = 9
  · subst k9
    go_enter Tryd.func11, Tryd.ntmps11
    go_wp2_with (go_at_call 30; refine ((HB.out _).copy HE.out hK a).mono ?_; rintro e w' hS; obtain ⟨⟨v, rfl⟩, _⟩ := id hS; have HS : Hid _ := hS; clear hS)
    all_goals go_end0
    all_goals exact ⟨rfl, Stepped.played HS.out⟩
  by_cases k10 : kind = 10
  · subst k10
    go_enter Tryd.func11, Tryd.ntmps11
    go_wp2_with (go_at_call 9; refine ((HB.out _).settle).mono ?_; rintro e w' ⟨rfl, hS⟩; have HS : Hid _ := hS; clear hS)
    all_goals go_end0
    all_goals exact ⟨rfl, ns, ns, 0, Nat.zero_le _, fun h => absurd rfl h, UAt.mono HS.out (Nat.le_succ _)⟩
  cases U with
  | zero =>
    go_enter Tryd.func11, Tryd.ntmps11
    go_wp2_with (go_at_call 12; refine ((HB.out _).undo0.2).mono ?_; rintro e w' ⟨rfl, rfl⟩)
    all_goals go_end0
    all_goals exact ⟨rfl, base, ns, 0, Nat.zero_le _, fun _ => rfl, (HB.out _).mono (Nat.le_succ _)⟩
  | succ U =>
    go_enter Tryd.func11, Tryd.ntmps11
    go_wp2_with (go_at_call 12; refine ((HB.out _).undo1 hK).mono ?_; rintro e w' ⟨rfl, ns', hS⟩; have HS : Hid _ := hS; clear hS)
    all_goals go_end0
    all_goals exact ⟨rfl, base, ns', U, by omega, fun _ => rfl, UAt.mono HS.out (Nat.le_succ _)⟩
end Go.Proofs.YtiikjflaonhfdaaDoor
