/- Sharing, round by round, as plain mathematics. -/
import Derived.Test.YtdjagdifemhkpaaSRound
namespace Go.Proofs.Ytdjagdifemhkpaa
open Go.RowKit

def shareL (grow : Bool) (room start : Int) : Nat → List Pr → List Pr
  | 0, ps => ps
  | f + 1, ps => if openL ps = [] then ps else shareL grow room start f (roundN grow room start ps)

theorem shareL_done {grow : Bool} {room start : Int} {f : Nat} {ps : List Pr} (h : openL ps = []) : shareL grow room start f ps = ps := by
  cases f with
  | zero => rfl
  | succ f => unfold shareL; rw [if_pos h]
theorem shareL_step {grow : Bool} {room start : Int} {f : Nat} {ps : List Pr} (h : openL ps ≠ []) (hf : (openL ps).length ≤ f) : ∃ g, (openL (roundN grow room start ps)).length ≤ g ∧ shareL grow room start f ps = shareL grow room start g (roundN grow room start ps) := by
  cases f with
  | zero => exact absurd (List.eq_nil_of_length_eq_zero (by omega)) h
  | succ f =>
    refine ⟨f, ?_, by conv => lhs; unfold shareL; rw [if_neg h]⟩
    have := round_less grow room start h
    omega
theorem open_none {ps : List Pr} (h : ∀ p ∈ ps, p.settled = true) : openL ps = [] := by
  unfold openL
  apply List.filter_eq_nil_iff.2
  intro k hk
  obtain ⟨p, hp⟩ : ∃ p, ps[k]? = some p := ⟨_, List.getElem?_eq_getElem (List.mem_range.1 hk)⟩
  rw [hp]
  simp [h p (List.mem_of_getElem? hp)]
theorem shareL_len (grow : Bool) (room start : Int) : ∀ (f : Nat) (ps : List Pr), (shareL grow room start f ps).length = ps.length
  | 0, _ => rfl
  | f + 1, ps => by
    unfold shareL
    split
    · rfl
    · rw [shareL_len grow room start f, roundN_len]
end Go.Proofs.Ytdjagdifemhkpaa
