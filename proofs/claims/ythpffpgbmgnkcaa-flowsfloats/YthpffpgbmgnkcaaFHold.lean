/- hold: each of the numbers whose addresses it is given is held to what a length may be. -/
import Derived.Test.YthpffpgbmgnkcaaProg
import Derived.Handy
import Derived.WalkSmall
import Derived.WalkKit
import Derived.Below
import Derived.RegionTactic
namespace Go.Proofs.Ythpffpgbmgnkcaa
open Go.RowKit

/-- a length within its bounds -/
def heldN (x : Int) : Int := if 16777216 < (if x < -16777216 then -16777216 else x) then 16777216 else if x < -16777216 then -16777216 else x

theorem heldN_bd (x : Int) : -16777216 ≤ heldN x ∧ heldN x ≤ 16777216 := by unfold heldN; split <;> split <;> omega

theorem heldN_of (x : Int) (h1 : -16777216 ≤ x) (h2 : x ≤ 16777216) : heldN x = x := by unfold heldN; split <;> split <;> omega

def intV : Value → Int | .int _ q => q | _ => 0

def holdAll : List (Addr × Int) → World → World
  | [], w => w
  | (a, x) :: r, w => holdAll r (w.setCell a (.int .i64 (heldN x)))

theorem holdAll_snoc (l : List (Addr × Int)) (a : Addr) (x : Int) (w : World) : holdAll (l ++ [(a, x)]) w = (holdAll l w).setCell a (.int .i64 (heldN x)) := by
  induction l generalizing w with
  | nil => rfl
  | cons p r ih => obtain ⟨b, y⟩ := p; exact ih _

theorem setCell_cell (w : World) (a b : Addr) (v : Value) (h : a ≠ b) : (w.setCell a v).cell? b = w.cell? b := by
  go_simp
theorem setCell_frozen (w : World) (a b : Addr) (v : Value) : (w.setCell a v).frozen? b = w.frozen? b := by
  go_simp

theorem holdAll_cell (l : List (Addr × Int)) (w : World) (b : Addr) (h : ∀ p ∈ l, p.1 ≠ b) : (holdAll l w).cell? b = w.cell? b := by
  induction l generalizing w with
  | nil => rfl
  | cons p r ih =>
    obtain ⟨a, x⟩ := p
    show (holdAll r _).cell? b = _
    rw [ih _ (fun q hq => h q (List.mem_cons_of_mem _ hq))]
    exact setCell_cell w a b _ (h (a, x) (List.mem_cons_self ..))

theorem holdAll_frozen (l : List (Addr × Int)) (w : World) (b : Addr) : (holdAll l w).frozen? b = w.frozen? b := by
  induction l generalizing w with
  | nil => rfl
  | cons p r ih => obtain ⟨a, x⟩ := p; exact (ih _).trans (setCell_frozen w a b _)

set_option maxHeartbeats 400000 in
set_option maxRecDepth 100000 in
theorem hold_any (ps : List (Addr × Int)) (g cap : Nat) (w : World) (hl : ps.length ≤ 100)
    (hs : ∀ (i : Nat) (h : i < ps.length), w.cell? ⟨g, i, none⟩ = some (.pointer (some (ps[i]).1)))
    (hb : ∀ p ∈ ps, p.1.block ≠ g) (hc : ∀ p ∈ ps, w.cell? p.1 = some (.int .i64 p.2) ∧ w.frozen? p.1 = false)
    (hn : (ps.map (·.1)).Nodup) :
    Calls Try.prog 16 #[.slice (some ⟨g, 0, none⟩) ps.length cap] w fun e w' => e = .returned (.tuple #[]) ∧ w' = holdAll ps w := by
  go_enter Try.func16, Try.ntmps16
  go_wp2
  go_loopw [6] (fun i wr => ∃ k : Nat, k ≤ ps.length ∧ i = .int .i64 k ∧ Hid (wr = holdAll (ps.take k) w)) (fun i _ => ps.length - (intV i).toNat)
  case atStart => exact ⟨0, Nat.zero_le _, rfl, rfl⟩
  case round =>
    obtain ⟨k, hk, rfl, hw⟩ := hrel
    by_cases hlt : k < ps.length
    · have hmem : ps[k] ∈ ps := List.getElem_mem hlt
      have hsub : ∀ p ∈ ps.take k, p ∈ ps := fun p h => List.mem_of_mem_take h
      have hne : ∀ p ∈ ps.take k, p.1 ≠ (ps[k]).1 := by
        intro p h e
        obtain ⟨j, hj, rfl⟩ := List.getElem_of_mem h
        rw [List.length_take] at hj
        rw [List.getElem_take] at e
        have := List.pairwise_iff_getElem.1 hn j k (by simp; omega) (by simpa using hlt) (by omega)
        simp at this
        exact this e
      have c1 : wr.cell? ⟨g, k, none⟩ = some (.pointer (some (ps[k]).1)) := by
        rw [hw.out, holdAll_cell _ _ _ (fun p h e => hb p (hsub p h) (by rw [e]))]; exact hs k hlt
      have c2 : wr.cell? (ps[k]).1 = some (.int .i64 (ps[k]).2) := by
        rw [hw.out, holdAll_cell _ _ _ hne]; exact (hc _ hmem).1
      have c3 : wr.frozen? (ps[k]).1 = false := by
        rw [hw.out, holdAll_frozen]; exact (hc _ hmem).2
      obtain ⟨p, hpe⟩ : ∃ p, ps[k] = p := ⟨_, rfl⟩
      have HP : Hid (ps[k] = p) := hpe
      rw [hpe] at c1 c2 c3
      clear hpe hmem hsub hne
      obtain ⟨a, x⟩ := p
      go_wp2
      go_roundw
      case rel =>
        refine ⟨k + 1, by omega, by go_num, ?_⟩
        show _ = _
        rw [List.take_succ_eq_append_getElem hlt, HP.out, holdAll_snoc, ← hw.out]
        rfl
      case measure => simp [intV]; omega
    · go_wp2
      go_returns
      refine ⟨rfl, ?_⟩
      have := hw.out
      rwa [List.take_of_length_le (by omega)] at this

/-- what hold wants, address by address -/
def HoldPre (w : World) (g : Nat) : Nat → List (Addr × Int) → Prop
  | _, [] => True
  | i, (a, x) :: r => w.cell? ⟨g, i, none⟩ = some (.pointer (some a)) ∧ a.block ≠ g ∧ w.cell? a = some (.int .i64 x) ∧ w.frozen? a = false ∧ (∀ p ∈ r, p.1 ≠ a) ∧ HoldPre w g (i + 1) r

theorem HoldPre.all {w : World} {g : Nat} : ∀ {i : Nat} {l : List (Addr × Int)}, HoldPre w g i l →
    (∀ (k : Nat) (h : k < l.length), w.cell? ⟨g, i + k, none⟩ = some (.pointer (some (l[k]).1))) ∧ (∀ p ∈ l, p.1.block ≠ g) ∧ (∀ p ∈ l, w.cell? p.1 = some (.int .i64 p.2) ∧ w.frozen? p.1 = false) ∧ (l.map (·.1)).Nodup
  | _, [], _ => ⟨fun _ h => by simp at h, by simp, by simp, by simp⟩
  | i, (a, x) :: r, ⟨h1, h2, h3, h4, h5, h6⟩ => by
    obtain ⟨k1, k2, k3, k4⟩ := HoldPre.all h6
    refine ⟨fun k h => ?_, ?_, ?_, ?_⟩
    · cases k with
      | zero => exact h1
      | succ k => have := k1 k (by simpa using h); rw [show i + (k + 1) = i + 1 + k by omega]; exact this
    · intro p hp; rcases List.mem_cons.1 hp with rfl | hp
      · exact h2
      · exact k2 p hp
    · intro p hp; rcases List.mem_cons.1 hp with rfl | hp
      · exact ⟨h3, h4⟩
      · exact k3 p hp
    · rw [List.map_cons, List.nodup_cons]
      refine ⟨fun hm => ?_, k4⟩
      obtain ⟨p, hp, e⟩ := List.mem_map.1 hm
      exact h5 p hp e

theorem hold_pre (ps : List (Addr × Int)) (g n cap : Nat) (w : World) (hn : ps.length = n) (hl : n ≤ 100) (h : HoldPre w g 0 ps) :
    Calls Try.prog 16 #[.slice (some ⟨g, 0, none⟩) n cap] w fun e w' => e = .returned (.tuple #[]) ∧ w' = holdAll ps w := by
  subst hn
  obtain ⟨k1, k2, k3, k4⟩ := h.all
  exact hold_any ps g cap w hl (fun i h => by have := k1 i h; rwa [Nat.zero_add] at this) k2 k3 k4
end Go.Proofs.Ythpffpgbmgnkcaa
