/- Undo: whatever was done last is undone. -/
import Derived.Test.YtiikjflaonhfdaaDoorUndoG
import Derived.Test.YtiikjflaonhfdaaDoorUndo2
namespace Go.Proofs.YtiikjflaonhfdaaDoor
open Go.RowKit

theorem pulled_few {ns mid : List Nd} {i w : Nat} {f : Int} (h : WF ns) (hp : Pulled ns i mid f w) : KidsFew mid := (h.pulled hp).kidsFew

theorem undo_any {w : World} {M : Nat → Lab} {tb : Nat} {nv uv : Value} {ps : List Pn} {us : List Value} {f : Value} {r : Rec} {ns' : List Nd} {K : Nat} (h : Lies w M tb nv uv ps (us ++ [f])) (hk : KeptF w M tb f r) (hW : WF (nodesOf ps)) (hF : Few (nodesOf ps) K) (hK : K ≤ 1000000) (hu : Undoes (nodesOf ps) ns' r) :
    Calls Tryd.prog 12 #[.pointer (some ⟨tb, 0, none⟩)] w (UPost w M tb us ns') := by
  cases r with
  | forget n =>
    obtain ⟨b1, b2, rfl, _⟩ := id hk
    obtain ⟨hn, rfl⟩ := hu
    have hnl : n < ps.length := by simpa [nodesOf] using hn
    refine undo_forget_call h fun w1 uv1 hL hm => ?_
    obtain ⟨c1, c2, he, m1, m2, k1, k2⟩ := Frg.moved hk hm
    cases he
    have e : ps = ps.take n ++ ps.drop n := (List.take_append_drop n ps).symm
    have hL' := hL
    rw [e] at hL'
    have hl : (ps.take n).length = n := by simp; omega
    rw [← hl] at k2
    refine (forget1_any hL' (by simp; omega) m1 m2 k1 k2).mono ?_
    rintro e w2 ⟨rfl, nv', g1, g2⟩
    exact ⟨rfl, M, nv', _, _, g1, by simp [nodesOf, List.map_take], g2⟩
  | move i fr wz =>
    obtain ⟨b1, b2, b3, b4, rfl, _⟩ := id hk
    obtain ⟨mid, f', w', h1, h2⟩ := hu
    refine undo_move_call h fun w1 uv1 hL hm => ?_
    refine (move1_any hL (MvF.moved hk hm) h1 h2 (pulled_few hW h1)).mono ?_
    rintro e w2 ⟨rfl, M', ps', g1, g2, g3⟩
    exact ⟨rfl, M', _, _, _, g1, g2, g3⟩
  | cut i =>
    obtain ⟨b1, b2, rfl, k1, k2⟩ := hk
    obtain ⟨n, xs, x, h1, h2, rfl⟩ := hu
    obtain ⟨p, hp, rfl⟩ := nodesOf_get h1
    exact undo_cut_call h fun w1 uv1 hL hm => set1_any hL hp h2 (k1.moved hm) (k2.moved hm)
  | back i k old =>
    obtain ⟨b0, b1, b2, b3, rfl, k0, k1, k2, k3⟩ := hk
    obtain ⟨n, x, h1, h2, rfl⟩ := hu
    obtain ⟨p, hp, rfl⟩ := nodesOf_get h1
    exact undo_back_call h fun w1 uv1 hL hm => set2_any hL hp h2 (k0.moved hm) (k1.moved hm) (k2.moved hm) (k3.moved hm)
  | ins i k x =>
    obtain ⟨b1, b2, b3, b4, rfl, k1, k2, k3, k4, k5⟩ := hk
    obtain ⟨n, h1, h2, rfl⟩ := hu
    obtain ⟨p, hp, rfl⟩ := nodesOf_get h1
    exact undo_ins_call h fun w1 uv1 hL hm => unset1_any hL hp h2 (by have := hF i _ h1; omega) (k1.moved hm) (k2.moved hm) (k3.moved hm) (k4.moved hm) (k5.moved hm)
  | say i old =>
    obtain ⟨b0, b1, b2, rfl, k0, k1, k2⟩ := hk
    obtain ⟨n, h1, rfl⟩ := hu
    obtain ⟨p, hp, rfl⟩ := nodesOf_get h1
    exact undo_say_call h fun w1 uv1 hL hm => say1_any hL hp (k0.moved hm) (k1.moved hm) (k2.moved hm)
end Go.Proofs.YtiikjflaonhfdaaDoor
