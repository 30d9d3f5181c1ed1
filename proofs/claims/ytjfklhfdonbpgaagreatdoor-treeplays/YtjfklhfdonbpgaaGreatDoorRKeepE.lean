/- The document's answer: what is kept of what was, and what it holds. -/
import Derived.Test.YtjfklhfdonbpgaaGreatDoorM00
import Derived.Test.YtjfklhfdonbpgaaGreatDoorRMake3
namespace Go.Proofs.YtjfklhfdonbpgaaGreatDoor
open Go.RowKit

/-- a slice that holds a copy of these nodes, of its own, made behind w -/
def CopyOf (w w' : World) (M' : Nat → Lab) (v : Value) (ns : List Nd) : Prop :=
  ∃ L, KeptCopy w' L v ns ∧ ∀ b, L b ≠ .other → w.heap.size ≤ b ∧ M' b = .other
theorem KeptCopy.lt {w : World} {L : Nat → Lab} {v : Value} {ns : List Nd} (h : KeptCopy w L v ns) {b : Nat} (hb : L b ≠ .other) : b < w.heap.size := by
  obtain ⟨qs, _, hf, _⟩ := h
  rcases Nat.lt_or_ge b w.heap.size with h | h
  · exact h
  · exact absurd (hf b h) hb
theorem CopyOf.moved {w w1 w2 : World} {M1 M2 : Nat → Lab} {v : Value} {ns : List Nd} (h : CopyOf w w1 M1 v ns) (m : Moved w1 M1 w2 M2) : CopyOf w w2 M2 v ns := by
  obtain ⟨L, h1, h2⟩ := h
  refine ⟨L, h1.keep m.size (fun b hb hne => m.far b hb (h2 b hne).2), fun b hne => ⟨(h2 b hne).1, ?_⟩⟩
  exact (m.lab b (h1.lt hne)).trans (h2 b hne).2

/-- what was is kept -/
def RKeptE (w : World) (M : Nat → Lab) (tb : Nat) (nv : Value) (ps : List Pn) (us : List Value) (e : Ending) (w' : World) : Prop :=
  e = .returned (.tuple #[]) ∧ ∃ M' uv' v, RLies w' M' tb nv uv' ps (us ++ [v]) ∧ Moved w M w' M' ∧ CopyOf w w' M' v (nodesOf ps)

set_option maxHeartbeats 4000000 in
set_option maxRecDepth 100000 in
theorem rkeepE_any {w : World} {M : Nat → Lab} {tb : Nat} {nv uv : Value} {ps : List Pn} {us : List Value} (h : RLies w M tb nv uv ps us) (hs : Small ps) (hn : ps.length ≤ 1000000) (hu : us.length ≤ 1000000000) :
    Calls Tryz.prog 52 #[.pointer (some ⟨tb, 0, none⟩)] w (RKeptE w M tb nv ps us) := by
  obtain ⟨i0, hi, hz0, hz1, hz2⟩ := info_parts Tryz.infoRnodes
  obtain ⟨a, cap, ha, hc, hm⟩ := h.undos.shape
  subst ha
  have c0 := h.cell0
  have c1 := h.cell1
  have hlt : tb < w.heap.size := lt_of_heap h.head
  have H : Hid (RLies w M tb nv (.slice a us.length cap) ps us) := h
  have HS : Hid (Small ps) := hs
  clear h hs
  go_enter Tryz.func52, Tryz.ntmps52
  go_wp2
  go_region_law ((first
    | (refine step_call _ (by rfl) 77 [.tmp 10] #[25] (by rfl) Tryz.func77 (by kernel_rfl) (by rfl) [nv] (by simp [Act.eval]) (copiedE_any H.out.drew HS.out hn) ?_
       rintro e w1 ⟨a1, n1, e1, rfl, hB1, hC1⟩
       have HC1 : Hid _ := hC1
       refine ⟨_, rfl, ?_⟩
       have H1 : Hid (RLies w1 M tb nv (.slice a us.length cap) ps us) := H.out.drew.below hB1
       have q0 := H1.out.cell0
       have q1 := H1.out.cell1
       have hl1 : tb < w1.heap.size := lt_of_heap H1.out.head
       have HB1 : Hid (Below w.heap.size w w1) := (Below.refl _ _).drew.trans hB1
       clear hB1 hC1)
    | (refine step_app_row _ (by rfl) (.tmp 6) (.tmp 12) 26 (by rfl) M .undos 25 i0 (.slice none 0 0) 1 24 Tryz.underlying26 hi hz0 hz1 hz2 rfl (by decide) (.slice a us.length cap) us.length us (by simp [Act.eval]) (H1.out.alloc _).undos ⟨w1.heap.size, 0, none⟩ 1 1 [.slice a1 n1 e1] (by simp [Act.eval]) rfl (cell_one_new _ _ _) (by simp [Value.oneCell']) (by decide) (by unfold maxLen; omega) (by omega) (H1.out.alloc _).fresh ?_
       intro g cap1 w2 M2 hr st
       obtain ⟨hc0, hc1, hf0, hf1⟩ := head_cell ((st.far tb (lt_of_heap (H1.out.alloc _).head) (by rw [H1.out.tree]; intro e; cases e)).trans (H1.out.alloc _).head)
       have HR : Hid _ := (H1.out.alloc _).headUndos (uv' := .slice (some ⟨g, 0, none⟩) (us.length + 1) cap1) (us' := us ++ [.slice a1 n1 e1]) st (by rw [List.length_append]; exact hr)
       have HT : Hid _ := st
       clear hr st)))
  all_goals go_wp2
  all_goals go_end0
  all_goals
    obtain ⟨L, hk, hL⟩ := HC1.out
    refine ⟨rfl, M2, _, _, HR.out.1, (((Moved.refl _ _).below HB1.out).alloc _).trans HR.out.2, L, ?_, ?_⟩
    · refine (hk.keep (w' := w1.alloc _) (by simp) (fun b hb _ => Below.heap_alloc w1 _ b hb)).keep HR.out.2.size (fun b hb hne => ?_)
      have hb1 : b < w1.heap.size := by
        obtain ⟨qs, _, hf, _⟩ := hk
        rcases Nat.lt_or_ge b w1.heap.size with h | h
        · exact h
        · exact absurd (hf b h) hne
      refine HR.out.2.far b hb ?_
      have := hL b hne
      exact H.out.fresh b (by simpa using this)
    · intro b hne
      have h1 : w.heap.size ≤ b := by simpa using hL b hne
      refine ⟨h1, ?_⟩
      have hb1 : b < w1.heap.size := by
        obtain ⟨qs, _, hf, _⟩ := hk
        rcases Nat.lt_or_ge b w1.heap.size with h | h
        · exact h
        · exact absurd (hf b h) hne
      exact (HR.out.2.lab b (by simp; omega)).trans (H.out.fresh b h1)

end Go.Proofs.YtjfklhfdonbpgaaGreatDoor
