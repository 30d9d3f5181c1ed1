/- The document's answer: new nodes, or which error. -/
import Derived.Test.YtjfklhfdonbpgaaGreatDoorRKeepE
namespace Go.Proofs.YtjfklhfdonbpgaaGreatDoor
open Go.RowKit

/-- a change was made of these nodes, and what was is kept -/
def RDone (w : World) (M : Nat → Lab) (tb : Nat) (us : List Value) (ns ns' : List Nd) (w' : World) : Prop :=
  ∃ M' nv' uv' ps' v, RLies w' M' tb nv' uv' ps' (us ++ [v]) ∧ nodesOf ps' = ns' ∧ Moved w M w' M' ∧ CopyOf w w' M' v ns
/-- a node was made -/
def RMadeE (w : World) (M : Nat → Lab) (tb : Nat) (ps : List Pn) (us : List Value) (p : Pn) (e : Ending) (w' : World) : Prop :=
  e = .returned (.tuple #[.int .i64 ps.length, .int .i64 0]) ∧ RDone w M tb us (nodesOf ps) (nodesOf ps ++ [p.n]) w'

set_option maxHeartbeats 4000000 in
set_option maxRecDepth 100000 in
theorem rmakeE_elem {w : World} {M : Nat → Lab} {tb : Nat} {nv uv : Value} {ps : List Pn} {us : List Value} (h : RLies w M tb nv uv ps us) (hs : Small ps) (hn : ps.length < 400) (hu : us.length ≤ 1000000000) (s : ByteArray) (hN : nameB s = true) :
    Calls Tryz.prog 21 #[.pointer (some ⟨tb, 0, none⟩), .int .i64 2, .string s] w (RMadeE w M tb ps us (newP 2 s ⟨#[]⟩)) := by
  obtain ⟨a, cap, rfl, hc, hm⟩ := h.nodes.shape
  have c0 := h.cell0
  have H : Hid (RLies w M tb (.slice a ps.length cap) uv ps us) := h
  have HS : Hid (Small ps) := hs
  have hlt : tb < w.heap.size := lt_of_heap h.head
  unfold maxLen at hm
  clear h hs
  go_enter Tryz.func21, Tryz.ntmps21
  go_wp2_with (first
    | (go_at_call 51; refine (isName_any _ _).mono ?_; rintro e w' ⟨rfl, rfl⟩; rw [hN])
    | (go_at_call 52; refine (rkeepE_any H.out HS.out (by omega) hu).mono ?_; rintro e w1 ⟨rfl, M1, uv1, v1, l1, m1, k1⟩
       have HK1 : Hid _ := k1
       have H1 : Hid _ := And.intro l1 m1
       have q0 := l1.cell0
       have hl1 : tb < w1.heap.size := lt_of_heap l1.head
       clear l1 m1 k1))
  go_region_law ((refine rstep_add H1.out.1 (by omega) 2 s ⟨#[]⟩ none 0 0 [] (Row.nil _ _ _ _ _) _ (by rfl) (by rfl) (by simp [Act.eval]) (by simp [Act.eval]) ?_; intro g cap1 w2 M2 HR hc0 hf0))
  all_goals (have hcc := HR.out.1.cell0)
  all_goals go_wp2
  all_goals go_ret2
  all_goals exact ⟨by go_light; first | rfl | (congr 3; done), M2, _, uv1, _, v1, HR.out.1, by simp [nodesOf, newP], H1.out.2.trans HR.out.2, CopyOf.moved HK1.out HR.out.2⟩
set_option maxHeartbeats 4000000 in
set_option maxRecDepth 100000 in
theorem rmakeE_other {w : World} {M : Nat → Lab} {tb : Nat} {nv uv : Value} {ps : List Pn} {us : List Value} (h : RLies w M tb nv uv ps us) (hs : Small ps) (hn : ps.length < 400) (hu : us.length ≤ 1000000000) (s : ByteArray) (kind : Int) (hk : ¬ kind = 2) (hN : s.size ≤ 20000) :
    Calls Tryz.prog 21 #[.pointer (some ⟨tb, 0, none⟩), .int .i64 kind, .string s] w (RMadeE w M tb ps us (newP kind ⟨#[]⟩ s)) := by
  obtain ⟨a, cap, rfl, hc, hm⟩ := h.nodes.shape
  have c0 := h.cell0
  have hkb : (kind == 2) = false := by rw [beq_eq_false_iff_ne]; exact hk
  have H : Hid (RLies w M tb (.slice a ps.length cap) uv ps us) := h
  have HS : Hid (Small ps) := hs
  have hlt : tb < w.heap.size := lt_of_heap h.head
  unfold maxLen at hm
  clear h hs
  go_enter Tryz.func21, Tryz.ntmps21
  go_wp2_with (first
    | (go_at_call 51; refine (isName_any _ _).mono ?_; rintro e w' ⟨rfl, rfl⟩; cases hq : nameB s)
    | (go_at_call 52; refine (rkeepE_any H.out HS.out (by omega) hu).mono ?_; rintro e w1 ⟨rfl, M1, uv1, v1, l1, m1, k1⟩
       have HK1 : Hid _ := k1
       have H1 : Hid _ := And.intro l1 m1
       have q0 := l1.cell0
       have hl1 : tb < w1.heap.size := lt_of_heap l1.head
       clear l1 m1 k1))
  all_goals go_region_law ((refine rstep_add H1.out.1 (by omega) kind ⟨#[]⟩ s none 0 0 [] (Row.nil _ _ _ _ _) _ (by rfl) (by rfl) (by simp [Act.eval]) (by simp [Act.eval]) ?_; intro g cap1 w2 M2 HR hc0 hf0))
  all_goals (have hcc := HR.out.1.cell0)
  all_goals go_wp2
  all_goals go_ret2
  all_goals exact ⟨by go_light; first | rfl | (congr 3; done), M2, _, uv1, _, v1, HR.out.1, by simp [nodesOf, newP], H1.out.2.trans HR.out.2, CopyOf.moved HK1.out HR.out.2⟩

set_option maxHeartbeats 4000000 in
set_option maxRecDepth 100000 in
theorem rmake_name {w : World} {M : Nat → Lab} {tb : Nat} {nv uv : Value} {ps : List Pn} {us : List Value} (h : RLies w M tb nv uv ps us) (s : ByteArray) (hN : nameB s = false) :
    Calls Tryz.prog 21 #[.pointer (some ⟨tb, 0, none⟩), .int .i64 2, .string s] w fun e w' => e = .returned (.tuple #[.int .i64 0, .int .i64 3]) ∧ w' = w := by
  go_enter Tryz.func21, Tryz.ntmps21
  go_wp2_with (go_at_call 51; refine (isName_any _ _).mono ?_; rintro e w' ⟨rfl, rfl⟩; rw [hN])
  go_ret2
  exact ⟨rfl, rfl⟩
set_option maxHeartbeats 4000000 in
set_option maxRecDepth 100000 in
theorem rmake_full {w : World} {M : Nat → Lab} {tb : Nat} {nv uv : Value} {ps : List Pn} {us : List Value} (h : RLies w M tb nv uv ps us) (s : ByteArray) (hN : nameB s = true) (hf : ps.length = 400) :
    Calls Tryz.prog 21 #[.pointer (some ⟨tb, 0, none⟩), .int .i64 2, .string s] w fun e w' => e = .returned (.tuple #[.int .i64 0, .int .i64 2]) ∧ w' = w := by
  obtain ⟨a, cap, rfl, hc, hm⟩ := h.nodes.shape
  have c0 := h.cell0
  rw [hf] at c0
  clear h
  go_enter Tryz.func21, Tryz.ntmps21
  go_wp2_with (go_at_call 51; refine (isName_any _ _).mono ?_; rintro e w' ⟨rfl, rfl⟩; rw [hN])
  go_ret2
  exact ⟨rfl, rfl⟩
end Go.Proofs.YtjfklhfdonbpgaaGreatDoor
