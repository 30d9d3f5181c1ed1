/- The document's answer: a new tree, a new node. -/
import Derived.Test.YtoanbjdifddcoaaGreatDoorM06
import Derived.Test.YtoanbjdifddcoaaGreatDoorRName
namespace Go.Proofs.YtoanbjdifddcoaaGreatDoor
open Go.RowKit

theorem RLies.setOther {w : World} {M : Nat → Lab} {tb : Nat} {nv uv : Value} {ps : List Pn} {us : List Value} (h : RLies w M tb nv uv ps us) {g : Nat} (hM : M g = .other) (j : Nat) (v : Value) : RLies (w.setCell ⟨g, j, none⟩ v) M tb nv uv ps us :=
  h.far (by simp [World.setCell]) (fun b _ hne => Below.heap_setCell w _ v b (fun e => hne (by rw [e]; exact hM)))
theorem Moved.setOther {w w' : World} {M M' : Nat → Lab} (h : Moved w M w' M') {g : Nat} (hg : w.heap.size ≤ g) (j : Nat) (v : Value) : Moved w M (w'.setCell ⟨g, j, none⟩ v) M' :=
  ⟨h.os, h.tape, h.output, by simp [World.setCell]; exact h.size, h.lab, fun b hb ho => (Below.heap_setCell w' _ v b (by show b ≠ g; omega)).trans (h.far b hb ho)⟩

/-- the append of 'Make', as one step -/
theorem rstep_add {w : World} {M : Nat → Lab} {tb : Nat} {uv : Value} {ps : List Pn} {us : List Value} {a : Option Addr} {cap : Nat} (h : RLies w M tb (.slice a ps.length cap) uv ps us) (hn : ps.length ≤ 400) (kind : Int) (tag words : ByteArray) (aa : Option Addr) (al acp : Nat) (at_ : List (ByteArray × ByteArray))
    (ha : Row w M (.attrs ps.length) 79 2 (.slice aa al acp) at_.length (attrCells at_)) (o1 : Obj)
    {ops : Array Oper} {o : Oper} {ac : Act} {K : Act → World → Prop} {Q : Exit → Act → World → Prop} {E : Prop} (hgd : o.guard = none)
    (ho : o.op = .call { callee := .builtin .append, args := #[.tmp 47, .tmp 49], argTypes := #[25, 25] })
    (hs : ac.eval (.tmp 47) = .slice a ps.length cap) (hx : ac.eval (.tmp 49) = .slice (some ⟨w.heap.size + 1, 0, none⟩) 1 1)
    (hK : ∀ g cap1 w1 M1, Hid (RLies (w1.setCell ⟨tb, 0, none⟩ (.slice (some ⟨g, 0, none⟩) (ps.length + 1) cap1)) M1 tb (.slice (some ⟨g, 0, none⟩) (ps.length + 1) cap1) uv (ps ++ [⟨⟨kind, tag, words, at_, -1, []⟩, .slice aa al acp, .slice none 0 0⟩]) us ∧ Moved w M (w1.setCell ⟨tb, 0, none⟩ (.slice (some ⟨g, 0, none⟩) (ps.length + 1) cap1)) M1) →
      w1.cell? ⟨tb, 0, none⟩ = some (.slice a ps.length cap) → w1.frozen? ⟨tb, 0, none⟩ = false → K (ac.put o.dst (.slice (some ⟨g, 0, none⟩) (ps.length + 1) cap1)) w1) :
    if Region.wanted o (yielded ops ac.tmps) = true then Oper.wp Tryz.prog o ac (((w.alloc o1).alloc (.cells #[.int .i64 kind, .string tag, .string words, .slice aa al acp, .int .i64 (-1), .slice none 0 0] 46)).drew) K Q else E := by
  obtain ⟨i0, hi, hz0, hz1, hz2⟩ := info_parts Tryz.infoRnode
  have H := ((h.alloc o1).alloc (.cells #[.int .i64 kind, .string tag, .string words, .slice aa al acp, .int .i64 (-1), .slice none 0 0] 46)).drew
  have mv : Moved w M ((w.alloc o1).alloc (.cells #[.int .i64 kind, .string tag, .string words, .slice aa al acp, .int .i64 (-1), .slice none 0 0] 46)).drew M := (((Moved.refl w M).alloc o1).alloc _).drew
  refine step_app_row _ hgd (.tmp 47) (.tmp 49) 25 ho M .nodes 46 i0 _ 6 96 Tryz.underlying25 hi hz0 hz1 hz2 rfl (by decide) (.slice a ps.length cap) ps.length (flat ps) hs H.nodes ⟨w.heap.size + 1, 0, none⟩ 1 1 [.int .i64 kind, .string tag, .string words, .slice aa al acp, .int .i64 (-1), .slice none 0 0] hx rfl (news_two w o1 #[.int .i64 kind, .string tag, .string words, .slice aa al acp, .int .i64 (-1), .slice none 0 0] 46) (by simp [Value.oneCell']) (by decide) (by unfold maxLen; omega) (by omega) H.fresh ?_
  intro g cap1 w1 M1 hr st
  obtain ⟨hc0, hc1, hf0, hf1⟩ := head_cell ((st.far tb (lt_of_heap H.head) (by rw [H.tree]; intro e; cases e)).trans H.head)
  have HR := H.headNodes (nv' := .slice (some ⟨g, 0, none⟩) (ps.length + 1) cap1) (qs := ps ++ [⟨⟨kind, tag, words, at_, -1, []⟩, .slice aa al acp, .slice none 0 0⟩]) st (by rw [List.length_append, flat_append]; exact hr) (by
    intro i p hp
    by_cases hi : i < ps.length
    · rw [List.getElem?_append_left hi] at hp
      exact H.node i p hp
    · rw [List.getElem?_append_right (by omega)] at hp
      have : i - ps.length = 0 := by
        rcases Nat.eq_zero_or_pos (i - ps.length) with e | e
        · exact e
        · rw [List.getElem?_eq_none (by simp; omega)] at hp; cases hp
      rw [this] at hp
      cases hp
      obtain rfl : i = ps.length := by omega
      refine ⟨ha.keep (fun b hb e => ?_) (fun _ _ => rfl), Row.nil _ _ _ _ _⟩
      exact (Below.heap_alloc (w.alloc o1) _ b (by simp; omega)).trans (Below.heap_alloc w o1 b hb))
  exact hK g cap1 w1 M1 ⟨HR.1, mv.trans HR.2⟩ hc0 hf0

/-- a node was made -/
def RMade (w : World) (M : Nat → Lab) (tb : Nat) (ps : List Pn) (us : List Value) (p : Pn) (e : Ending) (w' : World) : Prop :=
  e = .returned (.tuple #[.int .i64 ps.length, .int .i64 0]) ∧ ∃ M' nv' uv' v, RLies w' M' tb nv' uv' (ps ++ [p]) (us ++ [v]) ∧ Moved w M w' M'

set_option maxHeartbeats 4000000 in
set_option maxRecDepth 100000 in
theorem rmake_elem {w : World} {M : Nat → Lab} {tb : Nat} {nv uv : Value} {ps : List Pn} {us : List Value} (h : RLies w M tb nv uv ps us) (hs : Small ps) (hn : ps.length < 400) (hu : us.length ≤ 1000000000) (s : ByteArray) (hN : nameB s = true) :
    Calls Tryz.prog 21 #[.pointer (some ⟨tb, 0, none⟩), .int .i64 2, .string s] w (RMade w M tb ps us (newP 2 s ⟨#[]⟩)) := by
  obtain ⟨a, cap, rfl, hc, hm⟩ := h.nodes.shape
  have c0 := h.cell0
  have H : Hid (RLies w M tb (.slice a ps.length cap) uv ps us) := h
  have HS : Hid (Small ps) := hs
  have hlt : tb < w.heap.size := lt_of_heap h.head
  unfold maxLen at hm
  clear h hs
  go_enter Tryz.func21, Tryz.ntmps21
  go_wp2_with (first
    | (go_at_call 51; refine (isName_any _ _).mono ?_; rintro e w' ⟨rfl, rfl⟩; rw [hN])
    | (go_at_call 52; refine (rkeep_any H.out HS.out (by omega) hu).mono ?_; rintro e w1 ⟨rfl, M1, uv1, v1, l1, m1⟩
       have H1 : Hid _ := And.intro l1 m1
       have q0 := l1.cell0
       have hl1 : tb < w1.heap.size := lt_of_heap l1.head
       clear l1 m1))
  go_region_law ((refine rstep_add H1.out.1 (by omega) 2 s ⟨#[]⟩ none 0 0 [] (Row.nil _ _ _ _ _) _ (by rfl) (by rfl) (by simp [Act.eval]) (by simp [Act.eval]) ?_; intro g cap1 w2 M2 HR hc0 hf0))
  all_goals (have hcc := HR.out.1.cell0)
  all_goals go_wp2
  all_goals go_ret2
  all_goals exact ⟨by go_light; first | rfl | (congr 3; done), M2, _, uv1, v1, HR.out.1, H1.out.2.trans HR.out.2⟩
set_option maxHeartbeats 4000000 in
set_option maxRecDepth 100000 in
theorem rmake_other {w : World} {M : Nat → Lab} {tb : Nat} {nv uv : Value} {ps : List Pn} {us : List Value} (h : RLies w M tb nv uv ps us) (hs : Small ps) (hn : ps.length < 400) (hu : us.length ≤ 1000000000) (s : ByteArray) (kind : Int) (hk : ¬ kind = 2) (hN : s.size ≤ 20000) :
    Calls Tryz.prog 21 #[.pointer (some ⟨tb, 0, none⟩), .int .i64 kind, .string s] w (RMade w M tb ps us (newP kind ⟨#[]⟩ s)) := by
  obtain ⟨a, cap, rfl, hc, hm⟩ := h.nodes.shape
  have c0 := h.cell0
  have hkb : (kind == 2) = false := by rw [beq_eq_false_iff_ne]; exact hk
  have H : Hid (RLies w M tb (.slice a ps.length cap) uv ps us) := h
  have HS : Hid (Small ps) := hs
  have hlt : tb < w.heap.size := lt_of_heap h.head
  unfold maxLen at hm
  clear h hs
  go_enter Tryz.func21, Tryz.ntmps21
  go_wp2_with (first
    | (go_at_call 51; refine (isName_any _ _).mono ?_; rintro e w' ⟨rfl, rfl⟩; cases hq : nameB s)
    | (go_at_call 52; refine (rkeep_any H.out HS.out (by omega) hu).mono ?_; rintro e w1 ⟨rfl, M1, uv1, v1, l1, m1⟩
       have H1 : Hid _ := And.intro l1 m1
       have q0 := l1.cell0
       have hl1 : tb < w1.heap.size := lt_of_heap l1.head
       clear l1 m1))
  all_goals go_region_law ((refine rstep_add H1.out.1 (by omega) kind ⟨#[]⟩ s none 0 0 [] (Row.nil _ _ _ _ _) _ (by rfl) (by rfl) (by simp [Act.eval]) (by simp [Act.eval]) ?_; intro g cap1 w2 M2 HR hc0 hf0))
  all_goals (have hcc := HR.out.1.cell0)
  all_goals go_wp2
  all_goals go_ret2
  all_goals exact ⟨by go_light; first | rfl | (congr 3; done), M2, _, uv1, v1, HR.out.1, H1.out.2.trans HR.out.2⟩
end Go.Proofs.YtoanbjdifddcoaaGreatDoor
