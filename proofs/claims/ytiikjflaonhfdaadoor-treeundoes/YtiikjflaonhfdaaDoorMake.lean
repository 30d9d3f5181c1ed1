/- What makes nodes, and what is kept to undo it. -/
import Derived.Test.YtiikjflaonhfdaaDoorLeaf
import Derived.Deep.RegionLaw
namespace Go.Proofs.YtiikjflaonhfdaaDoor
open Go.RowKit

theorem Tryd.infoFunc : (Tryd.prog.info? 1).map (fun i => (i.zero, i.size, i.bytes)) = some (some .nilFunc, 1, 8) := by kernel_rfl
theorem Tryd.infoNode : (Tryd.prog.info? 44).map (fun i => (i.zero, i.size, i.bytes)) = some (some (.agg #[.int .i64 0, .string ⟨#[]⟩, .string ⟨#[]⟩, .slice none 0 0, .int .i64 0, .slice none 0 0]), 6, 96) := by kernel_rfl

theorem head_cell {w : World} {tb : Nat} {nv uv : Value} {t : TypeId} (h : w.heap[tb]? = some (.cells #[nv, uv] t (0, 0))) : w.cell? ⟨tb, 0, none⟩ = some nv ∧ w.cell? ⟨tb, 1, none⟩ = some uv ∧ w.frozen? ⟨tb, 0, none⟩ = false ∧ w.frozen? ⟨tb, 1, none⟩ = false := by
  refine ⟨?_, ?_, ?_, ?_⟩
  · rw [cell_of_row w tb 0 _ _ _ h]; rfl
  · rw [cell_of_row w tb 1 _ _ _ h]; rfl
  · simp [World.frozen?, h]
  · simp [World.frozen?, h]

set_option maxHeartbeats 1000000 in
set_option maxRecDepth 100000 in
theorem keep_any {w : World} {M : Nat → Lab} {tb : Nat} {nv uv : Value} {ps : List Pn} {us : List Value} (h : Lies w M tb nv uv ps us) (fn : Fn) (fi ca : Array Value) (hu : us.length ≤ 1099511627776) :
    Calls Tryd.prog 38 #[.pointer (some ⟨tb, 0, none⟩), .func fn fi ca] w fun e w' => e = .returned (.tuple #[]) ∧ ∃ M' uv', Lies w' M' tb nv uv' ps (us ++ [.func fn fi ca]) ∧ Moved w M w' M' := by
  obtain ⟨i0, hi, hz0, hz1, hz2⟩ := info_parts Tryd.infoFunc
  obtain ⟨a, cap, ha, hc, hm⟩ := h.undos.shape
  subst ha
  have c1 := h.cell1
  have H : Hid (Lies w M tb nv (.slice a us.length cap) ps us) := h
  clear h
  go_enter Tryd.func38, Tryd.ntmps38
  go_wp2_with (at_builtin; refine wpList_app_row _ (by rfl) (.tmp 8) (.tmp 10) 46 (by rfl) M .undos 1 i0 .nilFunc 1 8 Tryd.underlying46 hi hz0 hz1 hz2 rfl (by decide) (.slice a us.length cap) us.length us (by rfl) (H.out.alloc _).undos ⟨w.heap.size, 0, none⟩ 1 1 [.func fn fi ca] (by rfl) rfl (cell_one_new _ _ _) (by simp [Value.oneCell']) (by decide) (by unfold maxLen; omega) (by omega) (H.out.alloc _).fresh ?_; intro g cap1 w1 M1 hr st; obtain ⟨hc0, hc1, hf0, hf1⟩ := head_cell ((st.far tb (lt_of_heap (H.out.alloc _).head) (by rw [H.out.tree]; intro e; cases e)).trans (H.out.alloc _).head); have HR : Hid _ := (H.out.alloc _).headUndos (uv' := .slice (some ⟨g, 0, none⟩) (us.length + 1) cap1) (us' := us ++ [.func fn fi ca]) st (by rw [List.length_append]; exact hr); clear hr st)
  go_end0
  exact ⟨rfl, M1, _, HR.out.1, ((Moved.refl _ _).alloc _).trans HR.out.2⟩

/-- a function that unmakes the nodes from a number on -/
def Frg (w : World) (M : Nat → Lab) (f : Value) (tb n : Nat) : Prop :=
  ∃ b1 b2, f = .func (.func 63) #[] #[.pointer (some ⟨b1, 0, none⟩), .pointer (some ⟨b2, 0, none⟩)] ∧ M b1 = .other ∧ M b2 = .other ∧ w.cell? ⟨b1, 0, none⟩ = some (.pointer (some ⟨tb, 0, none⟩)) ∧ w.cell? ⟨b2, 0, none⟩ = some (.int .i64 n)

theorem Frg.moved {w w' : World} {M M' : Nat → Lab} {f : Value} {tb n : Nat} (h : Frg w M f tb n) (m : Moved w M w' M') : Frg w' M' f tb n := by
  obtain ⟨b1, b2, rfl, h1, h2, h3, h4⟩ := h
  have l1 : b1 < w.heap.size := World.block_lt_of_cell? w _ h3
  have l2 : b2 < w.heap.size := World.block_lt_of_cell? w _ h4
  exact ⟨b1, b2, rfl, (m.lab b1 l1).trans h1, (m.lab b2 l2).trans h2, (World.cell?_of_block (a := ⟨b1, 0, none⟩) (m.far b1 l1 h1)).trans h3, (World.cell?_of_block (a := ⟨b2, 0, none⟩) (m.far b2 l2 h2)).trans h4⟩

set_option maxHeartbeats 1000000 in
theorem forget_any {w : World} {M : Nat → Lab} {tb : Nat} {nv uv : Value} {ps : List Pn} {us : List Value} (h : Lies w M tb nv uv ps us) :
    Calls Tryd.prog 39 #[.pointer (some ⟨tb, 0, none⟩)] w fun e w' => ∃ ca, e = .returned (.func (.func 63) #[] ca) ∧ Frg w' M (.func (.func 63) #[] ca) tb ps.length ∧ Below w.heap.size w w' := by
  obtain ⟨a, cap, rfl, hc, hm⟩ := h.nodes.shape
  have c0 := h.cell0
  have hfr := h.fresh
  unfold maxLen at hm
  have H : Hid (∀ b, w.heap.size ≤ b → M b = .other) := hfr
  have hlt : tb < w.heap.size := lt_of_heap h.head
  clear h hfr
  go_enter Tryd.func39, Tryd.ntmps39
  go_wp2
  go_ret
  refine ⟨_, rfl, ⟨_, _, rfl, H.out _ (by simp), H.out _ (by simp), by simp, by simp⟩, ?_⟩
  exact (((Below.refl _ _).alloc (Nat.le_refl _) _).alloc (by simp) _)

theorem node_cells (kind parent : Int) (tag words : ByteArray) (av kv : Value) (at_ : List (ByteArray × ByteArray)) (ks : List Int) : (⟨⟨kind, tag, words, at_, parent, ks⟩, av, kv⟩ : Pn).cells = [.int .i64 kind, .string tag, .string words, av, .int .i64 parent, kv] := rfl

/-- the append of 'add', as one step -/
theorem step_add {w : World} {M : Nat → Lab} {tb : Nat} {uv : Value} {ps : List Pn} {us : List Value} {a : Option Addr} {cap : Nat} (h : Lies w M tb (.slice a ps.length cap) uv ps us) (hn : ps.length ≤ 400) (kind : Int) (tag words : ByteArray) (aa : Option Addr) (al acp : Nat) (at_ : List (ByteArray × ByteArray))
    (ha : Row w M (.attrs ps.length) 78 2 (.slice aa al acp) at_.length (attrCells at_)) (o1 : Obj)
    {ops : Array Oper} {o : Oper} {ac : Act} {K : Act → World → Prop} {Q : Exit → Act → World → Prop} {E : Prop} (hgd : o.guard = none)
    (ho : o.op = .call { callee := .builtin .append, args := #[.tmp 10, .tmp 12], argTypes := #[45, 45] })
    (hs : ac.eval (.tmp 10) = .slice a ps.length cap) (hx : ac.eval (.tmp 12) = .slice (some ⟨w.heap.size + 1, 0, none⟩) 1 1)
    (hK : ∀ g cap1 w1 M1, Hid (Lies (w1.setCell ⟨tb, 0, none⟩ (.slice (some ⟨g, 0, none⟩) (ps.length + 1) cap1)) M1 tb (.slice (some ⟨g, 0, none⟩) (ps.length + 1) cap1) uv (ps ++ [⟨⟨kind, tag, words, at_, -1, []⟩, .slice aa al acp, .slice none 0 0⟩]) us ∧ Moved w M (w1.setCell ⟨tb, 0, none⟩ (.slice (some ⟨g, 0, none⟩) (ps.length + 1) cap1)) M1) →
      w1.cell? ⟨tb, 0, none⟩ = some (.slice a ps.length cap) → w1.frozen? ⟨tb, 0, none⟩ = false → K (ac.put o.dst (.slice (some ⟨g, 0, none⟩) (ps.length + 1) cap1)) w1) :
    if Region.wanted o (yielded ops ac.tmps) = true then Oper.wp Tryd.prog o ac (((w.alloc o1).alloc (.cells #[.int .i64 kind, .string tag, .string words, .slice aa al acp, .int .i64 (-1), .slice none 0 0] 44)).drew) K Q else E := by
  obtain ⟨i0, hi, hz0, hz1, hz2⟩ := info_parts Tryd.infoNode
  have H := ((h.alloc o1).alloc (.cells #[.int .i64 kind, .string tag, .string words, .slice aa al acp, .int .i64 (-1), .slice none 0 0] 44)).drew
  have mv : Moved w M ((w.alloc o1).alloc (.cells #[.int .i64 kind, .string tag, .string words, .slice aa al acp, .int .i64 (-1), .slice none 0 0] 44)).drew M := (((Moved.refl w M).alloc o1).alloc _).drew
  refine step_app_row _ hgd (.tmp 10) (.tmp 12) 45 ho M .nodes 44 i0 _ 6 96 Tryd.underlying45 hi hz0 hz1 hz2 rfl (by decide) (.slice a ps.length cap) ps.length (flat ps) hs H.nodes ⟨w.heap.size + 1, 0, none⟩ 1 1 [.int .i64 kind, .string tag, .string words, .slice aa al acp, .int .i64 (-1), .slice none 0 0] hx rfl (news_two w o1 #[.int .i64 kind, .string tag, .string words, .slice aa al acp, .int .i64 (-1), .slice none 0 0] 44) (by simp [Value.oneCell']) (by decide) (by unfold maxLen; omega) (by omega) H.fresh ?_
  intro g cap1 w1 M1 hr st
  obtain ⟨hc0, hc1, hf0, hf1⟩ := head_cell ((st.far tb (lt_of_heap H.head) (by rw [H.tree]; intro e; cases e)).trans H.head)
  have HR := H.headNodes (nv' := .slice (some ⟨g, 0, none⟩) (ps.length + 1) cap1) (qs := ps ++ [⟨⟨kind, tag, words, at_, -1, []⟩, .slice aa al acp, .slice none 0 0⟩]) st (by rw [List.length_append, flat_append]; exact hr) (by
    intro i p hp
    by_cases hi : i < ps.length
    · rw [List.getElem?_append_left hi] at hp
      exact H.node i p hp
    · rw [List.getElem?_append_right (by omega)] at hp
      have : i - ps.length = 0 := by
        rcases Nat.eq_zero_or_pos (i - ps.length) with e | e
        · exact e
        · rw [List.getElem?_eq_none (by simp; omega)] at hp; cases hp
      rw [this] at hp
      cases hp
      obtain rfl : i = ps.length := by omega
      refine ⟨ha.keep (fun b hb e => ?_) (fun _ _ => rfl), Row.nil _ _ _ _ _⟩
      exact (Below.heap_alloc (w.alloc o1) _ b (by simp; omega)).trans (Below.heap_alloc w o1 b hb))
  exact hK g cap1 w1 M1 ⟨HR.1, mv.trans HR.2⟩ hc0 hf0

set_option maxHeartbeats 2000000 in
set_option maxRecDepth 100000 in
theorem add_any {w : World} {M : Nat → Lab} {tb : Nat} {nv uv : Value} {ps : List Pn} {us : List Value} (h : Lies w M tb nv uv ps us) (hn : ps.length ≤ 400) (kind par : Int) (tag words : ByteArray) (aa : Option Addr) (al ac : Nat) (at_ : List (ByteArray × ByteArray))
    (ha : Row w M (.attrs ps.length) 78 2 (.slice aa al ac) at_.length (attrCells at_)) :
    Calls Tryd.prog 40 #[.pointer (some ⟨tb, 0, none⟩), .agg #[.int .i64 kind, .string tag, .string words, .slice aa al ac, .int .i64 par, .slice none 0 0]] w fun e w' =>
      e = .returned (.int .i64 ps.length) ∧ ∃ M' nv', Lies w' M' tb nv' uv (ps ++ [⟨⟨kind, tag, words, at_, -1, []⟩, .slice aa al ac, .slice none 0 0⟩]) us ∧ Moved w M w' M' := by
  obtain ⟨a, cap, rfl, hc, hm⟩ := h.nodes.shape
  have c0 := h.cell0
  have f0 := h.frozen 0
  have hlt : tb < w.heap.size := lt_of_heap h.head
  have H : Hid (Lies w M tb (.slice a ps.length cap) uv ps us) := h
  have HA : Hid (Row w M (.attrs ps.length) 78 2 (.slice aa al ac) at_.length (attrCells at_)) := ha
  clear h ha
  go_enter Tryd.func40, Tryd.ntmps40
  go_wp2
  go_region_law ((refine step_add H.out hn kind tag words aa al ac at_ HA.out _ (by rfl) (by rfl) (by simp [Act.eval]) (by simp [Act.eval]) ?_; intro g cap1 w1 M1 HR hc0 hf0))
  all_goals go_wp2
  all_goals go_ret
  all_goals exact ⟨ret_int (by omega), M1, _, HR.out.1, HR.out.2⟩
end Go.Proofs.YtiikjflaonhfdaaDoor
