/- What makes nodes, and what is kept to undo it. -/
import Derived.Test.YtlfepdecgfcifaaGreatDoorM01
import Derived.Deep.RegionLaw
namespace Go.Proofs.YtlfepdecgfcifaaGreatDoor
open Go.RowKit

theorem Tryz.infoFunc : (Tryz.prog.info? 1).map (fun i => (i.zero, i.size, i.bytes)) = some (some .nilFunc, 1, 8) := by kernel_rfl
theorem Tryz.infoNode : (Tryz.prog.info? 78).map (fun i => (i.zero, i.size, i.bytes)) = some (some (.agg #[.int .i64 0, .string ⟨#[]⟩, .string ⟨#[]⟩, .slice none 0 0, .int .i64 0, .slice none 0 0]), 6, 96) := by kernel_rfl

theorem head_cell {w : World} {tb : Nat} {nv uv : Value} {t : TypeId} (h : w.heap[tb]? = some (.cells #[nv, uv] t (0, 0))) : w.cell? ⟨tb, 0, none⟩ = some nv ∧ w.cell? ⟨tb, 1, none⟩ = some uv ∧ w.frozen? ⟨tb, 0, none⟩ = false ∧ w.frozen? ⟨tb, 1, none⟩ = false := by
  refine ⟨?_, ?_, ?_, ?_⟩
  · rw [cell_of_row w tb 0 _ _ _ h]; rfl
  · rw [cell_of_row w tb 1 _ _ _ h]; rfl
  · simp [World.frozen?, h]
  · simp [World.frozen?, h]

set_option maxHeartbeats 1000000 in
set_option maxRecDepth 100000 in
theorem keep_any {w : World} {M : Nat → Lab} {tb : Nat} {nv uv : Value} {ps : List Pn} {us : List Value} (h : Lies w M tb nv uv ps us) (fn : Fn) (fi ca : Array Value) (hu : us.length ≤ 1099511627776) :
    Calls Tryz.prog 50 #[.pointer (some ⟨tb, 0, none⟩), .func fn fi ca] w fun e w' => e = .returned (.tuple #[]) ∧ ∃ M' uv', Lies w' M' tb nv uv' ps (us ++ [.func fn fi ca]) ∧ Moved w M w' M' := by
  obtain ⟨i0, hi, hz0, hz1, hz2⟩ := info_parts Tryz.infoFunc
  obtain ⟨a, cap, ha, hc, hm⟩ := h.undos.shape
  subst ha
  have c1 := h.cell1
  have H : Hid (Lies w M tb nv (.slice a us.length cap) ps us) := h
  clear h
  go_enter Tryz.func50, Tryz.ntmps50
  go_wp2_with (at_builtin; refine wpList_app_row _ (by rfl) (.tmp 8) (.tmp 10) 80 (by rfl) M .undos 1 i0 .nilFunc 1 8 Tryz.underlying80 hi hz0 hz1 hz2 rfl (by decide) (.slice a us.length cap) us.length us (by rfl) (H.out.alloc _).undos ⟨w.heap.size, 0, none⟩ 1 1 [.func fn fi ca] (by rfl) rfl (cell_one_new _ _ _) (by simp [Value.oneCell']) (by decide) (by unfold maxLen; omega) (by omega) (H.out.alloc _).fresh ?_; intro g cap1 w1 M1 hr st; obtain ⟨hc0, hc1, hf0, hf1⟩ := head_cell ((st.far tb (lt_of_heap (H.out.alloc _).head) (by rw [H.out.tree]; intro e; cases e)).trans (H.out.alloc _).head); have HR : Hid _ := (H.out.alloc _).headUndos (uv' := .slice (some ⟨g, 0, none⟩) (us.length + 1) cap1) (us' := us ++ [.func fn fi ca]) st (by rw [List.length_append]; exact hr); clear hr st)
  go_end0
  exact ⟨rfl, M1, _, HR.out.1, ((Moved.refl _ _).alloc _).trans HR.out.2⟩

/-- a function that unmakes the nodes from a number on -/
def Frg (w : World) (M : Nat → Lab) (f : Value) (tb n : Nat) : Prop :=
  ∃ b1 b2, f = .func (.func 90) #[] #[.pointer (some ⟨b1, 0, none⟩), .pointer (some ⟨b2, 0, none⟩)] ∧ M b1 = .other ∧ M b2 = .other ∧ w.cell? ⟨b1, 0, none⟩ = some (.pointer (some ⟨tb, 0, none⟩)) ∧ w.cell? ⟨b2, 0, none⟩ = some (.int .i64 n)

theorem Frg.moved {w w' : World} {M M' : Nat → Lab} {f : Value} {tb n : Nat} (h : Frg w M f tb n) (m : Moved w M w' M') : Frg w' M' f tb n := by
  obtain ⟨b1, b2, rfl, h1, h2, h3, h4⟩ := h
  have l1 : b1 < w.heap.size := World.block_lt_of_cell? w _ h3
  have l2 : b2 < w.heap.size := World.block_lt_of_cell? w _ h4
  exact ⟨b1, b2, rfl, (m.lab b1 l1).trans h1, (m.lab b2 l2).trans h2, (World.cell?_of_block (a := ⟨b1, 0, none⟩) (m.far b1 l1 h1)).trans h3, (World.cell?_of_block (a := ⟨b2, 0, none⟩) (m.far b2 l2 h2)).trans h4⟩

set_option maxHeartbeats 1000000 in
theorem forget_any {w : World} {M : Nat → Lab} {tb : Nat} {nv uv : Value} {ps : List Pn} {us : List Value} (h : Lies w M tb nv uv ps us) :
    Calls Tryz.prog 76 #[.pointer (some ⟨tb, 0, none⟩)] w fun e w' => ∃ ca, e = .returned (.func (.func 90) #[] ca) ∧ Frg w' M (.func (.func 90) #[] ca) tb ps.length ∧ Below w.heap.size w w' := by
  obtain ⟨a, cap, rfl, hc, hm⟩ := h.nodes.shape
  have c0 := h.cell0
  have hfr := h.fresh
  unfold maxLen at hm
  have H : Hid (∀ b, w.heap.size ≤ b → M b = .other) := hfr
  have hlt : tb < w.heap.size := lt_of_heap h.head
  clear h hfr
  go_enter Tryz.func76, Tryz.ntmps76
  go_wp2
  go_ret
  refine ⟨_, rfl, ⟨_, _, rfl, H.out _ (by simp), H.out _ (by simp), by simp, by simp⟩, ?_⟩
  exact (((Below.refl _ _).alloc (Nat.le_refl _) _).alloc (by simp) _)

theorem node_cells (kind parent : Int) (tag words : ByteArray) (av kv : Value) (at_ : List (ByteArray × ByteArray)) (ks : List Int) : (⟨⟨kind, tag, words, at_, parent, ks⟩, av, kv⟩ : Pn).cells = [.int .i64 kind, .string tag, .string words, av, .int .i64 parent, kv] := rfl

/-- the append of 'add', as one step -/
theorem step_add {w : World} {M : Nat → Lab} {tb : Nat} {uv : Value} {ps : List Pn} {us : List Value} {a : Option Addr} {cap : Nat} (h : Lies w M tb (.slice a ps.length cap) uv ps us) (hn : ps.length ≤ 400) (kind : Int) (tag words : ByteArray) (aa : Option Addr) (al acp : Nat) (at_ : List (ByteArray × ByteArray))
    (ha : Row w M (.attrs ps.length) 51 2 (.slice aa al acp) at_.length (attrCells at_)) (o1 : Obj)
    {ops : Array Oper} {o : Oper} {ac : Act} {K : Act → World → Prop} {Q : Exit → Act → World → Prop} {E : Prop} (hgd : o.guard = none)
    (ho : o.op = .call { callee := .builtin .append, args := #[.tmp 10, .tmp 12], argTypes := #[79, 79] })
    (hs : ac.eval (.tmp 10) = .slice a ps.length cap) (hx : ac.eval (.tmp 12) = .slice (some ⟨w.heap.size + 1, 0, none⟩) 1 1)
    (hK : ∀ g cap1 w1 M1, Hid (Lies (w1.setCell ⟨tb, 0, none⟩ (.slice (some ⟨g, 0, none⟩) (ps.length + 1) cap1)) M1 tb (.slice (some ⟨g, 0, none⟩) (ps.length + 1) cap1) uv (ps ++ [⟨⟨kind, tag, words, at_, -1, []⟩, .slice aa al acp, .slice none 0 0⟩]) us ∧ Moved w M (w1.setCell ⟨tb, 0, none⟩ (.slice (some ⟨g, 0, none⟩) (ps.length + 1) cap1)) M1) →
      w1.cell? ⟨tb, 0, none⟩ = some (.slice a ps.length cap) → w1.frozen? ⟨tb, 0, none⟩ = false → K (ac.put o.dst (.slice (some ⟨g, 0, none⟩) (ps.length + 1) cap1)) w1) :
    if Region.wanted o (yielded ops ac.tmps) = true then Oper.wp Tryz.prog o ac (((w.alloc o1).alloc (.cells #[.int .i64 kind, .string tag, .string words, .slice aa al acp, .int .i64 (-1), .slice none 0 0] 78)).drew) K Q else E := by
  obtain ⟨i0, hi, hz0, hz1, hz2⟩ := info_parts Tryz.infoNode
  have H := ((h.alloc o1).alloc (.cells #[.int .i64 kind, .string tag, .string words, .slice aa al acp, .int .i64 (-1), .slice none 0 0] 78)).drew
  have mv : Moved w M ((w.alloc o1).alloc (.cells #[.int .i64 kind, .string tag, .string words, .slice aa al acp, .int .i64 (-1), .slice none 0 0] 78)).drew M := (((Moved.refl w M).alloc o1).alloc _).drew
  refine step_app_row _ hgd (.tmp 10) (.tmp 12) 79 ho M .nodes 78 i0 _ 6 96 Tryz.underlying79 hi hz0 hz1 hz2 rfl (by decide) (.slice a ps.length cap) ps.length (flat ps) hs H.nodes ⟨w.heap.size + 1, 0, none⟩ 1 1 [.int .i64 kind, .string tag, .string words, .slice aa al acp, .int .i64 (-1), .slice none 0 0] hx rfl (news_two w o1 #[.int .i64 kind, .string tag, .string words, .slice aa al acp, .int .i64 (-1), .slice none 0 0] 78) (by simp [Value.oneCell']) (by decide) (by unfold maxLen; omega) (by omega) H.fresh ?_
  intro g cap1 w1 M1 hr st
  obtain ⟨hc0, hc1, hf0, hf1⟩ := head_cell ((st.far tb (lt_of_heap H.head) (by rw [H.tree]; intro e; cases e)).trans H.head)
  have HR := H.headNodes (nv' := .slice (some ⟨g, 0, none⟩) (ps.length + 1) cap1) (qs := ps ++ [⟨⟨kind, tag, words, at_, -1, []⟩, .slice aa al acp, .slice none 0 0⟩]) st (by rw [List.length_append, flat_append]; exact hr) (by
    intro i p hp
    by_cases hi : i < ps.length
    · rw [List.getElem?_append_left hi] at hp
      exact H.node i p hp
    · rw [List.getElem?_append_right (by omega)] at hp
      have : i - ps.length = 0 := by
        rcases Nat.eq_zero_or_pos (i - ps.length) with e | e
        · exact e
        · rw [List.getElem?_eq_none (by simp; omega)] at hp; cases hp
      rw [this] at hp
      cases hp
      obtain rfl : i = ps.length := by omega
      refine ⟨ha.keep (fun b hb e => ?_) (fun _ _ => rfl), Row.nil _ _ _ _ _⟩
      exact (Below.heap_alloc (w.alloc o1) _ b (by simp; omega)).trans (Below.heap_alloc w o1 b hb))
  exact hK g cap1 w1 M1 ⟨HR.1, mv.trans HR.2⟩ hc0 hf0

set_option maxHeartbeats 2000000 in
set_option maxRecDepth 100000 in
theorem add_any {w : World} {M : Nat → Lab} {tb : Nat} {nv uv : Value} {ps : List Pn} {us : List Value} (h : Lies w M tb nv uv ps us) (hn : ps.length ≤ 400) (kind par : Int) (tag words : ByteArray) (aa : Option Addr) (al ac : Nat) (at_ : List (ByteArray × ByteArray))
    (ha : Row w M (.attrs ps.length) 51 2 (.slice aa al ac) at_.length (attrCells at_)) :
    Calls Tryz.prog 77 #[.pointer (some ⟨tb, 0, none⟩), .agg #[.int .i64 kind, .string tag, .string words, .slice aa al ac, .int .i64 par, .slice none 0 0]] w fun e w' =>
      e = .returned (.int .i64 ps.length) ∧ ∃ M' nv', Lies w' M' tb nv' uv (ps ++ [⟨⟨kind, tag, words, at_, -1, []⟩, .slice aa al ac, .slice none 0 0⟩]) us ∧ Moved w M w' M' := by
  obtain ⟨a, cap, rfl, hc, hm⟩ := h.nodes.shape
  have c0 := h.cell0
  have f0 := h.frozen 0
  have hlt : tb < w.heap.size := lt_of_heap h.head
  have H : Hid (Lies w M tb (.slice a ps.length cap) uv ps us) := h
  have HA : Hid (Row w M (.attrs ps.length) 51 2 (.slice aa al ac) at_.length (attrCells at_)) := ha
  clear h ha
  go_enter Tryz.func77, Tryz.ntmps77
  go_wp2
  go_region_law ((refine step_add H.out hn kind tag words aa al ac at_ HA.out _ (by rfl) (by rfl) (by simp [Act.eval]) (by simp [Act.eval]) ?_; intro g cap1 w1 M1 HR hc0 hf0))
  all_goals go_wp2
  all_goals go_ret
  all_goals exact ⟨ret_int (by omega), M1, _, HR.out.1, HR.out.2⟩
end Go.Proofs.YtlfepdecgfcifaaGreatDoor

/- Which texts are names. -/
namespace Go.Proofs.YtlfepdecgfcifaaGreatDoor
open Go.RowKit

def lowB (b : Int) : Bool := decide (97 ≤ b ∧ b ≤ 122)
def digB (b : Int) : Bool := decide (48 ≤ b ∧ b ≤ 57)
def signB (b : Int) : Bool := lowB b || digB b || b == 45 || b == 95 || b == 58
/-- the document's names -/
def nameB (s : ByteArray) : Bool := decide (0 < s.size) && decide (s.size ≤ 40) && lowB (s.data.toList.headD 0).toNat && s.data.toList.all fun c => signB c.toNat

theorem small_any (b : Int) (w : World) : Calls Tryz.prog 73 #[.int .u8 b] w fun e w' => e = .returned (.bool (lowB b)) ∧ w' = w := by
  go_enter Tryz.func73, Tryz.ntmps73
  go_wp2
  all_goals go_ret
  all_goals refine ⟨ret_bool ?_, rfl⟩
  all_goals (unfold lowB; simp; try omega)
theorem digit_any (b : Int) (w : World) : Calls Tryz.prog 74 #[.int .u8 b] w fun e w' => e = .returned (.bool (digB b)) ∧ w' = w := by
  go_enter Tryz.func74, Tryz.ntmps74
  go_wp2
  all_goals go_ret
  all_goals refine ⟨ret_bool ?_, rfl⟩
  all_goals (unfold digB; simp; try omega)

theorem take_all (s : ByteArray) (k : Nat) (h : k < s.size) (f : UInt8 → Bool) : ((s.data.toList.take (k + 1)).all f) = ((s.data.toList.take k).all f && f s[k]) := by
  rw [List.take_succ_eq_append_getElem (by simpa using h), List.all_append]
  simp
  rfl
theorem nameB_false (s : ByteArray) (k : Nat) (h : k < s.size) (hf : signB s[k].toNat = false) : nameB s = false := by
  have : (s.data.toList.all fun c => signB c.toNat) = false := by
    rw [List.all_eq_false]
    exact ⟨s[k], by exact List.getElem_mem (l := s.data.toList) (by simpa using h), by simpa using hf⟩
  unfold nameB
  rw [this, Bool.and_false]
theorem head_eq (s : ByteArray) (h0 : 0 < s.size) : s.data.toList.headD 0 = s[0] := by
  have hl : 0 < s.data.toList.length := by simpa using h0
  rw [List.headD_eq_head?_getD, List.head?_eq_getElem?, List.getElem?_eq_getElem hl]
  rfl
theorem nameB_low (s : ByteArray) (h0 : 0 < s.size) (h : lowB s[0].toNat = false) : nameB s = false := by
  unfold nameB
  rw [head_eq s h0, h]
  simp
theorem nameB_true (s : ByteArray) (h0 : 0 < s.size) (h1 : s.size ≤ 40) (h2 : lowB s[0].toNat = true) (h3 : (s.data.toList.take s.size).all (fun c => signB c.toNat) = true) : nameB s = true := by
  have e : s.data.toList.take s.size = s.data.toList := List.take_of_length_le (by simp)
  rw [e] at h3
  have e2 : s.data.toList.headD 0 = s[0] := by
    have hl : 0 < s.data.toList.length := by simpa using h0
    rw [List.headD_eq_head?_getD, List.head?_eq_getElem?, List.getElem?_eq_getElem hl]
    rfl
  unfold nameB
  rw [h3, e2, h2]
  simp [h0, h1]

theorem empty_of (s : ByteArray) (h : s.size = 0) : s.toList.isEmpty = true := by
  rw [← decide_eq_emptyBytes, decide_eq_true_eq]
  apply ByteArray.ext
  exact Array.eq_empty_of_size_eq_zero h
theorem not_empty (s : ByteArray) (h : 0 < s.size) : s.toList.isEmpty = false := by
  rw [← decide_eq_emptyBytes, decide_eq_false_iff_not]
  intro e
  subst e
  simp at h

theorem round_up (s : ByteArray) (k : Nat) (h : k < s.size) (ha : Hid ((s.data.toList.take k).all (fun c => signB c.toNat) = true)) (H : Hid (signB s[k].toNat = true)) : Hid ((s.data.toList.take (k + 1)).all (fun c => signB c.toNat) = true) := by
  show (s.data.toList.take (k + 1)).all (fun c => signB c.toNat) = true
  rw [take_all s k h, ha.out, H.out]
  rfl

set_option maxHeartbeats 4000000 in
set_option maxRecDepth 100000 in
theorem name_any (s : ByteArray) (w : World) : Calls Tryz.prog 46 #[.string s] w fun e w' => e = .returned (.bool (nameB s)) ∧ w' = w := by
  by_cases h0 : s.size = 0
  · have hN : nameB s = false := by unfold nameB; simp [h0]
    have H : Hid (nameB s = false) := hN
    clear hN
    have he := empty_of s h0
    go_enter Tryz.func46, Tryz.ntmps46
    go_wp2
    go_ret
    exact ⟨ret_bool H.out.symm, rfl⟩
  · have he := not_empty s (by omega)
    have hp : 0 < s.size := by omega
    by_cases h4 : 40 < s.size
    · have hN : nameB s = false := by unfold nameB; simp [show ¬ s.size ≤ 40 by omega]
      have H : Hid (nameB s = false) := hN
      clear hN
      go_enter Tryz.func46, Tryz.ntmps46
      go_wp2
      all_goals go_ret
      all_goals exact ⟨ret_bool H.out.symm, rfl⟩
    · cases hl : lowB s[0].toNat
      · have H : Hid (nameB s = false) := nameB_low s hp hl
        go_enter Tryz.func46, Tryz.ntmps46
        go_wp2_with (go_at_call 73; refine (small_any _ _).mono ?_; rintro e w' ⟨rfl, rfl⟩; rw [hl])
        all_goals go_ret
        all_goals exact ⟨ret_bool H.out.symm, rfl⟩
      · go_enter Tryz.func46, Tryz.ntmps46
        go_wp2_with (go_at_call 73; refine (small_any _ _).mono ?_; rintro e w' ⟨rfl, rfl⟩; rw [hl])
        go_loop [19] (fun i => ∃ k : Nat, k ≤ s.size ∧ i = .int .i64 k ∧ Hid ((s.data.toList.take k).all (fun c => signB c.toNat) = true)) (fun i => s.size - (intOf i).toNat)
        case atStart => exact ⟨0, by omega, rfl, (show ((s.data.toList.take 0).all (fun c => signB c.toNat) = true) by simp)⟩
        case round =>
          obtain ⟨k, hk, rfl, ha⟩ := hrel
          by_cases hlt : k < s.size
          · cases hs : signB s[k].toNat
            · have H : Hid (nameB s = false) := nameB_false s k hlt hs
              unfold signB at hs
              simp only [Bool.or_eq_false_iff, beq_eq_false_iff_ne, ne_eq] at hs
              obtain ⟨⟨⟨⟨q1, q2⟩, q3⟩, q4⟩, q5⟩ := hs
              go_wp2_with (first | (go_at_call 73; refine (small_any _ _).mono ?_; rintro e w' ⟨rfl, rfl⟩; rw [q1]) | (go_at_call 74; refine (digit_any _ _).mono ?_; rintro e w' ⟨rfl, rfl⟩; rw [q2]))
              all_goals go_light
              all_goals first | (go_ret; exact ⟨ret_bool H.out.symm, rfl⟩) | (rename_i hh; exfalso; rcases hh with (hh | hh) | hh <;> simp at hh <;> omega)
            · have H : Hid (signB s[k].toNat = true) := hs
              clear hs
              go_wp2_with (first | (go_at_call 73; refine (small_any _ _).mono ?_; rintro e w' ⟨rfl, rfl⟩; cases q1 : lowB s[k].toNat) | (go_at_call 74; refine (digit_any _ _).mono ?_; rintro e w' ⟨rfl, rfl⟩; cases q2 : digB s[k].toNat))
              all_goals go_light
              all_goals first | (refine ⟨⟨k + 1, by omega, by go_num, round_up s k hlt ha H⟩, ?_⟩; simp [intOf]; omega) | (rename_i h1 h2 hh; exfalso; have hs := H.out; unfold signB at hs; simp [*] at hs; simp at hh; omega)
          · have hke : k = s.size := by omega
            have H : Hid (nameB s = true) := nameB_true s hp (by omega) hl (by rw [← hke]; exact ha.out)
            go_wp2
            go_ret
            exact ⟨ret_bool H.out.symm, rfl⟩
end Go.Proofs.YtlfepdecgfcifaaGreatDoor
