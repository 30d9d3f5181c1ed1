/- The document's answer: what is kept of what was; new nodes. -/
import Derived.Test.YtlfepdecgfcifaaGreatDoorM04
import Derived.Deep.RegionLaw
import Derived.Test.YtlfepdecgfcifaaGreatDoorM03
import Derived.BigRegion
import Derived.LoopN
namespace Go.Proofs.YtlfepdecgfcifaaGreatDoor
open Go.RowKit

section
variable {P : Program}
/-- a call of a function that has a body -/
theorem run_enter {f : FuncId} {fn : Func} {c : Code} (hf : P.funcs[f]? = some fn) (hname : (fn.name == "runtime.NumGoroutine") = false) (hb : fn.body = some c) (args : Array Value) (w : World) :
    (callFunc f args).run P w = .ok (.enter f args) w := by
  have h1 : fn.name ≠ "runtime.NumGoroutine" := by simpa using hname
  simp [callFunc, Sem.run_bind, hf, h1, hb]

/-- a call of a function at a step of a region that draws its order -/
theorem step_call (w : World) {ops : Array Oper} {o : Oper} {a : Act} {K : Act → World → Prop} {Q : Exit → Act → World → Prop} {E : Prop} (hgd : o.guard = none) (f : FuncId) (xs : List Operand) (ts : Array TypeId)
    (ho : o.op = .call { callee := .value (.func f), args := xs.toArray, argTypes := ts }) {fn : Func} {c : Code} (hf : P.funcs[f]? = some fn) (hname : (fn.name == "runtime.NumGoroutine") = false) (hb : fn.body = some c)
    (xv : List Value) (hx : xs.map a.eval = xv) {R : Ending → World → Prop} (h : Calls P f xv.toArray w R)
    (hR : ∀ e w', R e w' → ∃ v, e = .returned v ∧ K (a.put o.dst v) w') :
    if Region.wanted o (yielded ops a.tmps) = true then Oper.wp P o a w K Q else E := by
  have hw : Region.wanted o (yielded ops a.tmps) = true := by simp [Region.wanted, hgd]
  rw [if_pos hw]
  unfold Oper.wp execOp
  have hr : ∀ w, (Deferred.ofValue (a.eval (Operand.func f)) xv.toArray).run P w = .ok ⟨.fn (.func f) #[], xv.toArray⟩ w := fun w => by
    simp [go_sem, Deferred.ofValue, Act.eval]
  simp only [ho, resolve, invoke, Sem.run_bind, List.map_toArray, hx, hr, Result.andThen_ok, run_enter hf hname hb, Array.append_empty]
  rw [Oper.upon_enter]
  refine h.mono fun e w' hRe => ?_
  obtain ⟨v, rfl, hv⟩ := hR e w' hRe
  exact hv
end

/-- what was is kept -/
def RKept (w : World) (M : Nat → Lab) (tb : Nat) (nv : Value) (ps : List Pn) (us : List Value) (e : Ending) (w' : World) : Prop :=
  e = .returned (.tuple #[]) ∧ ∃ M' uv' v, RLies w' M' tb nv uv' ps (us ++ [v]) ∧ Moved w M w' M'

set_option maxHeartbeats 4000000 in
set_option maxRecDepth 100000 in
theorem rkeep_any {w : World} {M : Nat → Lab} {tb : Nat} {nv uv : Value} {ps : List Pn} {us : List Value} (h : RLies w M tb nv uv ps us) (hs : Small ps) (hn : ps.length ≤ 1000000) (hu : us.length ≤ 1000000000) :
    Calls Tryz.prog 59 #[.pointer (some ⟨tb, 0, none⟩)] w (RKept w M tb nv ps us) := by
  obtain ⟨i0, hi, hz0, hz1, hz2⟩ := info_parts Tryz.infoRnodes
  obtain ⟨a, cap, ha, hc, hm⟩ := h.undos.shape
  subst ha
  have c0 := h.cell0
  have c1 := h.cell1
  have hlt : tb < w.heap.size := lt_of_heap h.head
  have H : Hid (RLies w M tb nv (.slice a us.length cap) ps us) := h
  have HS : Hid (Small ps) := hs
  clear h hs
  go_enter Tryz.func59, Tryz.ntmps59
  go_wp2
  go_region_law ((first
    | (refine step_call _ (by rfl) 83 [.tmp 10] #[26] (by rfl) Tryz.func83 (by kernel_rfl) (by rfl) [nv] (by simp [Act.eval]) (copied_any H.out.drew HS.out hn) ?_
       rintro e w1 ⟨a1, n1, e1, rfl, hB1⟩
       refine ⟨_, rfl, ?_⟩
       have H1 : Hid (RLies w1 M tb nv (.slice a us.length cap) ps us) := H.out.drew.below hB1
       have q0 := H1.out.cell0
       have q1 := H1.out.cell1
       have hl1 : tb < w1.heap.size := lt_of_heap H1.out.head
       have HB1 : Hid (Below w.heap.size w w1) := (Below.refl _ _).drew.trans hB1
       clear hB1)
    | (refine step_app_row _ (by rfl) (.tmp 6) (.tmp 12) 27 (by rfl) M .undos 26 i0 (.slice none 0 0) 1 24 Tryz.underlying27 hi hz0 hz1 hz2 rfl (by decide) (.slice a us.length cap) us.length us (by simp [Act.eval]) (H1.out.alloc _).undos ⟨w1.heap.size, 0, none⟩ 1 1 [.slice a1 n1 e1] (by simp [Act.eval]) rfl (cell_one_new _ _ _) (by simp [Value.oneCell']) (by decide) (by unfold maxLen; omega) (by omega) (H1.out.alloc _).fresh ?_
       intro g cap1 w2 M2 hr st
       obtain ⟨hc0, hc1, hf0, hf1⟩ := head_cell ((st.far tb (lt_of_heap (H1.out.alloc _).head) (by rw [H1.out.tree]; intro e; cases e)).trans (H1.out.alloc _).head)
       have HR : Hid _ := (H1.out.alloc _).headUndos (uv' := .slice (some ⟨g, 0, none⟩) (us.length + 1) cap1) (us' := us ++ [.slice a1 n1 e1]) st (by rw [List.length_append]; exact hr)
       clear hr st)))
  all_goals go_wp2
  all_goals go_end0
  all_goals exact ⟨rfl, M2, _, _, HR.out.1, (((Moved.refl _ _).below HB1.out).alloc _).trans HR.out.2⟩

theorem rhas_any {w : World} {M : Nat → Lab} {tb : Nat} {nv uv : Value} {ps : List Pn} {us : List Value} (h : RLies w M tb nv uv ps us) (id : Int) :
    Calls Tryz.prog 45 #[.pointer (some ⟨tb, 0, none⟩), .int .i64 id] w fun e w' => e = .returned (.bool (hasB ps.length id)) ∧ w' = w := by
  obtain ⟨a, cap, rfl, hc, hm⟩ := h.nodes.shape
  have c0 := h.cell0
  unfold maxLen at hm
  go_enter Tryz.func45, Tryz.ntmps45
  go_wp2
  all_goals go_ret
  all_goals refine ⟨ret_bool ?_, rfl⟩
  all_goals (unfold hasB; simp; try omega)
end Go.Proofs.YtlfepdecgfcifaaGreatDoor

/- The document's answer: which texts are names. -/
namespace Go.Proofs.YtlfepdecgfcifaaGreatDoor
open Go.RowKit

theorem sign_parts (c : Nat) : (signB c = true) ↔ ((97 ≤ c ∧ c ≤ 122) ∨ (48 ≤ c ∧ c ≤ 57) ∨ c = 45 ∨ c = 95 ∨ c = 58) := by
  unfold signB lowB digB
  simp
  omega
theorem low_parts (c : Nat) : (lowB c = true) ↔ (97 ≤ c ∧ c ≤ 122) := by
  unfold lowB
  simp
  omega

/-- a sign that may stand there -/
def mayB (k : Nat) (c : Nat) : Prop := (97 ≤ c ∧ c ≤ 122) ∨ (0 < k ∧ ((48 ≤ c ∧ c ≤ 57) ∨ c = 45 ∨ c = 95 ∨ c = 58))

set_option maxHeartbeats 8000000 in
set_option maxRecDepth 100000 in
theorem isName_any (s : ByteArray) (w : World) : Calls Tryz.prog 27 #[.string s] w fun e w' => e = .returned (.bool (nameB s)) ∧ w' = w := by
  by_cases h0 : s.size = 0
  · have H : Hid (nameB s = false) := by show nameB s = false; unfold nameB; simp [h0]
    go_enter Tryz.func27, Tryz.ntmps27
    go_wp2
    all_goals go_ret
    all_goals exact ⟨ret_bool H.out.symm, rfl⟩
  by_cases h4 : 40 < s.size
  · have H : Hid (nameB s = false) := by show nameB s = false; unfold nameB; simp [show ¬ s.size ≤ 40 by omega]
    go_enter Tryz.func27, Tryz.ntmps27
    go_wp2
    all_goals go_ret
    all_goals exact ⟨ret_bool H.out.symm, rfl⟩
  have hp : 0 < s.size := by omega
  have h0b : ((s.size : Int) == 0) = false := by rw [beq_eq_false_iff_ne]; omega
  have h0c : (s.size == 0) = false := by rw [beq_eq_false_iff_ne]; omega
  go_enter Tryz.func27, Tryz.ntmps27
  go_wp2
  go_loop [3] (fun i => ∃ k : Nat, k ≤ s.size ∧ i = .int .i64 k ∧ Hid ((s.data.toList.take k).all (fun c => signB c.toNat) = true ∧ (0 < k → lowB s[0].toNat = true))) (fun i => s.size - (intOf i).toNat)
  case atStart => exact ⟨0, by omega, rfl, (show ((s.data.toList.take 0).all (fun c => signB c.toNat) = true) ∧ (0 < 0 → lowB s[0].toNat = true) from ⟨by simp, fun h => absurd h (by omega)⟩)⟩
  case round =>
    obtain ⟨k, hk, rfl, ha⟩ := hrel
    by_cases hlt : k < s.size
    · obtain ⟨c, hc⟩ : ∃ c, s[k].toNat = c := ⟨_, rfl⟩
      by_cases hok : mayB k c
      · have H : Hid ((s.data.toList.take (k + 1)).all (fun c => signB c.toNat) = true ∧ (0 < k + 1 → lowB s[0].toNat = true)) := by
          have e1 : signB s[k].toNat = true := by rw [hc, sign_parts]; unfold mayB at hok; omega
          refine ⟨round_up s k hlt ha.out.1 e1, fun _ => ?_⟩
          by_cases hk0 : k = 0
          · subst hk0
            rw [low_parts, hc]
            unfold mayB at hok
            omega
          · exact ha.out.2 (by omega)
        have HOK : Hid (mayB k c) := hok
        clear hok
        go_wp2
        all_goals go_light
        all_goals first
          | (refine ⟨⟨k + 1, by omega, by go_num, H⟩, ?_⟩; simp [intOf]; omega)
          | (exfalso; have hq := HOK.out; unfold mayB at hq; simp_all; done)
          | (exfalso; have hq := HOK.out; unfold mayB at hq; simp_all; omega)
      · have H : Hid (nameB s = false) := by
          by_cases hs : signB s[k].toNat = true
          · rw [hc, sign_parts] at hs
            obtain rfl : k = 0 := by unfold mayB at hok; omega
            refine nameB_low s hp ?_
            cases hl : lowB s[0].toNat
            · rfl
            · rw [low_parts, hc] at hl
              exact absurd (.inl hl) hok
          · exact nameB_false s k hlt (by simpa using hs)
        have HOK : Hid (¬ mayB k c) := hok
        clear hok
        go_wp2
        all_goals go_light
        all_goals first
          | (go_ret; exact ⟨ret_bool H.out.symm, rfl⟩)
          | (exfalso; have hq := HOK.out; unfold mayB at hq; simp_all; done)
          | (exfalso; have hq := HOK.out; unfold mayB at hq; simp_all; omega)
    · have hke : k = s.size := by omega
      have H : Hid (nameB s = true) := nameB_true s hp (by omega) (ha.out.2 (by omega)) (by rw [← hke]; exact ha.out.1)
      go_wp2
      go_ret
      exact ⟨ret_bool H.out.symm, rfl⟩
end Go.Proofs.YtlfepdecgfcifaaGreatDoor

/- The document's answer: a new tree, a new node. -/
namespace Go.Proofs.YtlfepdecgfcifaaGreatDoor
open Go.RowKit

theorem RLies.setOther {w : World} {M : Nat → Lab} {tb : Nat} {nv uv : Value} {ps : List Pn} {us : List Value} (h : RLies w M tb nv uv ps us) {g : Nat} (hM : M g = .other) (j : Nat) (v : Value) : RLies (w.setCell ⟨g, j, none⟩ v) M tb nv uv ps us :=
  h.far (by simp [World.setCell]) (fun b _ hne => Below.heap_setCell w _ v b (fun e => hne (by rw [e]; exact hM)))
theorem Moved.setOther {w w' : World} {M M' : Nat → Lab} (h : Moved w M w' M') {g : Nat} (hg : w.heap.size ≤ g) (j : Nat) (v : Value) : Moved w M (w'.setCell ⟨g, j, none⟩ v) M' :=
  ⟨h.os, h.tape, h.output, by simp [World.setCell]; exact h.size, h.lab, fun b hb ho => (Below.heap_setCell w' _ v b (by show b ≠ g; omega)).trans (h.far b hb ho)⟩

/-- the append of 'Make', as one step -/
theorem rstep_add {w : World} {M : Nat → Lab} {tb : Nat} {uv : Value} {ps : List Pn} {us : List Value} {a : Option Addr} {cap : Nat} (h : RLies w M tb (.slice a ps.length cap) uv ps us) (hn : ps.length ≤ 400) (kind : Int) (tag words : ByteArray) (aa : Option Addr) (al acp : Nat) (at_ : List (ByteArray × ByteArray))
    (ha : Row w M (.attrs ps.length) 51 2 (.slice aa al acp) at_.length (attrCells at_)) (o1 : Obj)
    {ops : Array Oper} {o : Oper} {ac : Act} {K : Act → World → Prop} {Q : Exit → Act → World → Prop} {E : Prop} (hgd : o.guard = none)
    (ho : o.op = .call { callee := .builtin .append, args := #[.tmp 47, .tmp 49], argTypes := #[26, 26] })
    (hs : ac.eval (.tmp 47) = .slice a ps.length cap) (hx : ac.eval (.tmp 49) = .slice (some ⟨w.heap.size + 1, 0, none⟩) 1 1)
    (hK : ∀ g cap1 w1 M1, Hid (RLies (w1.setCell ⟨tb, 0, none⟩ (.slice (some ⟨g, 0, none⟩) (ps.length + 1) cap1)) M1 tb (.slice (some ⟨g, 0, none⟩) (ps.length + 1) cap1) uv (ps ++ [⟨⟨kind, tag, words, at_, -1, []⟩, .slice aa al acp, .slice none 0 0⟩]) us ∧ Moved w M (w1.setCell ⟨tb, 0, none⟩ (.slice (some ⟨g, 0, none⟩) (ps.length + 1) cap1)) M1) →
      w1.cell? ⟨tb, 0, none⟩ = some (.slice a ps.length cap) → w1.frozen? ⟨tb, 0, none⟩ = false → K (ac.put o.dst (.slice (some ⟨g, 0, none⟩) (ps.length + 1) cap1)) w1) :
    if Region.wanted o (yielded ops ac.tmps) = true then Oper.wp Tryz.prog o ac (((w.alloc o1).alloc (.cells #[.int .i64 kind, .string tag, .string words, .slice aa al acp, .int .i64 (-1), .slice none 0 0] 62)).drew) K Q else E := by
  obtain ⟨i0, hi, hz0, hz1, hz2⟩ := info_parts Tryz.infoRnode
  have H := ((h.alloc o1).alloc (.cells #[.int .i64 kind, .string tag, .string words, .slice aa al acp, .int .i64 (-1), .slice none 0 0] 62)).drew
  have mv : Moved w M ((w.alloc o1).alloc (.cells #[.int .i64 kind, .string tag, .string words, .slice aa al acp, .int .i64 (-1), .slice none 0 0] 62)).drew M := (((Moved.refl w M).alloc o1).alloc _).drew
  refine step_app_row _ hgd (.tmp 47) (.tmp 49) 26 ho M .nodes 62 i0 _ 6 96 Tryz.underlying26 hi hz0 hz1 hz2 rfl (by decide) (.slice a ps.length cap) ps.length (flat ps) hs H.nodes ⟨w.heap.size + 1, 0, none⟩ 1 1 [.int .i64 kind, .string tag, .string words, .slice aa al acp, .int .i64 (-1), .slice none 0 0] hx rfl (news_two w o1 #[.int .i64 kind, .string tag, .string words, .slice aa al acp, .int .i64 (-1), .slice none 0 0] 62) (by simp [Value.oneCell']) (by decide) (by unfold maxLen; omega) (by omega) H.fresh ?_
  intro g cap1 w1 M1 hr st
  obtain ⟨hc0, hc1, hf0, hf1⟩ := head_cell ((st.far tb (lt_of_heap H.head) (by rw [H.tree]; intro e; cases e)).trans H.head)
  have HR := H.headNodes (nv' := .slice (some ⟨g, 0, none⟩) (ps.length + 1) cap1) (qs := ps ++ [⟨⟨kind, tag, words, at_, -1, []⟩, .slice aa al acp, .slice none 0 0⟩]) st (by rw [List.length_append, flat_append]; exact hr) (by
    intro i p hp
    by_cases hi : i < ps.length
    · rw [List.getElem?_append_left hi] at hp
      exact H.node i p hp
    · rw [List.getElem?_append_right (by omega)] at hp
      have : i - ps.length = 0 := by
        rcases Nat.eq_zero_or_pos (i - ps.length) with e | e
        · exact e
        · rw [List.getElem?_eq_none (by simp; omega)] at hp; cases hp
      rw [this] at hp
      cases hp
      obtain rfl : i = ps.length := by omega
      refine ⟨ha.keep (fun b hb e => ?_) (fun _ _ => rfl), Row.nil _ _ _ _ _⟩
      exact (Below.heap_alloc (w.alloc o1) _ b (by simp; omega)).trans (Below.heap_alloc w o1 b hb))
  exact hK g cap1 w1 M1 ⟨HR.1, mv.trans HR.2⟩ hc0 hf0

/-- a node was made -/
def RMade (w : World) (M : Nat → Lab) (tb : Nat) (ps : List Pn) (us : List Value) (p : Pn) (e : Ending) (w' : World) : Prop :=
  e = .returned (.tuple #[.int .i64 ps.length, .int .i64 0]) ∧ ∃ M' nv' uv' v, RLies w' M' tb nv' uv' (ps ++ [p]) (us ++ [v]) ∧ Moved w M w' M'

set_option maxHeartbeats 4000000 in
set_option maxRecDepth 100000 in
theorem rmake_elem {w : World} {M : Nat → Lab} {tb : Nat} {nv uv : Value} {ps : List Pn} {us : List Value} (h : RLies w M tb nv uv ps us) (hs : Small ps) (hn : ps.length < 400) (hu : us.length ≤ 1000000000) (s : ByteArray) (hN : nameB s = true) :
    Calls Tryz.prog 28 #[.pointer (some ⟨tb, 0, none⟩), .int .i64 2, .string s] w (RMade w M tb ps us (newP 2 s ⟨#[]⟩)) := by
  obtain ⟨a, cap, rfl, hc, hm⟩ := h.nodes.shape
  have c0 := h.cell0
  have H : Hid (RLies w M tb (.slice a ps.length cap) uv ps us) := h
  have HS : Hid (Small ps) := hs
  have hlt : tb < w.heap.size := lt_of_heap h.head
  unfold maxLen at hm
  clear h hs
  go_enter Tryz.func28, Tryz.ntmps28
  go_wp2_with (first
    | (go_at_call 27; refine (isName_any _ _).mono ?_; rintro e w' ⟨rfl, rfl⟩; rw [hN])
    | (go_at_call 59; refine (rkeep_any H.out HS.out (by omega) hu).mono ?_; rintro e w1 ⟨rfl, M1, uv1, v1, l1, m1⟩
       have H1 : Hid _ := And.intro l1 m1
       have q0 := l1.cell0
       have hl1 : tb < w1.heap.size := lt_of_heap l1.head
       clear l1 m1))
  go_region_law ((refine rstep_add H1.out.1 (by omega) 2 s ⟨#[]⟩ none 0 0 [] (Row.nil _ _ _ _ _) _ (by rfl) (by rfl) (by simp [Act.eval]) (by simp [Act.eval]) ?_; intro g cap1 w2 M2 HR hc0 hf0))
  all_goals (have hcc := HR.out.1.cell0)
  all_goals go_wp2
  all_goals go_ret2
  all_goals exact ⟨by go_light; first | rfl | (congr 3; done), M2, _, uv1, v1, HR.out.1, H1.out.2.trans HR.out.2⟩
set_option maxHeartbeats 4000000 in
set_option maxRecDepth 100000 in
theorem rmake_other {w : World} {M : Nat → Lab} {tb : Nat} {nv uv : Value} {ps : List Pn} {us : List Value} (h : RLies w M tb nv uv ps us) (hs : Small ps) (hn : ps.length < 400) (hu : us.length ≤ 1000000000) (s : ByteArray) (kind : Int) (hk : ¬ kind = 2) (hN : s.size ≤ 20000) :
    Calls Tryz.prog 28 #[.pointer (some ⟨tb, 0, none⟩), .int .i64 kind, .string s] w (RMade w M tb ps us (newP kind ⟨#[]⟩ s)) := by
  obtain ⟨a, cap, rfl, hc, hm⟩ := h.nodes.shape
  have c0 := h.cell0
  have hkb : (kind == 2) = false := by rw [beq_eq_false_iff_ne]; exact hk
  have H : Hid (RLies w M tb (.slice a ps.length cap) uv ps us) := h
  have HS : Hid (Small ps) := hs
  have hlt : tb < w.heap.size := lt_of_heap h.head
  unfold maxLen at hm
  clear h hs
  go_enter Tryz.func28, Tryz.ntmps28
  go_wp2_with (first
    | (go_at_call 27; refine (isName_any _ _).mono ?_; rintro e w' ⟨rfl, rfl⟩; cases hq : nameB s)
    | (go_at_call 59; refine (rkeep_any H.out HS.out (by omega) hu).mono ?_; rintro e w1 ⟨rfl, M1, uv1, v1, l1, m1⟩
       have H1 : Hid _ := And.intro l1 m1
       have q0 := l1.cell0
       have hl1 : tb < w1.heap.size := lt_of_heap l1.head
       clear l1 m1))
  all_goals go_region_law ((refine rstep_add H1.out.1 (by omega) kind ⟨#[]⟩ s none 0 0 [] (Row.nil _ _ _ _ _) _ (by rfl) (by rfl) (by simp [Act.eval]) (by simp [Act.eval]) ?_; intro g cap1 w2 M2 HR hc0 hf0))
  all_goals (have hcc := HR.out.1.cell0)
  all_goals go_wp2
  all_goals go_ret2
  all_goals exact ⟨by go_light; first | rfl | (congr 3; done), M2, _, uv1, v1, HR.out.1, H1.out.2.trans HR.out.2⟩
end Go.Proofs.YtlfepdecgfcifaaGreatDoor

/- The document's answer: where an attribute stands; a list without a number; lists that were just made become a tree's. -/
namespace Go.Proofs.YtlfepdecgfcifaaGreatDoor
open Go.RowKit

set_option maxHeartbeats 4000000 in
set_option maxRecDepth 100000 in
theorem at_any {w : World} {M : Nat → Lab} {l : Lab} {v : Value} {at_ : List (ByteArray × ByteArray)} (h : Row w M l 51 2 v at_.length (attrCells at_)) (name : ByteArray) :
    Calls Tryz.prog 60 #[v, .string name] w fun e w' => e = .returned (.int .i64 (findI at_ name)) ∧ w' = w := by
  obtain ⟨a, cap, rfl, h1, h2⟩ := h.shape
  have hcell : Hid (∀ k x, at_[k]? = some x → ∃ g, a = some ⟨g, 0, none⟩ ∧ w.cell? ⟨g, k * 2, none⟩ = some (.string x.1)) := by
    intro k x hk
    have hkl : k < at_.length := (List.getElem?_eq_some_iff.1 hk).1
    obtain ⟨g, c, hv, _, _, _, hg⟩ := h.form (by omega)
    cases hv
    obtain ⟨q1, q2⟩ := attrCells_get at_ k x hk
    exact ⟨g, rfl, (h.cell rfl q1).1⟩
  unfold maxLen at h2
  clear h
  go_enter Tryz.func60, Tryz.ntmps60
  go_wp2
  go_loop [5] (fun i => ∃ k : Nat, k ≤ at_.length ∧ i = .int .i64 k ∧ Hid (∀ j, j < k → ∀ y, at_[j]? = some y → eqS y.1 name = false)) (fun i => at_.length - (intOf i).toNat)
  case atStart => exact ⟨0, by omega, rfl, (fun j hj => absurd hj (by omega) : ∀ j, j < 0 → ∀ y, at_[j]? = some y → eqS y.1 name = false)⟩
  case round =>
    obtain ⟨k, hk, rfl, hno⟩ := hrel
    by_cases hkl : k < at_.length
    · obtain ⟨x, hx⟩ : ∃ x, at_[k]? = some x := ⟨_, List.getElem?_eq_getElem hkl⟩
      obtain ⟨g, rfl, c1⟩ := hcell.out k x hx
      cases he : eqS x.1 name
      · have HN : Hid (∀ j, j < k + 1 → ∀ y, at_[j]? = some y → eqS y.1 name = false) := by
          intro j hj y hy
          by_cases hjk : j = k
          · subst hjk; obtain rfl := Option.some.inj (hy.symm.trans hx); exact he
          · exact hno.out j (by omega) y hy
        unfold eqS at he
        clear hx
        go_wp2
        go_round
        case rel => exact ⟨k + 1, by omega, by go_num, HN⟩
        case measure => simp [intOf]; omega
      · have HF : Hid (findI at_ name = k) := by
          show findI at_ name = k
          simp only [findI, findI_some hx he hno.out]
        unfold eqS at he
        clear hx
        go_wp2
        go_ret
        exact ⟨ret_int HF.out.symm, rfl⟩
    · have HF : Hid (findI at_ name = -1) := by
        show findI at_ name = -1
        simp only [findI, findI_none (fun j hj => hno.out j (by omega))]
      go_wp2
      go_ret
      exact ⟨ret_int HF.out.symm, rfl⟩

/-- a list without a number -/
def outOf (l : List Int) (x : Int) : List Int := l.filter fun y => y != x
theorem outOf_none {l : List Int} {x : Int} (h : x ∉ l) : outOf l x = l := by
  unfold outOf
  rw [List.filter_eq_self]
  intro y hy
  simp only [bne_iff_ne, ne_eq]
  exact fun e => h (e ▸ hy)
theorem outOf_take {l : List Int} {k : Nat} {y x : Int} (h : l[k]? = some y) : outOf (l.take (k + 1)) x = outOf (l.take k) x ++ (if y = x then [] else [y]) := by
  obtain ⟨hk, rfl⟩ := List.getElem?_eq_some_iff.1 h
  unfold outOf
  rw [List.take_succ_eq_append_getElem hk, List.filter_append]
  congr 1
  by_cases e : l[k] = x
  · simp [e]
  · simp [e]

set_option maxHeartbeats 4000000 in
set_option maxRecDepth 100000 in
theorem without_any {w : World} {M : Nat → Lab} {l : Lab} {v : Value} {n : Nat} {xs : List Int} (h : Row w M l 3 1 v n (xs.map intV)) (x : Int) (hn : n ≤ 1099511627776) :
    Calls Tryz.prog 62 #[v, .int .i64 x] w fun e w' => ∃ v', e = .returned v' ∧ w'.ownsRow w.heap.size 3 1 v' (outOf xs x).length ((outOf xs x).map intV) ∧ Below w.heap.size w w' := by
  obtain ⟨i0, hi, hz0, hz1, hz2⟩ := info_parts Tryz.infoInt
  have hln : xs.length = n := by have := h.1; simpa using this
  subst hln
  obtain ⟨a, cap, rfl, h1, h2⟩ := h.shape
  have hcell : Hid (∀ (k : Nat) y, xs[k]? = some y → ∃ g, a = some ⟨g, 0, none⟩ ∧ g < w.heap.size ∧ w.cell? ⟨g, k, none⟩ = some (.int .i64 y)) := by
    intro k y hk
    have hkl : k < xs.length := (List.getElem?_eq_some_iff.1 hk).1
    obtain ⟨g, c, hv, _, _, _, hg⟩ := h.form (by omega)
    cases hv
    exact ⟨g, rfl, hg, (h.cell rfl (j := k) (u := .int .i64 y) (by simp [hk, intV])).1⟩
  unfold maxLen at h2
  clear h
  go_enter Tryz.func62, Tryz.ntmps62
  go_wp2
  go_loopw [5, 6] (fun out i wr => ∃ k : Nat, k ≤ xs.length ∧ i = .int .i64 k ∧ Hid (wr.ownsRow w.heap.size 3 1 out (outOf (xs.take k) x).length ((outOf (xs.take k) x).map intV)) ∧ Hid (Below w.heap.size w wr)) (fun _ i _ => xs.length - (intOf i).toNat)
  case atStart => exact ⟨0, by omega, rfl, (show w.ownsRow w.heap.size 3 1 (.slice none 0 0) (outOf (xs.take 0) x).length ((outOf (xs.take 0) x).map intV) by simp [outOf]; exact World.ownsRow_nil _ _ _ _), Below.refl _ _⟩
  case round =>
    obtain ⟨k, hk, rfl, hown, hbel⟩ := hrel
    by_cases hlt : k < xs.length
    · obtain ⟨y, hy⟩ : ∃ y, xs[k]? = some y := ⟨_, List.getElem?_eq_getElem hlt⟩
      obtain ⟨g, rfl, hg, c1⟩ := hcell.out k y hy
      have c1' := (hbel.out.cell (p := ⟨g, k, none⟩) hg).trans c1
      have hll : (outOf (xs.take k) x).length ≤ xs.length := Nat.le_trans (List.length_filter_le _ _) (by simp; omega)
      have HT : Hid _ := outOf_take (x := x) hy
      have hgl := Nat.lt_of_lt_of_le hg hbel.out.size
      have hsz := hbel.out.size
      clear hy c1
      by_cases hyx : y = x
      · have hb1 : (y != x) = false := by simp [hyx]
        subst hyx
        go_wp2
        go_roundw
        case rel => exact ⟨k + 1, by omega, by go_num, (by rw [HT.out, if_pos rfl, List.append_nil]; exact hown), hbel⟩
        case measure => simp [intOf]; omega
      · have hb1 : (y != x) = true := by simp [hyx]
        have hb2 : (y == x) = false := by simp [hyx]
        go_wp2_with (at_builtin; refine wpList_app_own _ (by rfl) _ _ 32 (by rfl) w.heap.size 3 i0 (.int .i64 0) 1 8 Tryz.underlying32 hi hz0 hz1 hz2 rfl (by decide) u5 _ _ (by rfl) (hown.out.alloc _) _ 1 [.int .i64 y] (by rfl) ⟨rfl, by simp [Value.oneCell'], _, _, rfl, .inr ⟨_, rfl, cell_one_new _ _ _⟩⟩ (by unfold maxLen; omega) (by omega) (by simp; omega) ?_; intro v1 w1 hv1 hg1 _; have HV : Hid _ := And.intro hv1 hg1; clear hv1 hg1)
        go_roundw
        case rel =>
          go_light
          refine ⟨k + 1, by omega, by go_num, ?_, ?_⟩
          · show _
            rw [HT.out, if_neg hyx, List.length_append, List.map_append]
            exact HV.out.1
          · exact (hbel.out.alloc hsz _).grown HV.out.2 (by simp; omega) (fun b hb => (hown.out.lt b hb).1)
        case measure => go_light; simp [intOf]; omega
    · obtain rfl : k = xs.length := by omega
      rw [List.take_length] at hown
      obtain ⟨a5, e5, hv5⟩ := own_shape hown.out
      subst hv5
      go_wp2
      go_ret
      exact ⟨_, rfl, hown.out, hbel.out⟩

/-- a block that is another's becomes the tree's -/
theorem RLies.relabel {w : World} {M : Nat → Lab} {tb : Nat} {nv uv : Value} {ps : List Pn} {us : List Value} (h : RLies w M tb nv uv ps us) {g : Nat} (hM : M g = .other) (hg : g < w.heap.size) (l : Lab) : RLies w (fun b => if b = g then l else M b) tb nv uv ps us := by
  have ne : ∀ b, M b ≠ .other → b ≠ g := fun b hb e => hb (by rw [e]; exact hM)
  have rw' : ∀ {k : Lab} {e : TypeId} {size n : Nat} {v : Value} {xs : List Value}, k ≠ .other → Row w M k e size v n xs → Row w (fun b => if b = g then l else M b) k e size v n xs := by
    intro k e size n v xs hk hr
    obtain ⟨hl, a, cap, rfl, h1, h2, h3⟩ := hr
    refine ⟨hl, a, cap, rfl, h1, h2, ?_⟩
    rcases h3 with h3 | ⟨g', cur, rfl, hM', hg', h4, h5⟩
    · exact .inl h3
    · refine .inr ⟨g', cur, rfl, ?_, hg', h4, h5⟩
      have : g' ≠ g := ne g' (by rw [hM']; exact hk)
      simp only [if_neg this]
      exact hM'
  refine ⟨fun b hb => ?_, ?_, h.head, rw' (by intro e; cases e) h.nodes, rw' (by intro e; cases e) h.undos, fun i p hp => ⟨rw' (by intro e; cases e) (h.node i p hp).1, rw' (by intro e; cases e) (h.node i p hp).2⟩⟩
  · have : b ≠ g := by omega
    simp only [if_neg this]
    exact h.fresh b hb
  · have : tb ≠ g := ne tb (by rw [h.tree]; intro e; cases e)
    simp only [if_neg this]
    exact h.tree

theorem Step.refl {w : World} {M : Nat → Lab} (hf : ∀ b, w.heap.size ≤ b → M b = .other) (l : Lab) : Step w M w M l := ⟨rfl, rfl, rfl, Nat.le_refl _, fun _ _ => rfl, hf, fun _ _ _ => rfl⟩

/-- a node's kids are another list that was just made -/
theorem RLies.ownKids {w0 w : World} {M0 M : Nat → Lab} {tb : Nat} {nv uv : Value} {ps : List Pn} {us : List Value} (h : RLies w M tb nv uv ps us) (m : Moved w0 M0 w M) {nb k c0 : Nat} (hv : nv = .slice (some ⟨nb, 0, none⟩) k c0) {i : Nat} {p : Pn} (hp : ps[i]? = some p) {B : Nat} {g cap : Nat} {ks : List Int}
    (ho : w.ownsRow B 3 1 (.slice (some ⟨g, 0, none⟩) ks.length cap) ks.length (ks.map intV)) (hB : w0.heap.size ≤ B) (hM : M g = .other) :
    ∃ M', RLies (w.setCell ⟨nb, i * 6 + 5, none⟩ (.slice (some ⟨g, 0, none⟩) ks.length cap)) M' tb nv uv (ps.set i ⟨{ p.n with kids := ks }, p.av, .slice (some ⟨g, 0, none⟩) ks.length cap⟩) us ∧ Moved w0 M0 (w.setCell ⟨nb, i * 6 + 5, none⟩ (.slice (some ⟨g, 0, none⟩) ks.length cap)) M' := by
  obtain ⟨hgB, hgl⟩ := ho.lt g rfl
  have hr := h.relabel hM hgl (.kids i)
  have hrow : Row w (fun b => if b = g then .kids i else M b) (.kids i) 3 1 (.slice (some ⟨g, 0, none⟩) ks.length cap) ks.length (ks.map intV) := by
    rcases ho.2 with ⟨e, _⟩ | ⟨g', cap', cur, e, _, hg', h1, h2, h3, h4⟩
    · cases e
    · cases e
      exact ⟨ho.1, _, _, rfl, h1, h2, .inr ⟨_, cur, rfl, by simp, hg', by omega, h4⟩⟩
  obtain ⟨q1, q2, _⟩ := hr.setKids hv hp (Step.refl hr.fresh (.kids i)) hrow
  refine ⟨_, q1, ?_⟩
  have mr : Moved w0 M0 w (fun b => if b = g then .kids i else M b) := ⟨m.os, m.tape, m.output, m.size, fun b hb => by
    have : b ≠ g := by omega
    simp only [if_neg this]
    exact m.lab b hb, m.far⟩
  exact mr.trans q2
end Go.Proofs.YtlfepdecgfcifaaGreatDoor
