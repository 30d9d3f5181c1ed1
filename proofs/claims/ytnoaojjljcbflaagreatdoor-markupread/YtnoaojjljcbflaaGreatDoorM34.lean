/- The document's answer: which texts are names. -/
import Derived.Test.YtnoaojjljcbflaaGreatDoorM07
import Derived.Test.YtnoaojjljcbflaaGreatDoorM05
import Derived.Test.YtnoaojjljcbflaaGreatDoorM33
namespace Go.Proofs.YtnoaojjljcbflaaGreatDoor
open Go.RowKit

theorem sign_parts (c : Nat) : (signB c = true) ↔ ((97 ≤ c ∧ c ≤ 122) ∨ (48 ≤ c ∧ c ≤ 57) ∨ c = 45 ∨ c = 95 ∨ c = 58) := by
  unfold signB lowB digB
  simp
  omega
theorem low_parts (c : Nat) : (lowB c = true) ↔ (97 ≤ c ∧ c ≤ 122) := by
  unfold lowB
  simp
  omega

/-- a sign that may stand there -/
def mayB (k : Nat) (c : Nat) : Prop := (97 ≤ c ∧ c ≤ 122) ∨ (0 < k ∧ ((48 ≤ c ∧ c ≤ 57) ∨ c = 45 ∨ c = 95 ∨ c = 58))

set_option maxHeartbeats 8000000 in
set_option maxRecDepth 100000 in
theorem isName_any (s : ByteArray) (w : World) : Calls Tryz.prog 26 #[.string s] w fun e w' => e = .returned (.bool (nameB s)) ∧ w' = w := by
  by_cases h0 : s.size = 0
  · have H : Hid (nameB s = false) := by show nameB s = false; unfold nameB; simp [h0]
    go_enter Tryz.func26, Tryz.ntmps26
    go_wp2
    all_goals go_ret
    all_goals exact ⟨ret_bool H.out.symm, rfl⟩
  by_cases h4 : 40 < s.size
  · have H : Hid (nameB s = false) := by show nameB s = false; unfold nameB; simp [show ¬ s.size ≤ 40 by omega]
    go_enter Tryz.func26, Tryz.ntmps26
    go_wp2
    all_goals go_ret
    all_goals exact ⟨ret_bool H.out.symm, rfl⟩
  have hp : 0 < s.size := by omega
  have h0b : ((s.size : Int) == 0) = false := by rw [beq_eq_false_iff_ne]; omega
  have h0c : (s.size == 0) = false := by rw [beq_eq_false_iff_ne]; omega
  go_enter Tryz.func26, Tryz.ntmps26
  go_wp2
  go_loop [3] (fun i => ∃ k : Nat, k ≤ s.size ∧ i = .int .i64 k ∧ Hid ((s.data.toList.take k).all (fun c => signB c.toNat) = true ∧ (0 < k → lowB s[0].toNat = true))) (fun i => s.size - (intOf i).toNat)
  case atStart => exact ⟨0, by omega, rfl, (show ((s.data.toList.take 0).all (fun c => signB c.toNat) = true) ∧ (0 < 0 → lowB s[0].toNat = true) from ⟨by simp, fun h => absurd h (by omega)⟩)⟩
  case round =>
    obtain ⟨k, hk, rfl, ha⟩ := hrel
    by_cases hlt : k < s.size
    · obtain ⟨c, hc⟩ : ∃ c, s[k].toNat = c := ⟨_, rfl⟩
      by_cases hok : mayB k c
      · have H : Hid ((s.data.toList.take (k + 1)).all (fun c => signB c.toNat) = true ∧ (0 < k + 1 → lowB s[0].toNat = true)) := by
          have e1 : signB s[k].toNat = true := by rw [hc, sign_parts]; unfold mayB at hok; omega
          refine ⟨round_up s k hlt ha.out.1 e1, fun _ => ?_⟩
          by_cases hk0 : k = 0
          · subst hk0
            rw [low_parts, hc]
            unfold mayB at hok
            omega
          · exact ha.out.2 (by omega)
        have HOK : Hid (mayB k c) := hok
        clear hok
        go_wp2
        all_goals go_light
        all_goals first
          | (refine ⟨⟨k + 1, by omega, by go_num, H⟩, ?_⟩; simp [intOf]; omega)
          | (exfalso; have hq := HOK.out; unfold mayB at hq; simp_all; done)
          | (exfalso; have hq := HOK.out; unfold mayB at hq; simp_all; omega)
      · have H : Hid (nameB s = false) := by
          by_cases hs : signB s[k].toNat = true
          · rw [hc, sign_parts] at hs
            obtain rfl : k = 0 := by unfold mayB at hok; omega
            refine nameB_low s hp ?_
            cases hl : lowB s[0].toNat
            · rfl
            · rw [low_parts, hc] at hl
              exact absurd (.inl hl) hok
          · exact nameB_false s k hlt (by simpa using hs)
        have HOK : Hid (¬ mayB k c) := hok
        clear hok
        go_wp2
        all_goals go_light
        all_goals first
          | (go_ret; exact ⟨ret_bool H.out.symm, rfl⟩)
          | (exfalso; have hq := HOK.out; unfold mayB at hq; simp_all; done)
          | (exfalso; have hq := HOK.out; unfold mayB at hq; simp_all; omega)
    · have hke : k = s.size := by omega
      have H : Hid (nameB s = true) := nameB_true s hp (by omega) (ha.out.2 (by omega)) (by rw [← hke]; exact ha.out.1)
      go_wp2
      go_ret
      exact ⟨ret_bool H.out.symm, rfl⟩
end Go.Proofs.YtnoaojjljcbflaaGreatDoor

/- The document's answer: a new tree, a new node. -/
namespace Go.Proofs.YtnoaojjljcbflaaGreatDoor
open Go.RowKit

theorem RLies.setOther {EX : Ext} {w : World} {M : Nat → Lab} {tb : Nat} {nv uv : Value} {ps : List Pn} {us : List Value} (h : RLies (EX := EX) w M tb nv uv ps us) {g : Nat} (hM : M g = .other) (j : Nat) (v : Value) : RLies (EX := EX) (w.setCell ⟨g, j, none⟩ v) M tb nv uv ps us :=
  h.far (by simp [World.setCell]) (fun b _ hne => Below.heap_setCell w _ v b (fun e => hne (by rw [e]; exact hM)))
theorem Moved.setOther {w w' : World} {M M' : Nat → Lab} (h : Moved w M w' M') {g : Nat} (hg : w.heap.size ≤ g) (j : Nat) (v : Value) : Moved w M (w'.setCell ⟨g, j, none⟩ v) M' :=
  ⟨h.os, h.tape, h.output, by simp [World.setCell]; exact h.size, h.lab, fun b hb ho => (Below.heap_setCell w' _ v b (by show b ≠ g; omega)).trans (h.far b hb ho)⟩

/-- the append of 'Make', as one step -/
theorem rstep_add {EX : Ext} {w : World} {M : Nat → Lab} {tb : Nat} {uv : Value} {ps : List Pn} {us : List Value} {a : Option Addr} {cap : Nat} (h : RLies (EX := EX) w M tb (.slice a ps.length cap) uv ps us) (hn : ps.length ≤ 400) (kind : Int) (tag words : ByteArray) (aa : Option Addr) (al acp : Nat) (at_ : List (ByteArray × ByteArray))
    (ha : Row w M (.attrs ps.length) 81 2 (.slice aa al acp) at_.length (attrCells at_)) (o1 : Obj)
    {ops : Array Oper} {o : Oper} {ac : Act} {K : Act → World → Prop} {Q : Exit → Act → World → Prop} {E : Prop} (hgd : o.guard = none)
    (ho : o.op = .call { callee := .builtin .append, args := #[.tmp 47, .tmp 49], argTypes := #[23, 23] })
    (hs : ac.eval (.tmp 47) = .slice a ps.length cap) (hx : ac.eval (.tmp 49) = .slice (some ⟨w.heap.size + 1, 0, none⟩) 1 1)
    (hK : ∀ g cap1 w1 M1, Hid (RLies (EX := EX) (w1.setCell ⟨tb, 0, none⟩ (.slice (some ⟨g, 0, none⟩) (ps.length + 1) cap1)) M1 tb (.slice (some ⟨g, 0, none⟩) (ps.length + 1) cap1) uv (ps ++ [⟨⟨kind, tag, words, at_, -1, []⟩, .slice aa al acp, .slice none 0 0⟩]) us ∧ Moved w M (w1.setCell ⟨tb, 0, none⟩ (.slice (some ⟨g, 0, none⟩) (ps.length + 1) cap1)) M1) →
      w1.cell? ⟨tb, 0, none⟩ = some (.slice a ps.length cap) → w1.frozen? ⟨tb, 0, none⟩ = false → K (ac.put o.dst (.slice (some ⟨g, 0, none⟩) (ps.length + 1) cap1)) w1) :
    if Region.wanted o (yielded ops ac.tmps) = true then Oper.wp Tryz.prog o ac (((w.alloc o1).alloc (.cells #[.int .i64 kind, .string tag, .string words, .slice aa al acp, .int .i64 (-1), .slice none 0 0] 50)).drew) K Q else E := by
  obtain ⟨i0, hi, hz0, hz1, hz2⟩ := info_parts Tryz.infoRnode
  have H := ((h.alloc o1).alloc (.cells #[.int .i64 kind, .string tag, .string words, .slice aa al acp, .int .i64 (-1), .slice none 0 0] 50)).drew
  have mv : Moved w M ((w.alloc o1).alloc (.cells #[.int .i64 kind, .string tag, .string words, .slice aa al acp, .int .i64 (-1), .slice none 0 0] 50)).drew M := (((Moved.refl w M).alloc o1).alloc _).drew
  refine step_app_row _ hgd (.tmp 47) (.tmp 49) 23 ho M .nodes 50 i0 _ 6 96 Tryz.underlying23 hi hz0 hz1 hz2 rfl (by decide) (.slice a ps.length cap) ps.length (flat ps) hs H.nodes ⟨w.heap.size + 1, 0, none⟩ 1 1 [.int .i64 kind, .string tag, .string words, .slice aa al acp, .int .i64 (-1), .slice none 0 0] hx rfl (news_two w o1 #[.int .i64 kind, .string tag, .string words, .slice aa al acp, .int .i64 (-1), .slice none 0 0] 50) (by simp [Value.oneCell']) (by decide) (by unfold maxLen; omega) (by omega) H.fresh ?_
  intro g cap1 w1 M1 hr st
  obtain ⟨hc0, hc1, hf0, hf1⟩ := head_cellX ((st.far tb (lt_of_heap H.head) (by rw [H.tree]; intro e; cases e)).trans H.head)
  have HR := H.headNodes (nv' := .slice (some ⟨g, 0, none⟩) (ps.length + 1) cap1) (qs := ps ++ [⟨⟨kind, tag, words, at_, -1, []⟩, .slice aa al acp, .slice none 0 0⟩]) st (by rw [List.length_append, flat_append]; exact hr) (by
    intro i p hp
    by_cases hi : i < ps.length
    · rw [List.getElem?_append_left hi] at hp
      exact H.node i p hp
    · rw [List.getElem?_append_right (by omega)] at hp
      have : i - ps.length = 0 := by
        rcases Nat.eq_zero_or_pos (i - ps.length) with e | e
        · exact e
        · rw [List.getElem?_eq_none (by simp; omega)] at hp; cases hp
      rw [this] at hp
      cases hp
      obtain rfl : i = ps.length := by omega
      refine ⟨ha.keep (fun b hb e => ?_) (fun _ _ => rfl), Row.nil _ _ _ _ _⟩
      exact (Below.heap_alloc (w.alloc o1) _ b (by simp; omega)).trans (Below.heap_alloc w o1 b hb))
  exact hK g cap1 w1 M1 ⟨HR.1, mv.trans HR.2⟩ hc0 hf0

/-- a node was made -/
def RMade {EX : Ext} (w : World) (M : Nat → Lab) (tb : Nat) (ps : List Pn) (us : List Value) (p : Pn) (e : Ending) (w' : World) : Prop :=
  e = .returned (.tuple #[.int .i64 ps.length, .int .i64 0]) ∧ ∃ M' nv' uv' v, RLies (EX := EX) w' M' tb nv' uv' (ps ++ [p]) (us ++ [v]) ∧ Moved w M w' M'

set_option maxHeartbeats 4000000 in
set_option maxRecDepth 100000 in
theorem rmake_elem {EX : Ext} {w : World} {M : Nat → Lab} {tb : Nat} {nv uv : Value} {ps : List Pn} {us : List Value} (h : RLies (EX := EX) w M tb nv uv ps us) (hs : Small ps) (hn : ps.length < 400) (hu : us.length ≤ 1000000000) (s : ByteArray) (hN : nameB s = true) :
    Calls Tryz.prog 46 #[.pointer (some ⟨tb, 0, none⟩), .int .i64 2, .string s] w (RMade (EX := EX) w M tb ps us (newP 2 s ⟨#[]⟩)) := by
  obtain ⟨a, cap, rfl, hc, hm⟩ := h.nodes.shape
  have c0 := h.cell0
  have H : Hid (RLies (EX := EX) w M tb (.slice a ps.length cap) uv ps us) := h
  have HS : Hid (Small ps) := hs
  have hlt : tb < w.heap.size := lt_of_heap h.head
  unfold maxLen at hm
  clear h hs
  go_enter Tryz.func46, Tryz.ntmps46
  go_wp2_with (first
    | (go_at_call 26; refine (isName_any _ _).mono ?_; rintro e w' ⟨rfl, rfl⟩; rw [hN])
    | (go_at_call 92; refine (rkeep_any H.out HS.out (by omega) hu).mono ?_; rintro e w1 ⟨rfl, M1, uv1, v1, l1, m1⟩
       have H1 : Hid _ := And.intro l1 m1
       have q0 := l1.cell0
       have hl1 : tb < w1.heap.size := lt_of_heap l1.head
       clear l1 m1))
  go_region_law ((refine rstep_add H1.out.1 (by omega) 2 s ⟨#[]⟩ none 0 0 [] (Row.nil _ _ _ _ _) _ (by rfl) (by rfl) (by simp [Act.eval]) (by simp [Act.eval]) ?_; intro g cap1 w2 M2 HR hc0 hf0))
  all_goals (have hcc := HR.out.1.cell0)
  all_goals go_wp2
  all_goals go_ret2
  all_goals exact ⟨by go_light; first | rfl | (congr 3; done), M2, _, uv1, v1, HR.out.1, H1.out.2.trans HR.out.2⟩
set_option maxHeartbeats 4000000 in
set_option maxRecDepth 100000 in
theorem rmake_other {EX : Ext} {w : World} {M : Nat → Lab} {tb : Nat} {nv uv : Value} {ps : List Pn} {us : List Value} (h : RLies (EX := EX) w M tb nv uv ps us) (hs : Small ps) (hn : ps.length < 400) (hu : us.length ≤ 1000000000) (s : ByteArray) (kind : Int) (hk : ¬ kind = 2) (hN : s.size ≤ 20000) :
    Calls Tryz.prog 46 #[.pointer (some ⟨tb, 0, none⟩), .int .i64 kind, .string s] w (RMade (EX := EX) w M tb ps us (newP kind ⟨#[]⟩ s)) := by
  obtain ⟨a, cap, rfl, hc, hm⟩ := h.nodes.shape
  have c0 := h.cell0
  have hkb : (kind == 2) = false := by rw [beq_eq_false_iff_ne]; exact hk
  have H : Hid (RLies (EX := EX) w M tb (.slice a ps.length cap) uv ps us) := h
  have HS : Hid (Small ps) := hs
  have hlt : tb < w.heap.size := lt_of_heap h.head
  unfold maxLen at hm
  clear h hs
  go_enter Tryz.func46, Tryz.ntmps46
  go_wp2_with (first
    | (go_at_call 26; refine (isName_any _ _).mono ?_; rintro e w' ⟨rfl, rfl⟩; cases hq : nameB s)
    | (go_at_call 92; refine (rkeep_any H.out HS.out (by omega) hu).mono ?_; rintro e w1 ⟨rfl, M1, uv1, v1, l1, m1⟩
       have H1 : Hid _ := And.intro l1 m1
       have q0 := l1.cell0
       have hl1 : tb < w1.heap.size := lt_of_heap l1.head
       clear l1 m1))
  all_goals go_region_law ((refine rstep_add H1.out.1 (by omega) kind ⟨#[]⟩ s none 0 0 [] (Row.nil _ _ _ _ _) _ (by rfl) (by rfl) (by simp [Act.eval]) (by simp [Act.eval]) ?_; intro g cap1 w2 M2 HR hc0 hf0))
  all_goals (have hcc := HR.out.1.cell0)
  all_goals go_wp2
  all_goals go_ret2
  all_goals exact ⟨by go_light; first | rfl | (congr 3; done), M2, _, uv1, v1, HR.out.1, H1.out.2.trans HR.out.2⟩
end Go.Proofs.YtnoaojjljcbflaaGreatDoor

/- The document's answer: what is kept of what was, and what it holds. -/
namespace Go.Proofs.YtnoaojjljcbflaaGreatDoor
open Go.RowKit

/-- a slice that holds a copy of these nodes, of its own, made behind w -/
def CopyOf (w w' : World) (M' : Nat → Lab) (v : Value) (ns : List Nd) : Prop :=
  ∃ L, KeptCopy w' L v ns ∧ ∀ b, L b ≠ .other → w.heap.size ≤ b ∧ M' b = .other
theorem KeptCopy.lt {w : World} {L : Nat → Lab} {v : Value} {ns : List Nd} (h : KeptCopy w L v ns) {b : Nat} (hb : L b ≠ .other) : b < w.heap.size := by
  obtain ⟨qs, _, hf, _⟩ := h
  rcases Nat.lt_or_ge b w.heap.size with h | h
  · exact h
  · exact absurd (hf b h) hb
theorem CopyOf.moved {w w1 w2 : World} {M1 M2 : Nat → Lab} {v : Value} {ns : List Nd} (h : CopyOf w w1 M1 v ns) (m : Moved w1 M1 w2 M2) : CopyOf w w2 M2 v ns := by
  obtain ⟨L, h1, h2⟩ := h
  refine ⟨L, h1.keep m.size (fun b hb hne => m.far b hb (h2 b hne).2), fun b hne => ⟨(h2 b hne).1, ?_⟩⟩
  exact (m.lab b (h1.lt hne)).trans (h2 b hne).2

/-- what was is kept -/
def RKeptE {EX : Ext} (w : World) (M : Nat → Lab) (tb : Nat) (nv : Value) (ps : List Pn) (us : List Value) (e : Ending) (w' : World) : Prop :=
  e = .returned (.tuple #[]) ∧ ∃ M' uv' v, RLies (EX := EX) w' M' tb nv uv' ps (us ++ [v]) ∧ Moved w M w' M' ∧ CopyOf w w' M' v (nodesOf ps)

set_option maxHeartbeats 4000000 in
set_option maxRecDepth 100000 in
theorem rkeepE_any {EX : Ext} {w : World} {M : Nat → Lab} {tb : Nat} {nv uv : Value} {ps : List Pn} {us : List Value} (h : RLies (EX := EX) w M tb nv uv ps us) (hs : Small ps) (hn : ps.length ≤ 1000000) (hu : us.length ≤ 1000000000) :
    Calls Tryz.prog 92 #[.pointer (some ⟨tb, 0, none⟩)] w (RKeptE (EX := EX) w M tb nv ps us) := by
  obtain ⟨i0, hi, hz0, hz1, hz2⟩ := info_parts Tryz.infoRnodes
  obtain ⟨a, cap, ha, hc, hm⟩ := h.undos.shape
  subst ha
  have c0 := h.cell0
  have c1 := h.cell1
  have hlt : tb < w.heap.size := lt_of_heap h.head
  have H : Hid (RLies (EX := EX) w M tb nv (.slice a us.length cap) ps us) := h
  have HS : Hid (Small ps) := hs
  clear h hs
  go_enter Tryz.func92, Tryz.ntmps92
  go_wp2
  go_region_law ((first
    | (refine step_call _ (by rfl) 128 [.tmp 10] #[23] (by rfl) Tryz.func128 (by kernel_rfl) (by rfl) [nv] (by simp [Act.eval]) (copiedE_any H.out.drew HS.out hn) ?_
       rintro e w1 ⟨a1, n1, e1, rfl, hB1, hC1⟩
       have HC1 : Hid _ := hC1
       refine ⟨_, rfl, ?_⟩
       have H1 : Hid (RLies (EX := EX) w1 M tb nv (.slice a us.length cap) ps us) := H.out.drew.below hB1
       have q0 := H1.out.cell0
       have q1 := H1.out.cell1
       have hl1 : tb < w1.heap.size := lt_of_heap H1.out.head
       have HB1 : Hid (Below w.heap.size w w1) := (Below.refl _ _).drew.trans hB1
       clear hB1 hC1)
    | (refine step_app_row _ (by rfl) (.tmp 6) (.tmp 12) 24 (by rfl) M .undos 23 i0 (.slice none 0 0) 1 24 Tryz.underlying24 hi hz0 hz1 hz2 rfl (by decide) (.slice a us.length cap) us.length us (by simp [Act.eval]) (H1.out.alloc _).undos ⟨w1.heap.size, 0, none⟩ 1 1 [.slice a1 n1 e1] (by simp [Act.eval]) rfl (cell_one_new _ _ _) (by simp [Value.oneCell']) (by decide) (by unfold maxLen; omega) (by omega) (H1.out.alloc _).fresh ?_
       intro g cap1 w2 M2 hr st
       obtain ⟨hc0, hc1, hf0, hf1⟩ := head_cellX ((st.far tb (lt_of_heap (H1.out.alloc _).head) (by rw [H1.out.tree]; intro e; cases e)).trans (H1.out.alloc _).head)
       have HR : Hid _ := (H1.out.alloc _).headUndos (uv' := .slice (some ⟨g, 0, none⟩) (us.length + 1) cap1) (us' := us ++ [.slice a1 n1 e1]) st (by rw [List.length_append]; exact hr)
       have HT : Hid _ := st
       clear hr st)))
  all_goals go_wp2
  all_goals go_end0
  all_goals
    obtain ⟨L, hk, hL⟩ := HC1.out
    refine ⟨rfl, M2, _, _, HR.out.1, (((Moved.refl _ _).below HB1.out).alloc _).trans HR.out.2, L, ?_, ?_⟩
    · refine (hk.keep (w' := w1.alloc _) (by simp) (fun b hb _ => Below.heap_alloc w1 _ b hb)).keep HR.out.2.size (fun b hb hne => ?_)
      have hb1 : b < w1.heap.size := by
        obtain ⟨qs, _, hf, _⟩ := hk
        rcases Nat.lt_or_ge b w1.heap.size with h | h
        · exact h
        · exact absurd (hf b h) hne
      refine HR.out.2.far b hb ?_
      have := hL b hne
      exact H.out.fresh b (by simpa using this)
    · intro b hne
      have h1 : w.heap.size ≤ b := by simpa using hL b hne
      refine ⟨h1, ?_⟩
      have hb1 : b < w1.heap.size := by
        obtain ⟨qs, _, hf, _⟩ := hk
        rcases Nat.lt_or_ge b w1.heap.size with h | h
        · exact h
        · exact absurd (hf b h) hne
      exact (HR.out.2.lab b (by simp; omega)).trans (H.out.fresh b h1)

end Go.Proofs.YtnoaojjljcbflaaGreatDoor

/- The document's answer: new nodes, or which error. -/
namespace Go.Proofs.YtnoaojjljcbflaaGreatDoor
open Go.RowKit

/-- a change was made of these nodes, and what was is kept -/
def RDone {EX : Ext} (w : World) (M : Nat → Lab) (tb : Nat) (us : List Value) (ns ns' : List Nd) (w' : World) : Prop :=
  ∃ M' nv' uv' ps' v, RLies (EX := EX) w' M' tb nv' uv' ps' (us ++ [v]) ∧ nodesOf ps' = ns' ∧ Moved w M w' M' ∧ CopyOf w w' M' v ns
/-- a node was made -/
def RMadeE {EX : Ext} (w : World) (M : Nat → Lab) (tb : Nat) (ps : List Pn) (us : List Value) (p : Pn) (e : Ending) (w' : World) : Prop :=
  e = .returned (.tuple #[.int .i64 ps.length, .int .i64 0]) ∧ RDone (EX := EX) w M tb us (nodesOf ps) (nodesOf ps ++ [p.n]) w'

set_option maxHeartbeats 4000000 in
set_option maxRecDepth 100000 in
theorem rmakeE_elem {EX : Ext} {w : World} {M : Nat → Lab} {tb : Nat} {nv uv : Value} {ps : List Pn} {us : List Value} (h : RLies (EX := EX) w M tb nv uv ps us) (hs : Small ps) (hn : ps.length < 400) (hu : us.length ≤ 1000000000) (s : ByteArray) (hN : nameB s = true) :
    Calls Tryz.prog 46 #[.pointer (some ⟨tb, 0, none⟩), .int .i64 2, .string s] w (RMadeE (EX := EX) w M tb ps us (newP 2 s ⟨#[]⟩)) := by
  obtain ⟨a, cap, rfl, hc, hm⟩ := h.nodes.shape
  have c0 := h.cell0
  have H : Hid (RLies (EX := EX) w M tb (.slice a ps.length cap) uv ps us) := h
  have HS : Hid (Small ps) := hs
  have hlt : tb < w.heap.size := lt_of_heap h.head
  unfold maxLen at hm
  clear h hs
  go_enter Tryz.func46, Tryz.ntmps46
  go_wp2_with (first
    | (go_at_call 26; refine (isName_any _ _).mono ?_; rintro e w' ⟨rfl, rfl⟩; rw [hN])
    | (go_at_call 92; refine (rkeepE_any H.out HS.out (by omega) hu).mono ?_; rintro e w1 ⟨rfl, M1, uv1, v1, l1, m1, k1⟩
       have HK1 : Hid _ := k1
       have H1 : Hid _ := And.intro l1 m1
       have q0 := l1.cell0
       have hl1 : tb < w1.heap.size := lt_of_heap l1.head
       clear l1 m1 k1))
  go_region_law ((refine rstep_add H1.out.1 (by omega) 2 s ⟨#[]⟩ none 0 0 [] (Row.nil _ _ _ _ _) _ (by rfl) (by rfl) (by simp [Act.eval]) (by simp [Act.eval]) ?_; intro g cap1 w2 M2 HR hc0 hf0))
  all_goals (have hcc := HR.out.1.cell0)
  all_goals go_wp2
  all_goals go_ret2
  all_goals exact ⟨by go_light; first | rfl | (congr 3; done), M2, _, uv1, _, v1, HR.out.1, by simp [nodesOf, newP], H1.out.2.trans HR.out.2, CopyOf.moved HK1.out HR.out.2⟩
set_option maxHeartbeats 4000000 in
set_option maxRecDepth 100000 in
theorem rmakeE_other {EX : Ext} {w : World} {M : Nat → Lab} {tb : Nat} {nv uv : Value} {ps : List Pn} {us : List Value} (h : RLies (EX := EX) w M tb nv uv ps us) (hs : Small ps) (hn : ps.length < 400) (hu : us.length ≤ 1000000000) (s : ByteArray) (kind : Int) (hk : ¬ kind = 2) (hN : s.size ≤ 20000) :
    Calls Tryz.prog 46 #[.pointer (some ⟨tb, 0, none⟩), .int .i64 kind, .string s] w (RMadeE (EX := EX) w M tb ps us (newP kind ⟨#[]⟩ s)) := by
  obtain ⟨a, cap, rfl, hc, hm⟩ := h.nodes.shape
  have c0 := h.cell0
  have hkb : (kind == 2) = false := by rw [beq_eq_false_iff_ne]; exact hk
  have H : Hid (RLies (EX := EX) w M tb (.slice a ps.length cap) uv ps us) := h
  have HS : Hid (Small ps) := hs
  have hlt : tb < w.heap.size := lt_of_heap h.head
  unfold maxLen at hm
  clear h hs
  go_enter Tryz.func46, Tryz.ntmps46
  go_wp2_with (first
    | (go_at_call 26; refine (isName_any _ _).mono ?_; rintro e w' ⟨rfl, rfl⟩; cases hq : nameB s)
    | (go_at_call 92; refine (rkeepE_any H.out HS.out (by omega) hu).mono ?_; rintro e w1 ⟨rfl, M1, uv1, v1, l1, m1, k1⟩
       have HK1 : Hid _ := k1
       have H1 : Hid _ := And.intro l1 m1
       have q0 := l1.cell0
       have hl1 : tb < w1.heap.size := lt_of_heap l1.head
       clear l1 m1 k1))
  all_goals go_region_law ((refine rstep_add H1.out.1 (by omega) kind ⟨#[]⟩ s none 0 0 [] (Row.nil _ _ _ _ _) _ (by rfl) (by rfl) (by simp [Act.eval]) (by simp [Act.eval]) ?_; intro g cap1 w2 M2 HR hc0 hf0))
  all_goals (have hcc := HR.out.1.cell0)
  all_goals go_wp2
  all_goals go_ret2
  all_goals exact ⟨by go_light; first | rfl | (congr 3; done), M2, _, uv1, _, v1, HR.out.1, by simp [nodesOf, newP], H1.out.2.trans HR.out.2, CopyOf.moved HK1.out HR.out.2⟩

set_option maxHeartbeats 4000000 in
set_option maxRecDepth 100000 in
theorem rmake_name {EX : Ext} {w : World} {M : Nat → Lab} {tb : Nat} {nv uv : Value} {ps : List Pn} {us : List Value} (h : RLies (EX := EX) w M tb nv uv ps us) (s : ByteArray) (hN : nameB s = false) :
    Calls Tryz.prog 46 #[.pointer (some ⟨tb, 0, none⟩), .int .i64 2, .string s] w fun e w' => e = .returned (.tuple #[.int .i64 0, .int .i64 3]) ∧ w' = w := by
  go_enter Tryz.func46, Tryz.ntmps46
  go_wp2_with (go_at_call 26; refine (isName_any _ _).mono ?_; rintro e w' ⟨rfl, rfl⟩; rw [hN])
  go_ret2
  exact ⟨rfl, rfl⟩
set_option maxHeartbeats 4000000 in
set_option maxRecDepth 100000 in
theorem rmake_full {EX : Ext} {w : World} {M : Nat → Lab} {tb : Nat} {nv uv : Value} {ps : List Pn} {us : List Value} (h : RLies (EX := EX) w M tb nv uv ps us) (s : ByteArray) (hN : nameB s = true) (hf : ps.length = 400) :
    Calls Tryz.prog 46 #[.pointer (some ⟨tb, 0, none⟩), .int .i64 2, .string s] w fun e w' => e = .returned (.tuple #[.int .i64 0, .int .i64 2]) ∧ w' = w := by
  obtain ⟨a, cap, rfl, hc, hm⟩ := h.nodes.shape
  have c0 := h.cell0
  rw [hf] at c0
  clear h
  go_enter Tryz.func46, Tryz.ntmps46
  go_wp2_with (go_at_call 26; refine (isName_any _ _).mono ?_; rintro e w' ⟨rfl, rfl⟩; rw [hN])
  go_ret2
  exact ⟨rfl, rfl⟩
end Go.Proofs.YtnoaojjljcbflaaGreatDoor
