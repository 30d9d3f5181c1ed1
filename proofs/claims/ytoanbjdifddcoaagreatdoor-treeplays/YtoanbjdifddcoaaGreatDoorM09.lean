/- The document's answer: what is kept of what was, and what it holds. -/
import Derived.Test.YtoanbjdifddcoaaGreatDoorM06
import Derived.Test.YtoanbjdifddcoaaGreatDoorRMake3
namespace Go.Proofs.YtoanbjdifddcoaaGreatDoor
open Go.RowKit

/-- a slice that holds a copy of these nodes, of its own, made behind w -/
def CopyOf (w w' : World) (M' : Nat → Lab) (v : Value) (ns : List Nd) : Prop :=
  ∃ L, KeptCopy w' L v ns ∧ ∀ b, L b ≠ .other → w.heap.size ≤ b ∧ M' b = .other
theorem KeptCopy.lt {w : World} {L : Nat → Lab} {v : Value} {ns : List Nd} (h : KeptCopy w L v ns) {b : Nat} (hb : L b ≠ .other) : b < w.heap.size := by
  obtain ⟨qs, _, hf, _⟩ := h
  rcases Nat.lt_or_ge b w.heap.size with h | h
  · exact h
  · exact absurd (hf b h) hb
theorem CopyOf.moved {w w1 w2 : World} {M1 M2 : Nat → Lab} {v : Value} {ns : List Nd} (h : CopyOf w w1 M1 v ns) (m : Moved w1 M1 w2 M2) : CopyOf w w2 M2 v ns := by
  obtain ⟨L, h1, h2⟩ := h
  refine ⟨L, h1.keep m.size (fun b hb hne => m.far b hb (h2 b hne).2), fun b hne => ⟨(h2 b hne).1, ?_⟩⟩
  exact (m.lab b (h1.lt hne)).trans (h2 b hne).2

/-- what was is kept -/
def RKeptE (w : World) (M : Nat → Lab) (tb : Nat) (nv : Value) (ps : List Pn) (us : List Value) (e : Ending) (w' : World) : Prop :=
  e = .returned (.tuple #[]) ∧ ∃ M' uv' v, RLies w' M' tb nv uv' ps (us ++ [v]) ∧ Moved w M w' M' ∧ CopyOf w w' M' v (nodesOf ps)

set_option maxHeartbeats 4000000 in
set_option maxRecDepth 100000 in
theorem rkeepE_any {w : World} {M : Nat → Lab} {tb : Nat} {nv uv : Value} {ps : List Pn} {us : List Value} (h : RLies w M tb nv uv ps us) (hs : Small ps) (hn : ps.length ≤ 1000000) (hu : us.length ≤ 1000000000) :
    Calls Tryz.prog 52 #[.pointer (some ⟨tb, 0, none⟩)] w (RKeptE w M tb nv ps us) := by
  obtain ⟨i0, hi, hz0, hz1, hz2⟩ := info_parts Tryz.infoRnodes
  obtain ⟨a, cap, ha, hc, hm⟩ := h.undos.shape
  subst ha
  have c0 := h.cell0
  have c1 := h.cell1
  have hlt : tb < w.heap.size := lt_of_heap h.head
  have H : Hid (RLies w M tb nv (.slice a us.length cap) ps us) := h
  have HS : Hid (Small ps) := hs
  clear h hs
  go_enter Tryz.func52, Tryz.ntmps52
  go_wp2
  go_region_law ((first
    | (refine step_call _ (by rfl) 77 [.tmp 10] #[25] (by rfl) Tryz.func77 (by kernel_rfl) (by rfl) [nv] (by simp [Act.eval]) (copiedE_any H.out.drew HS.out hn) ?_
       rintro e w1 ⟨a1, n1, e1, rfl, hB1, hC1⟩
       have HC1 : Hid _ := hC1
       refine ⟨_, rfl, ?_⟩
       have H1 : Hid (RLies w1 M tb nv (.slice a us.length cap) ps us) := H.out.drew.below hB1
       have q0 := H1.out.cell0
       have q1 := H1.out.cell1
       have hl1 : tb < w1.heap.size := lt_of_heap H1.out.head
       have HB1 : Hid (Below w.heap.size w w1) := (Below.refl _ _).drew.trans hB1
       clear hB1 hC1)
    | (refine step_app_row _ (by rfl) (.tmp 6) (.tmp 12) 26 (by rfl) M .undos 25 i0 (.slice none 0 0) 1 24 Tryz.underlying26 hi hz0 hz1 hz2 rfl (by decide) (.slice a us.length cap) us.length us (by simp [Act.eval]) (H1.out.alloc _).undos ⟨w1.heap.size, 0, none⟩ 1 1 [.slice a1 n1 e1] (by simp [Act.eval]) rfl (cell_one_new _ _ _) (by simp [Value.oneCell']) (by decide) (by unfold maxLen; omega) (by omega) (H1.out.alloc _).fresh ?_
       intro g cap1 w2 M2 hr st
       obtain ⟨hc0, hc1, hf0, hf1⟩ := head_cell ((st.far tb (lt_of_heap (H1.out.alloc _).head) (by rw [H1.out.tree]; intro e; cases e)).trans (H1.out.alloc _).head)
       have HR : Hid _ := (H1.out.alloc _).headUndos (uv' := .slice (some ⟨g, 0, none⟩) (us.length + 1) cap1) (us' := us ++ [.slice a1 n1 e1]) st (by rw [List.length_append]; exact hr)
       have HT : Hid _ := st
       clear hr st)))
  all_goals go_wp2
  all_goals go_end0
  all_goals
    obtain ⟨L, hk, hL⟩ := HC1.out
    refine ⟨rfl, M2, _, _, HR.out.1, (((Moved.refl _ _).below HB1.out).alloc _).trans HR.out.2, L, ?_, ?_⟩
    · refine (hk.keep (w' := w1.alloc _) (by simp) (fun b hb _ => Below.heap_alloc w1 _ b hb)).keep HR.out.2.size (fun b hb hne => ?_)
      have hb1 : b < w1.heap.size := by
        obtain ⟨qs, _, hf, _⟩ := hk
        rcases Nat.lt_or_ge b w1.heap.size with h | h
        · exact h
        · exact absurd (hf b h) hne
      refine HR.out.2.far b hb ?_
      have := hL b hne
      exact H.out.fresh b (by simpa using this)
    · intro b hne
      have h1 : w.heap.size ≤ b := by simpa using hL b hne
      refine ⟨h1, ?_⟩
      have hb1 : b < w1.heap.size := by
        obtain ⟨qs, _, hf, _⟩ := hk
        rcases Nat.lt_or_ge b w1.heap.size with h | h
        · exact h
        · exact absurd (hf b h) hne
      exact (HR.out.2.lab b (by simp; omega)).trans (H.out.fresh b h1)

end Go.Proofs.YtoanbjdifddcoaaGreatDoor

/- The document's answer: new nodes, or which error. -/
namespace Go.Proofs.YtoanbjdifddcoaaGreatDoor
open Go.RowKit

/-- a change was made of these nodes, and what was is kept -/
def RDone (w : World) (M : Nat → Lab) (tb : Nat) (us : List Value) (ns ns' : List Nd) (w' : World) : Prop :=
  ∃ M' nv' uv' ps' v, RLies w' M' tb nv' uv' ps' (us ++ [v]) ∧ nodesOf ps' = ns' ∧ Moved w M w' M' ∧ CopyOf w w' M' v ns
/-- a node was made -/
def RMadeE (w : World) (M : Nat → Lab) (tb : Nat) (ps : List Pn) (us : List Value) (p : Pn) (e : Ending) (w' : World) : Prop :=
  e = .returned (.tuple #[.int .i64 ps.length, .int .i64 0]) ∧ RDone w M tb us (nodesOf ps) (nodesOf ps ++ [p.n]) w'

set_option maxHeartbeats 4000000 in
set_option maxRecDepth 100000 in
theorem rmakeE_elem {w : World} {M : Nat → Lab} {tb : Nat} {nv uv : Value} {ps : List Pn} {us : List Value} (h : RLies w M tb nv uv ps us) (hs : Small ps) (hn : ps.length < 400) (hu : us.length ≤ 1000000000) (s : ByteArray) (hN : nameB s = true) :
    Calls Tryz.prog 21 #[.pointer (some ⟨tb, 0, none⟩), .int .i64 2, .string s] w (RMadeE w M tb ps us (newP 2 s ⟨#[]⟩)) := by
  obtain ⟨a, cap, rfl, hc, hm⟩ := h.nodes.shape
  have c0 := h.cell0
  have H : Hid (RLies w M tb (.slice a ps.length cap) uv ps us) := h
  have HS : Hid (Small ps) := hs
  have hlt : tb < w.heap.size := lt_of_heap h.head
  unfold maxLen at hm
  clear h hs
  go_enter Tryz.func21, Tryz.ntmps21
  go_wp2_with (first
    | (go_at_call 51; refine (isName_any _ _).mono ?_; rintro e w' ⟨rfl, rfl⟩; rw [hN])
    | (go_at_call 52; refine (rkeepE_any H.out HS.out (by omega) hu).mono ?_; rintro e w1 ⟨rfl, M1, uv1, v1, l1, m1, k1⟩
       have HK1 : Hid _ := k1
       have H1 : Hid _ := And.intro l1 m1
       have q0 := l1.cell0
       have hl1 : tb < w1.heap.size := lt_of_heap l1.head
       clear l1 m1 k1))
  go_region_law ((refine rstep_add H1.out.1 (by omega) 2 s ⟨#[]⟩ none 0 0 [] (Row.nil _ _ _ _ _) _ (by rfl) (by rfl) (by simp [Act.eval]) (by simp [Act.eval]) ?_; intro g cap1 w2 M2 HR hc0 hf0))
  all_goals (have hcc := HR.out.1.cell0)
  all_goals go_wp2
  all_goals go_ret2
  all_goals exact ⟨by go_light; first | rfl | (congr 3; done), M2, _, uv1, _, v1, HR.out.1, by simp [nodesOf, newP], H1.out.2.trans HR.out.2, CopyOf.moved HK1.out HR.out.2⟩
set_option maxHeartbeats 4000000 in
set_option maxRecDepth 100000 in
theorem rmakeE_other {w : World} {M : Nat → Lab} {tb : Nat} {nv uv : Value} {ps : List Pn} {us : List Value} (h : RLies w M tb nv uv ps us) (hs : Small ps) (hn : ps.length < 400) (hu : us.length ≤ 1000000000) (s : ByteArray) (kind : Int) (hk : ¬ kind = 2) (hN : s.size ≤ 20000) :
    Calls Tryz.prog 21 #[.pointer (some ⟨tb, 0, none⟩), .int .i64 kind, .string s] w (RMadeE w M tb ps us (newP kind ⟨#[]⟩ s)) := by
  obtain ⟨a, cap, rfl, hc, hm⟩ := h.nodes.shape
  have c0 := h.cell0
  have hkb : (kind == 2) = false := by rw [beq_eq_false_iff_ne]; exact hk
  have H : Hid (RLies w M tb (.slice a ps.length cap) uv ps us) := h
  have HS : Hid (Small ps) := hs
  have hlt : tb < w.heap.size := lt_of_heap h.head
  unfold maxLen at hm
  clear h hs
  go_enter Tryz.func21, Tryz.ntmps21
  go_wp2_with (first
    | (go_at_call 51; refine (isName_any _ _).mono ?_; rintro e w' ⟨rfl, rfl⟩; cases hq : nameB s)
    | (go_at_call 52; refine (rkeepE_any H.out HS.out (by omega) hu).mono ?_; rintro e w1 ⟨rfl, M1, uv1, v1, l1, m1, k1⟩
       have HK1 : Hid _ := k1
       have H1 : Hid _ := And.intro l1 m1
       have q0 := l1.cell0
       have hl1 : tb < w1.heap.size := lt_of_heap l1.head
       clear l1 m1 k1))
  all_goals go_region_law ((refine rstep_add H1.out.1 (by omega) kind ⟨#[]⟩ s none 0 0 [] (Row.nil _ _ _ _ _) _ (by rfl) (by rfl) (by simp [Act.eval]) (by simp [Act.eval]) ?_; intro g cap1 w2 M2 HR hc0 hf0))
  all_goals (have hcc := HR.out.1.cell0)
  all_goals go_wp2
  all_goals go_ret2
  all_goals exact ⟨by go_light; first | rfl | (congr 3; done), M2, _, uv1, _, v1, HR.out.1, by simp [nodesOf, newP], H1.out.2.trans HR.out.2, CopyOf.moved HK1.out HR.out.2⟩

set_option maxHeartbeats 4000000 in
set_option maxRecDepth 100000 in
theorem rmake_name {w : World} {M : Nat → Lab} {tb : Nat} {nv uv : Value} {ps : List Pn} {us : List Value} (h : RLies w M tb nv uv ps us) (s : ByteArray) (hN : nameB s = false) :
    Calls Tryz.prog 21 #[.pointer (some ⟨tb, 0, none⟩), .int .i64 2, .string s] w fun e w' => e = .returned (.tuple #[.int .i64 0, .int .i64 3]) ∧ w' = w := by
  go_enter Tryz.func21, Tryz.ntmps21
  go_wp2_with (go_at_call 51; refine (isName_any _ _).mono ?_; rintro e w' ⟨rfl, rfl⟩; rw [hN])
  go_ret2
  exact ⟨rfl, rfl⟩
set_option maxHeartbeats 4000000 in
set_option maxRecDepth 100000 in
theorem rmake_full {w : World} {M : Nat → Lab} {tb : Nat} {nv uv : Value} {ps : List Pn} {us : List Value} (h : RLies w M tb nv uv ps us) (s : ByteArray) (hN : nameB s = true) (hf : ps.length = 400) :
    Calls Tryz.prog 21 #[.pointer (some ⟨tb, 0, none⟩), .int .i64 2, .string s] w fun e w' => e = .returned (.tuple #[.int .i64 0, .int .i64 2]) ∧ w' = w := by
  obtain ⟨a, cap, rfl, hc, hm⟩ := h.nodes.shape
  have c0 := h.cell0
  rw [hf] at c0
  clear h
  go_enter Tryz.func21, Tryz.ntmps21
  go_wp2_with (go_at_call 51; refine (isName_any _ _).mono ?_; rintro e w' ⟨rfl, rfl⟩; rw [hN])
  go_ret2
  exact ⟨rfl, rfl⟩
end Go.Proofs.YtoanbjdifddcoaaGreatDoor

/- The document's answer: back to what was. -/
namespace Go.Proofs.YtoanbjdifddcoaaGreatDoor
open Go.RowKit

theorem Row.to {w w' : World} {M M' : Nat → Lab} {l : Lab} {e : TypeId} {size n : Nat} {v : Value} {xs : List Value} (h : Row w M l e size v n xs) (hb : ∀ b, b < w.heap.size → M b = l → w'.heap[b]? = w.heap[b]? ∧ M' b = l) : Row w' M' l e size v n xs := by
  obtain ⟨hl, a, cap, rfl, h1, h2, h3⟩ := h
  refine ⟨hl, a, cap, rfl, h1, h2, ?_⟩
  rcases h3 with h3 | ⟨g, cur, rfl, hM, hg, h4, h5⟩
  · exact .inl h3
  · obtain ⟨k1, k2⟩ := hb g (lt_of_heap hg) hM
    exact .inr ⟨g, cur, rfl, k2, k1.trans hg, h4, h5⟩

/-- the last one is cut off -/
theorem Row.cut {w : World} {M : Nat → Lab} {l : Lab} {e : TypeId} {n cap : Nat} {a : Option Addr} {xs : List Value} {x : Value} (h : Row w M l e 1 (.slice a (n + 1) cap) (n + 1) (xs ++ [x])) : Row w M l e 1 (.slice a n cap) n xs := by
  obtain ⟨hl, a', cap', hv, h1, h2, h3⟩ := h
  injection hv with e1 e2 e3
  subst e1
  subst e3
  have hx : xs.length = n := by simpa using hl
  refine ⟨by omega, a, cap, rfl, by omega, h2, ?_⟩
  rcases h3 with ⟨h3, _⟩ | ⟨g, cur, rfl, hM, hg, h4, h5⟩
  · omega
  · refine .inr ⟨g, cur, rfl, hM, hg, h4, ?_⟩
    have := congrArg (List.take n) h5
    rw [List.take_take, List.take_append_of_le_length (by omega), List.take_of_length_le (by omega : xs.length ≤ n)] at this
    rw [← this]
    congr 1
    omega

/-- the labels behind an Undo -/
def over (L M : Nat → Lab) : Nat → Lab := fun b => if L b = .other then M b else L b

/-- behind an Undo -/
def RBack (w : World) (M L : Nat → Lab) (tb : Nat) (us : List Value) (ns' : List Nd) (w' : World) : Prop :=
  ∃ nv' uv' ps', RLies w' (over L M) tb nv' uv' ps' us ∧ nodesOf ps' = ns' ∧ w'.os = w.os ∧ w'.tape = w.tape ∧ w'.output = w.output ∧ w'.heap.size = w.heap.size ∧ ∀ b, b ≠ tb → w'.heap[b]? = w.heap[b]?

theorem rback {w : World} {M L : Nat → Lab} {tb : Nat} {nv : Value} {a : Option Addr} {cap : Nat} {ps : List Pn} {us : List Value} {v : Value} {ns' : List Nd} (h : RLies w M tb nv (.slice a (us.length + 1) cap) ps (us ++ [v])) (hc : KeptCopy w L v ns') (hd : ∀ b, L b ≠ .other → M b = .other) :
    RBack w M L tb us ns' ((w.setCell ⟨tb, 0, none⟩ v).setCell ⟨tb, 1, none⟩ (.slice a us.length cap)) := by
  obtain ⟨qs, k1, k2, k3, k4⟩ := hc
  have htb : L tb = .other := by
    by_cases e : L tb = .other
    · exact e
    · have := hd tb e; rw [h.tree] at this; cases this
  have far : ∀ b, b ≠ tb → ((w.setCell ⟨tb, 0, none⟩ v).setCell ⟨tb, 1, none⟩ (.slice a us.length cap)).heap[b]? = w.heap[b]? := fun b hb =>
    (Below.heap_setCell _ _ _ b (by show b ≠ tb; exact hb)).trans (Below.heap_setCell _ _ _ b (by show b ≠ tb; exact hb))
  have new : ∀ {l : Lab} {e : TypeId} {size n : Nat} {x : Value} {xs : List Value}, l ≠ .other → Row w L l e size x n xs → Row ((w.setCell ⟨tb, 0, none⟩ v).setCell ⟨tb, 1, none⟩ (.slice a us.length cap)) (over L M) l e size x n xs := by
    intro l e size n x xs hl hr
    refine hr.to fun b _ e => ⟨far b (fun e' => hl ?_), ?_⟩
    · rw [← e, e']; exact htb
    · unfold over
      rw [if_neg (by rw [e]; exact hl)]
      exact e
  refine ⟨v, .slice a us.length cap, qs, ⟨?_, ?_, ?_, new (by intro e; cases e) k3, ?_, fun i p hp => ⟨new (by intro e; cases e) (k4 i p hp).1, new (by intro e; cases e) (k4 i p hp).2⟩⟩, k1, rfl, rfl, rfl, by simp [World.setCell], far⟩
  · intro b hb
    have hb' : w.heap.size ≤ b := by simpa [World.setCell] using hb
    unfold over
    rw [if_pos (k2 b hb')]
    exact h.fresh b hb'
  · unfold over
    rw [if_pos htb]
    exact h.tree
  · have h1 := setCell_heap w tb 0 v _ _ _ h.head
    have h2 := setCell_heap _ tb 1 (.slice a us.length cap) _ _ _ h1
    exact h2
  · have hr := h.undos
    rw [List.length_append] at hr
    have hr2 := Row.cut (n := us.length) hr
    refine hr2.to fun b _ e => ⟨far b (fun e' => ?_), ?_⟩
    · rw [e', h.tree] at e; cases e
    · have : L b = .other := by
        by_cases e2 : L b = .other
        · exact e2
        · have := hd b e2; rw [e] at this; cases this
      unfold over
      rw [if_pos this]
      exact e

set_option maxHeartbeats 2000000 in
theorem rundo_none {w : World} {M : Nat → Lab} {tb : Nat} {nv uv : Value} {ps : List Pn} (h : RLies w M tb nv uv ps []) :
    Calls Tryz.prog 39 #[.pointer (some ⟨tb, 0, none⟩)] w fun e w' => e = .returned (.bool false) ∧ w' = w := by
  obtain ⟨a, cap, rfl, hc, hm⟩ := h.undos.shape
  have c1 := h.cell1
  dsimp only [List.length_nil] at c1
  clear h
  go_enter Tryz.func39, Tryz.ntmps39
  go_wp2
  go_ret
  exact ⟨rfl, rfl⟩

set_option maxHeartbeats 4000000 in
set_option maxRecDepth 100000 in
theorem rundo_some {w : World} {M L : Nat → Lab} {tb : Nat} {nv uv : Value} {ps : List Pn} {us : List Value} {v : Value} {ns' : List Nd} (h : RLies w M tb nv uv ps (us ++ [v])) (hc : KeptCopy w L v ns') (hd : ∀ b, L b ≠ .other → M b = .other) :
    Calls Tryz.prog 39 #[.pointer (some ⟨tb, 0, none⟩)] w fun e w' => e = .returned (.bool true) ∧ RBack w M L tb us ns' w' := by
  obtain ⟨g, cap, hv, hc1, hm, hM, hgl⟩ := h.undos.form (by simp)
  have hx := (h.undos.cell hv (j := us.length) (u := v) (by simp)).1
  have e1 : (us ++ [v]).length = us.length + 1 := by simp
  rw [e1] at hv hc1
  subst hv
  have c0 := h.cell0
  have c1 := h.cell1
  have f0 := h.frozen 0
  have f1 := h.frozen 1
  have hlt : tb < w.heap.size := lt_of_heap h.head
  have hne : g ≠ tb := fun e => by rw [e, h.tree] at hM; cases hM
  have HF : Hid (RBack w M L tb us ns' _) := rback h hc hd
  unfold maxLen at hm
  have hsh : ∃ a3 n3 c3, v = .slice a3 n3 c3 := by
    obtain ⟨qs, _, _, k3, _⟩ := hc
    obtain ⟨a3, c3, e, _⟩ := k3.shape
    exact ⟨a3, _, c3, e⟩
  obtain ⟨a3, n3, c3, rfl⟩ := hsh
  clear h hc hd
  go_enter Tryz.func39, Tryz.ntmps39
  go_wp2
  go_ret
  exact ⟨rfl, HF.out⟩
end Go.Proofs.YtoanbjdifddcoaaGreatDoor

/- The document's tree beside the program's: the copies that it keeps, each of its own. -/
namespace Go.Proofs.YtoanbjdifddcoaaGreatDoor
open Go.RowKit

/-- copies of these nodes, the last one first, each of its own, in memory that is free -/
def CopyStk (w : World) : (Nat → Prop) → List Value → List (List Nd) → Prop
  | _, [], [] => True
  | free, v :: vs, ns :: nss => ∃ L, KeptCopy w L v ns ∧ (∀ b, L b ≠ .other → free b) ∧ CopyStk w (fun b => free b ∧ L b = .other) vs nss
  | _, _, _ => False

theorem CopyStk.keep {w w' : World} (hs : w.heap.size ≤ w'.heap.size) : ∀ {vs : List Value} {nss : List (List Nd)} {free free' : Nat → Prop}, CopyStk w free vs nss → (∀ b, b < w.heap.size → free b → w'.heap[b]? = w.heap[b]? ∧ free' b) → CopyStk w' free' vs nss
  | [], [], _, _, _, _ => trivial
  | [], _ :: _, _, _, h, _ => h.elim
  | _ :: _, [], _, _, h, _ => h.elim
  | _ :: _, _ :: _, free, free', h, hb => by
    obtain ⟨L, h1, h2, h3⟩ := h
    refine ⟨L, h1.keep hs (fun b hb' hne => (hb b hb' (h2 b hne)).1), fun b hne => (hb b (h1.lt hne) (h2 b hne)).2, ?_⟩
    exact CopyStk.keep hs h3 fun b hb' hf => ⟨(hb b hb' hf.1).1, (hb b hb' hf.1).2, hf.2⟩

theorem CopyStk.push {w w' : World} {N' : Nat → Lab} {v : Value} {ns : List Nd} {vs : List Value} {nss : List (List Nd)} {free free' : Nat → Prop} (hs : w.heap.size ≤ w'.heap.size) (h : CopyStk w free vs nss) (hc : CopyOf w w' N' v ns)
    (hold : ∀ b, b < w.heap.size → free b → w'.heap[b]? = w.heap[b]? ∧ free' b) (hnew : ∀ b, w.heap.size ≤ b → N' b = .other → free' b) : CopyStk w' free' (v :: vs) (ns :: nss) := by
  obtain ⟨L, h1, h2⟩ := hc
  refine ⟨L, h1, fun b hne => hnew b (h2 b hne).1 (h2 b hne).2, CopyStk.keep hs h fun b hb hf => ⟨(hold b hb hf).1, (hold b hb hf).2, ?_⟩⟩
  by_cases e : L b = .other
  · exact e
  · have := (h2 b e).1; omega

/-- a tree of the document's of these nodes lies there, beside what M labels, and these were ahead of each change, the last one first -/
def DAt (w : World) (M : Nat → Lab) (tb : Nat) (ns : List Nd) (past : List (List Nd)) : Prop :=
  ∃ N nv uv ps us, RLies w N tb nv uv ps us ∧ nodesOf ps = ns ∧ (∀ b, N b ≠ .other → M b = .other) ∧ CopyStk w (fun b => N b = .other ∧ M b = .other) us.reverse past

/-- the program's tree moved on -/
theorem DAt.prog {w w' : World} {M M' : Nat → Lab} {tb : Nat} {ns : List Nd} {past : List (List Nd)} (h : DAt w M tb ns past) (m : Moved w M w' M') : DAt w' M' tb ns past := by
  obtain ⟨N, nv, uv, ps, us, h1, h2, h3, h4⟩ := h
  have old : ∀ b, N b ≠ .other → b < w.heap.size := fun b hb => by
    rcases Nat.lt_or_ge b w.heap.size with h | h
    · exact h
    · exact absurd (h1.fresh b h) hb
  refine ⟨N, nv, uv, ps, us, h1.far m.size (fun b hb hne => m.far b hb (h3 b hne)), h2, fun b hb => (m.lab b (old b hb)).trans (h3 b hb), ?_⟩
  exact CopyStk.keep m.size h4 fun b hb hf => ⟨m.far b hb hf.2, hf.1, (m.lab b hb).trans hf.2⟩

/-- the document's tree was changed -/
theorem DAt.done {w w' : World} {M N : Nat → Lab} {tb : Nat} {us : List Value} {ns ns' : List Nd} {past : List (List Nd)} (hd : RDone w N tb us ns ns' w') (hN : ∀ b, N b ≠ .other → M b = .other) (hf : ∀ b, w.heap.size ≤ b → M b = .other)
    (h4 : CopyStk w (fun b => N b = .other ∧ M b = .other) us.reverse past) : DAt w' M tb ns' (ns :: past) := by
  obtain ⟨N', nv', uv', ps', v, g1, g2, g3, g4⟩ := hd
  refine ⟨N', nv', uv', ps', us ++ [v], g1, g2, fun b hb => ?_, ?_⟩
  · rcases Nat.lt_or_ge b w.heap.size with h | h
    · exact hN b (by rw [← g3.lab b h]; exact hb)
    · exact hf b h
  · rw [List.reverse_append]
    exact CopyStk.push g3.size h4 g4 (fun b hb hh => ⟨g3.far b hb hh.1, (g3.lab b hb).trans hh.1, hh.2⟩) (fun b hb hh => ⟨hh, hf b hb⟩)

/-- what the document's changes leave of the program's tree -/
theorem Lies.beside {w w' : World} {M N N' : Nat → Lab} {tb : Nat} {nv uv : Value} {ps : List Pn} {us : List Value} (h : Lies w M tb nv uv ps us) (m : Moved w N w' N') (hN : ∀ b, N b ≠ .other → M b = .other) : Lies w' M tb nv uv ps us :=
  h.far m.size fun b hb hne => m.far b hb (by
    by_cases e : N b = .other
    · exact e
    · exact absurd (hN b e) hne)

/-- the document's Undo -/
theorem DAt.back {w w' : World} {M N L : Nat → Lab} {tb : Nat} {us : List Value} {ns' : List Nd} {past : List (List Nd)} (hd : RBack w N L tb us ns' w') (hN : ∀ b, N b ≠ .other → M b = .other) (htb : N tb = .tree) (hL : ∀ b, L b ≠ .other → N b = .other ∧ M b = .other)
    (h4 : CopyStk w (fun b => (N b = .other ∧ M b = .other) ∧ L b = .other) us.reverse past) : DAt w' M tb ns' past := by
  obtain ⟨nv', uv', ps', g1, g2, _, _, _, g6, g7⟩ := hd
  refine ⟨over L N, nv', uv', ps', us, g1, g2, fun b hb => ?_, ?_⟩
  · by_cases e : L b = .other
    · unfold over at hb
      rw [if_pos e] at hb
      exact hN b hb
    · exact (hL b e).2
  · refine CopyStk.keep (Nat.le_of_eq g6.symm) h4 fun b _ hf => ⟨g7 b (fun e => ?_), ?_, hf.1.2⟩
    · subst e
      have := hf.1.1
      rw [htb] at this
      cases this
    · unfold over
      rw [if_pos hf.2]
      exact hf.1.1
end Go.Proofs.YtoanbjdifddcoaaGreatDoor
