/- The document's answer: what is kept of what was, and what it holds. -/
import Derived.Test.YtkaeenafejdkfaaGreatDoorM30
import Derived.BigRegion
import Derived.LoopN
import Derived.Test.YtkaeenafejdkfaaGreatDoorM29
import Derived.Test.YtkaeenafejdkfaaGreatDoorM09
namespace Go.Proofs.YtkaeenafejdkfaaGreatDoor
open Go.RowKit

/-- a slice that holds a copy of these nodes, of its own, made behind w -/
def CopyOf (w w' : World) (M' : Nat → Lab) (v : Value) (ns : List Nd) : Prop :=
  ∃ L, KeptCopy w' L v ns ∧ ∀ b, L b ≠ .other → w.heap.size ≤ b ∧ M' b = .other
theorem KeptCopy.lt {w : World} {L : Nat → Lab} {v : Value} {ns : List Nd} (h : KeptCopy w L v ns) {b : Nat} (hb : L b ≠ .other) : b < w.heap.size := by
  obtain ⟨qs, _, hf, _⟩ := h
  rcases Nat.lt_or_ge b w.heap.size with h | h
  · exact h
  · exact absurd (hf b h) hb
theorem CopyOf.moved {w w1 w2 : World} {M1 M2 : Nat → Lab} {v : Value} {ns : List Nd} (h : CopyOf w w1 M1 v ns) (m : Moved w1 M1 w2 M2) : CopyOf w w2 M2 v ns := by
  obtain ⟨L, h1, h2⟩ := h
  refine ⟨L, h1.keep m.size (fun b hb hne => m.far b hb (h2 b hne).2), fun b hne => ⟨(h2 b hne).1, ?_⟩⟩
  exact (m.lab b (h1.lt hne)).trans (h2 b hne).2

/-- what was is kept -/
def RKeptE {EX : Ext} (w : World) (M : Nat → Lab) (tb : Nat) (nv : Value) (ps : List Pn) (us : List Value) (e : Ending) (w' : World) : Prop :=
  e = .returned (.tuple #[]) ∧ ∃ M' uv' v, RLies (EX := EX) w' M' tb nv uv' ps (us ++ [v]) ∧ Moved w M w' M' ∧ CopyOf w w' M' v (nodesOf ps)

set_option maxHeartbeats 4000000 in
set_option maxRecDepth 100000 in
theorem rkeepE_any {EX : Ext} {w : World} {M : Nat → Lab} {tb : Nat} {nv uv : Value} {ps : List Pn} {us : List Value} (h : RLies (EX := EX) w M tb nv uv ps us) (hs : Small ps) (hn : ps.length ≤ 1000000) (hu : us.length ≤ 1000000000) :
    Calls Tryz.prog 92 #[.pointer (some ⟨tb, 0, none⟩)] w (RKeptE (EX := EX) w M tb nv ps us) := by
  obtain ⟨i0, hi, hz0, hz1, hz2⟩ := info_parts Tryz.infoRnodes
  obtain ⟨a, cap, ha, hc, hm⟩ := h.undos.shape
  subst ha
  have c0 := h.cell0
  have c1 := h.cell1
  have hlt : tb < w.heap.size := lt_of_heap h.head
  have H : Hid (RLies (EX := EX) w M tb nv (.slice a us.length cap) ps us) := h
  have HS : Hid (Small ps) := hs
  clear h hs
  go_enter Tryz.func92, Tryz.ntmps92
  go_wp2
  go_region_law ((first
    | (refine step_call _ (by rfl) 128 [.tmp 10] #[23] (by rfl) Tryz.func128 (by kernel_rfl) (by rfl) [nv] (by simp [Act.eval]) (copiedE_any H.out.drew HS.out hn) ?_
       rintro e w1 ⟨a1, n1, e1, rfl, hB1, hC1⟩
       have HC1 : Hid _ := hC1
       refine ⟨_, rfl, ?_⟩
       have H1 : Hid (RLies (EX := EX) w1 M tb nv (.slice a us.length cap) ps us) := H.out.drew.below hB1
       have q0 := H1.out.cell0
       have q1 := H1.out.cell1
       have hl1 : tb < w1.heap.size := lt_of_heap H1.out.head
       have HB1 : Hid (Below w.heap.size w w1) := (Below.refl _ _).drew.trans hB1
       clear hB1 hC1)
    | (refine step_app_row _ (by rfl) (.tmp 6) (.tmp 12) 24 (by rfl) M .undos 23 i0 (.slice none 0 0) 1 24 Tryz.underlying24 hi hz0 hz1 hz2 rfl (by decide) (.slice a us.length cap) us.length us (by simp [Act.eval]) (H1.out.alloc _).undos ⟨w1.heap.size, 0, none⟩ 1 1 [.slice a1 n1 e1] (by simp [Act.eval]) rfl (cell_one_new _ _ _) (by simp [Value.oneCell']) (by decide) (by unfold maxLen; omega) (by omega) (H1.out.alloc _).fresh ?_
       intro g cap1 w2 M2 hr st
       obtain ⟨hc0, hc1, hf0, hf1⟩ := head_cellX ((st.far tb (lt_of_heap (H1.out.alloc _).head) (by rw [H1.out.tree]; intro e; cases e)).trans (H1.out.alloc _).head)
       have HR : Hid _ := (H1.out.alloc _).headUndos (uv' := .slice (some ⟨g, 0, none⟩) (us.length + 1) cap1) (us' := us ++ [.slice a1 n1 e1]) st (by rw [List.length_append]; exact hr)
       have HT : Hid _ := st
       clear hr st)))
  all_goals go_wp2
  all_goals go_end0
  all_goals
    obtain ⟨L, hk, hL⟩ := HC1.out
    refine ⟨rfl, M2, _, _, HR.out.1, (((Moved.refl _ _).below HB1.out).alloc _).trans HR.out.2, L, ?_, ?_⟩
    · refine (hk.keep (w' := w1.alloc _) (by simp) (fun b hb _ => Below.heap_alloc w1 _ b hb)).keep HR.out.2.size (fun b hb hne => ?_)
      have hb1 : b < w1.heap.size := by
        obtain ⟨qs, _, hf, _⟩ := hk
        rcases Nat.lt_or_ge b w1.heap.size with h | h
        · exact h
        · exact absurd (hf b h) hne
      refine HR.out.2.far b hb ?_
      have := hL b hne
      exact H.out.fresh b (by simpa using this)
    · intro b hne
      have h1 : w.heap.size ≤ b := by simpa using hL b hne
      refine ⟨h1, ?_⟩
      have hb1 : b < w1.heap.size := by
        obtain ⟨qs, _, hf, _⟩ := hk
        rcases Nat.lt_or_ge b w1.heap.size with h | h
        · exact h
        · exact absurd (hf b h) hne
      exact (HR.out.2.lab b (by simp; omega)).trans (H.out.fresh b h1)

end Go.Proofs.YtkaeenafejdkfaaGreatDoor

/- The document's answer: new nodes, or which error. -/
namespace Go.Proofs.YtkaeenafejdkfaaGreatDoor
open Go.RowKit

/-- a change was made of these nodes, and what was is kept -/
def RDone {EX : Ext} (w : World) (M : Nat → Lab) (tb : Nat) (us : List Value) (ns ns' : List Nd) (w' : World) : Prop :=
  ∃ M' nv' uv' ps' v, RLies (EX := EX) w' M' tb nv' uv' ps' (us ++ [v]) ∧ nodesOf ps' = ns' ∧ Moved w M w' M' ∧ CopyOf w w' M' v ns
/-- a node was made -/
def RMadeE {EX : Ext} (w : World) (M : Nat → Lab) (tb : Nat) (ps : List Pn) (us : List Value) (p : Pn) (e : Ending) (w' : World) : Prop :=
  e = .returned (.tuple #[.int .i64 ps.length, .int .i64 0]) ∧ RDone (EX := EX) w M tb us (nodesOf ps) (nodesOf ps ++ [p.n]) w'

set_option maxHeartbeats 4000000 in
set_option maxRecDepth 100000 in
theorem rmakeE_elem {EX : Ext} {w : World} {M : Nat → Lab} {tb : Nat} {nv uv : Value} {ps : List Pn} {us : List Value} (h : RLies (EX := EX) w M tb nv uv ps us) (hs : Small ps) (hn : ps.length < 400) (hu : us.length ≤ 1000000000) (s : ByteArray) (hN : nameB s = true) :
    Calls Tryz.prog 46 #[.pointer (some ⟨tb, 0, none⟩), .int .i64 2, .string s] w (RMadeE (EX := EX) w M tb ps us (newP 2 s ⟨#[]⟩)) := by
  obtain ⟨a, cap, rfl, hc, hm⟩ := h.nodes.shape
  have c0 := h.cell0
  have H : Hid (RLies (EX := EX) w M tb (.slice a ps.length cap) uv ps us) := h
  have HS : Hid (Small ps) := hs
  have hlt : tb < w.heap.size := lt_of_heap h.head
  unfold maxLen at hm
  clear h hs
  go_enter Tryz.func46, Tryz.ntmps46
  go_wp2_with (first
    | (go_at_call 26; refine (isName_any _ _).mono ?_; rintro e w' ⟨rfl, rfl⟩; rw [hN])
    | (go_at_call 92; refine (rkeepE_any H.out HS.out (by omega) hu).mono ?_; rintro e w1 ⟨rfl, M1, uv1, v1, l1, m1, k1⟩
       have HK1 : Hid _ := k1
       have H1 : Hid _ := And.intro l1 m1
       have q0 := l1.cell0
       have hl1 : tb < w1.heap.size := lt_of_heap l1.head
       clear l1 m1 k1))
  go_region_law ((refine rstep_add H1.out.1 (by omega) 2 s ⟨#[]⟩ none 0 0 [] (Row.nil _ _ _ _ _) _ (by rfl) (by rfl) (by simp [Act.eval]) (by simp [Act.eval]) ?_; intro g cap1 w2 M2 HR hc0 hf0))
  all_goals (have hcc := HR.out.1.cell0)
  all_goals go_wp2
  all_goals go_ret2
  all_goals exact ⟨by go_light; first | rfl | (congr 3; done), M2, _, uv1, _, v1, HR.out.1, by simp [nodesOf, newP], H1.out.2.trans HR.out.2, CopyOf.moved HK1.out HR.out.2⟩
set_option maxHeartbeats 4000000 in
set_option maxRecDepth 100000 in
theorem rmakeE_other {EX : Ext} {w : World} {M : Nat → Lab} {tb : Nat} {nv uv : Value} {ps : List Pn} {us : List Value} (h : RLies (EX := EX) w M tb nv uv ps us) (hs : Small ps) (hn : ps.length < 400) (hu : us.length ≤ 1000000000) (s : ByteArray) (kind : Int) (hk : ¬ kind = 2) (hN : s.size ≤ 20000) :
    Calls Tryz.prog 46 #[.pointer (some ⟨tb, 0, none⟩), .int .i64 kind, .string s] w (RMadeE (EX := EX) w M tb ps us (newP kind ⟨#[]⟩ s)) := by
  obtain ⟨a, cap, rfl, hc, hm⟩ := h.nodes.shape
  have c0 := h.cell0
  have hkb : (kind == 2) = false := by rw [beq_eq_false_iff_ne]; exact hk
  have H : Hid (RLies (EX := EX) w M tb (.slice a ps.length cap) uv ps us) := h
  have HS : Hid (Small ps) := hs
  have hlt : tb < w.heap.size := lt_of_heap h.head
  unfold maxLen at hm
  clear h hs
  go_enter Tryz.func46, Tryz.ntmps46
  go_wp2_with (first
    | (go_at_call 26; refine (isName_any _ _).mono ?_; rintro e w' ⟨rfl, rfl⟩; cases hq : nameB s)
    | (go_at_call 92; refine (rkeepE_any H.out HS.out (by omega) hu).mono ?_; rintro e w1 ⟨rfl, M1, uv1, v1, l1, m1, k1⟩
       have HK1 : Hid _ := k1
       have H1 : Hid _ := And.intro l1 m1
       have q0 := l1.cell0
       have hl1 : tb < w1.heap.size := lt_of_heap l1.head
       clear l1 m1 k1))
  all_goals go_region_law ((refine rstep_add H1.out.1 (by omega) kind ⟨#[]⟩ s none 0 0 [] (Row.nil _ _ _ _ _) _ (by rfl) (by rfl) (by simp [Act.eval]) (by simp [Act.eval]) ?_; intro g cap1 w2 M2 HR hc0 hf0))
  all_goals (have hcc := HR.out.1.cell0)
  all_goals go_wp2
  all_goals go_ret2
  all_goals exact ⟨by go_light; first | rfl | (congr 3; done), M2, _, uv1, _, v1, HR.out.1, by simp [nodesOf, newP], H1.out.2.trans HR.out.2, CopyOf.moved HK1.out HR.out.2⟩

set_option maxHeartbeats 4000000 in
set_option maxRecDepth 100000 in
theorem rmake_name {EX : Ext} {w : World} {M : Nat → Lab} {tb : Nat} {nv uv : Value} {ps : List Pn} {us : List Value} (h : RLies (EX := EX) w M tb nv uv ps us) (s : ByteArray) (hN : nameB s = false) :
    Calls Tryz.prog 46 #[.pointer (some ⟨tb, 0, none⟩), .int .i64 2, .string s] w fun e w' => e = .returned (.tuple #[.int .i64 0, .int .i64 3]) ∧ w' = w := by
  go_enter Tryz.func46, Tryz.ntmps46
  go_wp2_with (go_at_call 26; refine (isName_any _ _).mono ?_; rintro e w' ⟨rfl, rfl⟩; rw [hN])
  go_ret2
  exact ⟨rfl, rfl⟩
set_option maxHeartbeats 4000000 in
set_option maxRecDepth 100000 in
theorem rmake_full {EX : Ext} {w : World} {M : Nat → Lab} {tb : Nat} {nv uv : Value} {ps : List Pn} {us : List Value} (h : RLies (EX := EX) w M tb nv uv ps us) (s : ByteArray) (hN : nameB s = true) (hf : ps.length = 400) :
    Calls Tryz.prog 46 #[.pointer (some ⟨tb, 0, none⟩), .int .i64 2, .string s] w fun e w' => e = .returned (.tuple #[.int .i64 0, .int .i64 2]) ∧ w' = w := by
  obtain ⟨a, cap, rfl, hc, hm⟩ := h.nodes.shape
  have c0 := h.cell0
  rw [hf] at c0
  clear h
  go_enter Tryz.func46, Tryz.ntmps46
  go_wp2_with (go_at_call 26; refine (isName_any _ _).mono ?_; rintro e w' ⟨rfl, rfl⟩; rw [hN])
  go_ret2
  exact ⟨rfl, rfl⟩
end Go.Proofs.YtkaeenafejdkfaaGreatDoor

/- The document's answer: where an attribute stands; a list without a number; lists that were just made become a tree's. -/
namespace Go.Proofs.YtkaeenafejdkfaaGreatDoor
open Go.RowKit

set_option maxHeartbeats 4000000 in
set_option maxRecDepth 100000 in
theorem at_any {w : World} {M : Nat → Lab} {l : Lab} {v : Value} {at_ : List (ByteArray × ByteArray)} (h : Row w M l 81 2 v at_.length (attrCells at_)) (name : ByteArray) :
    Calls Tryz.prog 93 #[v, .string name] w fun e w' => e = .returned (.int .i64 (findI at_ name)) ∧ w' = w := by
  obtain ⟨a, cap, rfl, h1, h2⟩ := h.shape
  have hcell : Hid (∀ k x, at_[k]? = some x → ∃ g, a = some ⟨g, 0, none⟩ ∧ w.cell? ⟨g, k * 2, none⟩ = some (.string x.1)) := by
    intro k x hk
    have hkl : k < at_.length := (List.getElem?_eq_some_iff.1 hk).1
    obtain ⟨g, c, hv, _, _, _, hg⟩ := h.form (by omega)
    cases hv
    obtain ⟨q1, q2⟩ := attrCells_get at_ k x hk
    exact ⟨g, rfl, (h.cell rfl q1).1⟩
  unfold maxLen at h2
  clear h
  go_enter Tryz.func93, Tryz.ntmps93
  go_wp2
  go_loop [5] (fun i => ∃ k : Nat, k ≤ at_.length ∧ i = .int .i64 k ∧ Hid (∀ j, j < k → ∀ y, at_[j]? = some y → eqS y.1 name = false)) (fun i => at_.length - (intOf i).toNat)
  case atStart => exact ⟨0, by omega, rfl, (fun j hj => absurd hj (by omega) : ∀ j, j < 0 → ∀ y, at_[j]? = some y → eqS y.1 name = false)⟩
  case round =>
    obtain ⟨k, hk, rfl, hno⟩ := hrel
    by_cases hkl : k < at_.length
    · obtain ⟨x, hx⟩ : ∃ x, at_[k]? = some x := ⟨_, List.getElem?_eq_getElem hkl⟩
      obtain ⟨g, rfl, c1⟩ := hcell.out k x hx
      cases he : eqS x.1 name
      · have HN : Hid (∀ j, j < k + 1 → ∀ y, at_[j]? = some y → eqS y.1 name = false) := by
          intro j hj y hy
          by_cases hjk : j = k
          · subst hjk; obtain rfl := Option.some.inj (hy.symm.trans hx); exact he
          · exact hno.out j (by omega) y hy
        unfold eqS at he
        clear hx
        go_wp2
        go_round
        case rel => exact ⟨k + 1, by omega, by go_num, HN⟩
        case measure => simp [intOf]; omega
      · have HF : Hid (findI at_ name = k) := by
          show findI at_ name = k
          simp only [findI, findI_some hx he hno.out]
        unfold eqS at he
        clear hx
        go_wp2
        go_ret
        exact ⟨ret_int HF.out.symm, rfl⟩
    · have HF : Hid (findI at_ name = -1) := by
        show findI at_ name = -1
        simp only [findI, findI_none (fun j hj => hno.out j (by omega))]
      go_wp2
      go_ret
      exact ⟨ret_int HF.out.symm, rfl⟩

/-- a list without a number -/
def outOf (l : List Int) (x : Int) : List Int := l.filter fun y => y != x
theorem outOf_none {l : List Int} {x : Int} (h : x ∉ l) : outOf l x = l := by
  unfold outOf
  rw [List.filter_eq_self]
  intro y hy
  simp only [bne_iff_ne, ne_eq]
  exact fun e => h (e ▸ hy)
theorem outOf_take {l : List Int} {k : Nat} {y x : Int} (h : l[k]? = some y) : outOf (l.take (k + 1)) x = outOf (l.take k) x ++ (if y = x then [] else [y]) := by
  obtain ⟨hk, rfl⟩ := List.getElem?_eq_some_iff.1 h
  unfold outOf
  rw [List.take_succ_eq_append_getElem hk, List.filter_append]
  congr 1
  by_cases e : l[k] = x
  · simp [e]
  · simp [e]

set_option maxHeartbeats 4000000 in
set_option maxRecDepth 100000 in
theorem without_any {w : World} {M : Nat → Lab} {l : Lab} {v : Value} {n : Nat} {xs : List Int} (h : Row w M l 3 1 v n (xs.map intV)) (x : Int) (hn : n ≤ 1099511627776) :
    Calls Tryz.prog 95 #[v, .int .i64 x] w fun e w' => ∃ v', e = .returned v' ∧ w'.ownsRow w.heap.size 3 1 v' (outOf xs x).length ((outOf xs x).map intV) ∧ Below w.heap.size w w' := by
  obtain ⟨i0, hi, hz0, hz1, hz2⟩ := info_parts Tryz.infoInt
  have hln : xs.length = n := by have := h.1; simpa using this
  subst hln
  obtain ⟨a, cap, rfl, h1, h2⟩ := h.shape
  have hcell : Hid (∀ (k : Nat) y, xs[k]? = some y → ∃ g, a = some ⟨g, 0, none⟩ ∧ g < w.heap.size ∧ w.cell? ⟨g, k, none⟩ = some (.int .i64 y)) := by
    intro k y hk
    have hkl : k < xs.length := (List.getElem?_eq_some_iff.1 hk).1
    obtain ⟨g, c, hv, _, _, _, hg⟩ := h.form (by omega)
    cases hv
    exact ⟨g, rfl, hg, (h.cell rfl (j := k) (u := .int .i64 y) (by simp [hk, intV])).1⟩
  unfold maxLen at h2
  clear h
  go_enter Tryz.func95, Tryz.ntmps95
  go_wp2
  go_loopw [5, 6] (fun out i wr => ∃ k : Nat, k ≤ xs.length ∧ i = .int .i64 k ∧ Hid (wr.ownsRow w.heap.size 3 1 out (outOf (xs.take k) x).length ((outOf (xs.take k) x).map intV)) ∧ Hid (Below w.heap.size w wr)) (fun _ i _ => xs.length - (intOf i).toNat)
  case atStart => exact ⟨0, by omega, rfl, (show w.ownsRow w.heap.size 3 1 (.slice none 0 0) (outOf (xs.take 0) x).length ((outOf (xs.take 0) x).map intV) by simp [outOf]; exact World.ownsRow_nil _ _ _ _), Below.refl _ _⟩
  case round =>
    obtain ⟨k, hk, rfl, hown, hbel⟩ := hrel
    by_cases hlt : k < xs.length
    · obtain ⟨y, hy⟩ : ∃ y, xs[k]? = some y := ⟨_, List.getElem?_eq_getElem hlt⟩
      obtain ⟨g, rfl, hg, c1⟩ := hcell.out k y hy
      have c1' := (hbel.out.cell (p := ⟨g, k, none⟩) hg).trans c1
      have hll : (outOf (xs.take k) x).length ≤ xs.length := Nat.le_trans (List.length_filter_le _ _) (by simp; omega)
      have HT : Hid _ := outOf_take (x := x) hy
      have hgl := Nat.lt_of_lt_of_le hg hbel.out.size
      have hsz := hbel.out.size
      clear hy c1
      by_cases hyx : y = x
      · have hb1 : (y != x) = false := by simp [hyx]
        subst hyx
        go_wp2
        go_roundw
        case rel => exact ⟨k + 1, by omega, by go_num, (by rw [HT.out, if_pos rfl, List.append_nil]; exact hown), hbel⟩
        case measure => simp [intOf]; omega
      · have hb1 : (y != x) = true := by simp [hyx]
        have hb2 : (y == x) = false := by simp [hyx]
        go_wp2_with (at_builtin; refine wpList_app_own _ (by rfl) _ _ 48 (by rfl) w.heap.size 3 i0 (.int .i64 0) 1 8 Tryz.underlying48 hi hz0 hz1 hz2 rfl (by decide) u5 _ _ (by rfl) (hown.out.alloc _) _ 1 [.int .i64 y] (by rfl) ⟨rfl, by simp [Value.oneCell'], _, _, rfl, .inr ⟨_, rfl, cell_one_new _ _ _⟩⟩ (by unfold maxLen; omega) (by omega) (by simp; omega) ?_; intro v1 w1 hv1 hg1 _; have HV : Hid _ := And.intro hv1 hg1; clear hv1 hg1)
        go_roundw
        case rel =>
          go_light
          refine ⟨k + 1, by omega, by go_num, ?_, ?_⟩
          · show _
            rw [HT.out, if_neg hyx, List.length_append, List.map_append]
            exact HV.out.1
          · exact (hbel.out.alloc hsz _).grown HV.out.2 (by simp; omega) (fun b hb => (hown.out.lt b hb).1)
        case measure => go_light; simp [intOf]; omega
    · obtain rfl : k = xs.length := by omega
      rw [List.take_length] at hown
      obtain ⟨a5, e5, hv5⟩ := own_shape hown.out
      subst hv5
      go_wp2
      go_ret
      exact ⟨_, rfl, hown.out, hbel.out⟩

/-- a block that is another's becomes the tree's -/
theorem RLies.relabel {EX : Ext} {w : World} {M : Nat → Lab} {tb : Nat} {nv uv : Value} {ps : List Pn} {us : List Value} (h : RLies (EX := EX) w M tb nv uv ps us) {g : Nat} (hM : M g = .other) (hg : g < w.heap.size) (l : Lab) : RLies (EX := EX) w (fun b => if b = g then l else M b) tb nv uv ps us := by
  have ne : ∀ b, M b ≠ .other → b ≠ g := fun b hb e => hb (by rw [e]; exact hM)
  have rw' : ∀ {k : Lab} {e : TypeId} {size n : Nat} {v : Value} {xs : List Value}, k ≠ .other → Row w M k e size v n xs → Row w (fun b => if b = g then l else M b) k e size v n xs := by
    intro k e size n v xs hk hr
    obtain ⟨hl, a, cap, rfl, h1, h2, h3⟩ := hr
    refine ⟨hl, a, cap, rfl, h1, h2, ?_⟩
    rcases h3 with h3 | ⟨g', cur, rfl, hM', hg', h4, h5⟩
    · exact .inl h3
    · refine .inr ⟨g', cur, rfl, ?_, hg', h4, h5⟩
      have : g' ≠ g := ne g' (by rw [hM']; exact hk)
      simp only [if_neg this]
      exact hM'
  refine ⟨fun b hb => ?_, ?_, h.head, rw' (by intro e; cases e) h.nodes, rw' (by intro e; cases e) h.undos, fun i p hp => ⟨rw' (by intro e; cases e) (h.node i p hp).1, rw' (by intro e; cases e) (h.node i p hp).2⟩⟩
  · have : b ≠ g := by omega
    simp only [if_neg this]
    exact h.fresh b hb
  · have : tb ≠ g := ne tb (by rw [h.tree]; intro e; cases e)
    simp only [if_neg this]
    exact h.tree

theorem Step.refl {w : World} {M : Nat → Lab} (hf : ∀ b, w.heap.size ≤ b → M b = .other) (l : Lab) : Step w M w M l := ⟨rfl, rfl, rfl, Nat.le_refl _, fun _ _ => rfl, hf, fun _ _ _ => rfl⟩

/-- a node's kids are another list that was just made -/
theorem RLies.ownKids {EX : Ext} {w0 w : World} {M0 M : Nat → Lab} {tb : Nat} {nv uv : Value} {ps : List Pn} {us : List Value} (h : RLies (EX := EX) w M tb nv uv ps us) (m : Moved w0 M0 w M) {nb k c0 : Nat} (hv : nv = .slice (some ⟨nb, 0, none⟩) k c0) {i : Nat} {p : Pn} (hp : ps[i]? = some p) {B : Nat} {g cap : Nat} {ks : List Int}
    (ho : w.ownsRow B 3 1 (.slice (some ⟨g, 0, none⟩) ks.length cap) ks.length (ks.map intV)) (hB : w0.heap.size ≤ B) (hM : M g = .other) :
    ∃ M', RLies (EX := EX) (w.setCell ⟨nb, i * 6 + 5, none⟩ (.slice (some ⟨g, 0, none⟩) ks.length cap)) M' tb nv uv (ps.set i ⟨{ p.n with kids := ks }, p.av, .slice (some ⟨g, 0, none⟩) ks.length cap⟩) us ∧ Moved w0 M0 (w.setCell ⟨nb, i * 6 + 5, none⟩ (.slice (some ⟨g, 0, none⟩) ks.length cap)) M' := by
  obtain ⟨hgB, hgl⟩ := ho.lt g rfl
  have hr := h.relabel hM hgl (.kids i)
  have hrow : Row w (fun b => if b = g then .kids i else M b) (.kids i) 3 1 (.slice (some ⟨g, 0, none⟩) ks.length cap) ks.length (ks.map intV) := by
    rcases ho.2 with ⟨e, _⟩ | ⟨g', cap', cur, e, _, hg', h1, h2, h3, h4⟩
    · cases e
    · cases e
      exact ⟨ho.1, _, _, rfl, h1, h2, .inr ⟨_, cur, rfl, by simp, hg', by omega, h4⟩⟩
  obtain ⟨q1, q2, _⟩ := hr.setKids hv hp (Step.refl hr.fresh (.kids i)) hrow
  refine ⟨_, q1, ?_⟩
  have mr : Moved w0 M0 w (fun b => if b = g then .kids i else M b) := ⟨m.os, m.tape, m.output, m.size, fun b hb => by
    have : b ≠ g := by omega
    simp only [if_neg this]
    exact m.lab b hb, m.far⟩
  exact mr.trans q2
end Go.Proofs.YtkaeenafejdkfaaGreatDoor

/- The document's answer: a node is taken out. -/
namespace Go.Proofs.YtkaeenafejdkfaaGreatDoor
open Go.RowKit

theorem own_moved' {w w' : World} {M M' : Nat → Lab} {B : Nat} {v : Value} {n : Nat} {xs : List Value} (h : w.ownsRow B 3 1 v n xs) (m : Moved w M w' M') (hl : ∀ k, v.ownBlock = some k → M k = .other) : w'.ownsRow B 3 1 v n xs :=
  own_same h fun k hk => m.far k (h.lt k hk).2 (hl k hk)

/-- a node's kids are another list that was just made, or none -/
theorem RLies.ownKids0 {EX : Ext} {w0 w : World} {M0 M : Nat → Lab} {tb : Nat} {nv uv : Value} {ps : List Pn} {us : List Value} (h : RLies (EX := EX) w M tb nv uv ps us) (m : Moved w0 M0 w M) {nb k c0 : Nat} (hv : nv = .slice (some ⟨nb, 0, none⟩) k c0) {i : Nat} {p : Pn} (hp : ps[i]? = some p) {ks : List Int} {v : Value} {B : Nat}
    (ho : w.ownsRow B 3 1 v ks.length (ks.map intV)) (hB : w0.heap.size ≤ B) (hM : ∀ g, v.ownBlock = some g → M g = .other) :
    ∃ M', RLies (EX := EX) (w.setCell ⟨nb, i * 6 + 5, none⟩ v) M' tb nv uv (ps.set i ⟨{ p.n with kids := ks }, p.av, v⟩) us ∧ Moved w0 M0 (w.setCell ⟨nb, i * 6 + 5, none⟩ v) M' ∧ (∀ b, b < B → M' b = M b) := by
  rcases id ho.2 with ⟨rfl, e⟩ | ⟨g, cap, cur, rfl, hb, hg, _⟩
  · have hks : ks = [] := List.eq_nil_of_length_eq_zero e
    subst hks
    obtain ⟨q1, q2, _⟩ := h.setKids hv hp (Step.refl h.fresh (.kids i)) (kv' := .slice none 0 0) (ks' := []) (Row.nil _ _ _ _ _)
    exact ⟨M, q1, m.trans q2, fun _ _ => rfl⟩
  · have hgM : M g = .other := hM g rfl
    have hr := h.relabel hgM (lt_of_heap hg) (.kids i)
    have hrow : Row w (fun b => if b = g then .kids i else M b) (.kids i) 3 1 (.slice (some ⟨g, 0, none⟩) ks.length cap) ks.length (ks.map intV) := own_row ho (fun g' e => by cases e; simp)
    obtain ⟨q1, q2, _⟩ := hr.setKids hv hp (Step.refl hr.fresh (.kids i)) hrow
    have mr : Moved w0 M0 w (fun b => if b = g then .kids i else M b) := ⟨m.os, m.tape, m.output, m.size, fun b hb' => by
      have : b ≠ g := by omega
      simp only [if_neg this]
      exact m.lab b hb', m.far⟩
    exact ⟨_, q1, mr.trans q2, fun b hb' => by
      have : b ≠ g := by omega
      simp only [if_neg this]⟩

end Go.Proofs.YtkaeenafejdkfaaGreatDoor

/- The document's answer: whether a node lies in another one; a node's root. -/
namespace Go.Proofs.YtkaeenafejdkfaaGreatDoor
open Go.RowKit

set_option maxHeartbeats 4000000 in
set_option maxRecDepth 100000 in
theorem in_any {EX : Ext} {w : World} {M : Nat → Lab} {tb : Nat} {nv uv : Value} {ps : List Pn} {us : List Value} (h : RLies (EX := EX) w M tb nv uv ps us) {i : Nat} {l : List Nat} (hu : Up (nodesOf ps) i l) (j : Nat) :
    Calls Tryz.prog 94 #[.pointer (some ⟨tb, 0, none⟩), .int .i64 i, .int .i64 j] w fun e w' => e = .returned (.bool (decide (j ∈ l))) ∧ w' = w := by
  have H : Hid (RLies (EX := EX) w M tb nv uv ps us) := h
  have HU : Hid (Up (nodesOf ps) i l) := hu
  clear h hu
  go_enter Tryz.func94, Tryz.ntmps94
  go_wp2
  go_loopg [1] (l.length + 1) (fun k id wr => wr = w ∧ ((∃ (x : Nat) (l' : List Nat), id = .int .i64 x ∧ l'.length + 1 = k ∧ Hid (Up (nodesOf ps) x l') ∧ Hid (j ∈ l' ↔ j ∈ l)) ∨ (id = .int .i64 (-1) ∧ k = 0 ∧ Hid (¬ j ∈ l))))
  case atStart => exact ⟨rfl, .inl ⟨i, l, rfl, rfl, HU, (Iff.rfl : j ∈ l ↔ j ∈ l)⟩⟩
  case round =>
    obtain ⟨rfl, hrel⟩ := hrel
    rcases hrel with ⟨x, l', rfl, hk, hup, hiff⟩ | ⟨rfl, hk, hno⟩
    · by_cases hxj : x = j
      · subst hxj
        have HD : Hid (decide (x ∈ l) = true) := by
          show decide _ = true
          rw [decide_eq_true_eq]
          refine hiff.out.1 ?_
          have := hup.out
          cases this <;> simp
        go_wp2
        go_ret
        exact ⟨ret_bool HD.out.symm, rfl⟩
      · have hne : ¬ ((x : Int) = (j : Int)) := by omega
        have hb1 : ((x : Int) != (j : Int)) = true := by simp [hne]
        have hneb : ((x : Int) == (j : Int)) = false := by simpa using hne
        have hupo := hup.out
        cases hupo with
        | root hn hp =>
          obtain ⟨p, hp1, rfl⟩ := nodesOf_get hn
          obtain ⟨nb, cap, hnv, hc, hm, _, _, hxl⟩ := H.out.form hp1
          have hL := H.out
          rw [hnv] at hL
          have c0 := hL.cell0
          have c4 := (hL.cellN rfl (f := 4) hp1 (by omega) rfl).1
          rw [hp] at c4
          unfold maxLen at hm
          have HN : Hid (¬ j ∈ l) := by
            intro hj
            have := hiff.out.2 hj
            simp at this
            omega
          clear hL hn hp hp1 hnv
          go_wp2
          go_roundg 0
          case measure => omega
          case rel => exact ⟨rfl, .inr ⟨rfl, rfl, HN⟩⟩
        | @up _ q l2 n hn hp hu2 =>
          obtain ⟨p, hp1, rfl⟩ := nodesOf_get hn
          obtain ⟨nb, cap, hnv, hc, hm, _, _, hxl⟩ := H.out.form hp1
          have hL := H.out
          rw [hnv] at hL
          have c0 := hL.cell0
          have c4 := (hL.cellN rfl (f := 4) hp1 (by omega) rfl).1
          rw [hp] at c4
          unfold maxLen at hm
          have HN : Hid (j ∈ l2 ↔ j ∈ l) := by
            show _ ↔ _
            rw [← hiff.out, List.mem_cons]
            constructor
            · exact .inr
            · rintro (h | h)
              · omega
              · exact h
          have HU2 : Hid (Up (nodesOf ps) q l2) := hu2
          clear hL hn hp hp1 hnv hu2
          go_wp2
          go_roundg (l2.length + 1)
          case measure => simp at hk; omega
          case rel => exact ⟨rfl, .inl ⟨q, l2, rfl, rfl, HU2, HN⟩⟩
    · have hn2 : ¬ ((-1 : Int) = (j : Int)) := by omega
      have hn2b : ((-1 : Int) == (j : Int)) = false := by simp
      have HD : Hid (decide (j ∈ l) = false) := by
        show decide _ = false
        rw [decide_eq_false_iff_not]
        exact hno.out
      go_wp2
      go_ret
      exact ⟨ret_bool HD.out.symm, rfl⟩

end Go.Proofs.YtkaeenafejdkfaaGreatDoor

/- The document's answer: what Put makes of any tree. -/
namespace Go.Proofs.YtkaeenafejdkfaaGreatDoor
open Go.RowKit

/-- a number is put into a list -/
def insK (O : List Int) (c : Nat) (i : Int) : List Int := O.take c ++ i :: O.drop c
theorem insK_length (O : List Int) (c : Nat) (i : Int) (hc : c ≤ O.length) : (insK O c i).length = c + 1 + (O.length - c) := by
  unfold insK
  simp
  omega
theorem srcOf_zero' (w : World) (size : Nat) (a : Option Addr) (c : Nat) : SrcOf w size (.slice a 0 c) 0 [] := by
  refine ⟨by simp, by simp, a, c, rfl, ?_⟩
  cases a with
  | none => exact .inl ⟨rfl, rfl⟩
  | some ad => exact .inr ⟨ad, rfl, by simp⟩
theorem srcOf_take {w : World} {g n cap c cap' : Nat} {O : List Int} (h : SrcOf w 1 (.slice (some ⟨g, 0, none⟩) n cap) n (O.map intV)) (hc : c ≤ n) : SrcOf w 1 (.slice (some ⟨g, 0, none⟩) c cap') c ((O.take c).map intV) := by
  obtain ⟨h1, h2, a, c', h3, h4⟩ := h
  cases h3
  refine ⟨by simp at h1 ⊢; omega, fun u hu => h2 u ?_, _, _, rfl, .inr ⟨_, rfl, ?_⟩⟩
  · rw [List.map_take] at hu; exact List.mem_of_mem_take hu
  · rcases h4 with ⟨h4, _⟩ | ⟨ad, h4, h5⟩
    · cases h4
    · cases h4
      intro j u hu
      refine h5 j u ?_
      rw [List.map_take, List.getElem?_take] at hu
      split at hu
      · exact hu
      · cases hu
theorem srcOf_drop {w : World} {g n cap c cap' : Nat} {O : List Int} (h : SrcOf w 1 (.slice (some ⟨g, 0, none⟩) n cap) n (O.map intV)) (hc : c ≤ n) : SrcOf w 1 (.slice (some ⟨g, c, none⟩) (n - c) cap') (n - c) ((O.drop c).map intV) := by
  obtain ⟨h1, h2, a, c', h3, h4⟩ := h
  cases h3
  refine ⟨by simp at h1 ⊢; omega, fun u hu => h2 u ?_, _, _, rfl, .inr ⟨_, rfl, ?_⟩⟩
  · rw [List.map_drop] at hu; exact List.mem_of_mem_drop hu
  · rcases h4 with ⟨h4, _⟩ | ⟨ad, h4, h5⟩
    · cases h4
    · cases h4
      intro j u hu
      rw [List.map_drop, List.getElem?_drop] at hu
      have := h5 (c + j) u hu
      rw [add0] at this
      rw [← this]
      congr 1
      unfold Addr.add
      simp
theorem srcOf_dropI {w : World} {g n cap c cap' : Nat} {O : List Int} (h : SrcOf w 1 (.slice (some ⟨g, 0, none⟩) n cap) n (O.map intV)) (hc : c ≤ n) (hcap : n ≤ cap) : SrcOf w 1 (.slice (if cap = c then some ⟨g, 0, none⟩ else some ⟨g, c, none⟩) (n - c) cap') (n - c) (List.drop c (List.map intV O)) := by
  have hl : O.length = n := by have := h.1; simpa using this
  by_cases e : cap = c
  · rw [if_pos e]
    have e1 : n - c = 0 := by omega
    have e2 : List.drop c (List.map intV O) = [] := List.drop_eq_nil_of_le (by simp; omega)
    rw [e1, e2]
    exact srcOf_zero' _ _ _ _
  · rw [if_neg e, ← List.map_drop]
    exact srcOf_drop h hc

set_option maxHeartbeats 16000000 in
set_option maxRecDepth 100000 in
theorem rput_root {EX : Ext} {w : World} {M : Nat → Lab} {tb : Nat} {nv uv : Value} {ps : List Pn} {us : List Value} (h : RLies (EX := EX) w M tb nv uv ps us) (hs : Small ps) (hn : ps.length ≤ 1000000) (hu : us.length ≤ 1000000000) {a i c : Nat} {p m : Pn} (hp : ps[i]? = some p) (hm : ps[a]? = some m) (h0 : i ≠ 0) (h3 : m.n.kind ≠ 3) (h4 : m.n.kind ≠ 4) {la : List Nat} (hup : Up (nodesOf ps) a la) (hno : i ∉ la) (hc : c ≤ (outOf m.n.kids i).length) (hk : m.n.kids.length ≤ 1000000000) (hr : p.n.parent = -1) :
    Calls Tryz.prog 48 #[.pointer (some ⟨tb, 0, none⟩), .int .i64 a, .int .i64 i, .int .i64 c] w fun e w' => e = .returned (.int .i64 0) ∧ RDone (EX := EX) w M tb us (nodesOf ps) (((nodesOf ps).set a { m.n with kids := insK (outOf m.n.kids i) c i }).set i { p.n with parent := a }) w' := by
  have hai : a ≠ i := fun e => hno (e ▸ hup.head)
  obtain ⟨i0, hi, hz0, hz1, hz2⟩ := info_parts Tryz.infoInt
  have hha : hasB ps.length a = true := hasB_of hm
  have hhb : hasB ps.length i = true := hasB_of hp
  obtain ⟨nb, nc, rfl, hcp, hmx, hnM, hnl, hal⟩ := h.form hm
  have hil : i < ps.length := (List.getElem?_eq_some_iff.1 hp).1
  have c0 := h.cell0
  have k0 := (h.cellN rfl (f := 0) hm (by omega) rfl).1
  rw [Nat.add_zero] at k0
  have k5 := (h.cellN rfl (f := 5) hm (by omega) rfl).1
  obtain ⟨ka, kc, hkv, _, _⟩ := (h.node a m hm).2.shape
  rw [hkv] at k5
  have HRow : Hid (Row w M (.kids a) 3 1 (.slice ka m.n.kids.length kc) m.n.kids.length (m.n.kids.map intV)) := hkv ▸ (h.node a m hm).2
  have hlt : tb < w.heap.size := lt_of_heap h.head
  have H : Hid (RLies (EX := EX) w M tb (.slice (some ⟨nb, 0, none⟩) ps.length nc) uv ps us) := h
  have HS : Hid (Small ps) := hs
  have HA : Hid (ps[a]? = some m) := hm
  have HB : Hid (ps[i]? = some p) := hp
  have HU : Hid (Up (nodesOf ps) a la) := hup
  have i1 : (0 : Int) ≤ (a : Int) := by omega
  have i2 : (a : Int) < (ps.length : Int) := by omega
  have i3 : (0 : Int) ≤ (i : Int) := by omega
  have i4 : (i : Int) < (ps.length : Int) := by omega
  have i5 : (0 : Int) ≤ (c : Int) := by omega
  have b0 : ((i : Int) == 0) = false := by rw [beq_eq_false_iff_ne]; omega
  have b0' : ¬ ((i : Int) = 0) := by omega
  have n3 : (m.n.kind == 3) = false := by rw [beq_eq_false_iff_ne]; exact h3
  have n4 : (m.n.kind == 4) = false := by rw [beq_eq_false_iff_ne]; exact h4
  have hwi : decide (i ∈ la) = false := by simpa using hno
  have hol : (outOf m.n.kids i).length ≤ m.n.kids.length := List.length_filter_le _ _
  obtain ⟨O, hO⟩ : ∃ O, outOf m.n.kids i = O := ⟨_, rfl⟩
  rw [hO] at hol hc
  have HO : Hid (outOf m.n.kids i = O) := hO
  obtain ⟨nO, hnO⟩ : ∃ nO, O.length = nO := ⟨_, rfl⟩
  rw [hnO] at hol hc
  have HnO : Hid (O.length = nO) := hnO
  have i6 : (c : Int) ≤ (nO : Int) := by omega
  unfold maxLen at hmx
  rw [hO]
  clear h hs hm hp hup hO hnO h3 h4 hno
  go_enter Tryz.func48, Tryz.ntmps48
  go_wp2_with (first
    | (go_at_call 15; refine (rhas_any H.out _).mono ?_; rintro e w' ⟨rfl, hw'⟩; subst hw'; first | rw [hha] | rw [hhb])
    | (go_at_call 94; refine (in_any H.out HU.out i).mono ?_; rintro e w' ⟨rfl, hw'⟩; subst hw'; rw [hwi]))
  refine (without_any HRow.out i (by omega)).mono ?_
  rintro e w2 ⟨v13, rfl, ho, hBq⟩
  rw [HO.out, HnO.out] at ho
  obtain ⟨a13, c13, hv13⟩ := own_shape ho
  subst hv13
  have HO2 : Hid (w2.ownsRow w'.heap.size 3 1 (.slice a13 nO c13) nO (O.map intV)) := ho
  have HL2 : Hid (RLies (EX := EX) w2 M tb (.slice (some ⟨nb, 0, none⟩) ps.length nc) uv ps us ∧ Below w'.heap.size w' w2) := ⟨H.out.below hBq, hBq⟩
  have hc13 : nO ≤ c13 ∧ c13 ≤ 9223372036854775807 ∧ (a13 = none → nO = 0 ∧ c13 = 0) ∧ (∀ ad, a13 = some ad → ∃ g, ad = ⟨g, 0, none⟩ ∧ w'.heap.size ≤ g) := by
    rcases ho.2 with ⟨e, e0⟩ | ⟨g, cap, cur, e, hbg, _, e1, e2, _⟩
    · injection e with f1 f2 f3
      subst f1
      subst f3
      exact ⟨by omega, by omega, fun _ => ⟨e0, rfl⟩, fun ad h => by cases h⟩
    · injection e with f1 f2 f3
      subst f1
      subst f3
      exact ⟨e1, by unfold maxLen at e2; omega, fun h => (by cases h), fun ad h => ⟨g, by cases h; rfl, hbg⟩⟩
  obtain ⟨t1, t2, t3, t4⟩ := hc13
  clear ho hBq
  go_wp2_with fail
  refine (rkeepE_any HL2.out.1 HS.out hn hu).mono ?_
  rintro e w3 ⟨rfl, M3, uv3, v3, l3, m3, kk⟩
  have ho3 : w3.ownsRow w'.heap.size 3 1 (.slice a13 nO c13) nO (O.map intV) := own_moved' HO2.out m3 (fun k hk => H.out.fresh k (HO2.out.lt k hk).1)
  have hM3 : ∀ k, (Value.slice a13 nO c13).ownBlock = some k → M3 k = .other := fun k hk => (m3.lab k (HO2.out.lt k hk).2).trans (H.out.fresh k (HO2.out.lt k hk).1)
  have hw2 : w'.heap.size ≤ w2.heap.size := HL2.out.2.size
  have hw3 : w2.heap.size ≤ w3.heap.size := m3.size
  have kk' : CopyOf w' w3 M3 v3 (nodesOf ps) := (by
    obtain ⟨L, x1, x2⟩ := kk
    exact ⟨L, x1, fun b hb => ⟨Nat.le_trans hw2 (x2 b hb).1, (x2 b hb).2⟩⟩)
  have H3 : Hid (RLies (EX := EX) w3 M3 tb (.slice (some ⟨nb, 0, none⟩) ps.length nc) uv3 ps (us ++ [v3]) ∧ Moved w' M w3 M3 ∧ CopyOf w' w3 M3 v3 (nodesOf ps) ∧ w3.ownsRow w'.heap.size 3 1 (.slice a13 nO c13) nO (O.map intV) ∧ (∀ k, (Value.slice a13 nO c13).ownBlock = some k → M3 k = .other)) := ⟨l3, ((Moved.refl w' M).below HL2.out.2).trans m3, kk', ho3, hM3⟩
  have d0 := l3.cell0
  have d4 := (l3.cellN rfl (f := 4) HB.out (by omega) rfl).1
  rw [hr] at d4
  obtain ⟨w5, hw5⟩ : ∃ w5, w5 = w3 := ⟨_, rfl⟩
  subst hw5
  obtain ⟨M4, hM4⟩ : ∃ M4, M4 = M3 := ⟨_, rfl⟩
  subst hM4
  have H5 : Hid (RLies (EX := EX) w5 M4 tb (.slice (some ⟨nb, 0, none⟩) ps.length nc) uv3 ps (us ++ [v3]) ∧ Moved w' M w5 M4 ∧ CopyOf w' w5 M4 v3 (nodesOf ps)) := ⟨H3.out.1, H3.out.2.1, H3.out.2.2.1⟩
  have z0 := d0
  have HSrc : Hid (SrcOf w5 1 (.slice a13 nO c13) nO (O.map intV)) := own_src ho3 (one_int _)
  clear l3 m3 kk kk' ho3 hM3
  have fin : ∀ (v6 : Value) (w6 : World), w6.ownsRow w5.heap.size 3 1 v6 (c + 1 + (nO - c)) ((O.take c).map intV ++ [.int .i64 i] ++ (O.drop c).map intV) → Below w5.heap.size w5 w6 → ∃ a6 c6, v6 = .slice a6 (c + 1 + (nO - c)) c6 ∧ w6.cell? ⟨tb, 0, none⟩ = some (.slice (some ⟨nb, 0, none⟩) ps.length nc) ∧ w6.cell? ⟨nb, a * 6 + 5, none⟩ = some m.kv ∧ w6.frozen? ⟨nb, a * 6 + 5, none⟩ = false ∧
      ∃ M6, RLies (EX := EX) (w6.setCell ⟨nb, a * 6 + 5, none⟩ (.slice a6 (c + 1 + (nO - c)) c6)) M6 tb (.slice (some ⟨nb, 0, none⟩) ps.length nc) uv3 (ps.set a ⟨{ m.n with kids := insK O c i }, m.av, .slice a6 (c + 1 + (nO - c)) c6⟩) (us ++ [v3]) ∧ Moved w5 M4 (w6.setCell ⟨nb, a * 6 + 5, none⟩ (.slice a6 (c + 1 + (nO - c)) c6)) M6 := by
    intro v6 w6 hv6 hb6
    have l6 := H5.out.1.below hb6
    obtain ⟨f1, f2⟩ := l6.cellN rfl (f := 5) HA.out (by omega) rfl
    have eK : (insK O c i).length = c + 1 + (nO - c) := by rw [insK_length O c i (by rw [HnO.out]; exact hc), HnO.out]
    have hv6' : w6.ownsRow w5.heap.size 3 1 v6 (insK O c i).length ((insK O c i).map intV) := by
      rw [eK]
      have : (insK O c i).map intV = (O.take c).map intV ++ [.int .i64 i] ++ (O.drop c).map intV := by simp [insK, intV]
      rw [this]
      exact hv6
    obtain ⟨M6, r1, r2, _⟩ := l6.ownKids0 ((Moved.refl w5 M4).below hb6) rfl HA.out hv6' (Nat.le_refl _) (fun g hg => H5.out.1.fresh g (hv6.lt g hg).1)
    obtain ⟨a6, c6, rfl⟩ := own_shape hv6
    exact ⟨a6, c6, rfl, l6.cell0, f1, f2, M6, r1, r2⟩
  have FIN : Hid _ := fin
  clear fin
  cases a13 with
  | none =>
    obtain ⟨z1, z2⟩ := t3 rfl
    subst z2
    subst z1
    obtain rfl : c = 0 := by omega
    obtain rfl : O = [] := List.length_eq_zero_iff.1 HnO.out
    have fin := FIN.out
    simp only [List.take_nil, List.drop_nil, List.map_nil, List.nil_append, List.append_nil, Nat.zero_add, Nat.sub_self, Nat.add_zero] at fin
    have FIN2 : Hid _ := fin
    clear fin FIN t1 t2 t3 t4
    go_wp2_with (first
      | (at_builtin; refine wpList_app_own _ (by rfl) _ _ 48 (by rfl) w5.heap.size 3 i0 (.int .i64 0) 1 8 Tryz.underlying48 hi hz0 hz1 hz2 rfl (by decide) (.slice none 0 0) 0 [] (by rfl) (World.ownsRow_nil _ _ _ _) (.slice none 0 0) 0 [] (by rfl) (srcOf_zero' _ _ _ _) (by unfold maxLen; omega) (by omega) (Nat.le_refl _) ?_
         intro u4 x4 hu4 hg4 _
         rw [Nat.zero_add, List.nil_append] at hu4
         have HV4 : Hid (x4.ownsRow w5.heap.size 3 1 u4 0 [] ∧ Below w5.heap.size w5 x4) := ⟨hu4, below_grown hg4⟩
         have hx4 : w5.heap.size ≤ x4.heap.size := hg4.size
         clear hu4 hg4)
      | (at_builtin; refine wpList_app_own _ (by rfl) _ _ 48 (by rfl) w5.heap.size 3 i0 (.int .i64 0) 1 8 Tryz.underlying48 hi hz0 hz1 hz2 rfl (by decide) u4 0 [] (by rfl) (HV4.out.1.alloc _) _ 1 [.int .i64 i] (by rfl) ⟨rfl, by simp [Value.oneCell'], _, _, rfl, .inr ⟨_, rfl, cell_one_new _ _ _⟩⟩ (by unfold maxLen; omega) (by omega) (by simp; omega) ?_
         intro u5 x5 hu5 hg5 _
         have HV5 : Hid (x5.ownsRow w5.heap.size 3 1 u5 1 [.int .i64 i] ∧ Below w5.heap.size w5 x5) := ⟨hu5, (HV4.out.2.alloc hx4 _).grown hg5 (by simp; omega) (fun k hk => (HV4.out.1.lt k hk).1)⟩
         have hx5 : w5.heap.size ≤ x5.heap.size := HV5.out.2.size
         clear hu5 hg5)
      | (at_builtin; refine wpList_app_own _ (by rfl) _ _ 48 (by rfl) w5.heap.size 3 i0 (.int .i64 0) 1 8 Tryz.underlying48 hi hz0 hz1 hz2 rfl (by decide) u5 1 [.int .i64 i] (by rfl) HV5.out.1 _ 0 [] (by rfl) (srcOf_zero' _ _ _ _) (by unfold maxLen; omega) (by omega) hx5 ?_
         intro u6 x6 hu6 hg6 _
         obtain ⟨a6, c6, hu6', f0, f1, f2, M6, r1, r2⟩ := FIN2.out u6 x6 hu6 (HV5.out.2.grown hg6 hx5 (fun k hk => (HV5.out.1.lt k hk).1))
         subst hu6'
         have hb2 : (ps.set a ⟨{ m.n with kids := insK [] 0 i }, m.av, .slice a6 1 c6⟩)[i]? = some p := (by rw [List.getElem?_set_ne hai]; exact HB.out)
         have y0 := r1.cell0
         obtain ⟨y4, y4f⟩ := r1.cellN rfl (f := 4) hb2 (by omega) rfl
         have HQ : Hid _ := And.intro (r1.setNode rfl (f := 4) (c := .int .i64 a) hb2 (by omega) (p' := ⟨{ p.n with parent := a }, p.av, p.kv⟩) rfl (r1.node i p hb2).1 (r1.node i p hb2).2) r2
         clear hu6 hg6 r1 r2 hb2))
    go_ret
    have mv := HQ.out.2.trans (HQ.out.1.2.moved (by intro e; cases e))
    exact ⟨rfl, M6, _, uv3, _, v3, HQ.out.1.1, (by simp [nodesOf, List.map_set]), H5.out.2.1.trans mv, CopyOf.moved H5.out.2.2 mv⟩
  | some ad =>
    obtain ⟨g13, rfl, hg13⟩ := t4 ad rfl
    clear t3 t4
    go_wp2_with (first
      | (at_builtin; refine wpList_app_own _ (by rfl) _ _ 48 (by rfl) w5.heap.size 3 i0 (.int .i64 0) 1 8 Tryz.underlying48 hi hz0 hz1 hz2 rfl (by decide) (.slice none 0 0) 0 [] (by rfl) (World.ownsRow_nil _ _ _ _) _ c ((O.take c).map intV) (by rfl) (by simp [Act.eval]; simpa using srcOf_take (cap' := c13) HSrc.out hc) (by unfold maxLen; omega) (by omega) (Nat.le_refl _) ?_
         intro u4 x4 hu4 hg4 _
         rw [Nat.zero_add, List.nil_append] at hu4
         have HV4 : Hid (x4.ownsRow w5.heap.size 3 1 u4 c ((O.take c).map intV) ∧ Below w5.heap.size w5 x4) := ⟨hu4, below_grown hg4⟩
         have hx4 : w5.heap.size ≤ x4.heap.size := hg4.size
         clear hu4 hg4)
      | (at_builtin; refine wpList_app_own _ (by rfl) _ _ 48 (by rfl) w5.heap.size 3 i0 (.int .i64 0) 1 8 Tryz.underlying48 hi hz0 hz1 hz2 rfl (by decide) u4 c ((O.take c).map intV) (by rfl) (HV4.out.1.alloc _) _ 1 [.int .i64 i] (by rfl) ⟨rfl, by simp [Value.oneCell'], _, _, rfl, .inr ⟨_, rfl, cell_one_new _ _ _⟩⟩ (by unfold maxLen; omega) (by omega) (by simp; omega) ?_
         intro u5 x5 hu5 hg5 _
         have HV5 : Hid (x5.ownsRow w5.heap.size 3 1 u5 (c + 1) ((O.take c).map intV ++ [.int .i64 i]) ∧ Below w5.heap.size w5 x5) := ⟨hu5, (HV4.out.2.alloc hx4 _).grown hg5 (by simp; omega) (fun k hk => (HV4.out.1.lt k hk).1)⟩
         have hx5 : w5.heap.size ≤ x5.heap.size := HV5.out.2.size
         clear hu5 hg5)
      | (at_builtin; refine wpList_app_own _ (by rfl) _ _ 48 (by rfl) w5.heap.size 3 i0 (.int .i64 0) 1 8 Tryz.underlying48 hi hz0 hz1 hz2 rfl (by decide) u5 (c + 1) ((O.take c).map intV ++ [.int .i64 i]) (by rfl) HV5.out.1 _ (nO - c) ((O.drop c).map intV) (by rfl) (by simp [Act.eval]; exact srcOf_dropI (HSrc.out.below HV5.out.2) hc t1) (by unfold maxLen; omega) (by omega) hx5 ?_
         intro u6 x6 hu6 hg6 _
         obtain ⟨a6, c6, hu6', f0, f1, f2, M6, r1, r2⟩ := FIN.out u6 x6 hu6 (HV5.out.2.grown hg6 hx5 (fun k hk => (HV5.out.1.lt k hk).1))
         subst hu6'
         have hb2 : (ps.set a ⟨{ m.n with kids := insK O c i }, m.av, .slice a6 (c + 1 + (nO - c)) c6⟩)[i]? = some p := (by rw [List.getElem?_set_ne hai]; exact HB.out)
         have y0 := r1.cell0
         obtain ⟨y4, y4f⟩ := r1.cellN rfl (f := 4) hb2 (by omega) rfl
         have HQ : Hid _ := And.intro (r1.setNode rfl (f := 4) (c := .int .i64 a) hb2 (by omega) (p' := ⟨{ p.n with parent := a }, p.av, p.kv⟩) rfl (r1.node i p hb2).1 (r1.node i p hb2).2) r2
         clear hu6 hg6 r1 r2 hb2))
    all_goals go_ret
    all_goals
      have mv := HQ.out.2.trans (HQ.out.1.2.moved (by intro e; cases e))
      exact ⟨rfl, M6, _, uv3, _, v3, HQ.out.1.1, (by simp [nodesOf, List.map_set]), H5.out.2.1.trans mv, CopyOf.moved H5.out.2.2 mv⟩
end Go.Proofs.YtkaeenafejdkfaaGreatDoor
