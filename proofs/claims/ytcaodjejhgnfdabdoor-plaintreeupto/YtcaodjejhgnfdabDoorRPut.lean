/- The document's answer: a root becomes the last kid of another root. -/
import Derived.Test.YtcaodjejhgnfdabDoorRSet
import Derived.LoopN
namespace Go.Proofs.YtcaodjejhgnfdabDoor
open Go.RowKit
attribute [local go_sem ↓] Go.wp_at_zero Go.wp_at_succ

set_option maxHeartbeats 1000000 in
theorem in_root {w : World} {M : Nat → Lab} {tb : Nat} {nv uv : Value} {ps : List Pn} {us : List Value} (h : RLies w M tb nv uv ps us) {a b : Nat} {pa : Pn} (ha : ps[a]? = some pa) (hab : a ≠ b) (hr : pa.n.parent = -1) :
    Calls Tryd.prog 55 #[.pointer (some ⟨tb, 0, none⟩), .int .i64 a, .int .i64 b] w fun e w' => e = .returned (.bool false) ∧ w' = w := by
  obtain ⟨nb, cap, rfl, hc, hm, _, _, hal⟩ := h.form ha
  have c0 := h.cell0
  have c4 := (h.cellN rfl (f := 4) ha (by omega) rfl).1
  rw [hr] at c4
  have i1 : (0 : Int) ≤ (a : Int) := by omega
  have i2 : (a : Int) < (ps.length : Int) := by omega
  have hne : ((a : Int) == (b : Int)) = false := by rw [beq_eq_false_iff_ne]; omega
  have hne' : ¬ ((a : Int) = (b : Int)) := by omega
  unfold maxLen at hm
  clear h ha
  go_enter Tryd.func55, Tryd.ntmps55
  go_wp2
  refine wp_loop_rounds 2 ?_
  rw [rounds_succ]
  go_wp2
  rw [rounds_succ]
  go_wp2
  go_ret
  exact ⟨rfl, rfl⟩

/-- a list without a number -/
def outOf (l : List Int) (x : Int) : List Int := l.filter fun y => y != x
theorem outOf_none {l : List Int} {x : Int} (h : x ∉ l) : outOf l x = l := by
  unfold outOf
  rw [List.filter_eq_self]
  intro y hy
  simp only [bne_iff_ne, ne_eq]
  exact fun e => h (e ▸ hy)
theorem outOf_take {l : List Int} {k : Nat} {y x : Int} (h : l[k]? = some y) : outOf (l.take (k + 1)) x = outOf (l.take k) x ++ (if y = x then [] else [y]) := by
  obtain ⟨hk, rfl⟩ := List.getElem?_eq_some_iff.1 h
  unfold outOf
  rw [List.take_succ_eq_append_getElem hk, List.filter_append]
  congr 1
  by_cases e : l[k] = x
  · simp [e]
  · simp [e]

set_option maxHeartbeats 4000000 in
set_option maxRecDepth 100000 in
theorem without_any {w : World} {M : Nat → Lab} {l : Lab} {v : Value} {n : Nat} {xs : List Int} (h : Row w M l 3 1 v n (xs.map intV)) (x : Int) (hn : n ≤ 1099511627776) :
    Calls Tryd.prog 56 #[v, .int .i64 x] w fun e w' => ∃ v', e = .returned v' ∧ w'.ownsRow w.heap.size 3 1 v' (outOf xs x).length ((outOf xs x).map intV) ∧ Below w.heap.size w w' := by
  obtain ⟨i0, hi, hz0, hz1, hz2⟩ := info_parts Tryd.infoInt
  have hln : xs.length = n := by have := h.1; simpa using this
  subst hln
  obtain ⟨a, cap, rfl, h1, h2⟩ := h.shape
  have hcell : Hid (∀ (k : Nat) y, xs[k]? = some y → ∃ g, a = some ⟨g, 0, none⟩ ∧ g < w.heap.size ∧ w.cell? ⟨g, k, none⟩ = some (.int .i64 y)) := by
    intro k y hk
    have hkl : k < xs.length := (List.getElem?_eq_some_iff.1 hk).1
    obtain ⟨g, c, hv, _, _, _, hg⟩ := h.form (by omega)
    cases hv
    exact ⟨g, rfl, hg, (h.cell rfl (j := k) (u := .int .i64 y) (by simp [hk, intV])).1⟩
  unfold maxLen at h2
  clear h
  go_enter Tryd.func56, Tryd.ntmps56
  go_wp2
  go_loopw [5, 6] (fun out i wr => ∃ k : Nat, k ≤ xs.length ∧ i = .int .i64 k ∧ Hid (wr.ownsRow w.heap.size 3 1 out (outOf (xs.take k) x).length ((outOf (xs.take k) x).map intV)) ∧ Hid (Below w.heap.size w wr)) (fun _ i _ => xs.length - (intOf i).toNat)
  case atStart => exact ⟨0, by omega, rfl, (show w.ownsRow w.heap.size 3 1 (.slice none 0 0) (outOf (xs.take 0) x).length ((outOf (xs.take 0) x).map intV) by simp [outOf]; exact World.ownsRow_nil _ _ _ _), Below.refl _ _⟩
  case round =>
    obtain ⟨k, hk, rfl, hown, hbel⟩ := hrel
    by_cases hlt : k < xs.length
    · obtain ⟨y, hy⟩ : ∃ y, xs[k]? = some y := ⟨_, List.getElem?_eq_getElem hlt⟩
      obtain ⟨g, rfl, hg, c1⟩ := hcell.out k y hy
      have c1' := (hbel.out.cell (p := ⟨g, k, none⟩) hg).trans c1
      have hll : (outOf (xs.take k) x).length ≤ xs.length := Nat.le_trans (List.length_filter_le _ _) (by simp; omega)
      have HT : Hid _ := outOf_take (x := x) hy
      have hgl := Nat.lt_of_lt_of_le hg hbel.out.size
      have hsz := hbel.out.size
      clear hy c1
      by_cases hyx : y = x
      · have hb1 : (y != x) = false := by simp [hyx]
        subst hyx
        go_wp2
        go_roundw
        case rel => exact ⟨k + 1, by omega, by go_num, (by rw [HT.out, if_pos rfl, List.append_nil]; exact hown), hbel⟩
        case measure => simp [intOf]; omega
      · have hb1 : (y != x) = true := by simp [hyx]
        have hb2 : (y == x) = false := by simp [hyx]
        go_wp2_with (at_builtin; refine wpList_app_own _ (by rfl) _ _ 37 (by rfl) w.heap.size 3 i0 (.int .i64 0) 1 8 Tryd.underlying37 hi hz0 hz1 hz2 rfl (by decide) u5 _ _ (by rfl) (hown.out.alloc _) _ 1 [.int .i64 y] (by rfl) ⟨rfl, by simp [Value.oneCell'], _, _, rfl, .inr ⟨_, rfl, cell_one_new _ _ _⟩⟩ (by unfold maxLen; omega) (by omega) (by simp; omega) ?_; intro v1 w1 hv1 hg1 _; have HV : Hid _ := And.intro hv1 hg1; clear hv1 hg1)
        go_roundw
        case rel =>
          go_light
          refine ⟨k + 1, by omega, by go_num, ?_, ?_⟩
          · show _
            rw [HT.out, if_neg hyx, List.length_append, List.map_append]
            exact HV.out.1
          · exact (hbel.out.alloc hsz _).grown HV.out.2 (by simp; omega) (fun b hb => (hown.out.lt b hb).1)
        case measure => go_light; simp [intOf]; omega
    · obtain rfl : k = xs.length := by omega
      rw [List.take_length] at hown
      obtain ⟨a5, e5, hv5⟩ := own_shape hown.out
      subst hv5
      go_wp2
      go_ret
      exact ⟨_, rfl, hown.out, hbel.out⟩

/-- a block that is another's becomes the tree's -/
theorem RLies.relabel {w : World} {M : Nat → Lab} {tb : Nat} {nv uv : Value} {ps : List Pn} {us : List Value} (h : RLies w M tb nv uv ps us) {g : Nat} (hM : M g = .other) (hg : g < w.heap.size) (l : Lab) : RLies w (fun b => if b = g then l else M b) tb nv uv ps us := by
  have ne : ∀ b, M b ≠ .other → b ≠ g := fun b hb e => hb (by rw [e]; exact hM)
  have rw' : ∀ {k : Lab} {e : TypeId} {size n : Nat} {v : Value} {xs : List Value}, k ≠ .other → Row w M k e size v n xs → Row w (fun b => if b = g then l else M b) k e size v n xs := by
    intro k e size n v xs hk hr
    obtain ⟨hl, a, cap, rfl, h1, h2, h3⟩ := hr
    refine ⟨hl, a, cap, rfl, h1, h2, ?_⟩
    rcases h3 with h3 | ⟨g', cur, rfl, hM', hg', h4, h5⟩
    · exact .inl h3
    · refine .inr ⟨g', cur, rfl, ?_, hg', h4, h5⟩
      have : g' ≠ g := ne g' (by rw [hM']; exact hk)
      simp only [if_neg this]
      exact hM'
  refine ⟨fun b hb => ?_, ?_, h.head, rw' (by intro e; cases e) h.nodes, rw' (by intro e; cases e) h.undos, fun i p hp => ⟨rw' (by intro e; cases e) (h.node i p hp).1, rw' (by intro e; cases e) (h.node i p hp).2⟩⟩
  · have : b ≠ g := by omega
    simp only [if_neg this]
    exact h.fresh b hb
  · have : tb ≠ g := ne tb (by rw [h.tree]; intro e; cases e)
    simp only [if_neg this]
    exact h.tree

theorem Step.refl {w : World} {M : Nat → Lab} (hf : ∀ b, w.heap.size ≤ b → M b = .other) (l : Lab) : Step w M w M l := ⟨rfl, rfl, rfl, Nat.le_refl _, fun _ _ => rfl, hf, fun _ _ _ => rfl⟩

/-- a node's kids are another list that was just made -/
theorem RLies.ownKids {w0 w : World} {M0 M : Nat → Lab} {tb : Nat} {nv uv : Value} {ps : List Pn} {us : List Value} (h : RLies w M tb nv uv ps us) (m : Moved w0 M0 w M) {nb k c0 : Nat} (hv : nv = .slice (some ⟨nb, 0, none⟩) k c0) {i : Nat} {p : Pn} (hp : ps[i]? = some p) {B : Nat} {g cap : Nat} {ks : List Int}
    (ho : w.ownsRow B 3 1 (.slice (some ⟨g, 0, none⟩) ks.length cap) ks.length (ks.map intV)) (hB : w0.heap.size ≤ B) (hM : M g = .other) :
    ∃ M', RLies (w.setCell ⟨nb, i * 6 + 5, none⟩ (.slice (some ⟨g, 0, none⟩) ks.length cap)) M' tb nv uv (ps.set i ⟨{ p.n with kids := ks }, p.av, .slice (some ⟨g, 0, none⟩) ks.length cap⟩) us ∧ Moved w0 M0 (w.setCell ⟨nb, i * 6 + 5, none⟩ (.slice (some ⟨g, 0, none⟩) ks.length cap)) M' := by
  obtain ⟨hgB, hgl⟩ := ho.lt g rfl
  have hr := h.relabel hM hgl (.kids i)
  have hrow : Row w (fun b => if b = g then .kids i else M b) (.kids i) 3 1 (.slice (some ⟨g, 0, none⟩) ks.length cap) ks.length (ks.map intV) := by
    rcases ho.2 with ⟨e, _⟩ | ⟨g', cap', cur, e, _, hg', h1, h2, h3, h4⟩
    · cases e
    · cases e
      exact ⟨ho.1, _, _, rfl, h1, h2, .inr ⟨_, cur, rfl, by simp, hg', by omega, h4⟩⟩
  obtain ⟨q1, q2, _⟩ := hr.setKids hv hp (Step.refl hr.fresh (.kids i)) hrow
  refine ⟨_, q1, ?_⟩
  have mr : Moved w0 M0 w (fun b => if b = g then .kids i else M b) := ⟨m.os, m.tape, m.output, m.size, fun b hb => by
    have : b ≠ g := by omega
    simp only [if_neg this]
    exact m.lab b hb, m.far⟩
  exact mr.trans q2
end Go.Proofs.YtcaodjejhgnfdabDoor
