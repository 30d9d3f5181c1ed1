/- Package events: the way of a node as a list. -/
import Derived.Test.YtlfepdecgfcifaaGreatDoorM23
import Derived.RangeFuncBox
namespace Go.Proofs.YtlfepdecgfcifaaGreatDoor
open Go.RowKit Go.BigFrame
set_option linter.unusedVariables false
attribute [local go_sem] Oper.semAt_some
theorem Tryz.infoIntE : (Tryz.prog.info? 3).map (fun i => (i.zero, i.size, i.bytes)) = some (some (.int .i64 0), 1, 8) := by kernel_rfl

def ColI (w0 : World) (D0 : Nat) (pre : List Int) (W : World) : Prop :=
  Below w0.heap.size w0 W ∧ ∃ sv, W.heap[D0]? = some (.cells #[sv] 32 (0, 0)) ∧ W.ownsRow w0.heap.size 3 1 sv pre.length (pre.map (Value.int .i64)) ∧ sv.ownBlock ≠ some D0
theorem colI_own {w0 : World} {D0 B : Nat} (hB : w0.heap.size ≤ B) : OwnFrom B (ColI w0 D0) := fun pre X Y row hs hg hr => by
  obtain ⟨h1, sv, h2, h3, h4⟩ := hs
  have same : ∀ (b : Nat) (cs : Array Value) (t : TypeId) (f : Nat × Nat), X.heap[b]? = some (.cells cs t f) → Y.heap[b]? = X.heap[b]? := fun b cs t f hb => hg.block b (ltH hb) (fun e => by
    obtain ⟨_, o, h1, h2⟩ := hr b e.symm
    rw [hb] at h1
    cases h1
    cases h2)
  refine ⟨h1.grown hg h1.size (fun q hq => Nat.le_trans hB (hr q hq).1), sv, (same _ _ _ _ h2).trans h2, own_same h3 (fun b hb => ?_), h4⟩
  obtain ⟨_, ⟨rfl, _⟩ | ⟨g, cap, cur, rfl, _, h5, _⟩⟩ := h3
  · cases hb
  · cases hb; exact same _ _ _ _ h5

set_option maxHeartbeats 8000000 in
set_option maxRecDepth 100000 in
theorem appendSeq_any {w0 : World} {ns : List Nd} {tv : Value} {z : Int} {B : Nat} (hA : ns ≠ [] → Asc ns) (htv : tv = .pointer none ∨ ∃ tb, tv = .pointer (some ⟨tb, 0, none⟩)) (hlen : ns.length ≤ 100000) (hq : WyQ ns tv z B w0) :
    Calls Tryz.prog 71 #[.slice none 0 0, .func (.func 72) #[] #[.pointer (some ⟨B, 0, none⟩), .pointer (some ⟨B + 1, 0, none⟩)]] w0 fun e w' => ∃ sv, e = .returned sv ∧ w'.ownsRow w0.heap.size 3 1 sv (wayI ns z).length ((wayI ns z).map (Value.int .i64)) ∧ Below w0.heap.size w0 w' := by
  obtain ⟨i0, hi, hz0, hz1, hz2⟩ := info_parts Tryz.infoIntE
  refine (callsIn_wide (n := 5)).1 ?_
  refine callsIn_of_wp_marks Tryz.func71 rfl trivial ?_ rfl
  simp only [Tryz.ntmps71, List.size_toArray, List.length_cons, List.length_nil, Nat.reduceAdd, Nat.reduceSub, Array.replicate_succ, Array.replicate_zero, List.push_toArray, List.append_toArray, List.nil_append, List.cons_append]
  have hlt : B + 1 < w0.heap.size := World.block_lt_of_cell? w0 ⟨B + 1, 0, none⟩ hq.b1
  have HQ := hid hq
  gi_wp2
  have s1 : (w0.alloc (.cells #[.slice none 0 0] 32)).heap.size = w0.heap.size + 1 := by simp
  refine wpIn_range_q rfl (by omega) (gf := 72) (lb := #[.pointer (some ⟨B, 0, none⟩), .pointer (some ⟨B + 1, 0, none⟩)]) rfl trivial (enters_of Tryz.func72 (by kernel_rfl) rfl)
    (way_stops _ (by omega) ns hA tv htv z B _ hlen) (fun _ => rfl) (ColI w0 w0.heap.size) (fun _ _ _ => False)
    (fun pre W hI => ⟨HQ.out.tr.below hI.1, (hI.1.cell (p := ⟨B, 0, none⟩) (by show B < _; omega)).trans HQ.out.b0, (hI.1.cell (p := ⟨B + 1, 0, none⟩) hlt).trans HQ.out.b1⟩) (colI_own (by omega)) (fun _ _ _ _ h => h.elim)
    ⟨(Below.refl _ w0).alloc (Nat.le_refl _) _, _, heap_alloc_new w0 _, World.ownsRow_nil _ _ _ _, by simp [Value.ownBlock]⟩
    (fun x a' W => a' = { tmps := #[.slice none 0 0, .func (.func 72) #[] #[.pointer (some ⟨B, 0, none⟩), .pointer (some ⟨B + 1, 0, none⟩)], .pointer (some ⟨w0.heap.size, 0, none⟩), undef, .slice none 0 0, .int .i64 x, .func (.func 72) #[] #[.pointer (some ⟨B, 0, none⟩), .pointer (some ⟨B + 1, 0, none⟩)], .int .i64 x, undef, undef, undef, undef, undef], defers := [] })
    ?hAx ?assign ?body ?done ?stop
  case hAx => exact fun x a' _ X Y row h _ _ => h
  case assign =>
    intro l pre x W K hI hK
    gi_wp2
    exact hK _ _ (KeepsFrom.refl _ _) hI rfl
  case body =>
    rintro l pre x a' W hl hI rfl ⟨rest, hN⟩
    obtain ⟨h1, sv, h2, h3, h4⟩ := id hI
    have hcell : W.cell? ⟨w0.heap.size, 0, none⟩ = some sv := (cell_of_row _ _ _ _ _ _ h2).trans rfl
    have hpl : pre.length ≤ 1000000 := by
      have := congrArg List.length hN
      simp at this
      have h5 : (wayI ns z).length ≤ ns.length + 1 := by unfold wayI; split; · simp
                                                         · exact upA_len ns z
      omega
    have HI := hid (And.intro h1 (And.intro h2 (And.intro h3 h4)))
    have HO : Hid (∀ o : Obj, (W.alloc o).ownsRow w0.heap.size 3 1 sv pre.length (pre.map (Value.int .i64))) := fun o => h3.alloc o
    obtain ⟨sa, sc, rfl⟩ : ∃ a c, sv = .slice a pre.length c := by
      obtain ⟨hl, ⟨rfl, h0⟩ | ⟨g', cap, cur, rfl, _⟩⟩ := h3
      · exact ⟨none, 0, by rw [h0]⟩
      · exact ⟨_, cap, rfl⟩
    have hs := h1.size
    have hsl := ltH h2
    clear hI h1 h2 h3 h4 hN
    gi_wp2_with (gi_at_builtin; refine wpListIn_append_own _ rfl _ _ 32 rfl w0.heap.size 3 i0 (.int .i64 0) 1 8 Tryz.underlying32 hi hz0 hz1 hz2 rfl (by decide) _ _ _ rfl (HO.out _) ⟨W.heap.size, 0, none⟩ 1 1 [.int .i64 x] rfl rfl (cell_one_new _ _ _) (by simp [Value.oneCell']) (by unfold maxLen; omega) (by omega) (by simp only [World.size_alloc]; omega) ?_; intro v' w1 hown' hgrow hnil; obtain ⟨g', cap', rfl⟩ := ownsRow_succ hown'; have H1 := hid (And.intro hown' hgrow); have hc1 : w1.heap[w0.heap.size]? = some (.cells #[.slice sa pre.length sc] 32 (0, 0)) := ((hgrow.block w0.heap.size (by simp only [World.size_alloc]; omega) (fun e => HI.out.2.2.2 e.symm)).trans ((Below.heap_alloc _ _ _ (by omega)).trans HI.out.2.1)); have hc2 : w1.cell? ⟨w0.heap.size, 0, none⟩ = some (.slice sa pre.length sc) := ((cell_of_row _ _ _ _ _ _ hc1).trans rfl); have hc3 : ∀ j, w1.frozen? ⟨w0.heap.size, j, none⟩ = false := (fun j => by simp [World.frozen?, hc1]); have HC := hid hc1; clear hown' hgrow hnil hc1)
    have hg := H1.out.2
    have ho := H1.out.1
    have hbw : Below w0.heap.size w0 w1 := (HI.out.1.alloc (by omega) _).grown hg (by simp only [World.size_alloc]; omega) (fun q hq => (HI.out.2.2.1.lt q hq).1)
    have hkw : KeepsOthers W w1 := (KeepsOthers.alloc W _).trans (KeepsOthers.of_grownBy hg (fun j o e hoo => by
      obtain ⟨_, ⟨r1, _⟩ | ⟨g2, cap2, cur2, r1, _, r2, _⟩⟩ := HO.out (.cells #[.int .i64 x] 3)
      · rw [r1] at e; cases e
      · rw [r1] at e
        cases e
        rw [r2] at hoo
        cases hoo
        rfl))
    have hd : (w1.setCell ⟨w0.heap.size, 0, none⟩ (.slice (some ⟨g', 0, none⟩) (pre.length + 1) cap')).heap[w0.heap.size]? = some (.cells #[.slice (some ⟨g', 0, none⟩) (pre.length + 1) cap'] 32 (0, 0)) := by
      rw [setCell_heap _ _ _ _ _ _ _ HC.out]
      rfl
    have hgd : g' ≠ w0.heap.size := fun e => by
      obtain ⟨_, ⟨r1, _⟩ | ⟨g2, cap2, cur2, r1, _, r2, _⟩⟩ := ho
      · cases r1
      · cases r1
        rw [e, HC.out] at r2
        cases r2
    refine ⟨(hkw.trans (KeepsOthers.setCell _ _ _)).from _, hbw.setCell (Nat.le_refl _) _, _, hd, ?_, fun e => hgd (by cases e; rfl)⟩
    rw [List.length_append, List.map_append]
    exact own_same ho (fun b hb => Below.heap_setCell _ _ _ _ (by cases hb; exact hgd))
  case done =>
    rintro D xs W hD rfl ⟨h1, sv, h2, h3, h4⟩ hK
    have hcell : W.cell? ⟨w0.heap.size, 0, none⟩ = some sv := (cell_of_row _ _ _ _ _ _ h2).trans rfl
    obtain ⟨sa, sc, rfl⟩ : ∃ a c, sv = .slice a (wayI ns z).length c := by
      obtain ⟨hl, ⟨rfl, h0⟩ | ⟨g', cap, cur, rfl, _⟩⟩ := h3
      · exact ⟨none, 0, by rw [h0]⟩
      · exact ⟨_, cap, rfl⟩
    have HF : Hid ((W.putObj D (.deferred none)).ownsRow w0.heap.size 3 1 (.slice sa (wayI ns z).length sc) (wayI ns z).length ((wayI ns z).map (Value.int .i64)) ∧ Below w0.heap.size w0 (W.putObj D (.deferred none))) :=
      ⟨ownsRow_putObj h3 _ hK rfl, h1.grown (grownBy_putObj' W D (.deferred none)) h1.size (fun q hq => by cases hq; omega)⟩
    clear h1 h2 h3 h4
    gi_wp2
    refine ⟨by simp, .inl ⟨_, _, rfl, run_takeDeferred hK, ?_⟩⟩
    refine ⟨.slice sa (wayI ns z).length sc, ?_, _, rfl, HF.out⟩
    simp [results, Tryz.results71, go_sem]
  case stop => exact fun _ _ _ _ _ h => h.elim
end Go.Proofs.YtlfepdecgfcifaaGreatDoor

/- Package events: a list from its end on (slices.Backward); the makers. -/
namespace Go.Proofs.YtlfepdecgfcifaaGreatDoor
open Go.RowKit Go.BigFrame
set_option linter.unusedVariables false
attribute [local go_sem] Oper.semAt_some

set_option maxHeartbeats 1000000 in
theorem evWay_any (tv : Value) (htv : tv = .pointer none ∨ ∃ tb, tv = .pointer (some ⟨tb, 0, none⟩)) (z : Int) (w : World) :
    Calls Tryz.prog 43 #[tv, .int .i64 z] w fun e w' => e = .returned (.func (.func 72) #[] #[.pointer (some ⟨w.heap.size, 0, none⟩), .pointer (some ⟨w.heap.size + 1, 0, none⟩)]) ∧ w' = (w.alloc (.cells #[tv] 24)).alloc (.cells #[.int .i64 z] 3) := by
  rcases htv with rfl | ⟨tb, rfl⟩
  all_goals go_enter Tryz.func43, Tryz.ntmps43
  all_goals go_wp2
  all_goals go_ret
  all_goals exact ⟨rfl, rfl⟩
set_option maxHeartbeats 2000000 in
set_option maxRecDepth 100000 in
theorem collect_any {w0 : World} {ns : List Nd} {tv : Value} {z : Int} {B : Nat} (hA : ns ≠ [] → Asc ns) (htv : tv = .pointer none ∨ ∃ tb, tv = .pointer (some ⟨tb, 0, none⟩)) (hlen : ns.length ≤ 100000) (hq : WyQ ns tv z B w0) :
    Calls Tryz.prog 42 #[.func (.func 72) #[] #[.pointer (some ⟨B, 0, none⟩), .pointer (some ⟨B + 1, 0, none⟩)]] w0 fun e w' => ∃ sv, e = .returned sv ∧ w'.ownsRow w0.heap.size 3 1 sv (wayI ns z).length ((wayI ns z).map (Value.int .i64)) ∧ Below w0.heap.size w0 w' := by
  have H := hid (appendSeq_any hA htv hlen hq)
  clear hq
  go_enter Tryz.func42, Tryz.ntmps42
  go_wp2_with fail
  refine H.out.mono ?_
  rintro e w' ⟨sv, rfl, h1, h2⟩
  obtain ⟨sa, sc, rfl⟩ : ∃ a c, sv = .slice a (wayI ns z).length c := by
    obtain ⟨hl, ⟨rfl, h0⟩ | ⟨g', cap, cur, rfl, _⟩⟩ := h1
    · exact ⟨none, 0, by rw [h0]⟩
    · exact ⟨_, cap, rfl⟩
  have H1 := hid (And.intro h1 h2)
  clear h1 h2 H
  go_wp2_with fail
  refine bodyPost_ret (v := .slice sa (wayI ns z).length sc) ?_ rfl ⟨_, rfl, H1.out⟩
  simp [results, Tryz.results42, go_sem]
end Go.Proofs.YtlfepdecgfcifaaGreatDoor
