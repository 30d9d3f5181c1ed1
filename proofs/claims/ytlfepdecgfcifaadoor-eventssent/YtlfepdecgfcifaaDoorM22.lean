/- Package events: the way of a node, one parent behind the other; collected into a list. -/
import Derived.Test.YtlfepdecgfcifaaDoorEvVisit
import Derived.Test.YtlfepdecgfcifaaDoorM21
import Derived.RangeFuncBox
namespace Go.Proofs.YtlfepdecgfcifaaDoor
open Go.RowKit Go.BigFrame
set_option linter.unusedVariables false
attribute [local go_sem] Oper.semAt_some

/-- a tree, or none -/
def TrR (W : World) (tv : Value) (ns : List Nd) : Prop :=
  (tv = .pointer none ∧ ns = []) ∨ ∃ (tb : Nat) (M : Nat → Lab) (nv uv : Value) (ps : List Pn) (us : List Value), tv = .pointer (some ⟨tb, 0, none⟩) ∧ Lies W M tb nv uv ps us ∧ nodesOf ps = ns
theorem TrR.below {W W' : World} {tv : Value} {ns : List Nd} (h : TrR W tv ns) (hb : Below W.heap.size W W') : TrR W' tv ns := by
  rcases h with h | ⟨tb, M, nv, uv, ps, us, h1, h2, h3⟩
  · exact .inl h
  · exact .inr ⟨tb, M, nv, uv, ps, us, h1, h2.below hb, h3⟩
def kindI (ns : List Nd) (z : Int) : Int := if hasB ns.length z then (match ns[z.toNat]? with | some n => n.kind | none => 0) else 0
theorem nodes_len {ps : List Pn} {ns : List Nd} (h : nodesOf ps = ns) : ps.length = ns.length := by rw [← h]; simp [nodesOf]

set_option maxHeartbeats 1000000 in
theorem hasNil_any (z : Int) (w : World) : Calls Tryd.prog 43 #[.pointer none, .int .i64 z] w fun e w' => e = .returned (.bool false) ∧ w' = w := by
  go_enter Tryd.func43, Tryd.ntmps43
  go_wp2
  all_goals go_ret
  all_goals exact ⟨rfl, rfl⟩
set_option maxHeartbeats 2000000 in
set_option maxRecDepth 100000 in
theorem kindT_any {W : World} {tv : Value} {ns : List Nd} (h : TrR W tv ns) (z : Int) :
    Calls Tryd.prog 56 #[tv, .int .i64 z] W fun e w' => e = .returned (.int .i64 (kindI ns z)) ∧ w' = W := by
  rcases h with ⟨rfl, rfl⟩ | ⟨tb, M, nv, uv, ps, us, rfl, h2, h3⟩
  · have e : kindI [] z = 0 := by unfold kindI; split <;> simp
    rw [e]
    go_enter Tryd.func56, Tryd.ntmps56
    go_wp2_with (go_at_call 43; refine (hasNil_any z W).mono ?_; rintro e w' ⟨rfl, rfl⟩)
    all_goals go_ret
    all_goals exact ⟨rfl, rfl⟩
  · have hl := nodes_len h3
    cases hb : hasB ns.length z
    · have e : kindI ns z = 0 := by unfold kindI; rw [hb]; simp
      rw [e]
      rw [← hl] at hb
      go_enter Tryd.func56, Tryd.ntmps56
      go_wp2_with (go_at_call 43; refine (has_any h2 z).mono ?_; rintro e w' ⟨rfl, rfl⟩; rw [hb])
      all_goals go_ret
      all_goals exact ⟨rfl, rfl⟩
    · have hz : 0 ≤ z ∧ z < (ns.length : Int) := by unfold hasB at hb; simpa using hb
      obtain ⟨i, rfl⟩ : ∃ i : Nat, z = i := ⟨z.toNat, by omega⟩
      obtain ⟨p, hp⟩ : ∃ p, ps[i]? = some p := ⟨_, List.getElem?_eq_getElem (by omega)⟩
      have e : kindI ns i = p.n.kind := by
        unfold kindI
        rw [hb, ← h3, Int.toNat_natCast]
        simp only [if_true]
        rw [show (nodesOf ps)[i]? = some p.n by unfold nodesOf; rw [List.getElem?_map, hp]; rfl]
      rw [e]
      exact kind_any h2 hp
theorem parT_any {W : World} {tv : Value} {ns : List Nd} (h : TrR W tv ns) (i : Nat) (hi : i < ns.length) :
    Calls Tryd.prog 22 #[tv, .int .i64 i] W fun e w' => e = .returned (.int .i64 (parOf ns i)) ∧ w' = W := by
  rcases h with ⟨rfl, rfl⟩ | ⟨tb, M, nv, uv, ps, us, rfl, h2, h3⟩
  · simp at hi
  · have hl := nodes_len h3
    obtain ⟨p, hp⟩ : ∃ p, ps[i]? = some p := ⟨_, List.getElem?_eq_getElem (by omega)⟩
    have e : parOf ns i = p.n.parent := by
      unfold parOf
      rw [← h3, Int.toNat_natCast, show (nodesOf ps)[i]? = some p.n by unfold nodesOf; rw [List.getElem?_map, hp]; rfl]
    rw [e]
    exact parent_any h2 hp

/-- the way of what is a node; else nothing -/
def wayI (ns : List Nd) (z : Int) : List Int := if kindI ns z = 0 then [] else upA ns z
structure WyQ (ns : List Nd) (tv : Value) (z : Int) (B : Nat) (W : World) : Prop where
  tr : TrR W tv ns
  b0 : W.cell? ⟨B, 0, none⟩ = some tv
  b1 : W.cell? ⟨B + 1, 0, none⟩ = some (.int .i64 z)

set_option maxHeartbeats 8000000 in
set_option maxRecDepth 100000 in
theorem way_stops (n : Nat) (hn : 1 ≤ n) (ns : List Nd) (hA : ns ≠ [] → Asc ns) (tv : Value) (htv : tv = .pointer none ∨ ∃ tb, tv = .pointer (some ⟨tb, 0, none⟩)) (z : Int) (B Bs : Nat) (hlen : ns.length ≤ 100000) :
    SeqQ Fence.wide n Tryd.prog 55 #[.pointer (some ⟨B, 0, none⟩), .pointer (some ⟨B + 1, 0, none⟩)] (fun x : Int => #[.int .i64 x]) (fun _ W => WyQ ns tv z B W)
      (fun pre x => ∃ rest, wayI ns z = pre ++ x :: rest) (fun xs => xs = wayI ns z) (fun _ => True) Bs := fun l J Jx W _ hQ hD hDx hY h0 => by
  have HQ := hid hQ
  have HY := hid hY
  have hq := hQ _ _ h0
  have c0 := hq.b0
  have c1 := hq.b1
  have HT := hid hq.tr
  have HA := hid hA
  clear hQ hY hq hD hDx
  refine callsIn_of_wp Tryd.func55 rfl trivial ?_ rfl
  simp only [Tryd.ntmps55, List.size_toArray, List.length_cons, List.length_nil, Nat.reduceAdd, Nat.reduceSub, Array.replicate_succ, Array.replicate_zero, List.push_toArray, List.append_toArray, List.nil_append, List.cons_append]
  by_cases hk : kindI ns z = 0
  · have e : wayI ns z = [] := by unfold wayI; rw [if_pos hk]
    rcases htv with rfl | ⟨tb, rfl⟩
    all_goals gi_wp2_with (refine ⟨trivial, ?_⟩; gi_at_call 56; refine (callsIn_wide.2 (kindT_any HT.out z)).mono ?_; rintro e w' ⟨rfl, rfl⟩; rw [hk])
    all_goals refine bodyPost_ret (results_none rfl _ _ _) rfl ?_
    all_goals exact ⟨⟨_, rfl⟩, .inl ⟨[], e.symm, h0⟩⟩
  · have ez : wayI ns z = upA ns z := by unfold wayI; rw [if_neg hk]
    have hz : 0 ≤ z ∧ z < (ns.length : Int) := by
      unfold kindI at hk
      cases hb : hasB ns.length z
      · rw [hb] at hk; simp at hk
      · unfold hasB at hb; simpa using hb
    have HZ : Hid (kindI ns z ≠ 0) := hk
    obtain ⟨kd, hkd⟩ : ∃ kd, kd = kindI ns z := ⟨_, rfl⟩
    have HKD : Hid (kindI ns z = kd) := hkd.symm
    have hkn : ¬ kd = 0 := by rw [hkd]; exact hk
    have hkb : (kd == 0) = false := by simpa using hkn
    have HEZ := hid ez
    clear hk hkd ez
    rcases htv with rfl | ⟨tb, rfl⟩
    · exfalso
      rcases HT.out with ⟨_, e⟩ | ⟨tb, _, _, _, _, _, e, _⟩
      · rw [e] at hz; simp at hz; omega
      · cases e
    · gi_wp2_with (refine ⟨trivial, ?_⟩; gi_at_call 56; refine (callsIn_wide.2 (kindT_any HT.out z)).mono ?_; rintro e w' ⟨rfl, rfl⟩; rw [HKD.out])
      gi_loopw [4] (fun i wr => ∃ q : Int, -1 ≤ q ∧ q < (ns.length : Int) ∧ i = .int .i64 q ∧ Hid (∃ pre, wayI ns z = pre ++ upA ns q ∧ J pre wr)) (fun i _ => rkI ns (intOf i))
      case atStart => exact ⟨z, by omega, hz.2, rfl, [], by rw [HEZ.out]; rfl, h0⟩
      case round =>
        obtain ⟨q, hq1, hq2, rfl, HP⟩ := hrel
        obtain ⟨pre, hpre, hJ⟩ := HP.out
        clear HP
        by_cases hn0 : 0 ≤ q
        · obtain ⟨i, rfl⟩ : ∃ i : Nat, q = i := ⟨q.toNat, by omega⟩
          obtain ⟨r1, r2, r3, _⟩ := (HA.out (by rintro rfl; simp at hq2; omega)).parI hn0 hq2
          have HR := hid r1
          rw [upA_cons (HA.out (by rintro rfl; simp at hq2; omega)) hn0 hq2] at hpre
          obtain ⟨fn, tmps, assign, body, hy, hR⟩ := HY.out pre i wr hJ ⟨_, hpre⟩
          have HPRE := hid hpre
          clear r1 hpre hJ
          gi_wp2
          refine hR.mono ?_
          rintro e W3 (⟨rfl, hJ3⟩ | ⟨rfl, hJx3⟩)
          · have q3 := HQ.out _ _ hJ3
            have d0 := q3.b0
            have HT3 := hid q3.tr
            have HJ3 := hid hJ3
            clear q3 hJ3 hy hR
            gi_wp2_with (refine ⟨trivial, ?_⟩; gi_at_call 22; refine (callsIn_wide.2 (parT_any HT3.out i (by omega))).mono ?_; rintro e w' ⟨rfl, rfl⟩)
            go_roundw
            case rel => exact ⟨parOf ns i, by omega, by omega, rfl, pre ++ [(i : Int)], by rw [HPRE.out]; simp, HJ3.out⟩
            case measure => simpa [intOf] using HR.out
          · gi_wp2
            go_end0
            exact ⟨⟨_, rfl⟩, .inr ⟨_, trivial, hJx3⟩⟩
        · have HJ := hid hJ
          have HPR : Hid (pre = wayI ns z) := by
            show _ = _
            rw [hpre, upA_neg (by omega), List.append_nil]
          clear hpre hJ
          gi_wp2
          all_goals refine ⟨(fun f h => by first | (cases h; done) | trivial), ?_⟩
          all_goals gi_wp2
          all_goals go_end0
          all_goals exact ⟨⟨_, rfl⟩, .inl ⟨pre, HPR.out, HJ.out⟩⟩
end Go.Proofs.YtlfepdecgfcifaaDoor

/- Package events: the way of a node as a list. -/
namespace Go.Proofs.YtlfepdecgfcifaaDoor
open Go.RowKit Go.BigFrame
set_option linter.unusedVariables false
attribute [local go_sem] Oper.semAt_some
theorem Tryd.infoIntE : (Tryd.prog.info? 3).map (fun i => (i.zero, i.size, i.bytes)) = some (some (.int .i64 0), 1, 8) := by kernel_rfl

def ColI (w0 : World) (D0 : Nat) (pre : List Int) (W : World) : Prop :=
  Below w0.heap.size w0 W ∧ ∃ sv, W.heap[D0]? = some (.cells #[sv] 63 (0, 0)) ∧ W.ownsRow w0.heap.size 3 1 sv pre.length (pre.map (Value.int .i64)) ∧ sv.ownBlock ≠ some D0
theorem colI_own {w0 : World} {D0 B : Nat} (hB : w0.heap.size ≤ B) : OwnFrom B (ColI w0 D0) := fun pre X Y row hs hg hr => by
  obtain ⟨h1, sv, h2, h3, h4⟩ := hs
  have same : ∀ (b : Nat) (cs : Array Value) (t : TypeId) (f : Nat × Nat), X.heap[b]? = some (.cells cs t f) → Y.heap[b]? = X.heap[b]? := fun b cs t f hb => hg.block b (ltH hb) (fun e => by
    obtain ⟨_, o, h1, h2⟩ := hr b e.symm
    rw [hb] at h1
    cases h1
    cases h2)
  refine ⟨h1.grown hg h1.size (fun q hq => Nat.le_trans hB (hr q hq).1), sv, (same _ _ _ _ h2).trans h2, own_same h3 (fun b hb => ?_), h4⟩
  obtain ⟨_, ⟨rfl, _⟩ | ⟨g, cap, cur, rfl, _, h5, _⟩⟩ := h3
  · cases hb
  · cases hb; exact same _ _ _ _ h5

set_option maxHeartbeats 8000000 in
set_option maxRecDepth 100000 in
theorem appendSeq_any {w0 : World} {ns : List Nd} {tv : Value} {z : Int} {B : Nat} (hA : ns ≠ [] → Asc ns) (htv : tv = .pointer none ∨ ∃ tb, tv = .pointer (some ⟨tb, 0, none⟩)) (hlen : ns.length ≤ 100000) (hq : WyQ ns tv z B w0) :
    Calls Tryd.prog 54 #[.slice none 0 0, .func (.func 55) #[] #[.pointer (some ⟨B, 0, none⟩), .pointer (some ⟨B + 1, 0, none⟩)]] w0 fun e w' => ∃ sv, e = .returned sv ∧ w'.ownsRow w0.heap.size 3 1 sv (wayI ns z).length ((wayI ns z).map (Value.int .i64)) ∧ Below w0.heap.size w0 w' := by
  obtain ⟨i0, hi, hz0, hz1, hz2⟩ := info_parts Tryd.infoIntE
  refine (callsIn_wide (n := 5)).1 ?_
  refine callsIn_of_wp_marks Tryd.func54 rfl trivial ?_ rfl
  simp only [Tryd.ntmps54, List.size_toArray, List.length_cons, List.length_nil, Nat.reduceAdd, Nat.reduceSub, Array.replicate_succ, Array.replicate_zero, List.push_toArray, List.append_toArray, List.nil_append, List.cons_append]
  have hlt : B + 1 < w0.heap.size := World.block_lt_of_cell? w0 ⟨B + 1, 0, none⟩ hq.b1
  have HQ := hid hq
  gi_wp2
  have s1 : (w0.alloc (.cells #[.slice none 0 0] 63)).heap.size = w0.heap.size + 1 := by simp
  refine wpIn_range_q rfl (by omega) (gf := 55) (lb := #[.pointer (some ⟨B, 0, none⟩), .pointer (some ⟨B + 1, 0, none⟩)]) rfl trivial (enters_of Tryd.func55 (by kernel_rfl) rfl)
    (way_stops _ (by omega) ns hA tv htv z B _ hlen) (fun _ => rfl) (ColI w0 w0.heap.size) (fun _ _ _ => False)
    (fun pre W hI => ⟨HQ.out.tr.below hI.1, (hI.1.cell (p := ⟨B, 0, none⟩) (by show B < _; omega)).trans HQ.out.b0, (hI.1.cell (p := ⟨B + 1, 0, none⟩) hlt).trans HQ.out.b1⟩) (colI_own (by omega)) (fun _ _ _ _ h => h.elim)
    ⟨(Below.refl _ w0).alloc (Nat.le_refl _) _, _, heap_alloc_new w0 _, World.ownsRow_nil _ _ _ _, by simp [Value.ownBlock]⟩
    (fun x a' W => a' = { tmps := #[.slice none 0 0, .func (.func 55) #[] #[.pointer (some ⟨B, 0, none⟩), .pointer (some ⟨B + 1, 0, none⟩)], .pointer (some ⟨w0.heap.size, 0, none⟩), undef, .slice none 0 0, .int .i64 x, .func (.func 55) #[] #[.pointer (some ⟨B, 0, none⟩), .pointer (some ⟨B + 1, 0, none⟩)], .int .i64 x, undef, undef, undef, undef, undef], defers := [] })
    ?hAx ?assign ?body ?done ?stop
  case hAx => exact fun x a' _ X Y row h _ _ => h
  case assign =>
    intro l pre x W K hI hK
    gi_wp2
    exact hK _ _ (KeepsFrom.refl _ _) hI rfl
  case body =>
    rintro l pre x a' W hl hI rfl ⟨rest, hN⟩
    obtain ⟨h1, sv, h2, h3, h4⟩ := id hI
    have hcell : W.cell? ⟨w0.heap.size, 0, none⟩ = some sv := (cell_of_row _ _ _ _ _ _ h2).trans rfl
    have hpl : pre.length ≤ 1000000 := by
      have := congrArg List.length hN
      simp at this
      have h5 : (wayI ns z).length ≤ ns.length + 1 := by unfold wayI; split; · simp
                                                         · exact upA_len ns z
      omega
    have HI := hid (And.intro h1 (And.intro h2 (And.intro h3 h4)))
    have HO : Hid (∀ o : Obj, (W.alloc o).ownsRow w0.heap.size 3 1 sv pre.length (pre.map (Value.int .i64))) := fun o => h3.alloc o
    obtain ⟨sa, sc, rfl⟩ : ∃ a c, sv = .slice a pre.length c := by
      obtain ⟨hl, ⟨rfl, h0⟩ | ⟨g', cap, cur, rfl, _⟩⟩ := h3
      · exact ⟨none, 0, by rw [h0]⟩
      · exact ⟨_, cap, rfl⟩
    have hs := h1.size
    have hsl := ltH h2
    clear hI h1 h2 h3 h4 hN
    gi_wp2_with (gi_at_builtin; refine wpListIn_append_own _ rfl _ _ 63 rfl w0.heap.size 3 i0 (.int .i64 0) 1 8 Tryd.underlying63 hi hz0 hz1 hz2 rfl (by decide) _ _ _ rfl (HO.out _) ⟨W.heap.size, 0, none⟩ 1 1 [.int .i64 x] rfl rfl (cell_one_new _ _ _) (by simp [Value.oneCell']) (by unfold maxLen; omega) (by omega) (by simp only [World.size_alloc]; omega) ?_; intro v' w1 hown' hgrow hnil; obtain ⟨g', cap', rfl⟩ := ownsRow_succ hown'; have H1 := hid (And.intro hown' hgrow); have hc1 : w1.heap[w0.heap.size]? = some (.cells #[.slice sa pre.length sc] 63 (0, 0)) := ((hgrow.block w0.heap.size (by simp only [World.size_alloc]; omega) (fun e => HI.out.2.2.2 e.symm)).trans ((Below.heap_alloc _ _ _ (by omega)).trans HI.out.2.1)); have hc2 : w1.cell? ⟨w0.heap.size, 0, none⟩ = some (.slice sa pre.length sc) := ((cell_of_row _ _ _ _ _ _ hc1).trans rfl); have hc3 : ∀ j, w1.frozen? ⟨w0.heap.size, j, none⟩ = false := (fun j => by simp [World.frozen?, hc1]); have HC := hid hc1; clear hown' hgrow hnil hc1)
    have hg := H1.out.2
    have ho := H1.out.1
    have hbw : Below w0.heap.size w0 w1 := (HI.out.1.alloc (by omega) _).grown hg (by simp only [World.size_alloc]; omega) (fun q hq => (HI.out.2.2.1.lt q hq).1)
    have hkw : KeepsOthers W w1 := (KeepsOthers.alloc W _).trans (KeepsOthers.of_grownBy hg (fun j o e hoo => by
      obtain ⟨_, ⟨r1, _⟩ | ⟨g2, cap2, cur2, r1, _, r2, _⟩⟩ := HO.out (.cells #[.int .i64 x] 3)
      · rw [r1] at e; cases e
      · rw [r1] at e
        cases e
        rw [r2] at hoo
        cases hoo
        rfl))
    have hd : (w1.setCell ⟨w0.heap.size, 0, none⟩ (.slice (some ⟨g', 0, none⟩) (pre.length + 1) cap')).heap[w0.heap.size]? = some (.cells #[.slice (some ⟨g', 0, none⟩) (pre.length + 1) cap'] 63 (0, 0)) := by
      rw [setCell_heap _ _ _ _ _ _ _ HC.out]
      rfl
    have hgd : g' ≠ w0.heap.size := fun e => by
      obtain ⟨_, ⟨r1, _⟩ | ⟨g2, cap2, cur2, r1, _, r2, _⟩⟩ := ho
      · cases r1
      · cases r1
        rw [e, HC.out] at r2
        cases r2
    refine ⟨(hkw.trans (KeepsOthers.setCell _ _ _)).from _, hbw.setCell (Nat.le_refl _) _, _, hd, ?_, fun e => hgd (by cases e; rfl)⟩
    rw [List.length_append, List.map_append]
    exact own_same ho (fun b hb => Below.heap_setCell _ _ _ _ (by cases hb; exact hgd))
  case done =>
    rintro D xs W hD rfl ⟨h1, sv, h2, h3, h4⟩ hK
    have hcell : W.cell? ⟨w0.heap.size, 0, none⟩ = some sv := (cell_of_row _ _ _ _ _ _ h2).trans rfl
    obtain ⟨sa, sc, rfl⟩ : ∃ a c, sv = .slice a (wayI ns z).length c := by
      obtain ⟨hl, ⟨rfl, h0⟩ | ⟨g', cap, cur, rfl, _⟩⟩ := h3
      · exact ⟨none, 0, by rw [h0]⟩
      · exact ⟨_, cap, rfl⟩
    have HF : Hid ((W.putObj D (.deferred none)).ownsRow w0.heap.size 3 1 (.slice sa (wayI ns z).length sc) (wayI ns z).length ((wayI ns z).map (Value.int .i64)) ∧ Below w0.heap.size w0 (W.putObj D (.deferred none))) :=
      ⟨ownsRow_putObj h3 _ hK rfl, h1.grown (grownBy_putObj' W D (.deferred none)) h1.size (fun q hq => by cases hq; omega)⟩
    clear h1 h2 h3 h4
    gi_wp2
    refine ⟨by simp, .inl ⟨_, _, rfl, run_takeDeferred hK, ?_⟩⟩
    refine ⟨.slice sa (wayI ns z).length sc, ?_, _, rfl, HF.out⟩
    simp [results, Tryd.results54, go_sem]
  case stop => exact fun _ _ _ _ _ h => h.elim
end Go.Proofs.YtlfepdecgfcifaaDoor
