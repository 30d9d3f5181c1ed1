/- A root becomes the last kid of another root. -/
import Derived.Test.YtlfepdecgfcifaaGreatDoorM09
import Derived.Test.YtlfepdecgfcifaaGreatDoorM03
import Derived.Deep.RegionHeld3
import Derived.Deep.DrawnRows
import Derived.LoopN
namespace Go.Proofs.YtlfepdecgfcifaaGreatDoor
open Go.RowKit
attribute [local go_sem ↓] Go.wp_at_zero Go.wp_at_succ

/-- a node's kids turn: their row, and where the node says that it lies -/
theorem Lies.setKids {w w1 : World} {M M1 : Nat → Lab} {tb : Nat} {nv uv : Value} {ps : List Pn} {us : List Value} (h : Lies w M tb nv uv ps us) {nb m c0 : Nat} (hv : nv = .slice (some ⟨nb, 0, none⟩) m c0) {i : Nat} {p : Pn} (hp : ps[i]? = some p) (st : Step w M w1 M1 (.kids i))
    {kv' : Value} {ks' : List Int} (hr : Row w1 M1 (.kids i) 3 1 kv' ks'.length (ks'.map intV)) :
    Lies (w1.setCell ⟨nb, i * 6 + 5, none⟩ kv') M1 tb nv uv (ps.set i ⟨{ p.n with kids := ks' }, p.av, kv'⟩) us ∧ Moved w M (w1.setCell ⟨nb, i * 6 + 5, none⟩ kv') M1 ∧ w1.cell? ⟨nb, i * 6 + 5, none⟩ = some p.kv ∧ w1.frozen? ⟨nb, i * 6 + 5, none⟩ = false ∧ w1.cell? ⟨tb, 0, none⟩ = some nv := by
  have hi : i < ps.length := (List.getElem?_eq_some_iff.1 hp).1
  obtain ⟨g, cap, hg, _, _, hM, hgl⟩ := h.nodes.form (by omega)
  have e1 : g = nb := by rw [hv] at hg; cases hg; rfl
  subst e1
  have hn1 : Row w1 M1 .nodes 78 6 nv ps.length (flat ps) := h.nodes.step st (by intro e; cases e)
  have hM1 : M1 g = .nodes := (st.lab g hgl).trans hM
  have st2 : Step w1 M1 (w1.setCell ⟨g, i * 6 + 5, none⟩ kv') M1 .nodes := step_setCell kv' hM1 st.fresh
  have hc := hn1.cell hv ((flat_get ps i 5 p hp (by omega)).trans rfl)
  have hh := (st.far tb (lt_of_heap h.head) (by rw [h.tree]; intro e; cases e)).trans h.head
  refine ⟨⟨st2.fresh, (st.lab tb (lt_of_heap h.head)).trans h.tree, ?_, ?_, (h.undos.step st (by intro e; cases e)).step st2 (by intro e; cases e), ?_⟩, (st.moved (by intro e; cases e)).trans (st2.moved (by intro e; cases e)), hc.1, hc.2, (head_cell hh).1⟩
  · have ht : M1 tb = .tree := (st.lab tb (lt_of_heap h.head)).trans h.tree
    have hl : tb < w1.heap.size := Nat.lt_of_lt_of_le (lt_of_heap h.head) st.size
    exact (st2.far tb hl (by rw [ht]; intro e; cases e)).trans hh
  · rw [List.length_set, flat_set ps i 5 p ⟨{ p.n with kids := ks' }, p.av, kv'⟩ kv' hp (by omega) rfl]
    exact hn1.set hv _ _ (by rw [flat_length]; omega)
  · intro j q hq
    by_cases hij : i = j
    · subst hij
      rw [List.getElem?_set_self hi] at hq
      cases hq
      exact ⟨((h.node i p hp).1.step st (by intro e; cases e)).step st2 (by intro e; cases e), hr.step st2 (by intro e; cases e)⟩
    · rw [List.getElem?_set_ne hij] at hq
      exact ⟨((h.node j q hq).1.step st (by intro e; cases e)).step st2 (by intro e; cases e), ((h.node j q hq).2.step st (by intro e; cases e; exact hij rfl)).step st2 (by intro e; cases e)⟩

set_option maxHeartbeats 4000000 in
set_option maxRecDepth 100000 in
/-- slices.Insert at the end -/
theorem insert_end {w : World} {M : Nat → Lab} {l : Lab} {v : Value} {n : Nat} {xs : List Int} (h : Row w M l 3 1 v n (xs.map intV)) (hn : n ≤ 1099511627776) (hf : ∀ b, w.heap.size ≤ b → M b = .other) (b : Nat) (x : Int) (hx : w.cell? ⟨b, 0, none⟩ = some (.int .i64 x)) :
    Calls Tryz.prog 93 #[v, .int .i64 n, .slice (some ⟨b, 0, none⟩) 1 1] w fun e w' => ∃ g cap, e = .returned (.slice (some ⟨g, 0, none⟩) (n + 1) cap) ∧ ∃ M', Row w' M' l 3 1 (.slice (some ⟨g, 0, none⟩) (n + 1) cap) (n + 1) ((xs ++ [x]).map intV) ∧ Step w M w' M' l := by
  obtain ⟨i0, hi, hz0, hz1, hz2⟩ := info_parts Tryz.infoInt
  obtain ⟨a, cap, rfl, h1, h2⟩ := h.shape
  have H : Hid (Row w M l 3 1 (.slice a n cap) n (xs.map intV)) := h
  have HF : Hid (∀ b, w.heap.size ≤ b → M b = .other) := hf
  have HX : Hid (∀ j u, [Value.int .i64 x][j]? = some u → w.cell? ((⟨b, 0, none⟩ : Addr).add j) = some u) := by
    intro j u hu
    cases j with
    | zero =>
      simp at hu
      subst hu
      simpa [Addr.add] using hx
    | succ j => simp at hu
  have i1 : (n : Int) ≤ (cap : Int) := by omega
  unfold maxLen at h2
  clear h hf
  go_enter Tryz.func93, Tryz.ntmps93
  go_wp2_with (at_builtin; refine wpList_app_row _ (by rfl) (.tmp 23) (.tmp 24) 32 (by rfl) M l 3 i0 _ 1 8 Tryz.underlying32 hi hz0 hz1 hz2 rfl (by decide) (.slice a n cap) n (xs.map intV) (by rfl) H.out ⟨b, 0, none⟩ 1 1 [.int .i64 x] (by rfl) rfl HX.out (by simp [Value.oneCell']) (by decide) (by unfold maxLen; omega) (by omega) HF.out ?_; intro g cap1 w2 M2 hr st; have HR : Hid _ := And.intro hr st; clear hr st)
  all_goals go_ret
  all_goals exact ⟨g, cap1, rfl, M2, HR.out.1, HR.out.2⟩

set_option maxHeartbeats 2000000 in
theorem pull_root {w : World} {M : Nat → Lab} {tb : Nat} {nv uv : Value} {ps : List Pn} {us : List Value} (h : Lies w M tb nv uv ps us) {i : Nat} {p : Pn} (hp : ps[i]? = some p) (hr : p.n.parent = -1) :
    Calls Tryz.prog 80 #[.pointer (some ⟨tb, 0, none⟩), .int .i64 i] w fun e w' => e = .returned (.tuple #[.int .i64 (-1), .int .i64 0]) ∧ w' = w := by
  obtain ⟨nb, cap, rfl, hc, hm, _, _, hi⟩ := h.form hp
  have c0 := h.cell0
  have c4 := (h.cellN rfl (f := 4) hp (by omega) rfl).1
  rw [hr] at c4
  unfold maxLen at hm
  clear h
  go_enter Tryz.func80, Tryz.ntmps80
  go_wp2
  go_ret2
  exact ⟨rfl, rfl⟩

set_option maxHeartbeats 2000000 in
theorem within_root {w : World} {M : Nat → Lab} {tb : Nat} {nv uv : Value} {ps : List Pn} {us : List Value} (h : Lies w M tb nv uv ps us) {i j : Nat} {p : Pn} (hp : ps[i]? = some p) (hr : p.n.parent = -1) (hij : i ≠ j) :
    Calls Tryz.prog 56 #[.pointer (some ⟨tb, 0, none⟩), .int .i64 i, .int .i64 j] w fun e w' => e = .returned (.bool false) ∧ w' = w := by
  obtain ⟨nb, cap, rfl, hc, hm, _, _, hi⟩ := h.form hp
  have c0 := h.cell0
  have c4 := (h.cellN rfl (f := 4) hp (by omega) rfl).1
  rw [hr] at c4
  unfold maxLen at hm
  have hne : ¬ ((i : Int) = (j : Int)) := by omega
  have hneb : ((i : Int) == (j : Int)) = false := by simpa using hne
  have hn1 : ¬ ((i : Int) = -1) := by omega
  have hn1b : ((i : Int) == -1) = false := by simp
  have hn2 : ¬ ((-1 : Int) = (j : Int)) := by omega
  have hn2b : ((-1 : Int) == (j : Int)) = false := by simp
  have hb1 : ((i : Int) != (j : Int)) = true := by simp [hne]
  have hb2 : ((i : Int) != -1) = true := by simp
  clear h
  go_enter Tryz.func56, Tryz.ntmps56
  go_wp2
  refine wp_loop_rounds 2 ?_
  rw [rounds_succ]
  go_wp2
  rw [rounds_succ]
  go_wp2
  go_ret
  exact ⟨rfl, rfl⟩

set_option maxHeartbeats 4000000 in
set_option maxRecDepth 100000 in
theorem push_any {w : World} {M : Nat → Lab} {tb : Nat} {nv uv : Value} {ps : List Pn} {us : List Value} (h : Lies w M tb nv uv ps us) {a b : Nat} {pa pb : Pn} (ha : ps[a]? = some pa) (hb : ps[b]? = some pb) (hab : a ≠ b) (hk : pa.n.kids.length ≤ 1099511627776) :
    Calls Tryz.prog 81 #[.pointer (some ⟨tb, 0, none⟩), .int .i64 a, .int .i64 b, .int .i64 pa.n.kids.length] w fun e w' => e = .returned (.tuple #[]) ∧ ∃ M' kv', Lies w' M' tb nv uv ((ps.set a ⟨{ pa.n with kids := pa.n.kids ++ [(b : Int)] }, pa.av, kv'⟩).set b ⟨{ pb.n with parent := a }, pb.av, pb.kv⟩) us ∧ Moved w M w' M' := by
  obtain ⟨nb, cap, rfl, hc, hm, hnM, hnl, hal⟩ := h.form ha
  have hbl : b < ps.length := (List.getElem?_eq_some_iff.1 hb).1
  have c0 := h.cell0
  have c5 := (h.cellN rfl (f := 5) ha (by omega) rfl).1
  have hr := (h.node a pa ha).2
  obtain ⟨ka, kc, hkv, _, _⟩ := hr.shape
  rw [hkv] at c5
  have hlt : tb < w.heap.size := lt_of_heap h.head
  have HA : Hid (ps[a]? = some pa) := ha
  have HB : Hid (ps[b]? = some pb) := hb
  have H : Hid (Lies w M tb (.slice (some ⟨nb, 0, none⟩) ps.length cap) uv ps us) := h
  have HK : Hid (pa.kv = .slice ka pa.n.kids.length kc) := hkv
  have HKR : Hid (∀ o, Row (w.alloc o).drew M (.kids a) 3 1 (.slice ka pa.n.kids.length kc) pa.n.kids.length (pa.n.kids.map intV)) := fun o => hkv ▸ ((h.alloc o).drew.node a pa ha).2
  have hn1 : ¬ ((a : Int) = -1) := by omega
  have hn1b : ((a : Int) == -1) = false := by simp
  have i1 : (0 : Int) ≤ (a : Int) := by omega
  have i2 : (a : Int) < (ps.length : Int) := by omega
  have i3 : (0 : Int) ≤ (b : Int) := by omega
  have i4 : (b : Int) < (ps.length : Int) := by omega
  unfold maxLen at hm
  clear h hr hkv ha hb
  go_enter Tryz.func81, Tryz.ntmps81
  go_wp2
  go_region_with
    ((go_at_call 93; refine (insert_end (HKR.out _) hk (H.out.alloc _).drew.fresh _ (b : Int) (by simp)).mono ?_; rintro e w2 ⟨g, cap1, rfl, M2, hr, st⟩
      obtain ⟨q1, q2, q3, q4, q5⟩ := (H.out.alloc _).drew.setKids rfl HA.out st (ks' := pa.n.kids ++ [(b : Int)]) (by rw [List.length_append]; exact hr)
      rw [HK.out] at q3
      have hb2 : (ps.set a ⟨{ pa.n with kids := pa.n.kids ++ [(b : Int)] }, pa.av, .slice (some ⟨g, 0, none⟩) (pa.n.kids.length + 1) cap1⟩)[b]? = some pb := by (rw [List.getElem?_set_ne hab]; exact HB.out)
      have d0 := q1.cell0
      obtain ⟨d4, d4f⟩ := q1.cellN rfl (f := 4) hb2 (by omega) rfl
      have HQ : Hid _ := And.intro (q1.setNode rfl (f := 4) (c := .int .i64 a) hb2 (by omega) (p' := ⟨{ pb.n with parent := a }, pb.av, pb.kv⟩) rfl (q1.node b pb hb2).1 (q1.node b pb hb2).2) (((Moved.refl w M).alloc _).drew.trans q2)
      clear q1 q2 hr st hb2))
  all_goals go_wp2
  all_goals go_end0
  all_goals exact ⟨rfl, M2, _, HQ.out.1.1, HQ.out.2.trans (HQ.out.1.2.moved (by intro e; cases e))⟩
end Go.Proofs.YtlfepdecgfcifaaGreatDoor

/- What Put makes of a tree, where a root becomes the last kid of another root. -/
namespace Go.Proofs.YtlfepdecgfcifaaGreatDoor
open Go.RowKit

/-- the nodes behind a Put -/
def putP (ps : List Pn) (a b : Nat) (pa pb : Pn) (kv : Value) : List Pn := (ps.set a ⟨{ pa.n with kids := pa.n.kids ++ [(b : Int)] }, pa.av, kv⟩).set b ⟨{ pb.n with parent := a }, pb.av, pb.kv⟩

set_option maxHeartbeats 4000000 in
set_option maxRecDepth 100000 in
theorem move_root {w : World} {M : Nat → Lab} {tb : Nat} {nv uv : Value} {ps : List Pn} {us : List Value} (h : Lies w M tb nv uv ps us) {a b : Nat} {pa pb : Pn} (ha : ps[a]? = some pa) (hb : ps[b]? = some pb) (hab : a ≠ b) (hk : pa.n.kids.length ≤ 1099511627776) (hr : pb.n.parent = -1) :
    Calls Tryz.prog 57 #[.pointer (some ⟨tb, 0, none⟩), .int .i64 a, .int .i64 b, .int .i64 pa.n.kids.length] w fun e w' => ∃ ca, e = .returned (.func (.func 82) #[] ca) ∧ ∃ M' kv', Lies w' M' tb nv uv (putP ps a b pa pb kv') us ∧ Moved w M w' M' := by
  have HA : Hid (ps[a]? = some pa) := ha
  have HB : Hid (ps[b]? = some pb) := hb
  have H : Hid (Lies w M tb nv uv ps us) := h
  clear h ha hb
  go_enter Tryz.func57, Tryz.ntmps57
  go_wp2_with (first
    | (go_at_call 80; refine (pull_root ((H.out.alloc _).alloc _) HB.out hr).mono ?_; rintro e w1 ⟨rfl, rfl⟩)
    | (go_at_call 81; refine (push_any ((((H.out.alloc _).alloc _).alloc _).alloc _) HA.out HB.out hab hk).mono ?_; rintro e w2 ⟨rfl, M2, kv2, hL, hm⟩))
  go_ret
  exact ⟨_, rfl, M2, kv2, hL, ((((((Moved.refl w M).alloc _).alloc _).alloc _).alloc _).trans hm)⟩

set_option maxHeartbeats 4000000 in
set_option maxRecDepth 100000 in
theorem put_good {w : World} {M : Nat → Lab} {tb : Nat} {nv uv : Value} {ps : List Pn} {us : List Value} (h : Lies w M tb nv uv ps us) {a b : Nat} {pa pb : Pn} (ha : ps[a]? = some pa) (hb : ps[b]? = some pb) (hab : a ≠ b) (hb0 : 0 < b) (hk : pa.n.kids.length ≤ 1099511627776) (hra : pa.n.parent = -1) (hrb : pb.n.parent = -1) (hkd : kidsB pa.n.kind = true) (hu : us.length ≤ 1099511627776) :
    Calls Tryz.prog 23 #[.pointer (some ⟨tb, 0, none⟩), .int .i64 a, .int .i64 b, .int .i64 pa.n.kids.length] w fun e w' => e = .returned .nilIface ∧ ∃ M' uv' kv' f, Lies w' M' tb nv uv' (putP ps a b pa pb kv') (us ++ [f]) ∧ Moved w M w' M' := by
  have hha := hasB_of ha
  have hhb := hasB_of hb
  obtain ⟨nb, cap, rfl, hc, hm, hnM, hnl, hal⟩ := h.form ha
  have hbl : b < ps.length := (List.getElem?_eq_some_iff.1 hb).1
  have c0 := h.cell0
  have c5 := (h.cellN rfl (f := 5) ha (by omega) rfl).1
  obtain ⟨ka, kc, hkv, _, _⟩ := (h.node a pa ha).2.shape
  rw [hkv] at c5
  have c4 := (h.cellN rfl (f := 4) hb (by omega) rfl).1
  rw [hrb] at c4
  have HA : Hid (ps[a]? = some pa) := ha
  have HB : Hid (ps[b]? = some pb) := hb
  have H : Hid (Lies w M tb (.slice (some ⟨nb, 0, none⟩) ps.length cap) uv ps us) := h
  have hn0 : ¬ ((b : Int) = 0) := by omega
  have hn0b : ((b : Int) == 0) = false := by simpa using hn0
  have hn1 : ¬ ((-1 : Int) = (a : Int)) := by omega
  have hn1b : ((-1 : Int) == (a : Int)) = false := by simp
  unfold maxLen at hm
  clear h ha hb hkv
  go_enter Tryz.func23, Tryz.ntmps23
  go_wp2_with (first
    | (go_at_call_of 54 (a : Int); refine (has_any H.out _).mono ?_; rintro e w' ⟨rfl, rfl⟩; rw [hha])
    | (go_at_call_of 54 (b : Int); refine (has_any H.out _).mono ?_; rintro e w' ⟨rfl, rfl⟩; rw [hhb])
    | (go_at_call 55; refine (mayHaveKids_any H.out HA.out).mono ?_; rintro e w' ⟨rfl, rfl⟩; rw [hkd])
    | (go_at_call 56; refine (within_root H.out HA.out hra hab).mono ?_; rintro e w' ⟨rfl, rfl⟩)
    | (go_at_call 57; refine (move_root H.out HA.out HB.out hab hk hrb).mono ?_; rintro e w1 ⟨ca, rfl, M1, kv1, hL1, hm1⟩; have H1 : Hid _ := And.intro hL1 hm1; clear hL1 hm1)
    | (go_at_call 50; refine (keep_any H1.out.1 _ _ ca hu).mono ?_; rintro e w2 ⟨rfl, M2, uv2, hL2, hm2⟩))
  all_goals go_ret
  all_goals exact ⟨rfl, M2, uv2, kv1, _, hL2, H1.out.2.trans hm2⟩

set_option maxHeartbeats 4000000 in
set_option maxRecDepth 100000 in
theorem put_bad {w : World} {M : Nat → Lab} {tb : Nat} {nv uv : Value} {ps : List Pn} {us : List Value} (h : Lies w M tb nv uv ps us) (hE : Errs w M) {a b : Nat} {pa pb : Pn} (ha : ps[a]? = some pa) (hb : ps[b]? = some pb) (hb0 : 0 < b) (k : Int) (hkd : kidsB pa.n.kind = false) :
    Calls Tryz.prog 23 #[.pointer (some ⟨tb, 0, none⟩), .int .i64 a, .int .i64 b, .int .i64 k] w fun e w' => (∃ v, e = .returned v ∧ isErr v) ∧ w' = w := by
  obtain ⟨t, ad, hc3⟩ := hE.cell 3 (by decide)
  have hha := hasB_of ha
  have hhb := hasB_of hb
  have HA : Hid (ps[a]? = some pa) := ha
  have H : Hid (Lies w M tb nv uv ps us) := h
  have hn0 : ¬ ((b : Int) = 0) := by omega
  have hn0b : ((b : Int) == 0) = false := by simpa using hn0
  clear h ha hb hE
  go_enter Tryz.func23, Tryz.ntmps23
  go_wp2_with (first
    | (go_at_call_of 54 (a : Int); refine (has_any H.out _).mono ?_; rintro e w' ⟨rfl, rfl⟩; rw [hha])
    | (go_at_call_of 54 (b : Int); refine (has_any H.out _).mono ?_; rintro e w' ⟨rfl, rfl⟩; rw [hhb])
    | (go_at_call 55; refine (mayHaveKids_any H.out HA.out).mono ?_; rintro e w' ⟨rfl, rfl⟩; rw [hkd]))
  all_goals go_ret
  all_goals exact ⟨⟨_, rfl, ⟨t, ad, rfl⟩⟩, rfl⟩
end Go.Proofs.YtlfepdecgfcifaaGreatDoor
