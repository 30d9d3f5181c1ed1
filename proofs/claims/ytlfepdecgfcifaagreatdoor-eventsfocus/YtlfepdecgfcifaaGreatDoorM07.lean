/- A root becomes the last kid of another root. -/
import Derived.Test.YtlfepdecgfcifaaGreatDoorM06
import Derived.Test.YtlfepdecgfcifaaGreatDoorM02
import Derived.Deep.RegionHeld3
import Derived.Deep.DrawnRows
import Derived.LoopN
namespace Go.Proofs.YtlfepdecgfcifaaGreatDoor
open Go.RowKit
attribute [local go_sem ↓] Go.wp_at_zero Go.wp_at_succ

/-- a node's kids turn: their row, and where the node says that it lies -/
theorem Lies.setKids {w w1 : World} {M M1 : Nat → Lab} {tb : Nat} {nv uv : Value} {ps : List Pn} {us : List Value} (h : Lies w M tb nv uv ps us) {nb m c0 : Nat} (hv : nv = .slice (some ⟨nb, 0, none⟩) m c0) {i : Nat} {p : Pn} (hp : ps[i]? = some p) (st : Step w M w1 M1 (.kids i))
    {kv' : Value} {ks' : List Int} (hr : Row w1 M1 (.kids i) 3 1 kv' ks'.length (ks'.map intV)) :
    Lies (w1.setCell ⟨nb, i * 6 + 5, none⟩ kv') M1 tb nv uv (ps.set i ⟨{ p.n with kids := ks' }, p.av, kv'⟩) us ∧ Moved w M (w1.setCell ⟨nb, i * 6 + 5, none⟩ kv') M1 ∧ w1.cell? ⟨nb, i * 6 + 5, none⟩ = some p.kv ∧ w1.frozen? ⟨nb, i * 6 + 5, none⟩ = false ∧ w1.cell? ⟨tb, 0, none⟩ = some nv := by
  have hi : i < ps.length := (List.getElem?_eq_some_iff.1 hp).1
  obtain ⟨g, cap, hg, _, _, hM, hgl⟩ := h.nodes.form (by omega)
  have e1 : g = nb := by rw [hv] at hg; cases hg; rfl
  subst e1
  have hn1 : Row w1 M1 .nodes 78 6 nv ps.length (flat ps) := h.nodes.step st (by intro e; cases e)
  have hM1 : M1 g = .nodes := (st.lab g hgl).trans hM
  have st2 : Step w1 M1 (w1.setCell ⟨g, i * 6 + 5, none⟩ kv') M1 .nodes := step_setCell kv' hM1 st.fresh
  have hc := hn1.cell hv ((flat_get ps i 5 p hp (by omega)).trans rfl)
  have hh := (st.far tb (lt_of_heap h.head) (by rw [h.tree]; intro e; cases e)).trans h.head
  refine ⟨⟨st2.fresh, (st.lab tb (lt_of_heap h.head)).trans h.tree, ?_, ?_, (h.undos.step st (by intro e; cases e)).step st2 (by intro e; cases e), ?_⟩, (st.moved (by intro e; cases e)).trans (st2.moved (by intro e; cases e)), hc.1, hc.2, (head_cell hh).1⟩
  · have ht : M1 tb = .tree := (st.lab tb (lt_of_heap h.head)).trans h.tree
    have hl : tb < w1.heap.size := Nat.lt_of_lt_of_le (lt_of_heap h.head) st.size
    exact (st2.far tb hl (by rw [ht]; intro e; cases e)).trans hh
  · rw [List.length_set, flat_set ps i 5 p ⟨{ p.n with kids := ks' }, p.av, kv'⟩ kv' hp (by omega) rfl]
    exact hn1.set hv _ _ (by rw [flat_length]; omega)
  · intro j q hq
    by_cases hij : i = j
    · subst hij
      rw [List.getElem?_set_self hi] at hq
      cases hq
      exact ⟨((h.node i p hp).1.step st (by intro e; cases e)).step st2 (by intro e; cases e), hr.step st2 (by intro e; cases e)⟩
    · rw [List.getElem?_set_ne hij] at hq
      exact ⟨((h.node j q hq).1.step st (by intro e; cases e)).step st2 (by intro e; cases e), ((h.node j q hq).2.step st (by intro e; cases e; exact hij rfl)).step st2 (by intro e; cases e)⟩

set_option maxHeartbeats 4000000 in
set_option maxRecDepth 100000 in
/-- slices.Insert at the end -/
theorem insert_end {w : World} {M : Nat → Lab} {l : Lab} {v : Value} {n : Nat} {xs : List Int} (h : Row w M l 3 1 v n (xs.map intV)) (hn : n ≤ 1099511627776) (hf : ∀ b, w.heap.size ≤ b → M b = .other) (b : Nat) (x : Int) (hx : w.cell? ⟨b, 0, none⟩ = some (.int .i64 x)) :
    Calls Tryz.prog 93 #[v, .int .i64 n, .slice (some ⟨b, 0, none⟩) 1 1] w fun e w' => ∃ g cap, e = .returned (.slice (some ⟨g, 0, none⟩) (n + 1) cap) ∧ ∃ M', Row w' M' l 3 1 (.slice (some ⟨g, 0, none⟩) (n + 1) cap) (n + 1) ((xs ++ [x]).map intV) ∧ Step w M w' M' l := by
  obtain ⟨i0, hi, hz0, hz1, hz2⟩ := info_parts Tryz.infoInt
  obtain ⟨a, cap, rfl, h1, h2⟩ := h.shape
  have H : Hid (Row w M l 3 1 (.slice a n cap) n (xs.map intV)) := h
  have HF : Hid (∀ b, w.heap.size ≤ b → M b = .other) := hf
  have HX : Hid (∀ j u, [Value.int .i64 x][j]? = some u → w.cell? ((⟨b, 0, none⟩ : Addr).add j) = some u) := by
    intro j u hu
    cases j with
    | zero =>
      simp at hu
      subst hu
      simpa [Addr.add] using hx
    | succ j => simp at hu
  have i1 : (n : Int) ≤ (cap : Int) := by omega
  unfold maxLen at h2
  clear h hf
  go_enter Tryz.func93, Tryz.ntmps93
  go_wp2_with (at_builtin; refine wpList_app_row _ (by rfl) (.tmp 23) (.tmp 24) 32 (by rfl) M l 3 i0 _ 1 8 Tryz.underlying32 hi hz0 hz1 hz2 rfl (by decide) (.slice a n cap) n (xs.map intV) (by rfl) H.out ⟨b, 0, none⟩ 1 1 [.int .i64 x] (by rfl) rfl HX.out (by simp [Value.oneCell']) (by decide) (by unfold maxLen; omega) (by omega) HF.out ?_; intro g cap1 w2 M2 hr st; have HR : Hid _ := And.intro hr st; clear hr st)
  all_goals go_ret
  all_goals exact ⟨g, cap1, rfl, M2, HR.out.1, HR.out.2⟩

set_option maxHeartbeats 2000000 in
theorem pull_root {w : World} {M : Nat → Lab} {tb : Nat} {nv uv : Value} {ps : List Pn} {us : List Value} (h : Lies w M tb nv uv ps us) {i : Nat} {p : Pn} (hp : ps[i]? = some p) (hr : p.n.parent = -1) :
    Calls Tryz.prog 80 #[.pointer (some ⟨tb, 0, none⟩), .int .i64 i] w fun e w' => e = .returned (.tuple #[.int .i64 (-1), .int .i64 0]) ∧ w' = w := by
  obtain ⟨nb, cap, rfl, hc, hm, _, _, hi⟩ := h.form hp
  have c0 := h.cell0
  have c4 := (h.cellN rfl (f := 4) hp (by omega) rfl).1
  rw [hr] at c4
  unfold maxLen at hm
  clear h
  go_enter Tryz.func80, Tryz.ntmps80
  go_wp2
  go_ret2
  exact ⟨rfl, rfl⟩

set_option maxHeartbeats 2000000 in
theorem within_root {w : World} {M : Nat → Lab} {tb : Nat} {nv uv : Value} {ps : List Pn} {us : List Value} (h : Lies w M tb nv uv ps us) {i j : Nat} {p : Pn} (hp : ps[i]? = some p) (hr : p.n.parent = -1) (hij : i ≠ j) :
    Calls Tryz.prog 56 #[.pointer (some ⟨tb, 0, none⟩), .int .i64 i, .int .i64 j] w fun e w' => e = .returned (.bool false) ∧ w' = w := by
  obtain ⟨nb, cap, rfl, hc, hm, _, _, hi⟩ := h.form hp
  have c0 := h.cell0
  have c4 := (h.cellN rfl (f := 4) hp (by omega) rfl).1
  rw [hr] at c4
  unfold maxLen at hm
  have hne : ¬ ((i : Int) = (j : Int)) := by omega
  have hneb : ((i : Int) == (j : Int)) = false := by simpa using hne
  have hn1 : ¬ ((i : Int) = -1) := by omega
  have hn1b : ((i : Int) == -1) = false := by simp
  have hn2 : ¬ ((-1 : Int) = (j : Int)) := by omega
  have hn2b : ((-1 : Int) == (j : Int)) = false := by simp
  have hb1 : ((i : Int) != (j : Int)) = true := by simp [hne]
  have hb2 : ((i : Int) != -1) = true := by simp
  clear h
  go_enter Tryz.func56, Tryz.ntmps56
  go_wp2
  refine wp_loop_rounds 2 ?_
  rw [rounds_succ]
  go_wp2
  rw [rounds_succ]
  go_wp2
  go_ret
  exact ⟨rfl, rfl⟩

set_option maxHeartbeats 4000000 in
set_option maxRecDepth 100000 in
theorem push_any {w : World} {M : Nat → Lab} {tb : Nat} {nv uv : Value} {ps : List Pn} {us : List Value} (h : Lies w M tb nv uv ps us) {a b : Nat} {pa pb : Pn} (ha : ps[a]? = some pa) (hb : ps[b]? = some pb) (hab : a ≠ b) (hk : pa.n.kids.length ≤ 1099511627776) :
    Calls Tryz.prog 81 #[.pointer (some ⟨tb, 0, none⟩), .int .i64 a, .int .i64 b, .int .i64 pa.n.kids.length] w fun e w' => e = .returned (.tuple #[]) ∧ ∃ M' kv', Lies w' M' tb nv uv ((ps.set a ⟨{ pa.n with kids := pa.n.kids ++ [(b : Int)] }, pa.av, kv'⟩).set b ⟨{ pb.n with parent := a }, pb.av, pb.kv⟩) us ∧ Moved w M w' M' := by
  obtain ⟨nb, cap, rfl, hc, hm, hnM, hnl, hal⟩ := h.form ha
  have hbl : b < ps.length := (List.getElem?_eq_some_iff.1 hb).1
  have c0 := h.cell0
  have c5 := (h.cellN rfl (f := 5) ha (by omega) rfl).1
  have hr := (h.node a pa ha).2
  obtain ⟨ka, kc, hkv, _, _⟩ := hr.shape
  rw [hkv] at c5
  have hlt : tb < w.heap.size := lt_of_heap h.head
  have HA : Hid (ps[a]? = some pa) := ha
  have HB : Hid (ps[b]? = some pb) := hb
  have H : Hid (Lies w M tb (.slice (some ⟨nb, 0, none⟩) ps.length cap) uv ps us) := h
  have HK : Hid (pa.kv = .slice ka pa.n.kids.length kc) := hkv
  have HKR : Hid (∀ o, Row (w.alloc o).drew M (.kids a) 3 1 (.slice ka pa.n.kids.length kc) pa.n.kids.length (pa.n.kids.map intV)) := fun o => hkv ▸ ((h.alloc o).drew.node a pa ha).2
  have hn1 : ¬ ((a : Int) = -1) := by omega
  have hn1b : ((a : Int) == -1) = false := by simp
  have i1 : (0 : Int) ≤ (a : Int) := by omega
  have i2 : (a : Int) < (ps.length : Int) := by omega
  have i3 : (0 : Int) ≤ (b : Int) := by omega
  have i4 : (b : Int) < (ps.length : Int) := by omega
  unfold maxLen at hm
  clear h hr hkv ha hb
  go_enter Tryz.func81, Tryz.ntmps81
  go_wp2
  go_region_with
    ((go_at_call 93; refine (insert_end (HKR.out _) hk (H.out.alloc _).drew.fresh _ (b : Int) (by simp)).mono ?_; rintro e w2 ⟨g, cap1, rfl, M2, hr, st⟩
      obtain ⟨q1, q2, q3, q4, q5⟩ := (H.out.alloc _).drew.setKids rfl HA.out st (ks' := pa.n.kids ++ [(b : Int)]) (by rw [List.length_append]; exact hr)
      rw [HK.out] at q3
      have hb2 : (ps.set a ⟨{ pa.n with kids := pa.n.kids ++ [(b : Int)] }, pa.av, .slice (some ⟨g, 0, none⟩) (pa.n.kids.length + 1) cap1⟩)[b]? = some pb := by (rw [List.getElem?_set_ne hab]; exact HB.out)
      have d0 := q1.cell0
      obtain ⟨d4, d4f⟩ := q1.cellN rfl (f := 4) hb2 (by omega) rfl
      have HQ : Hid _ := And.intro (q1.setNode rfl (f := 4) (c := .int .i64 a) hb2 (by omega) (p' := ⟨{ pb.n with parent := a }, pb.av, pb.kv⟩) rfl (q1.node b pb hb2).1 (q1.node b pb hb2).2) (((Moved.refl w M).alloc _).drew.trans q2)
      clear q1 q2 hr st hb2))
  all_goals go_wp2
  all_goals go_end0
  all_goals exact ⟨rfl, M2, _, HQ.out.1.1, HQ.out.2.trans (HQ.out.1.2.moved (by intro e; cases e))⟩
end Go.Proofs.YtlfepdecgfcifaaGreatDoor

/- What Put makes of a tree, where a root becomes the last kid of another root. -/
namespace Go.Proofs.YtlfepdecgfcifaaGreatDoor
open Go.RowKit

/-- the nodes behind a Put -/
def putP (ps : List Pn) (a b : Nat) (pa pb : Pn) (kv : Value) : List Pn := (ps.set a ⟨{ pa.n with kids := pa.n.kids ++ [(b : Int)] }, pa.av, kv⟩).set b ⟨{ pb.n with parent := a }, pb.av, pb.kv⟩

set_option maxHeartbeats 4000000 in
set_option maxRecDepth 100000 in
theorem move_root {w : World} {M : Nat → Lab} {tb : Nat} {nv uv : Value} {ps : List Pn} {us : List Value} (h : Lies w M tb nv uv ps us) {a b : Nat} {pa pb : Pn} (ha : ps[a]? = some pa) (hb : ps[b]? = some pb) (hab : a ≠ b) (hk : pa.n.kids.length ≤ 1099511627776) (hr : pb.n.parent = -1) :
    Calls Tryz.prog 57 #[.pointer (some ⟨tb, 0, none⟩), .int .i64 a, .int .i64 b, .int .i64 pa.n.kids.length] w fun e w' => ∃ ca, e = .returned (.func (.func 82) #[] ca) ∧ ∃ M' kv', Lies w' M' tb nv uv (putP ps a b pa pb kv') us ∧ Moved w M w' M' := by
  have HA : Hid (ps[a]? = some pa) := ha
  have HB : Hid (ps[b]? = some pb) := hb
  have H : Hid (Lies w M tb nv uv ps us) := h
  clear h ha hb
  go_enter Tryz.func57, Tryz.ntmps57
  go_wp2_with (first
    | (go_at_call 80; refine (pull_root ((H.out.alloc _).alloc _) HB.out hr).mono ?_; rintro e w1 ⟨rfl, rfl⟩)
    | (go_at_call 81; refine (push_any ((((H.out.alloc _).alloc _).alloc _).alloc _) HA.out HB.out hab hk).mono ?_; rintro e w2 ⟨rfl, M2, kv2, hL, hm⟩))
  go_ret
  exact ⟨_, rfl, M2, kv2, hL, ((((((Moved.refl w M).alloc _).alloc _).alloc _).alloc _).trans hm)⟩

set_option maxHeartbeats 4000000 in
set_option maxRecDepth 100000 in
theorem put_good {w : World} {M : Nat → Lab} {tb : Nat} {nv uv : Value} {ps : List Pn} {us : List Value} (h : Lies w M tb nv uv ps us) {a b : Nat} {pa pb : Pn} (ha : ps[a]? = some pa) (hb : ps[b]? = some pb) (hab : a ≠ b) (hb0 : 0 < b) (hk : pa.n.kids.length ≤ 1099511627776) (hra : pa.n.parent = -1) (hrb : pb.n.parent = -1) (hkd : kidsB pa.n.kind = true) (hu : us.length ≤ 1099511627776) :
    Calls Tryz.prog 23 #[.pointer (some ⟨tb, 0, none⟩), .int .i64 a, .int .i64 b, .int .i64 pa.n.kids.length] w fun e w' => e = .returned .nilIface ∧ ∃ M' uv' kv' f, Lies w' M' tb nv uv' (putP ps a b pa pb kv') (us ++ [f]) ∧ Moved w M w' M' := by
  have hha := hasB_of ha
  have hhb := hasB_of hb
  obtain ⟨nb, cap, rfl, hc, hm, hnM, hnl, hal⟩ := h.form ha
  have hbl : b < ps.length := (List.getElem?_eq_some_iff.1 hb).1
  have c0 := h.cell0
  have c5 := (h.cellN rfl (f := 5) ha (by omega) rfl).1
  obtain ⟨ka, kc, hkv, _, _⟩ := (h.node a pa ha).2.shape
  rw [hkv] at c5
  have c4 := (h.cellN rfl (f := 4) hb (by omega) rfl).1
  rw [hrb] at c4
  have HA : Hid (ps[a]? = some pa) := ha
  have HB : Hid (ps[b]? = some pb) := hb
  have H : Hid (Lies w M tb (.slice (some ⟨nb, 0, none⟩) ps.length cap) uv ps us) := h
  have hn0 : ¬ ((b : Int) = 0) := by omega
  have hn0b : ((b : Int) == 0) = false := by simpa using hn0
  have hn1 : ¬ ((-1 : Int) = (a : Int)) := by omega
  have hn1b : ((-1 : Int) == (a : Int)) = false := by simp
  unfold maxLen at hm
  clear h ha hb hkv
  go_enter Tryz.func23, Tryz.ntmps23
  go_wp2_with (first
    | (go_at_call_of 54 (a : Int); refine (has_any H.out _).mono ?_; rintro e w' ⟨rfl, rfl⟩; rw [hha])
    | (go_at_call_of 54 (b : Int); refine (has_any H.out _).mono ?_; rintro e w' ⟨rfl, rfl⟩; rw [hhb])
    | (go_at_call 55; refine (mayHaveKids_any H.out HA.out).mono ?_; rintro e w' ⟨rfl, rfl⟩; rw [hkd])
    | (go_at_call 56; refine (within_root H.out HA.out hra hab).mono ?_; rintro e w' ⟨rfl, rfl⟩)
    | (go_at_call 57; refine (move_root H.out HA.out HB.out hab hk hrb).mono ?_; rintro e w1 ⟨ca, rfl, M1, kv1, hL1, hm1⟩; have H1 : Hid _ := And.intro hL1 hm1; clear hL1 hm1)
    | (go_at_call 50; refine (keep_any H1.out.1 _ _ ca hu).mono ?_; rintro e w2 ⟨rfl, M2, uv2, hL2, hm2⟩))
  all_goals go_ret
  all_goals exact ⟨rfl, M2, uv2, kv1, _, hL2, H1.out.2.trans hm2⟩

set_option maxHeartbeats 4000000 in
set_option maxRecDepth 100000 in
theorem put_bad {w : World} {M : Nat → Lab} {tb : Nat} {nv uv : Value} {ps : List Pn} {us : List Value} (h : Lies w M tb nv uv ps us) (hE : Errs w M) {a b : Nat} {pa pb : Pn} (ha : ps[a]? = some pa) (hb : ps[b]? = some pb) (hb0 : 0 < b) (k : Int) (hkd : kidsB pa.n.kind = false) :
    Calls Tryz.prog 23 #[.pointer (some ⟨tb, 0, none⟩), .int .i64 a, .int .i64 b, .int .i64 k] w fun e w' => (∃ v, e = .returned v ∧ isErr v) ∧ w' = w := by
  obtain ⟨t, ad, hc3⟩ := hE.cell 3 (by decide)
  have hha := hasB_of ha
  have hhb := hasB_of hb
  have HA : Hid (ps[a]? = some pa) := ha
  have H : Hid (Lies w M tb nv uv ps us) := h
  have hn0 : ¬ ((b : Int) = 0) := by omega
  have hn0b : ((b : Int) == 0) = false := by simpa using hn0
  clear h ha hb hE
  go_enter Tryz.func23, Tryz.ntmps23
  go_wp2_with (first
    | (go_at_call_of 54 (a : Int); refine (has_any H.out _).mono ?_; rintro e w' ⟨rfl, rfl⟩; rw [hha])
    | (go_at_call_of 54 (b : Int); refine (has_any H.out _).mono ?_; rintro e w' ⟨rfl, rfl⟩; rw [hhb])
    | (go_at_call 55; refine (mayHaveKids_any H.out HA.out).mono ?_; rintro e w' ⟨rfl, rfl⟩; rw [hkd]))
  all_goals go_ret
  all_goals exact ⟨⟨_, rfl, ⟨t, ad, rfl⟩⟩, rfl⟩
end Go.Proofs.YtlfepdecgfcifaaGreatDoor

/- What holds of every tree that a list makes: each node is a root or stands among its parent's kids, and who goes up comes to an end. -/
namespace Go.Proofs.YtlfepdecgfcifaaGreatDoor

def Good (ps : List Pn) (B : Nat) : Prop :=
  (∃ p0, ps[0]? = some p0 ∧ p0.n.kind = 1 ∧ p0.n.parent = -1) ∧
  ∀ j p, ps[j]? = some p → p.n.kids.length ≤ B ∧ (p.n.parent = -1 ∨ ∃ (q : Nat) (m : Pn), p.n.parent = (q : Int) ∧ (j < q ∨ (q = 0 ∧ 0 < j)) ∧ ps[q]? = some m ∧ (j : Int) ∈ m.n.kids)

theorem Good.doc : Good [docP] 0 := by
  refine ⟨⟨docP, rfl, rfl, rfl⟩, fun j p hp => ?_⟩
  have : j = 0 := by
    rcases Nat.eq_zero_or_pos j with e | e
    · exact e
    · rw [List.getElem?_eq_none (by simp; omega)] at hp; cases hp
  subst this
  cases hp
  exact ⟨Nat.le_refl _, .inl rfl⟩

theorem Good.mono {ps : List Pn} {B C : Nat} (h : Good ps B) (hBC : B ≤ C) : Good ps C :=
  ⟨h.1, fun j p hp => ⟨Nat.le_trans (h.2 j p hp).1 hBC, (h.2 j p hp).2⟩⟩

/-- the same nodes but for what no way sees -/
theorem Good.alike {ps qs : List Pn} {B : Nat} (h : Good ps B) (hl : qs.length = ps.length) (he : ∀ (j : Nat) (p q : Pn), ps[j]? = some p → qs[j]? = some q → q.n.kind = p.n.kind ∧ q.n.parent = p.n.parent ∧ q.n.kids = p.n.kids) : Good qs B := by
  have back : ∀ (j : Nat) q, qs[j]? = some q → ∃ p, ps[j]? = some p := fun j q hq => by
    have : j < ps.length := by rw [← hl]; exact (List.getElem?_eq_some_iff.1 hq).1
    exact ⟨_, List.getElem?_eq_getElem this⟩
  have forth : ∀ (j : Nat) p, ps[j]? = some p → ∃ q, qs[j]? = some q := fun j p hp => by
    have : j < qs.length := by rw [hl]; exact (List.getElem?_eq_some_iff.1 hp).1
    exact ⟨_, List.getElem?_eq_getElem this⟩
  obtain ⟨p0, h0, h1, h2⟩ := h.1
  obtain ⟨q0, g0⟩ := forth 0 p0 h0
  obtain ⟨e1, e2, e3⟩ := he 0 p0 q0 h0 g0
  refine ⟨⟨q0, g0, e1.trans h1, e2.trans h2⟩, fun j q hq => ?_⟩
  obtain ⟨p, hp⟩ := back j q hq
  obtain ⟨f1, f2, f3⟩ := he j p q hp hq
  obtain ⟨k1, k2⟩ := h.2 j p hp
  refine ⟨by rw [f3]; exact k1, ?_⟩
  rcases k2 with k2 | ⟨r, m, k2, k3, k4, k5⟩
  · exact .inl (f2.trans k2)
  · obtain ⟨m', hm'⟩ := forth r m k4
    obtain ⟨_, _, g3⟩ := he r m m' k4 hm'
    exact .inr ⟨r, m', f2.trans k2, k3, hm', by rw [g3]; exact k5⟩

theorem Good.setAttrs {ps : List Pn} {B i : Nat} {p : Pn} (h : Good ps B) (hp : ps[i]? = some p) (at' : List (ByteArray × ByteArray)) (av' : Value) : Good (ps.set i ⟨{ p.n with attrs := at' }, av', p.kv⟩) B := by
  refine h.alike (List.length_set ..) (fun j x y hx hy => ?_)
  by_cases hij : i = j
  · subst hij
    rw [List.getElem?_set_self (List.getElem?_eq_some_iff.1 hp).1] at hy
    cases hy
    obtain rfl := Option.some.inj (hx.symm.trans hp)
    exact ⟨rfl, rfl, rfl⟩
  · rw [List.getElem?_set_ne hij] at hy
    obtain rfl := Option.some.inj (hx.symm.trans hy)
    exact ⟨rfl, rfl, rfl⟩

theorem Good.snoc {ps : List Pn} {B : Nat} (h : Good ps B) (p : Pn) (hp : p.n.parent = -1) (hk : p.n.kids = []) : Good (ps ++ [p]) B := by
  have ext : ∀ (j : Nat) x, ps[j]? = some x → (ps ++ [p])[j]? = some x := fun j x hx => by
    rw [List.getElem?_append_left (List.getElem?_eq_some_iff.1 hx).1]; exact hx
  obtain ⟨p0, h0, h1, h2⟩ := h.1
  refine ⟨⟨p0, ext 0 p0 h0, h1, h2⟩, fun j x hx => ?_⟩
  by_cases hj : j < ps.length
  · rw [List.getElem?_append_left hj] at hx
    obtain ⟨k1, k2⟩ := h.2 j x hx
    refine ⟨k1, ?_⟩
    rcases k2 with k2 | ⟨r, m, k2, k3, k4, k5⟩
    · exact .inl k2
    · exact .inr ⟨r, m, k2, k3, ext r m k4, k5⟩
  · rw [List.getElem?_append_right (by omega)] at hx
    have : j - ps.length = 0 := by
      rcases Nat.eq_zero_or_pos (j - ps.length) with e | e
      · exact e
      · rw [List.getElem?_eq_none (by simp; omega)] at hx; cases hx
    rw [this] at hx
    cases hx
    exact ⟨by rw [hk]; exact Nat.zero_le _, .inl hp⟩

theorem Good.put {ps : List Pn} {B a b : Nat} {pa pb : Pn} (h : Good ps B) (ha : ps[a]? = some pa) (hb : ps[b]? = some pb) (hab : b < a ∨ (a = 0 ∧ 0 < b)) (hb0 : 0 < b) (hra : pa.n.parent = -1) (kv : Value) : Good (putP ps a b pa pb kv) (B + 1) := by
  have hne : a ≠ b := by omega
  have hal := (List.getElem?_eq_some_iff.1 ha).1
  have hbl := (List.getElem?_eq_some_iff.1 hb).1
  have gb : (putP ps a b pa pb kv)[b]? = some ⟨{ pb.n with parent := a }, pb.av, pb.kv⟩ := by
    unfold putP
    rw [List.getElem?_set_self (by rw [List.length_set]; exact hbl)]
  have ga : (putP ps a b pa pb kv)[a]? = some ⟨{ pa.n with kids := pa.n.kids ++ [(b : Int)] }, pa.av, kv⟩ := by
    unfold putP
    rw [List.getElem?_set_ne (Ne.symm hne), List.getElem?_set_self hal]
  have go : ∀ (j : Nat), j ≠ a → j ≠ b → (putP ps a b pa pb kv)[j]? = ps[j]? := fun j h1 h2 => by
    unfold putP
    rw [List.getElem?_set_ne (Ne.symm h2), List.getElem?_set_ne (Ne.symm h1)]
  -- a parent that was there, and has at least the kids that it had
  have par : ∀ (r : Nat) m x, ps[r]? = some m → x ∈ m.n.kids → ∃ m', (putP ps a b pa pb kv)[r]? = some m' ∧ x ∈ m'.n.kids := by
    intro r m x hm hx
    by_cases h1 : r = a
    · subst h1
      obtain rfl := Option.some.inj (hm.symm.trans ha)
      exact ⟨_, ga, List.mem_append_left _ hx⟩
    · by_cases h2 : r = b
      · subst h2
        obtain rfl := Option.some.inj (hm.symm.trans hb)
        exact ⟨_, gb, hx⟩
      · exact ⟨m, (go r h1 h2).trans hm, hx⟩
  obtain ⟨p0, h0, h1, h2⟩ := h.1
  refine ⟨?_, fun j x hx => ?_⟩
  · by_cases e1 : a = 0
    · subst e1
      obtain rfl := Option.some.inj (h0.symm.trans ha)
      exact ⟨_, ga, h1, h2⟩
    · exact ⟨p0, (go 0 (Ne.symm e1) (by omega)).trans h0, h1, h2⟩
  · by_cases h1 : j = a
    · subst h1
      obtain rfl := Option.some.inj (hx.symm.trans ga)
      exact ⟨by simp; exact (h.2 j pa ha).1, .inl hra⟩
    · by_cases h2 : j = b
      · subst h2
        obtain rfl := Option.some.inj (hx.symm.trans gb)
        exact ⟨Nat.le_succ_of_le (h.2 j pb hb).1, .inr ⟨a, _, rfl, by omega, ga, by simp⟩⟩
      · rw [go j h1 h2] at hx
        obtain ⟨k1, k2⟩ := h.2 j x hx
        refine ⟨Nat.le_succ_of_le k1, ?_⟩
        rcases k2 with k2 | ⟨r, m, k2, k3, k4, k5⟩
        · exact .inl k2
        · obtain ⟨m', hm', hk'⟩ := par r m _ k4 k5
          exact .inr ⟨r, m', k2, k3, hm', hk'⟩


theorem Good.way {ps : List Pn} {B : Nat} (h : Good ps B) : ∀ (d j : Nat), j < ps.length → (if j = 0 then 0 else ps.length - j) ≤ d → ∃ s r, Way (nodesOf ps) j s r ∧ s.length ≤ d := by
  intro d
  induction d with
  | zero =>
    intro j hj hd
    obtain rfl : j = 0 := by
      by_cases e : j = 0
      · exact e
      · rw [if_neg e] at hd; omega
    obtain ⟨p0, h0, _, h2⟩ := h.1
    exact ⟨[], 0, .root (nodes_get h0) h2, Nat.le_refl _⟩
  | succ d ih =>
    intro j hj hd
    have hp : ps[j]? = some ps[j] := List.getElem?_eq_getElem hj
    rcases (h.2 j _ hp).2 with k | ⟨q, m, k1, k2, k3, k4⟩
    · exact ⟨[], j, .root (nodes_get hp) k, Nat.zero_le _⟩
    · have hql := (List.getElem?_eq_some_iff.1 k3).1
      have hj0 : j ≠ 0 := by
        intro e
        subst e
        obtain ⟨p0, h0, _, h2⟩ := h.1
        obtain rfl := Option.some.inj (h0.symm.trans hp)
        rw [h2] at k1
        omega
      rw [if_neg hj0] at hd
      obtain ⟨s, r, hw, hs⟩ := ih q hql (by split <;> omega)
      exact ⟨_, r, .down (nodes_get hp) k1 (nodes_get k3) k4 hw, by simp; exact hs⟩

/-- every node has a way -/
theorem Good.ways {ps : List Pn} {B : Nat} (h : Good ps B) (j : Nat) (hj : j < ps.length) : ∃ s r, Way (nodesOf ps) j s r ∧ s.length ≤ ps.length :=
  h.way ps.length j hj (by split <;> omega)
open Go.RowKit in
theorem Lies.grown {w w' : World} {M : Nat → Lab} {tb : Nat} {nv uv : Value} {ps : List Pn} {us : List Value} {row : Option Nat} (h : Lies w M tb nv uv ps us) (hg : w.grownBy w' row) (hr : ∀ k, row = some k → M k = .other) : Lies w' M tb nv uv ps us :=
  h.far hg.size (fun b hb hne => hg.block b hb (fun e => hne (hr b e.symm)))
open Go.RowKit in
theorem Moved.grown {w w' w'' : World} {M M' : Nat → Lab} {row : Option Nat} (h : Moved w M w' M') (hg : w'.grownBy w'' row) (hr : ∀ k, row = some k → w.heap.size ≤ k) : Moved w M w'' M' :=
  ⟨hg.os.trans h.os, hg.tape.trans h.tape, hg.output.trans h.output, Nat.le_trans h.size hg.size, h.lab, fun b hb ho => (hg.block b (Nat.lt_of_lt_of_le hb h.size) (fun e => by have := hr b e.symm; omega)).trans (h.far b hb ho)⟩
open Go.RowKit in
theorem own_moved {w w' : World} {M M' : Nat → Lab} {B : Nat} {v : Value} {n : Nat} {xs : List Value} (h : w.ownsRow B 3 1 v n xs) (m : Moved w M w' M') (hl : ∀ k, v.ownBlock = some k → M k = .other) : w'.ownsRow B 3 1 v n xs ∧ ∀ k, v.ownBlock = some k → M' k = .other := by
  refine ⟨⟨h.1, ?_⟩, fun k hk => (m.lab k (h.lt k hk).2).trans (hl k hk)⟩
  rcases h.2 with h0 | ⟨g, cap, cur, rfl, h1, h2, h3⟩
  · exact .inl h0
  · exact .inr ⟨g, cap, cur, rfl, h1, (m.far g (lt_of_heap h2) (hl g rfl)).trans h2, h3⟩
end Go.Proofs.YtlfepdecgfcifaaGreatDoor
