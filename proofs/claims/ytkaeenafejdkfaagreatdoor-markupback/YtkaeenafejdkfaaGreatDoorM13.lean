/- A root becomes the last kid of another root. -/
import Derived.Test.YtkaeenafejdkfaaGreatDoorM12
import Derived.Test.YtkaeenafejdkfaaGreatDoorM08
import Derived.Deep.RegionHeld3
import Derived.Deep.DrawnRows
import Derived.LoopN
import Derived.Test.YtkaeenafejdkfaaGreatDoorM09
import Derived.Test.YtkaeenafejdkfaaGreatDoorM02
import Derived.Deep.RegionLaw
namespace Go.Proofs.YtkaeenafejdkfaaGreatDoor
open Go.RowKit
attribute [local go_sem ↓] Go.wp_at_zero Go.wp_at_succ

/-- a node's kids turn: their row, and where the node says that it lies -/
theorem Lies.setKids {w w1 : World} {M M1 : Nat → Lab} {tb : Nat} {nv uv : Value} {ps : List Pn} {us : List Value} (h : Lies w M tb nv uv ps us) {nb m c0 : Nat} (hv : nv = .slice (some ⟨nb, 0, none⟩) m c0) {i : Nat} {p : Pn} (hp : ps[i]? = some p) (st : Step w M w1 M1 (.kids i))
    {kv' : Value} {ks' : List Int} (hr : Row w1 M1 (.kids i) 3 1 kv' ks'.length (ks'.map intV)) :
    Lies (w1.setCell ⟨nb, i * 6 + 5, none⟩ kv') M1 tb nv uv (ps.set i ⟨{ p.n with kids := ks' }, p.av, kv'⟩) us ∧ Moved w M (w1.setCell ⟨nb, i * 6 + 5, none⟩ kv') M1 ∧ w1.cell? ⟨nb, i * 6 + 5, none⟩ = some p.kv ∧ w1.frozen? ⟨nb, i * 6 + 5, none⟩ = false ∧ w1.cell? ⟨tb, 0, none⟩ = some nv := by
  have hi : i < ps.length := (List.getElem?_eq_some_iff.1 hp).1
  obtain ⟨g, cap, hg, _, _, hM, hgl⟩ := h.nodes.form (by omega)
  have e1 : g = nb := by rw [hv] at hg; cases hg; rfl
  subst e1
  have hn1 : Row w1 M1 .nodes 126 6 nv ps.length (flat ps) := h.nodes.step st (by intro e; cases e)
  have hM1 : M1 g = .nodes := (st.lab g hgl).trans hM
  have st2 : Step w1 M1 (w1.setCell ⟨g, i * 6 + 5, none⟩ kv') M1 .nodes := step_setCell kv' hM1 st.fresh
  have hc := hn1.cell hv ((flat_get ps i 5 p hp (by omega)).trans rfl)
  have hh := (st.far tb (lt_of_heap h.head) (by rw [h.tree]; intro e; cases e)).trans h.head
  refine ⟨⟨st2.fresh, (st.lab tb (lt_of_heap h.head)).trans h.tree, ?_, ?_, (h.undos.step st (by intro e; cases e)).step st2 (by intro e; cases e), ?_⟩, (st.moved (by intro e; cases e)).trans (st2.moved (by intro e; cases e)), hc.1, hc.2, (head_cell hh).1⟩
  · have ht : M1 tb = .tree := (st.lab tb (lt_of_heap h.head)).trans h.tree
    have hl : tb < w1.heap.size := Nat.lt_of_lt_of_le (lt_of_heap h.head) st.size
    exact (st2.far tb hl (by rw [ht]; intro e; cases e)).trans hh
  · rw [List.length_set, flat_set ps i 5 p ⟨{ p.n with kids := ks' }, p.av, kv'⟩ kv' hp (by omega) rfl]
    exact hn1.set hv _ _ (by rw [flat_length]; omega)
  · intro j q hq
    by_cases hij : i = j
    · subst hij
      rw [List.getElem?_set_self hi] at hq
      cases hq
      exact ⟨((h.node i p hp).1.step st (by intro e; cases e)).step st2 (by intro e; cases e), hr.step st2 (by intro e; cases e)⟩
    · rw [List.getElem?_set_ne hij] at hq
      exact ⟨((h.node j q hq).1.step st (by intro e; cases e)).step st2 (by intro e; cases e), ((h.node j q hq).2.step st (by intro e; cases e; exact hij rfl)).step st2 (by intro e; cases e)⟩

set_option maxHeartbeats 4000000 in
set_option maxRecDepth 100000 in
/-- slices.Insert at the end -/
theorem insert_end {w : World} {M : Nat → Lab} {l : Lab} {v : Value} {n : Nat} {xs : List Int} (h : Row w M l 3 1 v n (xs.map intV)) (hn : n ≤ 1099511627776) (hf : ∀ b, w.heap.size ≤ b → M b = .other) (b : Nat) (x : Int) (hx : w.cell? ⟨b, 0, none⟩ = some (.int .i64 x)) :
    Calls Tryz.prog 153 #[v, .int .i64 n, .slice (some ⟨b, 0, none⟩) 1 1] w fun e w' => ∃ g cap, e = .returned (.slice (some ⟨g, 0, none⟩) (n + 1) cap) ∧ ∃ M', Row w' M' l 3 1 (.slice (some ⟨g, 0, none⟩) (n + 1) cap) (n + 1) ((xs ++ [x]).map intV) ∧ Step w M w' M' l := by
  obtain ⟨i0, hi, hz0, hz1, hz2⟩ := info_parts Tryz.infoInt
  obtain ⟨a, cap, rfl, h1, h2⟩ := h.shape
  have H : Hid (Row w M l 3 1 (.slice a n cap) n (xs.map intV)) := h
  have HF : Hid (∀ b, w.heap.size ≤ b → M b = .other) := hf
  have HX : Hid (∀ j u, [Value.int .i64 x][j]? = some u → w.cell? ((⟨b, 0, none⟩ : Addr).add j) = some u) := by
    intro j u hu
    cases j with
    | zero =>
      simp at hu
      subst hu
      simpa [Addr.add] using hx
    | succ j => simp at hu
  have i1 : (n : Int) ≤ (cap : Int) := by omega
  unfold maxLen at h2
  clear h hf
  go_enter Tryz.func153, Tryz.ntmps153
  go_wp2_with (at_builtin; refine wpList_app_row _ (by rfl) (.tmp 23) (.tmp 24) 48 (by rfl) M l 3 i0 _ 1 8 Tryz.underlying48 hi hz0 hz1 hz2 rfl (by decide) (.slice a n cap) n (xs.map intV) (by rfl) H.out ⟨b, 0, none⟩ 1 1 [.int .i64 x] (by rfl) rfl HX.out (by simp [Value.oneCell']) (by decide) (by unfold maxLen; omega) (by omega) HF.out ?_; intro g cap1 w2 M2 hr st; have HR : Hid _ := And.intro hr st; clear hr st)
  all_goals go_ret
  all_goals exact ⟨g, cap1, rfl, M2, HR.out.1, HR.out.2⟩

set_option maxHeartbeats 2000000 in
theorem pull_root {w : World} {M : Nat → Lab} {tb : Nat} {nv uv : Value} {ps : List Pn} {us : List Value} (h : Lies w M tb nv uv ps us) {i : Nat} {p : Pn} (hp : ps[i]? = some p) (hr : p.n.parent = -1) :
    Calls Tryz.prog 125 #[.pointer (some ⟨tb, 0, none⟩), .int .i64 i] w fun e w' => e = .returned (.tuple #[.int .i64 (-1), .int .i64 0]) ∧ w' = w := by
  obtain ⟨nb, cap, rfl, hc, hm, _, _, hi⟩ := h.form hp
  have c0 := h.cell0
  have c4 := (h.cellN rfl (f := 4) hp (by omega) rfl).1
  rw [hr] at c4
  unfold maxLen at hm
  clear h
  go_enter Tryz.func125, Tryz.ntmps125
  go_wp2
  go_ret2
  exact ⟨rfl, rfl⟩

set_option maxHeartbeats 2000000 in
theorem within_root {w : World} {M : Nat → Lab} {tb : Nat} {nv uv : Value} {ps : List Pn} {us : List Value} (h : Lies w M tb nv uv ps us) {i j : Nat} {p : Pn} (hp : ps[i]? = some p) (hr : p.n.parent = -1) (hij : i ≠ j) :
    Calls Tryz.prog 89 #[.pointer (some ⟨tb, 0, none⟩), .int .i64 i, .int .i64 j] w fun e w' => e = .returned (.bool false) ∧ w' = w := by
  obtain ⟨nb, cap, rfl, hc, hm, _, _, hi⟩ := h.form hp
  have c0 := h.cell0
  have c4 := (h.cellN rfl (f := 4) hp (by omega) rfl).1
  rw [hr] at c4
  unfold maxLen at hm
  have hne : ¬ ((i : Int) = (j : Int)) := by omega
  have hneb : ((i : Int) == (j : Int)) = false := by simpa using hne
  have hn1 : ¬ ((i : Int) = -1) := by omega
  have hn1b : ((i : Int) == -1) = false := by simp
  have hn2 : ¬ ((-1 : Int) = (j : Int)) := by omega
  have hn2b : ((-1 : Int) == (j : Int)) = false := by simp
  have hb1 : ((i : Int) != (j : Int)) = true := by simp [hne]
  have hb2 : ((i : Int) != -1) = true := by simp
  clear h
  go_enter Tryz.func89, Tryz.ntmps89
  go_wp2
  refine wp_loop_rounds 2 ?_
  rw [rounds_succ]
  go_wp2
  rw [rounds_succ]
  go_wp2
  go_ret
  exact ⟨rfl, rfl⟩

set_option maxHeartbeats 4000000 in
set_option maxRecDepth 100000 in
theorem push_any {w : World} {M : Nat → Lab} {tb : Nat} {nv uv : Value} {ps : List Pn} {us : List Value} (h : Lies w M tb nv uv ps us) {a b : Nat} {pa pb : Pn} (ha : ps[a]? = some pa) (hb : ps[b]? = some pb) (hab : a ≠ b) (hk : pa.n.kids.length ≤ 1099511627776) :
    Calls Tryz.prog 126 #[.pointer (some ⟨tb, 0, none⟩), .int .i64 a, .int .i64 b, .int .i64 pa.n.kids.length] w fun e w' => e = .returned (.tuple #[]) ∧ ∃ M' kv', Lies w' M' tb nv uv ((ps.set a ⟨{ pa.n with kids := pa.n.kids ++ [(b : Int)] }, pa.av, kv'⟩).set b ⟨{ pb.n with parent := a }, pb.av, pb.kv⟩) us ∧ Moved w M w' M' := by
  obtain ⟨nb, cap, rfl, hc, hm, hnM, hnl, hal⟩ := h.form ha
  have hbl : b < ps.length := (List.getElem?_eq_some_iff.1 hb).1
  have c0 := h.cell0
  have c5 := (h.cellN rfl (f := 5) ha (by omega) rfl).1
  have hr := (h.node a pa ha).2
  obtain ⟨ka, kc, hkv, _, _⟩ := hr.shape
  rw [hkv] at c5
  have hlt : tb < w.heap.size := lt_of_heap h.head
  have HA : Hid (ps[a]? = some pa) := ha
  have HB : Hid (ps[b]? = some pb) := hb
  have H : Hid (Lies w M tb (.slice (some ⟨nb, 0, none⟩) ps.length cap) uv ps us) := h
  have HK : Hid (pa.kv = .slice ka pa.n.kids.length kc) := hkv
  have HKR : Hid (∀ o, Row (w.alloc o).drew M (.kids a) 3 1 (.slice ka pa.n.kids.length kc) pa.n.kids.length (pa.n.kids.map intV)) := fun o => hkv ▸ ((h.alloc o).drew.node a pa ha).2
  have hn1 : ¬ ((a : Int) = -1) := by omega
  have hn1b : ((a : Int) == -1) = false := by simp
  have i1 : (0 : Int) ≤ (a : Int) := by omega
  have i2 : (a : Int) < (ps.length : Int) := by omega
  have i3 : (0 : Int) ≤ (b : Int) := by omega
  have i4 : (b : Int) < (ps.length : Int) := by omega
  unfold maxLen at hm
  clear h hr hkv ha hb
  go_enter Tryz.func126, Tryz.ntmps126
  go_wp2
  go_region_with
    ((go_at_call 153; refine (insert_end (HKR.out _) hk (H.out.alloc _).drew.fresh _ (b : Int) (by simp)).mono ?_; rintro e w2 ⟨g, cap1, rfl, M2, hr, st⟩
      obtain ⟨q1, q2, q3, q4, q5⟩ := (H.out.alloc _).drew.setKids rfl HA.out st (ks' := pa.n.kids ++ [(b : Int)]) (by rw [List.length_append]; exact hr)
      rw [HK.out] at q3
      have hb2 : (ps.set a ⟨{ pa.n with kids := pa.n.kids ++ [(b : Int)] }, pa.av, .slice (some ⟨g, 0, none⟩) (pa.n.kids.length + 1) cap1⟩)[b]? = some pb := by (rw [List.getElem?_set_ne hab]; exact HB.out)
      have d0 := q1.cell0
      obtain ⟨d4, d4f⟩ := q1.cellN rfl (f := 4) hb2 (by omega) rfl
      have HQ : Hid _ := And.intro (q1.setNode rfl (f := 4) (c := .int .i64 a) hb2 (by omega) (p' := ⟨{ pb.n with parent := a }, pb.av, pb.kv⟩) rfl (q1.node b pb hb2).1 (q1.node b pb hb2).2) (((Moved.refl w M).alloc _).drew.trans q2)
      clear q1 q2 hr st hb2))
  all_goals go_wp2
  all_goals go_end0
  all_goals exact ⟨rfl, M2, _, HQ.out.1.1, HQ.out.2.trans (HQ.out.1.2.moved (by intro e; cases e))⟩
end Go.Proofs.YtkaeenafejdkfaaGreatDoor

/- A kid is pulled out from among its parent's kids. -/
namespace Go.Proofs.YtkaeenafejdkfaaGreatDoor
open Go.RowKit
attribute [local go_sem ↓] Go.wp_at_zero Go.wp_at_succ

/-- the nodes behind it -/
def pullP (ps : List Pn) (q i : Nat) (m p : Pn) (kv : Value) : List Pn := (ps.set q ⟨{ m.n with kids := m.n.kids.eraseIdx (idx m.n.kids i) }, m.av, kv⟩).set i ⟨{ p.n with parent := -1 }, p.av, p.kv⟩

theorem Lies.drewN {w : World} {M : Nat → Lab} {tb : Nat} {nv uv : Value} {ps : List Pn} {us : List Value} (h : Lies w M tb nv uv ps us) (n : Nat) : Lies (w.drewN n) M tb nv uv ps us :=
  h.far (Nat.le_refl _) (fun _ _ _ => rfl)
theorem Moved.drewN {w w' : World} {M M' : Nat → Lab} (h : Moved w M w' M') (n : Nat) : Moved w M (w'.drewN n) M' := ⟨h.os, h.tape, h.output, h.size, h.lab, h.far⟩

theorem kids_row {w : World} {M : Nat → Lab} {tb : Nat} {nv uv : Value} {ps : List Pn} {us : List Value} (h : Lies w M tb nv uv ps us) {q kg kn kc : Nat} {m : Pn} (hm : ps[q]? = some m) (hkv : m.kv = .slice (some ⟨kg, 0, none⟩) (kn + 1) kc) (hkn : m.n.kids.length = kn + 1) : Row w M (.kids q) 3 1 (.slice (some ⟨kg, 0, none⟩) (kn + 1) kc) (kn + 1) (m.n.kids.map intV) := by
  have := (h.node q m hm).2
  rw [hkv, hkn] at this
  exact this

set_option maxHeartbeats 8000000 in
set_option maxRecDepth 100000 in
theorem pull_kid {w : World} {M : Nat → Lab} {tb : Nat} {nv uv : Value} {ps : List Pn} {us : List Value} (h : Lies w M tb nv uv ps us) {i q : Nat} {p m : Pn} (hp : ps[i]? = some p) (hq : p.n.parent = q) (hm : ps[q]? = some m) (hk : (i : Int) ∈ m.n.kids) (hiq : q ≠ i) :
    Calls Tryz.prog 125 #[.pointer (some ⟨tb, 0, none⟩), .int .i64 i] w fun e w' => e = .returned (.tuple #[.int .i64 q, .int .i64 (idx m.n.kids i : Nat)]) ∧ ∃ kv', Lies w' M tb nv uv (pullP ps q i m p kv') us ∧ Moved w M w' M := by
  obtain ⟨nb, cap, rfl, hc, hmx, hnM, hnl, hil⟩ := h.form hp
  have hql : q < ps.length := (List.getElem?_eq_some_iff.1 hm).1
  have hix : idx m.n.kids i < m.n.kids.length := List.findIdx_lt_length.2 ⟨_, hk, by simp⟩
  obtain ⟨kn, hkn⟩ : ∃ kn, m.n.kids.length = kn + 1 := ⟨m.n.kids.length - 1, by omega⟩
  obtain ⟨kg, kc, hkv, hkc, hkm, _, _⟩ := (h.node q m hm).2.form (by omega)
  rw [hkn] at hkv
  have c0 := h.cell0
  have c4 := (h.cellN rfl (f := 4) hp (by omega) rfl).1
  rw [hq] at c4
  have c5 := (h.cellN rfl (f := 5) hm (by omega) rfl).1
  rw [hkv] at c5
  have H : Hid (Lies w M tb (.slice (some ⟨nb, 0, none⟩) ps.length cap) uv ps us) := h
  have HP : Hid (ps[i]? = some p ∧ p.n.parent = q ∧ ps[q]? = some m ∧ (i : Int) ∈ m.n.kids ∧ m.kv = .slice (some ⟨kg, 0, none⟩) (kn + 1) kc ∧ m.n.kids.length = kn + 1) := ⟨hp, hq, hm, hk, hkv, hkn⟩
  obtain ⟨at_, hat⟩ : ∃ a, idx m.n.kids i = a := ⟨_, rfl⟩
  have HAT : Hid (idx m.n.kids i = at_) := hat
  have hatl : at_ < kn + 1 := by omega
  rw [hat]
  have HLEN : Hid ((m.n.kids.eraseIdx at_).length = kn) := by
    show _ = kn
    rw [List.length_eraseIdx, hkn, if_pos hatl]
    omega
  have hn1 : ¬ ((q : Int) = -1) := by omega
  have hn1b : ((q : Int) == -1) = false := by simp
  have i1 : (0 : Int) ≤ (i : Int) := by omega
  have i2 : (i : Int) < (ps.length : Int) := by omega
  have i3 : (0 : Int) ≤ (q : Int) := by omega
  have i4 : (q : Int) < (ps.length : Int) := by omega
  unfold maxLen at hmx hkm
  have hwr : IntKind.i64.wrap ((at_ : Int) + 1) = (at_ : Int) + 1 := by
    rw [IntKind.wrap_i64]
    omega
  clear h hp hq hm hk hkv hkn hat hix
  go_enter Tryz.func125, Tryz.ntmps125
  go_wp2_with (go_at_call 151; refine (place_any H.out HP.out.1 HP.out.2.1 HP.out.2.2.1 HP.out.2.2.2.1).mono ?_; rintro e w1 ⟨rfl, nd, hw1⟩; rw [HAT.out]
               have d0 : w1.cell? ⟨tb, 0, none⟩ = some (.slice (some ⟨nb, 0, none⟩) ps.length cap) := by (rw [hw1]; exact c0)
               have d5 : w1.cell? ⟨nb, q * 6 + 5, none⟩ = some (.slice (some ⟨kg, 0, none⟩) (kn + 1) kc) := by (rw [hw1]; exact c5)
               have HL1 : Hid (Lies w1 M tb (.slice (some ⟨nb, 0, none⟩) ps.length cap) uv ps us) := by (rw [hw1]; exact H.out.drewN nd)
               have HM1 : Hid (Moved w M w1 M) := by (rw [hw1]; exact (Moved.refl w M).drewN nd)
               have HKR : Hid (Row w1.drew M (.kids q) 3 1 (.slice (some ⟨kg, 0, none⟩) (kn + 1) kc) (kn + 1) (m.n.kids.map intV)) := kids_row HL1.out.drew HP.out.2.2.1 HP.out.2.2.2.2.1 HP.out.2.2.2.2.2
               clear hw1 c0 c4 c5)
  go_region_with
    ((go_at_call 152; refine (deleteI_any (g := kg) (m := kn) (cap := kc) (xs := m.n.kids) (l := .kids q) (M := M) HKR.out at_ hatl HL1.out.drew.fresh).mono ?_
      rintro e w2 ⟨rfl, hr, st⟩
      obtain ⟨q1, q2, q3, q4, q5⟩ := HL1.out.drew.setKids rfl HP.out.2.2.1 st (ks' := m.n.kids.eraseIdx at_) (kv' := .slice (some ⟨kg, 0, none⟩) kn kc) (by rw [HLEN.out]; exact hr)
      rw [HP.out.2.2.2.2.1] at q3
      have hb2 : (ps.set q ⟨{ m.n with kids := m.n.kids.eraseIdx at_ }, m.av, .slice (some ⟨kg, 0, none⟩) kn kc⟩)[i]? = some p := by (rw [List.getElem?_set_ne hiq]; exact HP.out.1)
      have f0 := q1.cell0
      obtain ⟨f4, f4f⟩ := q1.cellN rfl (f := 4) hb2 (by omega) rfl
      have HQ : Hid _ := And.intro (q1.setNode rfl (f := 4) (c := .int .i64 (-1)) hb2 (by omega) (p' := ⟨{ p.n with parent := -1 }, p.av, p.kv⟩) rfl (q1.node i p hb2).1 (q1.node i p hb2).2) (HM1.out.drew.trans q2)
      clear q1 q2 hr st hb2))
  all_goals go_wp2
  all_goals go_ret2
  all_goals refine ⟨rfl, .slice (some ⟨kg, 0, none⟩) kn kc, ?_, HQ.out.2.trans (HQ.out.1.2.moved (by intro e; cases e))⟩
  all_goals unfold pullP
  all_goals rw [HAT.out]
  all_goals exact HQ.out.1.1
end Go.Proofs.YtkaeenafejdkfaaGreatDoor

/- A kid becomes a root, and what is kept to undo that. -/
namespace Go.Proofs.YtkaeenafejdkfaaGreatDoor
open Go.RowKit

/-- a function that moves a node back -/
def MvF (w : World) (M : Nat → Lab) (f : Value) (tb id : Nat) (frm was : Int) : Prop :=
  ∃ b1 b2 b3 b4, f = .func (.func 127) #[] #[.pointer (some ⟨b1, 0, none⟩), .pointer (some ⟨b2, 0, none⟩), .pointer (some ⟨b3, 0, none⟩), .pointer (some ⟨b4, 0, none⟩)] ∧ (M b1 = .other ∧ M b2 = .other ∧ M b3 = .other ∧ M b4 = .other) ∧
    w.cell? ⟨b1, 0, none⟩ = some (.pointer (some ⟨tb, 0, none⟩)) ∧ w.cell? ⟨b2, 0, none⟩ = some (.int .i64 id) ∧ w.cell? ⟨b3, 0, none⟩ = some (.int .i64 frm) ∧ w.cell? ⟨b4, 0, none⟩ = some (.int .i64 was)

theorem MvF.moved {w w' : World} {M M' : Nat → Lab} {f : Value} {tb id : Nat} {frm was : Int} (h : MvF w M f tb id frm was) (m : Moved w M w' M') : MvF w' M' f tb id frm was := by
  obtain ⟨b1, b2, b3, b4, rfl, ⟨h1, h2, h3, h4⟩, k1, k2, k3, k4⟩ := h
  have lb : ∀ {b : Nat} {v : Value}, w.cell? ⟨b, 0, none⟩ = some v → M b = .other → M' b = .other := fun {b v} hc ho => (m.lab b (World.block_lt_of_cell? w _ hc)).trans ho
  exact ⟨b1, b2, b3, b4, rfl, ⟨lb k1 h1, lb k2 h2, lb k3 h3, lb k4 h4⟩, moved_cell m h1 k1, moved_cell m h2 k2, moved_cell m h3 k3, moved_cell m h4 k4⟩

set_option maxHeartbeats 1000000 in
theorem push_none (tb : Nat) (i k : Int) (w : World) : Calls Tryz.prog 126 #[.pointer (some ⟨tb, 0, none⟩), .int .i64 (-1), .int .i64 i, .int .i64 k] w fun e w' => e = .returned (.tuple #[]) ∧ w' = w := by
  go_enter Tryz.func126, Tryz.ntmps126
  go_wp2
  first
    | (go_end0; exact ⟨rfl, rfl⟩)
    | exact bodyPost_ret (v := .tuple #[]) (by simp [results, go_sem]) rfl ⟨rfl, rfl⟩

set_option maxHeartbeats 4000000 in
set_option maxRecDepth 100000 in
theorem move_take {w : World} {M : Nat → Lab} {tb : Nat} {nv uv : Value} {ps : List Pn} {us : List Value} (h : Lies w M tb nv uv ps us) {i q : Nat} {p m : Pn} (hp : ps[i]? = some p) (hq : p.n.parent = q) (hm : ps[q]? = some m) (hk : (i : Int) ∈ m.n.kids) (hiq : q ≠ i) :
    Calls Tryz.prog 90 #[.pointer (some ⟨tb, 0, none⟩), .int .i64 (-1), .int .i64 i, .int .i64 0] w fun e w' => ∃ ca, e = .returned (.func (.func 127) #[] ca) ∧ ∃ kv', Lies w' M tb nv uv (pullP ps q i m p kv') us ∧ Moved w M w' M ∧ MvF w' M (.func (.func 127) #[] ca) tb i q (idx m.n.kids i : Nat) := by
  have HP : Hid (ps[i]? = some p ∧ p.n.parent = q ∧ ps[q]? = some m ∧ (i : Int) ∈ m.n.kids) := ⟨hp, hq, hm, hk⟩
  have H : Hid (Lies w M tb nv uv ps us) := h
  clear h hp hq hm hk
  go_enter Tryz.func90, Tryz.ntmps90
  go_wp2_with (first
    | (go_at_call 125; refine (pull_kid ((H.out.alloc _).alloc _) HP.out.1 HP.out.2.1 HP.out.2.2.1 HP.out.2.2.2 hiq).mono ?_; rintro e w1 ⟨rfl, kv1, hL1, hm1⟩
       have b0 : w1.cell? ⟨w.heap.size, 0, none⟩ = some (.pointer (some ⟨tb, 0, none⟩)) := moved_cell hm1 (H.out.fresh _ (Nat.le_refl _)) (by simp)
       have b1 : w1.cell? ⟨w.heap.size + 1, 0, none⟩ = some (.int .i64 i) := moved_cell hm1 (H.out.fresh _ (by omega)) (by simp)
       have l0 : w.heap.size + 1 < w1.heap.size := World.block_lt_of_cell? w1 _ b1
       have l1 : w.heap.size < w1.heap.size := by omega
       have H1 : Hid _ := And.intro hL1 hm1
       clear hL1 hm1)
    | (go_at_call 126; refine (push_none tb _ _ _).mono ?_; rintro e w2 ⟨rfl, rfl⟩))
  go_ret
  have h0 := H.out.fresh w.heap.size (Nat.le_refl _)
  have h1 := H.out.fresh (w.heap.size + 1) (by omega)
  refine ⟨_, rfl, kv1, (H1.out.1.alloc _).alloc _, ((((Moved.refl w M).alloc _).alloc _).trans H1.out.2 |>.alloc _).alloc _, ⟨_, _, _, _, rfl, ⟨h0, h1, H1.out.1.fresh _ (Nat.le_refl _), H1.out.1.fresh _ (by omega)⟩, ?_, ?_, ?_, ?_⟩⟩
  · exact moved_cell (((Moved.refl w1 M).alloc _).alloc _) h0 b0
  · exact moved_cell (((Moved.refl w1 M).alloc _).alloc _) h1 b1
  · simp
  · simp
end Go.Proofs.YtkaeenafejdkfaaGreatDoor

/- A row that is copied into, and a row that is made anew with room behind its beginning: for slices.Insert. -/
namespace Go.Proofs.YtkaeenafejdkfaaGreatDoor
open Go.RowKit

section
variable {P : Program}
/-- so many elements are laid into a row, from the d-th on -/
theorem copy_row (w : World) (M : Nat → Lab) (l : Lab) (t t2 e : TypeId) (i : TypeInfo) (size : Nat) (ht : P.underlying t = some (.slice e)) (hi : P.info? e = some i) (hsize : i.size = size)
    (g n cap d m dc sl sc : Nat) (xs : List Value) (hr : Row w M l e size (.slice (some ⟨g, 0, none⟩) n cap) n xs) (A : Addr) (news : List Value) (hln : news.length = m * size) (hm : m = Nat.min sl (n - d)) (hd : d + m ≤ n) (hn : 0 < n)
    (hnews : ∀ j u, news[j]? = some u → w.cell? (A.add j) = some u) (h1 : ∀ u ∈ news, u.oneCell' = true) (hfr : ∀ b, w.heap.size ≤ b → M b = .other) :
    ∃ w1, (∀ ty, (Builtin.copy_ #[t, t2] ty #[.slice (some ⟨g, d * size, none⟩) (n - d) dc, .slice (some A) sl sc]).run P w = .ok (goInt m) w1) ∧
      Row w1 M l e size (.slice (some ⟨g, 0, none⟩) n cap) n (xs.take (d * size) ++ news ++ xs.drop ((d + m) * size)) ∧ Step w M w1 M l ∧ ∀ b, b ≠ g → w1.heap[b]? = w.heap[b]? := by
  subst hsize
  obtain ⟨hl, a, cap', hv, c1, c2, c3⟩ := hr
  cases hv
  rcases c3 with ⟨c3, _⟩ | ⟨g', cur, ha, hM, hg, c4, c5⟩
  · omega
  · cases ha
    have e1 : (d + m) * i.size ≤ n * i.size := Nat.mul_le_mul_right _ hd
    have e2 : (d + m) * i.size = d * i.size + m * i.size := Nat.add_mul _ _ _
    have e3 : n * i.size ≤ cap * i.size := Nat.mul_le_mul_right _ c1
    have hst := run_storeCells_at P g (d * i.size) e news 0 cur w hg (by rw [hln]; omega) h1
    rw [Nat.add_zero, hln, ← e2] at hst
    have hfc := run_firstCells_some (P := P) w i.size m A sl sc news hln hnews
    refine ⟨w.setRow g (cur.toList.take (d * i.size) ++ news ++ cur.toList.drop ((d + m) * i.size)).toArray, fun ty => ?_, ⟨?_, some ⟨g, 0, none⟩, cap, rfl, c1, c2, .inr ⟨g, _, rfl, hM, setRow_heap w g cur _ e _ hg, ?_, ?_⟩⟩, ⟨rfl, rfl, rfl, by simp [World.setRow], fun _ _ => rfl, ?_, ?_⟩, fun b hb => setRow_other w g b _ hb⟩
    · simp [Builtin.copy_, run_underlying ht, Builtin.lenOf, sizeOf, typeInfo, hi, ← hm, hfc, hst]
    · simp only [List.length_append, List.length_take, hln, List.length_drop, hl]
      omega
    · simp only [List.size_toArray, List.length_append, List.length_take, List.length_drop, Array.length_toList, hln]
      omega
    · have ht1 : cur.toList.take (d * i.size) = xs.take (d * i.size) := by rw [← c5, List.take_take, Nat.min_eq_left (by omega)]
      have hA : (xs.take (d * i.size) ++ news).length = (d + m) * i.size := by rw [List.length_append, List.length_take, hln, hl, e2]; omega
      have e4 : n * i.size = (xs.take (d * i.size) ++ news).length + (n * i.size - (d + m) * i.size) := by rw [hA]; omega
      rw [ht1, e4, List.take_length_add_append, ← c5, List.drop_take, c5]
    · intro b hb
      exact hfr b (by simpa [World.setRow] using hb)
    · intro b hb hne
      exact setRow_other w g b _ (fun e => hne (by rw [e]; exact hM))

/-- 'append(s[:k], make(S, n + 1 - k)...)' where the capacity does not bear it: a row of its own -/
theorem app_zeros (w : World) (M : Nat → Lab) (l : Lab) (t t2 e : TypeId) (i : TypeInfo) (z : Value) (size bytes : Nat) (kd : IntKind) (ht : P.underlying t = some (.slice e)) (ht2 : P.underlying t2 = some (.int kd)) (hi : P.info? e = some i) (hz : i.zero = some z)
    (hsize : i.size = size) (hby : i.bytes = bytes) (hzs : z.cells.size = size) (hsz : 0 < size)
    (g n cap k : Nat) (xs : List Value) (hr : Row w M l e size (.slice (some ⟨g, 0, none⟩) n cap) n xs) (hk : k ≤ n) (hc : cap < n + 1) (h63 : n + 1 ≤ maxLen) (hbytes : (n + 1) * bytes ≤ 140737488355328) (hfr : ∀ b, w.heap.size ≤ b → M b = .other) :
    ∃ cap' w' M', (∀ ty, (Builtin.append_ #[t, t2] ty #[.slice (some ⟨g, 0, none⟩) k cap, .int .i64 ((n + 1 - k : Nat) : Int)]).run P w = .ok (.slice (some ⟨w.heap.size, 0, none⟩) (n + 1) cap') w') ∧
      Row w' M' l e size (.slice (some ⟨w.heap.size, 0, none⟩) (n + 1) cap') (n + 1) (xs.take (k * size) ++ (Builtin.zeroCells z.cells (n + 1 - k)).toList) ∧ Step w M w' M' l ∧ M' w.heap.size = l ∧ ∀ b, b < w.heap.size → w'.heap[b]? = w.heap[b]? := by
  subst hsize
  subst hby
  have hcell := fun {j u} (h : xs[j]? = some u) => (hr.cell rfl h).1
  obtain ⟨hl, a, cap2, hv, c1, c2, _⟩ := hr
  cases hv
  unfold maxLen at h63
  obtain ⟨q, hq⟩ : ∃ q, n + 1 - k = q := ⟨_, rfl⟩
  have hkq : k + q = n + 1 := by omega
  have hq0 : 0 < q := by omega
  rw [hq]
  have hwrap : IntKind.i64.wrap (q : Int) = (q : Int) := by
    rw [IntKind.wrap_i64]
    omega
  have hneg : ¬ ((q : Int) < 0) := by omega
  have hqb : q * i.bytes ≤ (n + 1) * i.bytes := Nat.mul_le_mul_right _ (by omega)
  have hbig : ¬ (281474976710656 < (q : Int) * (i.bytes : Int)) := by
    have : ((q * i.bytes : Nat) : Int) ≤ 140737488355328 := by omega
    push_cast at this
    omega
  have hn : ¬ (k + q ≤ cap) := by omega
  have h63' : ¬ (9223372036854775807 < ((k : Int) + (q : Int))) := by omega
  have hfit := growslice_fits (need := k + q) (old := cap) (bytes := i.bytes) (by omega) (by rw [hkq]; exact hbytes)
  have h48' : ¬ (281474976710656 < Builtin.nextslicecap (k + q) cap * i.bytes) := by omega
  have hold := run_firstCells_some (P := P) w.drew i.size k ⟨g, 0, none⟩ k cap (xs.take (k * i.size)) (by
    rw [List.length_take, hl]
    have : k * i.size ≤ n * i.size := Nat.mul_le_mul_right _ hk
    omega) (by
    intro j u hu
    have hadd : (⟨g, 0, none⟩ : Addr).add j = ⟨g, j, none⟩ := by unfold Addr.add; split <;> simp_all
    rw [hadd]
    rw [List.getElem?_take] at hu
    split at hu
    · exact hcell hu
    · cases hu)
  have hqs : ¬ (q * i.size = 0) := by
    have := Nat.mul_pos hq0 hsz
    omega
  have hrun : ∀ ty, (Builtin.append_ #[t, t2] ty #[.slice (some ⟨g, 0, none⟩) k cap, .int .i64 (q : Int)]).run P w = .ok (.slice (some ⟨w.heap.size, 0, none⟩) (k + q) (grownCap w (k + q) cap e)) (w.drew.alloc (.cells ((xs.take (k * i.size)).toArray ++ Builtin.zeroCells z.cells q ++ Builtin.zeroCells z.cells (grownCap w (k + q) cap e - (k + q))) e)) := by
    intro ty
    simp [Builtin.append_, run_underlying ht, run_underlying ht2, sizeOf, typeInfo, zeroValue, hi, hz, asInt, asIntOf, hwrap, hneg, hbig, hn, h63', h48', Question.forced, hold, newRow, grownCap]
    exact fun h => absurd h hqs
  have hge := grownCap_ge w (k + q) cap e
  have hcm : grownCap w (k + q) cap e ≤ maxLen := grownCap_le_maxLen w (k + q) cap e (by unfold maxLen; omega)
  have hlen1 : (xs.take (k * i.size)).length = k * i.size := by
    rw [List.length_take, hl]
    have : k * i.size ≤ n * i.size := Nat.mul_le_mul_right _ hk
    omega
  have hlen : (xs.take (k * i.size) ++ (Builtin.zeroCells z.cells q).toList).length = (k + q) * i.size := by
    rw [List.length_append, hlen1, Array.length_toList, size_zeroCells, hzs, Nat.add_mul]
  rw [← hkq]
  refine ⟨_, _, fun b => if b = w.heap.size then l else M b, hrun, ⟨hlen, some ⟨w.heap.size, 0, none⟩, _, rfl, hge, hcm, .inr ⟨w.heap.size, _, rfl, by simp, heap_alloc_new w.drew _, ?_, ?_⟩⟩, ⟨rfl, rfl, rfl, by simp, ?_, ?_, fun b hb _ => Below.heap_alloc w.drew _ b hb⟩, by simp, fun b hb => Below.heap_alloc w.drew _ b hb⟩
  · simp only [Array.size_append, List.size_toArray, size_zeroCells, hzs, hlen1, ← Nat.add_mul]
    exact Nat.mul_le_mul_right _ (by omega)
  · rw [Array.toList_append, Array.toList_append, ← hlen]
    exact List.take_left
  · intro b hb
    have : b ≠ w.heap.size := by omega
    simp [this]
  · intro b hb
    have hb' : w.heap.size + 1 ≤ b := by simpa using hb
    have : b ≠ w.heap.size := by omega
    simp [this]
    exact hfr b (by omega)

/-- a builtin of two operands, by its run -/
theorem wpList_append_run (w : World) {ops : Array Oper} {rest : List Oper} {o : Oper} {a : Act} {Q : Exit → Act → World → Prop} (hgd : o.guard = none) (s x : Operand) (t t2 : TypeId)
    (ho : o.op = .call { callee := .builtin .append, args := #[s, x], argTypes := #[t, t2] }) (v u : Value) (hs : a.eval s = v) (hx : a.eval x = u) (r : Value) (w' : World) (hr : ∀ ty, (Builtin.append_ #[t, t2] ty #[v, u]).run P w = .ok r w')
    (h : wpList P ops Q rest (a.put o.dst r) w') : wpList P ops Q (o :: rest) a w := by
  refine wpList_plain hgd fun K hK => ?_
  unfold Oper.wp execOp
  simp only [ho, resolve, invoke, builtin, Sem.run_bind, Sem.run_pure, Result.andThen_ok, List.map_toArray, List.map_cons, List.map_nil, hs, hx, hr]
  exact hK _ _ h
theorem wpList_copy_run (w : World) {ops : Array Oper} {rest : List Oper} {o : Oper} {a : Act} {Q : Exit → Act → World → Prop} (hgd : o.guard = none) (s x : Operand) (t t2 : TypeId)
    (ho : o.op = .call { callee := .builtin .copy, args := #[s, x], argTypes := #[t, t2] }) (v u : Value) (hs : a.eval s = v) (hx : a.eval x = u) (r : Value) (w' : World) (hr : ∀ ty, (Builtin.copy_ #[t, t2] ty #[v, u]).run P w = .ok r w')
    (h : wpList P ops Q rest (a.put o.dst r) w') : wpList P ops Q (o :: rest) a w := by
  refine wpList_plain hgd fun K hK => ?_
  unfold Oper.wp execOp
  simp only [ho, resolve, invoke, builtin, Sem.run_bind, Sem.run_pure, Result.andThen_ok, List.map_toArray, List.map_cons, List.map_nil, hs, hx, hr]
  exact hK _ _ h
theorem step_copy_run (w : World) {ops : Array Oper} {o : Oper} {a : Act} {K : Act → World → Prop} {Q : Exit → Act → World → Prop} {E : Prop} (hgd : o.guard = none) (s x : Operand) (t t2 : TypeId)
    (ho : o.op = .call { callee := .builtin .copy, args := #[s, x], argTypes := #[t, t2] }) (v u : Value) (hs : a.eval s = v) (hx : a.eval x = u) (r : Value) (w' : World) (hr : ∀ ty, (Builtin.copy_ #[t, t2] ty #[v, u]).run P w = .ok r w')
    (h : K (a.put o.dst r) w') : if Region.wanted o (yielded ops a.tmps) = true then Oper.wp P o a w K Q else E := by
  have hw : Region.wanted o (yielded ops a.tmps) = true := by simp [Region.wanted, hgd]
  rw [if_pos hw]
  unfold Oper.wp execOp
  simp only [ho, resolve, invoke, builtin, Sem.run_bind, Sem.run_pure, Result.andThen_ok, List.map_toArray, List.map_cons, List.map_nil, hs, hx, hr]
  exact h
end
end Go.Proofs.YtkaeenafejdkfaaGreatDoor

/- slices.Insert of one number in the midst, where the row must grow. -/
namespace Go.Proofs.YtkaeenafejdkfaaGreatDoor
open Go.RowKit

theorem Step.then {a b c : World} {M N L : Nat → Lab} {l : Lab} (h : Step a M b N l) (k : Step b N c L l) : Step a M c L l :=
  ⟨k.os.trans h.os, k.tape.trans h.tape, k.output.trans h.output, Nat.le_trans h.size k.size, fun x hx => (k.lab x (Nat.lt_of_lt_of_le hx h.size)).trans (h.lab x hx), k.fresh, fun x hx hne => (k.far x (Nat.lt_of_lt_of_le hx h.size) (by rw [h.lab x hx]; exact hne)).trans (h.far x hx hne)⟩

theorem ins_ints (xs : List Int) (k : Nat) (x : Int) : ((xs.take k ++ x :: xs.drop k).map intV) = (xs.map intV).take k ++ [intV x] ++ (xs.map intV).drop k := by
  simp [List.map_take, List.map_drop]

set_option maxHeartbeats 4000000 in
set_option maxRecDepth 100000 in
theorem insert_grow {w : World} {M : Nat → Lab} {l : Lab} {g n cap : Nat} {xs : List Int} (h : Row w M l 3 1 (.slice (some ⟨g, 0, none⟩) n cap) n (xs.map intV)) (hn : n ≤ 1099511627776) (hf : ∀ b, w.heap.size ≤ b → M b = .other) (k : Nat) (hk : k < n) (hcap : cap < n + 1) (b : Nat) (x : Int) (hx : w.cell? ⟨b, 0, none⟩ = some (.int .i64 x)) :
    Calls Tryz.prog 153 #[.slice (some ⟨g, 0, none⟩) n cap, .int .i64 k, .slice (some ⟨b, 0, none⟩) 1 1] w fun e w' => ∃ g' cap', e = .returned (.slice (some ⟨g', 0, none⟩) (n + 1) cap') ∧ ∃ M', Row w' M' l 3 1 (.slice (some ⟨g', 0, none⟩) (n + 1) cap') (n + 1) ((xs.take k ++ x :: xs.drop k).map intV) ∧ Step w M w' M' l := by
  obtain ⟨i0, hi, hz0, hz1, hz2⟩ := info_parts Tryz.infoInt
  have hxl : xs.length = n := by have := h.1; simpa using this
  obtain ⟨a, cap2, hv, hc, hm⟩ := h.shape
  cases hv
  obtain ⟨gg, cc, hv, _, _, hgM, hgl⟩ := h.form (by omega)
  cases hv
  have hbl : b < w.heap.size := World.block_lt_of_cell? w _ hx
  obtain ⟨cap', w1, M1, hr1, hrow1, st1, hM1, hs1⟩ := app_zeros (P := Tryz.prog) w M l 48 3 3 i0 _ 1 8 .i64 Tryz.underlying48 Tryz.underlying3 hi hz0 hz1 hz2 rfl (by decide) g n cap k _ h (by omega) hcap (by unfold maxLen; omega) (by omega) hf
  have hx1 : w1.cell? ⟨b, 0, none⟩ = some (.int .i64 x) := (World.cell?_of_block (a := ⟨b, 0, none⟩) (hs1 b hbl)).trans hx
  obtain ⟨w2, hr2, hrow2, st2, hs2⟩ := copy_row (P := Tryz.prog) w1 M1 l 48 48 3 i0 1 Tryz.underlying48 hi hz1 w.heap.size (n + 1) cap' k 1 (cap' - k) 1 1 _ hrow1 ⟨b, 0, none⟩ [.int .i64 x] rfl (by simp [Nat.min_def]; omega) (by omega) (by omega) (by
    intro j u hu
    cases j with
    | zero => simp at hu; subst hu; simpa [Addr.add] using hx1
    | succ j => simp at hu) (by simp [Value.oneCell']) st1.fresh
  obtain ⟨_, _, hvx, hcap1, hcm1⟩ := hrow1.shape
  cases hvx
  have hgne : g ≠ w.heap.size := by omega
  have hsrc : ∀ j u, ((xs.map intV).drop k)[j]? = some u → w2.drew.cell? ((⟨g, k, none⟩ : Addr).add j) = some u := by
    intro j u hu
    have hadd : (⟨g, k, none⟩ : Addr).add j = ⟨g, k + j, none⟩ := by unfold Addr.add; split <;> simp_all
    rw [hadd]
    rw [List.getElem?_drop] at hu
    have e1 : w2.drew.heap[g]? = w.heap[g]? := (hs2 g hgne).trans (hs1 g hgl)
    exact (World.cell?_of_block (w := w) (w' := w2.drew) (a := ⟨g, k + j, none⟩) e1).trans (h.cell rfl hu).1
  have hrow2d : Row w2.drew M1 l 3 1 (.slice (some ⟨w.heap.size, 0, none⟩) (n + 1) cap') (n + 1) _ := hrow2
  obtain ⟨w3, hr3, hrow3, st3, _⟩ := copy_row (P := Tryz.prog) w2.drew M1 l 48 48 3 i0 1 Tryz.underlying48 hi hz1 w.heap.size (n + 1) cap' (k + 1) (n - k) (cap' - (k + 1)) (n - k) (cap - k) _ hrow2d ⟨g, k, none⟩ ((xs.map intV).drop k) (by simp [hxl]) (by simp) (by omega) (by omega) hsrc (by
    intro u hu
    obtain ⟨y, _, rfl⟩ := List.mem_map.1 (List.mem_of_mem_drop hu)
    rfl) st2.fresh
  have hlen1 : ((xs.map intV).take (k * 1) ++ (Builtin.zeroCells (Value.int .i64 0).cells (n + 1 - k)).toList).length = n + 1 := by have := hrow1.1; simpa using this
  have hfin : ((((xs.map intV).take (k * 1) ++ (Builtin.zeroCells (Value.int .i64 0).cells (n + 1 - k)).toList).take (k * 1) ++ [Value.int .i64 x] ++ ((xs.map intV).take (k * 1) ++ (Builtin.zeroCells (Value.int .i64 0).cells (n + 1 - k)).toList).drop ((k + 1) * 1)).take ((k + 1) * 1) ++ (xs.map intV).drop k ++ (((xs.map intV).take (k * 1) ++ (Builtin.zeroCells (Value.int .i64 0).cells (n + 1 - k)).toList).take (k * 1) ++ [Value.int .i64 x] ++ ((xs.map intV).take (k * 1) ++ (Builtin.zeroCells (Value.int .i64 0).cells (n + 1 - k)).toList).drop ((k + 1) * 1)).drop ((k + 1 + (n - k)) * 1)) = (xs.take k ++ x :: xs.drop k).map intV := by
    have hLk : ((xs.map intV).take (k * 1) ++ (Builtin.zeroCells (Value.int .i64 0).cells (n + 1 - k)).toList).take (k * 1) = (xs.map intV).take k := by
      rw [List.take_append_of_le_length (by simp [hxl]; omega), Nat.mul_one, List.take_take, Nat.min_self]
    generalize ((xs.map intV).take (k * 1) ++ (Builtin.zeroCells (Value.int .i64 0).cells (n + 1 - k)).toList) = L at hlen1 hLk ⊢
    rw [hLk, ins_ints xs k x]
    have hA : ((xs.map intV).take k ++ [Value.int .i64 x]).length = (k + 1) * 1 := by simp [hxl]; omega
    rw [← hA, List.take_left, hA]
    have hB : ((xs.map intV).take k ++ [Value.int .i64 x] ++ L.drop ((k + 1) * 1)).drop ((k + 1 + (n - k)) * 1) = [] := by
      apply List.drop_of_length_le
      simp [hlen1, hxl]
      omega
    rw [hB, List.append_nil]
    rfl
  rw [hfin] at hrow3
  have e1 : ((n + 1 - k : Nat) : Int) = (n : Int) + 1 - k := by omega
  rw [e1] at hr1
  have HA : Hid (∀ ty, (Builtin.append_ #[48, 3] ty #[.slice (some ⟨g, 0, none⟩) k cap, .int .i64 ((n : Int) + 1 - k)]).run Tryz.prog w = .ok (.slice (some ⟨w.heap.size, 0, none⟩) (n + 1) cap') w1) := hr1
  have HB : Hid (∀ ty, (Builtin.copy_ #[48, 48] ty #[.slice (some ⟨w.heap.size, k, none⟩) (n + 1 - k) (cap' - k), .slice (some ⟨b, 0, none⟩) 1 1]).run Tryz.prog w1 = .ok (goInt 1) w2) := by
    intro ty
    have := hr2 ty
    rw [Nat.mul_one] at this
    exact this
  have HC : Hid (∀ ty, (Builtin.copy_ #[48, 48] ty #[.slice (some ⟨w.heap.size, k + 1, none⟩) (n - k) (cap' - (k + 1)), .slice (some ⟨g, k, none⟩) (n - k) (cap - k)]).run Tryz.prog w2.drew = .ok (goInt ((n - k : Nat) : Int)) w3) := by
    intro ty
    have := hr3 ty
    rw [Nat.mul_one, show n + 1 - (k + 1) = n - k by omega] at this
    exact this
  have HR : Hid (Row w3 M1 l 3 1 (.slice (some ⟨w.heap.size, 0, none⟩) (n + 1) cap') (n + 1) ((xs.take k ++ x :: xs.drop k).map intV) ∧ Step w M w3 M1 l) := ⟨hrow3, st1.then (st2.then ⟨st3.os, st3.tape, st3.output, st3.size, st3.lab, st3.fresh, st3.far⟩)⟩
  unfold maxLen at hm hcm1
  have n1 : ((k : Int) == (n : Int)) = false := by simp; omega
  have n2 : ¬ ((k : Int) = (n : Int)) := by omega
  have n3 : ¬ cap' = k := by omega
  have n4 : ¬ cap' = k + 1 := by omega
  have n5 : ¬ cap = k := by omega
  have i1 : (k : Int) ≤ (n : Int) := by omega
  have i2 : (n : Int) ≤ (cap : Int) := by omega
  have i3 : (cap : Int) < (n : Int) + 1 := by omega
  have i4 : (n : Int) + 1 ≤ (cap' : Int) := by omega
  have i5 : (k : Int) + 1 ≤ (n : Int) + 1 := by omega
  have i6 : (0 : Int) ≤ (k : Int) := by omega
  have hwr : IntKind.i64.wrap ((k : Int) + 1) = (k : Int) + 1 := by
    rw [IntKind.wrap_i64]
    omega
  clear h hf hr1 hr2 hr3 hrow1 hrow2 hrow2d hrow3 st1 st2 st3 hs1 hs2 hfin hlen1 hsrc hx1
  go_enter Tryz.func153, Tryz.ntmps153
  have hB := HB.out
  have hC := HC.out
  go_wp2_with (at_builtin; refine wpList_append_run _ (by rfl) (.tmp 34) (.tmp 39) 48 3 (by rfl) (.slice (some ⟨g, 0, none⟩) k cap) (.int .i64 ((n : Int) + 1 - k)) (by rfl) (by rfl) _ w1 HA.out ?_)
  go_region
  all_goals go_wp2
  all_goals go_ret
  all_goals exact ⟨_, _, rfl, M1, HR.out.1, HR.out.2⟩
end Go.Proofs.YtkaeenafejdkfaaGreatDoor
