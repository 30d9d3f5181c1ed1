/- slices.Insert of one number anywhere, and a root pushed among the kids of another node. -/
import Derived.Test.YtoanbjdifddcoaaGreatDoorM13
import Derived.Test.YtoanbjdifddcoaaGreatDoorPut
namespace Go.Proofs.YtoanbjdifddcoaaGreatDoor
open Go.RowKit

theorem insert_any {w : World} {M : Nat → Lab} {l : Lab} {v : Value} {n : Nat} {xs : List Int} (h : Row w M l 3 1 v n (xs.map intV)) (hn : n ≤ 1099511627776) (hf : ∀ b, w.heap.size ≤ b → M b = .other) (k : Nat) (hk : k ≤ n) (b : Nat) (x : Int) (hb : w.heap[b]? = some (.cells #[.int .i64 x] 3 (0, 0))) (hbl : M b ≠ l) :
    Calls Tryz.prog 92 #[v, .int .i64 k, .slice (some ⟨b, 0, none⟩) 1 1] w fun e w' => ∃ g' cap', e = .returned (.slice (some ⟨g', 0, none⟩) (n + 1) cap') ∧ ∃ M', Row w' M' l 3 1 (.slice (some ⟨g', 0, none⟩) (n + 1) cap') (n + 1) ((xs.take k ++ x :: xs.drop k).map intV) ∧ Step w M w' M' l := by
  have hx : w.cell? ⟨b, 0, none⟩ = some (.int .i64 x) := by rw [cell_of_row w b 0 _ _ _ hb]; rfl
  have hxl : xs.length = n := by have := h.1; simpa using this
  by_cases hkn : k = n
  · subst hkn
    have e : xs.take k ++ x :: xs.drop k = xs ++ [x] := by rw [List.take_of_length_le (by omega), List.drop_of_length_le (by omega)]
    rw [e]
    have := insert_end h hn hf b x hx
    simpa using this
  · obtain ⟨g, cap, rfl, h1, h2, hM, hgl⟩ := h.form (by omega)
    by_cases hcap : n + 1 ≤ cap
    · refine (insert_room h hf k (by omega) hcap b x hb (fun e => hbl (by rw [e]; exact hM))).mono ?_
      rintro e w' ⟨rfl, g1, g2⟩
      exact ⟨g, cap, rfl, M, g1, g2⟩
    · exact insert_grow h hn hf k (by omega) (by omega) b x hx

set_option maxHeartbeats 4000000 in
set_option maxRecDepth 100000 in
theorem push_all {w : World} {M : Nat → Lab} {tb : Nat} {nv uv : Value} {ps : List Pn} {us : List Value} (h : Lies w M tb nv uv ps us) {a b k : Nat} {pa pb : Pn} (ha : ps[a]? = some pa) (hb : ps[b]? = some pb) (hab : a ≠ b) (hk : pa.n.kids.length ≤ 1099511627776) (hkl : k ≤ pa.n.kids.length) :
    Calls Tryz.prog 79 #[.pointer (some ⟨tb, 0, none⟩), .int .i64 a, .int .i64 b, .int .i64 k] w fun e w' => e = .returned (.tuple #[]) ∧ ∃ M' kv', Lies w' M' tb nv uv ((ps.set a ⟨{ pa.n with kids := pa.n.kids.take k ++ (b : Int) :: pa.n.kids.drop k }, pa.av, kv'⟩).set b ⟨{ pb.n with parent := a }, pb.av, pb.kv⟩) us ∧ Moved w M w' M' := by
  obtain ⟨nb, cap, rfl, hc, hm, hnM, hnl, hal⟩ := h.form ha
  have hbl : b < ps.length := (List.getElem?_eq_some_iff.1 hb).1
  have c0 := h.cell0
  have c5 := (h.cellN rfl (f := 5) ha (by omega) rfl).1
  have hr := (h.node a pa ha).2
  obtain ⟨ka, kc, hkv, _, _⟩ := hr.shape
  rw [hkv] at c5
  have hlt : tb < w.heap.size := lt_of_heap h.head
  have HA : Hid (ps[a]? = some pa) := ha
  have HB : Hid (ps[b]? = some pb) := hb
  have H : Hid (Lies w M tb (.slice (some ⟨nb, 0, none⟩) ps.length cap) uv ps us) := h
  have HK : Hid (pa.kv = .slice ka pa.n.kids.length kc) := hkv
  have HKR : Hid (∀ o, Row (w.alloc o).drew M (.kids a) 3 1 (.slice ka pa.n.kids.length kc) pa.n.kids.length (pa.n.kids.map intV)) := fun o => hkv ▸ ((h.alloc o).drew.node a pa ha).2
  have hM0 : M w.heap.size = .other := h.fresh _ (Nat.le_refl _)
  have HM : Hid (M w.heap.size ≠ .kids a) := fun e => by rw [hM0] at e; cases e
  clear hM0
  have hn1 : ¬ ((a : Int) = -1) := by omega
  have hn1b : ((a : Int) == -1) = false := by simp
  have i1 : (0 : Int) ≤ (a : Int) := by omega
  have i2 : (a : Int) < (ps.length : Int) := by omega
  have i3 : (0 : Int) ≤ (b : Int) := by omega
  have i4 : (b : Int) < (ps.length : Int) := by omega
  have hlen : (pa.n.kids.take k ++ (b : Int) :: pa.n.kids.drop k).length = pa.n.kids.length + 1 := by simp; omega
  unfold maxLen at hm
  clear h hr hkv ha hb
  go_enter Tryz.func79, Tryz.ntmps79
  go_wp2
  go_region_with
    ((go_at_call 92; refine (insert_any (HKR.out _) hk (H.out.alloc _).drew.fresh k hkl w.heap.size (b : Int) (heap_alloc_new w _) HM.out).mono ?_; rintro e w2 ⟨g, cap1, rfl, M2, hr, st⟩
      obtain ⟨q1, q2, q3, q4, q5⟩ := (H.out.alloc _).drew.setKids rfl HA.out st (ks' := pa.n.kids.take k ++ (b : Int) :: pa.n.kids.drop k) (by rw [hlen]; exact hr)
      rw [HK.out] at q3
      have hb2 : (ps.set a ⟨{ pa.n with kids := pa.n.kids.take k ++ (b : Int) :: pa.n.kids.drop k }, pa.av, .slice (some ⟨g, 0, none⟩) (pa.n.kids.length + 1) cap1⟩)[b]? = some pb := by (rw [List.getElem?_set_ne hab]; exact HB.out)
      have d0 := q1.cell0
      obtain ⟨d4, d4f⟩ := q1.cellN rfl (f := 4) hb2 (by omega) rfl
      have HQ : Hid _ := And.intro (q1.setNode rfl (f := 4) (c := .int .i64 a) hb2 (by omega) (p' := ⟨{ pb.n with parent := a }, pb.av, pb.kv⟩) rfl (q1.node b pb hb2).1 (q1.node b pb hb2).2) (((Moved.refl w M).alloc _).drew.trans q2)
      clear q1 q2 hr st hb2))
  all_goals go_wp2
  all_goals go_end0
  all_goals exact ⟨rfl, M2, _, HQ.out.1.1, HQ.out.2.trans (HQ.out.1.2.moved (by intro e; cases e))⟩
end Go.Proofs.YtoanbjdifddcoaaGreatDoor
