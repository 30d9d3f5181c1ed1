/- slices.Insert of one number in the midst, where there is room. -/
import Derived.Test.YtkaeenafejdkfaaGreatDoorM13
import Derived.Lib.Overlaps
import Derived.Laws.Externs
import Derived.Test.YtkaeenafejdkfaaGreatDoorM10
import Derived.Test.YtkaeenafejdkfaaGreatDoorM03
import Derived.Test.YtkaeenafejdkfaaGreatDoorM12
import Derived.Laws.EntriesVeiled
namespace Go.Proofs.YtkaeenafejdkfaaGreatDoor
open Go.RowKit

theorem Row.longer {w : World} {M : Nat → Lab} {l : Lab} {e : TypeId} {g n cap : Nat} {xs : List Value} (h : Row w M l e 1 (.slice (some ⟨g, 0, none⟩) n cap) n xs) (hn : 0 < n) (hc : n + 1 ≤ cap) :
    ∃ y, Row w M l e 1 (.slice (some ⟨g, 0, none⟩) (n + 1) cap) (n + 1) (xs ++ [y]) ∧ ∃ cur, w.heap[g]? = some (.cells cur e (0, 0)) ∧ cap ≤ cur.size ∧ M g = l := by
  obtain ⟨hl, a, cap', hv, h1, h2, h3⟩ := h
  cases hv
  rcases h3 with ⟨h3, _⟩ | ⟨g', cur, ha, hM, hg, h4, h5⟩
  · omega
  · cases ha
    have hlt : n < cur.toList.length := by simp; omega
    refine ⟨cur.toList[n], ⟨by simp [hl], _, _, rfl, hc, h2, .inr ⟨_, cur, rfl, hM, hg, h4, ?_⟩⟩, cur, hg, by omega, hM⟩
    rw [Nat.mul_one] at h5 ⊢
    rw [List.take_succ_eq_append_getElem hlt, h5]

theorem sizeInt (w : World) : (Go.sizeOf 3).run Tryz.prog w = .ok 1 w := by kernel_rfl

set_option maxHeartbeats 4000000 in
set_option maxRecDepth 100000 in
theorem insert_room {w : World} {M : Nat → Lab} {l : Lab} {g n cap : Nat} {xs : List Int} (h : Row w M l 3 1 (.slice (some ⟨g, 0, none⟩) n cap) n (xs.map intV)) (hf : ∀ b, w.heap.size ≤ b → M b = .other) (k : Nat) (hk : k < n) (hcap : n + 1 ≤ cap) (b : Nat) (x : Int) (hb : w.heap[b]? = some (.cells #[.int .i64 x] 3 (0, 0))) (hbg : b ≠ g) :
    Calls Tryz.prog 153 #[.slice (some ⟨g, 0, none⟩) n cap, .int .i64 k, .slice (some ⟨b, 0, none⟩) 1 1] w fun e w' => e = .returned (.slice (some ⟨g, 0, none⟩) (n + 1) cap) ∧ Row w' M l 3 1 (.slice (some ⟨g, 0, none⟩) (n + 1) cap) (n + 1) ((xs.take k ++ x :: xs.drop k).map intV) ∧ Step w M w' M l := by
  obtain ⟨i0, hi, hz0, hz1, hz2⟩ := info_parts Tryz.infoInt
  have hxl : xs.length = n := by have := h.1; simpa using this
  obtain ⟨_, _, hvx, _, hm⟩ := h.shape
  cases hvx
  obtain ⟨y, hrow, cur, hg, hcs, hgM⟩ := h.longer (by omega) hcap
  have hx : w.cell? ⟨b, 0, none⟩ = some (.int .i64 x) := by rw [cell_of_row w b 0 _ _ _ hb]; rfl
  have hov := Lib.run_overlaps_apart (P := Tryz.prog) w 48 4 3 Tryz.underlying48 1 sizeInt ⟨b, 0, none⟩ ⟨g, k + 1, none⟩ 1 1 (n - k) (cap - (k + 1)) hbg 3 3 1 cur.size (by simp [World.shape?, hb]) (by simp [World.shape?, hg]) (by omega) (by simp [World.frozen?, hb]) (by simp [World.frozen?, hb])
  have hov2 : (callFunc 171 #[.slice (some ⟨b, 0, none⟩) 1 1, .slice (some ⟨g, k + 1, none⟩) (n - k) (cap - (k + 1))]).run Tryz.prog w = .ok (.value (.bool false)) w := by
    rw [run_callFunc_extern Tryz.func171 (by kernel_rfl) (by kernel_rfl) (by kernel_rfl) (e := Extern.SlicesOverlaps.overlaps #[48, 48] #[4]) (by kernel_rfl), hov]
    rfl
  have hsrc : ∀ j u, ((xs.map intV).drop k)[j]? = some u → w.drew.cell? ((⟨g, k, none⟩ : Addr).add j) = some u := by
    intro j u hu
    have hadd : (⟨g, k, none⟩ : Addr).add j = ⟨g, k + j, none⟩ := by unfold Addr.add; split <;> simp_all
    rw [hadd]
    rw [List.getElem?_drop] at hu
    exact (h.cell rfl hu).1
  have hrowd : Row w.drew M l 3 1 (.slice (some ⟨g, 0, none⟩) (n + 1) cap) (n + 1) (xs.map intV ++ [y]) := hrow
  obtain ⟨w1, hr1, hrow1, st1, hs1⟩ := copy_row (P := Tryz.prog) w.drew M l 48 48 3 i0 1 Tryz.underlying48 hi hz1 g (n + 1) cap (k + 1) (n - k) (cap - (k + 1)) (n + 1 - k) (cap - k) _ hrowd ⟨g, k, none⟩ ((xs.map intV).drop k) (by simp [hxl]) (by simp [Nat.min_def]; omega) (by omega) (by omega) hsrc (by
    intro u hu
    obtain ⟨z, _, rfl⟩ := List.mem_map.1 (List.mem_of_mem_drop hu)
    rfl) hf
  have hx1 : w1.cell? ⟨b, 0, none⟩ = some (.int .i64 x) := (World.cell?_of_block (a := ⟨b, 0, none⟩) (hs1 b hbg)).trans hx
  obtain ⟨w2, hr2, hrow2, st2, _⟩ := copy_row (P := Tryz.prog) w1 M l 48 48 3 i0 1 Tryz.underlying48 hi hz1 g (n + 1) cap k 1 (cap - k) 1 1 _ hrow1 ⟨b, 0, none⟩ [.int .i64 x] rfl (by simp [Nat.min_def]; omega) (by omega) (by omega) (by
    intro j u hu
    cases j with
    | zero => simp at hu; subst hu; simpa [Addr.add] using hx1
    | succ j => simp at hu) (by simp [Value.oneCell']) st1.fresh
  have hfin : (((xs.map intV ++ [y]).take ((k + 1) * 1) ++ (xs.map intV).drop k ++ (xs.map intV ++ [y]).drop ((k + 1 + (n - k)) * 1)).take (k * 1) ++ [Value.int .i64 x] ++ ((xs.map intV ++ [y]).take ((k + 1) * 1) ++ (xs.map intV).drop k ++ (xs.map intV ++ [y]).drop ((k + 1 + (n - k)) * 1)).drop ((k + 1) * 1)) = (xs.take k ++ x :: xs.drop k).map intV := by
    rw [ins_ints xs k x]
    have e0 : (xs.map intV ++ [y]).drop ((k + 1 + (n - k)) * 1) = [] := by
      apply List.drop_of_length_le
      simp [hxl]
      omega
    have eA : ((xs.map intV ++ [y]).take ((k + 1) * 1)).length = (k + 1) * 1 := by simp [hxl]; omega
    rw [e0, List.append_nil]
    have e1 : ((xs.map intV ++ [y]).take ((k + 1) * 1) ++ (xs.map intV).drop k).drop ((k + 1) * 1) = (xs.map intV).drop k := by
      have := List.drop_left (l₁ := (xs.map intV ++ [y]).take ((k + 1) * 1)) (l₂ := (xs.map intV).drop k)
      rw [eA] at this
      exact this
    have e2 : ((xs.map intV ++ [y]).take ((k + 1) * 1) ++ (xs.map intV).drop k).take (k * 1) = (xs.map intV).take k := by
      rw [List.take_append_of_le_length (by rw [eA]; omega), List.take_take, List.take_append_of_le_length (by simp [hxl]; omega)]
      congr 1
      omega
    rw [e1, e2]
    rfl
  rw [hfin] at hrow2
  have HB : Hid (∀ ty, (Builtin.copy_ #[48, 48] ty #[.slice (some ⟨g, k + 1, none⟩) (n - k) (cap - (k + 1)), .slice (some ⟨g, k, none⟩) (n + 1 - k) (cap - k)]).run Tryz.prog w.drew = .ok (goInt ((n - k : Nat) : Int)) w1) := by
    intro ty
    have := hr1 ty
    rw [Nat.mul_one, show n + 1 - (k + 1) = n - k by omega] at this
    exact this
  have HC : Hid (∀ ty, (Builtin.copy_ #[48, 48] ty #[.slice (some ⟨g, k, none⟩) (n + 1 - k) (cap - k), .slice (some ⟨b, 0, none⟩) 1 1]).run Tryz.prog w1 = .ok (goInt 1) w2) := by
    intro ty
    have := hr2 ty
    rw [Nat.mul_one] at this
    exact this
  have HR : Hid (Row w2 M l 3 1 (.slice (some ⟨g, 0, none⟩) (n + 1) cap) (n + 1) ((xs.take k ++ x :: xs.drop k).map intV) ∧ Step w M w2 M l) := ⟨hrow2, (show Step w M w1 M l from ⟨st1.os, st1.tape, st1.output, st1.size, st1.lab, st1.fresh, st1.far⟩).then st2⟩
  unfold maxLen at hm
  have n1 : ((k : Int) == (n : Int)) = false := by simp; omega
  have n2 : ¬ ((k : Int) = (n : Int)) := by omega
  have n4 : ¬ cap = k + 1 := by omega
  have n5 : ¬ cap = k := by omega
  have i1 : (k : Int) ≤ (n : Int) := by omega
  have i2 : (n : Int) ≤ (cap : Int) := by omega
  have i3 : ¬ (cap : Int) < (n : Int) + 1 := by omega
  have i4 : (n : Int) + 1 ≤ (cap : Int) := by omega
  have i5 : (k : Int) + 1 ≤ (n : Int) + 1 := by omega
  have i6 : (0 : Int) ≤ (k : Int) := by omega
  have i7 : (k : Int) ≤ (n : Int) + 1 := by omega
  have hwr : IntKind.i64.wrap ((k : Int) + 1) = (k : Int) + 1 := by
    rw [IntKind.wrap_i64]
    omega
  clear h hf hr1 hr2 hrow hrowd hrow1 hrow2 st1 st2 hs1 hfin hsrc hx1 hov hg hb hx hcs
  go_enter Tryz.func153, Tryz.ntmps153
  have hB := HB.out
  have hC := HC.out
  go_wp2
  go_region
  all_goals go_wp2
  all_goals go_ret
  all_goals exact ⟨rfl, HR.out.1, HR.out.2⟩
end Go.Proofs.YtkaeenafejdkfaaGreatDoor

/- slices.Insert of one number anywhere, and a root pushed among the kids of another node. -/
namespace Go.Proofs.YtkaeenafejdkfaaGreatDoor
open Go.RowKit

theorem insert_any {w : World} {M : Nat → Lab} {l : Lab} {v : Value} {n : Nat} {xs : List Int} (h : Row w M l 3 1 v n (xs.map intV)) (hn : n ≤ 1099511627776) (hf : ∀ b, w.heap.size ≤ b → M b = .other) (k : Nat) (hk : k ≤ n) (b : Nat) (x : Int) (hb : w.heap[b]? = some (.cells #[.int .i64 x] 3 (0, 0))) (hbl : M b ≠ l) :
    Calls Tryz.prog 153 #[v, .int .i64 k, .slice (some ⟨b, 0, none⟩) 1 1] w fun e w' => ∃ g' cap', e = .returned (.slice (some ⟨g', 0, none⟩) (n + 1) cap') ∧ ∃ M', Row w' M' l 3 1 (.slice (some ⟨g', 0, none⟩) (n + 1) cap') (n + 1) ((xs.take k ++ x :: xs.drop k).map intV) ∧ Step w M w' M' l := by
  have hx : w.cell? ⟨b, 0, none⟩ = some (.int .i64 x) := by rw [cell_of_row w b 0 _ _ _ hb]; rfl
  have hxl : xs.length = n := by have := h.1; simpa using this
  by_cases hkn : k = n
  · subst hkn
    have e : xs.take k ++ x :: xs.drop k = xs ++ [x] := by rw [List.take_of_length_le (by omega), List.drop_of_length_le (by omega)]
    rw [e]
    have := insert_end h hn hf b x hx
    simpa using this
  · obtain ⟨g, cap, rfl, h1, h2, hM, hgl⟩ := h.form (by omega)
    by_cases hcap : n + 1 ≤ cap
    · refine (insert_room h hf k (by omega) hcap b x hb (fun e => hbl (by rw [e]; exact hM))).mono ?_
      rintro e w' ⟨rfl, g1, g2⟩
      exact ⟨g, cap, rfl, M, g1, g2⟩
    · exact insert_grow h hn hf k (by omega) (by omega) b x hx

set_option maxHeartbeats 4000000 in
set_option maxRecDepth 100000 in
theorem push_all {w : World} {M : Nat → Lab} {tb : Nat} {nv uv : Value} {ps : List Pn} {us : List Value} (h : Lies w M tb nv uv ps us) {a b k : Nat} {pa pb : Pn} (ha : ps[a]? = some pa) (hb : ps[b]? = some pb) (hab : a ≠ b) (hk : pa.n.kids.length ≤ 1099511627776) (hkl : k ≤ pa.n.kids.length) :
    Calls Tryz.prog 126 #[.pointer (some ⟨tb, 0, none⟩), .int .i64 a, .int .i64 b, .int .i64 k] w fun e w' => e = .returned (.tuple #[]) ∧ ∃ M' kv', Lies w' M' tb nv uv ((ps.set a ⟨{ pa.n with kids := pa.n.kids.take k ++ (b : Int) :: pa.n.kids.drop k }, pa.av, kv'⟩).set b ⟨{ pb.n with parent := a }, pb.av, pb.kv⟩) us ∧ Moved w M w' M' := by
  obtain ⟨nb, cap, rfl, hc, hm, hnM, hnl, hal⟩ := h.form ha
  have hbl : b < ps.length := (List.getElem?_eq_some_iff.1 hb).1
  have c0 := h.cell0
  have c5 := (h.cellN rfl (f := 5) ha (by omega) rfl).1
  have hr := (h.node a pa ha).2
  obtain ⟨ka, kc, hkv, _, _⟩ := hr.shape
  rw [hkv] at c5
  have hlt : tb < w.heap.size := lt_of_heap h.head
  have HA : Hid (ps[a]? = some pa) := ha
  have HB : Hid (ps[b]? = some pb) := hb
  have H : Hid (Lies w M tb (.slice (some ⟨nb, 0, none⟩) ps.length cap) uv ps us) := h
  have HK : Hid (pa.kv = .slice ka pa.n.kids.length kc) := hkv
  have HKR : Hid (∀ o, Row (w.alloc o).drew M (.kids a) 3 1 (.slice ka pa.n.kids.length kc) pa.n.kids.length (pa.n.kids.map intV)) := fun o => hkv ▸ ((h.alloc o).drew.node a pa ha).2
  have hM0 : M w.heap.size = .other := h.fresh _ (Nat.le_refl _)
  have HM : Hid (M w.heap.size ≠ .kids a) := fun e => by rw [hM0] at e; cases e
  clear hM0
  have hn1 : ¬ ((a : Int) = -1) := by omega
  have hn1b : ((a : Int) == -1) = false := by simp
  have i1 : (0 : Int) ≤ (a : Int) := by omega
  have i2 : (a : Int) < (ps.length : Int) := by omega
  have i3 : (0 : Int) ≤ (b : Int) := by omega
  have i4 : (b : Int) < (ps.length : Int) := by omega
  have hlen : (pa.n.kids.take k ++ (b : Int) :: pa.n.kids.drop k).length = pa.n.kids.length + 1 := by simp; omega
  unfold maxLen at hm
  clear h hr hkv ha hb
  go_enter Tryz.func126, Tryz.ntmps126
  go_wp2
  go_region_with
    ((go_at_call 153; refine (insert_any (HKR.out _) hk (H.out.alloc _).drew.fresh k hkl w.heap.size (b : Int) (heap_alloc_new w _) HM.out).mono ?_; rintro e w2 ⟨g, cap1, rfl, M2, hr, st⟩
      obtain ⟨q1, q2, q3, q4, q5⟩ := (H.out.alloc _).drew.setKids rfl HA.out st (ks' := pa.n.kids.take k ++ (b : Int) :: pa.n.kids.drop k) (by rw [hlen]; exact hr)
      rw [HK.out] at q3
      have hb2 : (ps.set a ⟨{ pa.n with kids := pa.n.kids.take k ++ (b : Int) :: pa.n.kids.drop k }, pa.av, .slice (some ⟨g, 0, none⟩) (pa.n.kids.length + 1) cap1⟩)[b]? = some pb := by (rw [List.getElem?_set_ne hab]; exact HB.out)
      have d0 := q1.cell0
      obtain ⟨d4, d4f⟩ := q1.cellN rfl (f := 4) hb2 (by omega) rfl
      have HQ : Hid _ := And.intro (q1.setNode rfl (f := 4) (c := .int .i64 a) hb2 (by omega) (p' := ⟨{ pb.n with parent := a }, pb.av, pb.kv⟩) rfl (q1.node b pb hb2).1 (q1.node b pb hb2).2) (((Moved.refl w M).alloc _).drew.trans q2)
      clear q1 q2 hr st hb2))
  all_goals go_wp2
  all_goals go_end0
  all_goals exact ⟨rfl, M2, _, HQ.out.1.1, HQ.out.2.trans (HQ.out.1.2.moved (by intro e; cases e))⟩
end Go.Proofs.YtkaeenafejdkfaaGreatDoor

/- A node is moved, and moved back. -/
namespace Go.Proofs.YtkaeenafejdkfaaGreatDoor
open Go.RowKit

/-- no list of kids is too long -/
def KidsFew (ns : List Nd) : Prop := ∀ (j : Nat) (n : Nd), ns[j]? = some n → n.kids.length ≤ 1099511627776
theorem WF.kidsFew {ns : List Nd} (h : WF ns) : KidsFew ns := fun j n hn => Nat.le_trans (h.few hn) (by omega)

theorem pull_any {w : World} {M : Nat → Lab} {tb : Nat} {nv uv : Value} {ps : List Pn} {us : List Value} (h : Lies w M tb nv uv ps us) {i wz : Nat} {f : Int} {ns' : List Nd} (hp : Pulled (nodesOf ps) i ns' f wz) :
    Calls Tryz.prog 125 #[.pointer (some ⟨tb, 0, none⟩), .int .i64 i] w fun e w' => e = .returned (.tuple #[.int .i64 f, .int .i64 wz]) ∧ ∃ ps', Lies w' M tb nv uv ps' us ∧ nodesOf ps' = ns' ∧ Moved w M w' M := by
  cases hp with
  | root hi hr =>
    obtain ⟨p, hp, rfl⟩ := nodesOf_get hi
    refine (pull_root h hp hr).mono ?_
    rintro e w' ⟨rfl, rfl⟩
    exact ⟨rfl, ps, h, rfl, Moved.refl _ _⟩
  | kid hi hq hm hk hqi =>
    obtain ⟨p, hp, rfl⟩ := nodesOf_get hi
    obtain ⟨m, hm', rfl⟩ := nodesOf_get hm
    refine (pull_kid h hp hq hm' hk hqi).mono ?_
    rintro e w' ⟨rfl, kv', h1, h2⟩
    exact ⟨rfl, _, h1, by simp [nodesOf, pullP, List.map_set], h2⟩

theorem push_gen {w : World} {M : Nat → Lab} {tb : Nat} {nv uv : Value} {ps : List Pn} {us : List Value} (h : Lies w M tb nv uv ps us) {i k : Nat} {a : Int} {ns' : List Nd} (hp : Pushed (nodesOf ps) i k a ns') (hf : KidsFew (nodesOf ps)) :
    Calls Tryz.prog 126 #[.pointer (some ⟨tb, 0, none⟩), .int .i64 a, .int .i64 i, .int .i64 k] w fun e w' => e = .returned (.tuple #[]) ∧ ∃ M' ps', Lies w' M' tb nv uv ps' us ∧ nodesOf ps' = ns' ∧ Moved w M w' M' := by
  cases hp with
  | none =>
    refine (push_none tb _ _ _).mono ?_
    rintro e w' ⟨rfl, rfl⟩
    exact ⟨rfl, M, ps, h, rfl, Moved.refl _ _⟩
  | kid hm hi ha hk =>
    obtain ⟨p, hp, rfl⟩ := nodesOf_get hi
    obtain ⟨m, hm', rfl⟩ := nodesOf_get hm
    refine (push_all h hm' hp ha (hf _ _ hm) hk).mono ?_
    rintro e w' ⟨rfl, M', kv', h1, h2⟩
    exact ⟨rfl, M', _, h1, by simp [nodesOf, List.map_set], h2⟩

set_option maxHeartbeats 4000000 in
set_option maxRecDepth 100000 in
theorem move_any {w : World} {M : Nat → Lab} {tb : Nat} {nv uv : Value} {ps : List Pn} {us : List Value} (h : Lies w M tb nv uv ps us) {i k wz : Nat} {f a : Int} {mid ns' : List Nd} (hp : Pulled (nodesOf ps) i mid f wz) (hq : Pushed mid i k a ns') (hf : KidsFew mid) :
    Calls Tryz.prog 90 #[.pointer (some ⟨tb, 0, none⟩), .int .i64 a, .int .i64 i, .int .i64 k] w fun e w' => ∃ ca, e = .returned (.func (.func 127) #[] ca) ∧ ∃ M' ps', Lies w' M' tb nv uv ps' us ∧ nodesOf ps' = ns' ∧ Moved w M w' M' ∧ MvF w' M' (.func (.func 127) #[] ca) tb i f wz := by
  have HP : Hid (Pulled (nodesOf ps) i mid f wz) := hp
  have HQ : Hid (Pushed mid i k a ns') := hq
  have HF : Hid (KidsFew mid) := hf
  have H : Hid (Lies w M tb nv uv ps us) := h
  clear h hp hq hf
  go_enter Tryz.func90, Tryz.ntmps90
  go_wp2_with (first
    | (go_at_call 125; refine (pull_any ((H.out.alloc _).alloc _) HP.out).mono ?_; rintro e w1 ⟨rfl, ps1, hL1, hn1, hm1⟩
       have b0 : w1.cell? ⟨w.heap.size, 0, none⟩ = some (.pointer (some ⟨tb, 0, none⟩)) := moved_cell hm1 (H.out.fresh _ (Nat.le_refl _)) (by simp)
       have b1 : w1.cell? ⟨w.heap.size + 1, 0, none⟩ = some (.int .i64 i) := moved_cell hm1 (H.out.fresh _ (by omega)) (by simp)
       have l0 : w.heap.size + 1 < w1.heap.size := World.block_lt_of_cell? w1 _ b1
       have l1 : w.heap.size < w1.heap.size := by omega
       have H1 : Hid _ := And.intro hL1 (And.intro hm1 hn1)
       clear hL1 hm1 hn1)
    | (go_at_call 126; refine (push_gen ((H1.out.1.alloc _).alloc _) (H1.out.2.2.symm ▸ HQ.out) (H1.out.2.2.symm ▸ HF.out)).mono ?_; rintro e w2 ⟨rfl, M2, ps2, hL2, hn2, hm2⟩))
  go_ret
  have h0 := H.out.fresh w.heap.size (Nat.le_refl _)
  have h1 := H.out.fresh (w.heap.size + 1) (by omega)
  have h2 := H1.out.1.fresh w1.heap.size (Nat.le_refl _)
  have h3 := H1.out.1.fresh (w1.heap.size + 1) (by omega)
  have lb : ∀ {b : Nat}, b < w1.heap.size + 1 + 1 → M b = .other → M2 b = .other := fun {b} hb ho => (hm2.lab b (by simpa using hb)).trans ho
  refine ⟨_, rfl, M2, ps2, hL2, hn2, ((((((Moved.refl w M).alloc _).alloc _).trans H1.out.2.1).alloc _).alloc _).trans hm2, ⟨_, _, _, _, rfl, ⟨lb (by omega) h0, lb (by omega) h1, lb (by omega) h2, lb (by omega) h3⟩, ?_, ?_, ?_, ?_⟩⟩
  · exact moved_cell hm2 h0 (moved_cell (((Moved.refl w1 M).alloc _).alloc _) h0 b0)
  · exact moved_cell hm2 h1 (moved_cell (((Moved.refl w1 M).alloc _).alloc _) h1 b1)
  · exact moved_cell hm2 h2 (by simp)
  · exact moved_cell hm2 h3 (by simp)

set_option maxHeartbeats 4000000 in
set_option maxRecDepth 100000 in
theorem move1_any {w : World} {M : Nat → Lab} {tb : Nat} {nv uv : Value} {ps : List Pn} {us : List Value} (h : Lies w M tb nv uv ps us) {i wz wz' : Nat} {f f' : Int} {mid ns' : List Nd} {ca : Array Value} (hM : MvF w M (.func (.func 127) #[] ca) tb i f wz) (hp : Pulled (nodesOf ps) i mid f' wz') (hq : Pushed mid i wz f ns') (hf : KidsFew mid) :
    Calls Tryz.prog 127 ca w fun e w' => e = .returned (.tuple #[]) ∧ ∃ M' ps', Lies w' M' tb nv uv ps' us ∧ nodesOf ps' = ns' ∧ Moved w M w' M' := by
  obtain ⟨b1, b2, b3, b4, he, ⟨m1, m2, m3, m4⟩, k1, k2, k3, k4⟩ := hM
  cases he
  have HP : Hid (Pulled (nodesOf ps) i mid f' wz') := hp
  have HQ : Hid (Pushed mid i wz f ns') := hq
  have HF : Hid (KidsFew mid) := hf
  have H : Hid (Lies w M tb nv uv ps us) := h
  have HM : Hid (M b1 = .other ∧ M b2 = .other ∧ M b3 = .other ∧ M b4 = .other) := ⟨m1, m2, m3, m4⟩
  clear h hp hq hf m1 m2 m3 m4
  go_enter Tryz.func127, Tryz.ntmps127
  go_wp2_with (first
    | (go_at_call 125; refine (pull_any H.out HP.out).mono ?_; rintro e w1 ⟨rfl, ps1, hL1, hn1, hm1⟩
       have c1 := moved_cell hm1 HM.out.1 k1
       have c2 := moved_cell hm1 HM.out.2.1 k2
       have c3 := moved_cell hm1 HM.out.2.2.1 k3
       have c4 := moved_cell hm1 HM.out.2.2.2 k4
       have H1 : Hid _ := And.intro hL1 (And.intro hm1 hn1)
       clear hL1 hm1 hn1)
    | (go_at_call 126; refine (push_gen H1.out.1 (H1.out.2.2.symm ▸ HQ.out) (H1.out.2.2.symm ▸ HF.out)).mono ?_; rintro e w2 ⟨rfl, M2, ps2, hL2, hn2, hm2⟩))
  go_end0
  exact ⟨rfl, M2, ps2, hL2, hn2, H1.out.2.1.trans hm2⟩
end Go.Proofs.YtkaeenafejdkfaaGreatDoor

/- What Put and Take make of any tree. -/
namespace Go.Proofs.YtkaeenafejdkfaaGreatDoor
open Go.RowKit

theorem hasB_get {ps : List Pn} {a : Int} (h : hasB ps.length a = true) : ∃ (i : Nat) (p : Pn), a = i ∧ ps[i]? = some p := by
  unfold hasB at h
  simp at h
  obtain ⟨i, rfl⟩ : ∃ i : Nat, a = i := ⟨a.toNat, by omega⟩
  exact ⟨i, _, rfl, List.getElem?_eq_getElem (by omega)⟩

/-- nothing was done, and an error is told -/
def Refused (w : World) (e : Ending) (w' : World) : Prop := (∃ v, e = .returned v ∧ isErr v) ∧ Below w.heap.size w w'
/-- a node was moved -/
def WasMoved (w : World) (M : Nat → Lab) (tb : Nat) (nv : Value) (ps : List Pn) (us : List Value) (e : Ending) (w' : World) : Prop :=
  e = .returned .nilIface ∧ ∃ M' uv' ps' f i fr wz, Lies w' M' tb nv uv' ps' (us ++ [f]) ∧ MvF w' M' f tb i fr (wz : Nat) ∧ WF (nodesOf ps') ∧ Undoes (nodesOf ps') (nodesOf ps) (.move i fr wz) ∧ Moved w M w' M' ∧ (nodesOf ps').map Nd.attrs = (nodesOf ps).map Nd.attrs

theorem set_attrs {ns : List Nd} {i : Nat} {n n' : Nd} (h : ns[i]? = some n) (he : n'.attrs = n.attrs) : (ns.set i n').map Nd.attrs = ns.map Nd.attrs := by
  apply List.ext_getElem?
  intro j
  rw [List.map_set, he]
  by_cases hj : j = i
  · subst hj
    rw [List.getElem?_set_self (by simp; exact (List.getElem?_eq_some_iff.1 h).1)]
    simp [h]
  · rw [List.getElem?_set_ne (Ne.symm hj)]
theorem Pulled.attrs {ns ns' : List Nd} {i w : Nat} {f : Int} (hp : Pulled ns i ns' f w) : ns'.map Nd.attrs = ns.map Nd.attrs := by
  cases hp with
  | root _ _ => rfl
  | @kid n m q h hp hm hk hq =>
    refine Eq.trans (set_attrs (n := n) ?_ (by rfl)) (set_attrs hm (by rfl))
    rw [List.getElem?_set_ne hq]; exact h
theorem Pushed.attrs {ns ns' : List Nd} {i k : Nat} {a : Int} (hp : Pushed ns i k a ns') : ns'.map Nd.attrs = ns.map Nd.attrs := by
  cases hp with
  | none => rfl
  | @kid n m a hm h ha hk =>
    refine Eq.trans (set_attrs (n := n) ?_ (by rfl)) (set_attrs hm (by rfl))
    rw [List.getElem?_set_ne ha]; exact h

/-- how many others a node has beside it, if it goes there -/
def others (a : Nat) (p : Pn) (m : Pn) : Int := if p.n.parent = (a : Int) then (m.n.kids.length : Int) - 1 else m.n.kids.length

theorem others_mid {ns mid : List Nd} {i a wz : Nat} {fr : Int} {n m : Nd} (hp : Pulled ns i mid fr wz) (hi : ns[i]? = some n) (ha : ns[a]? = some m) (hai : a ≠ i) : ∃ m', mid[a]? = some m' ∧ (m'.kids.length : Int) = if n.parent = (a : Int) then (m.kids.length : Int) - 1 else m.kids.length := by
  cases hp with
  | root h hr =>
    obtain rfl := Option.some.inj (hi.symm.trans h)
    exact ⟨m, ha, by rw [if_neg (by omega)]⟩
  | @kid n' m' q h hq hm hk hqi =>
    obtain rfl := Option.some.inj (hi.symm.trans h)
    have G := get2 ns { m' with kids := m'.kids.eraseIdx (idx m'.kids i) } { n with parent := -1 } hqi (List.getElem?_eq_some_iff.1 hm).1 (List.getElem?_eq_some_iff.1 h).1 a
    rw [if_neg hai] at G
    by_cases haq : a = q
    · subst haq
      obtain rfl := Option.some.inj (ha.symm.trans hm)
      rw [if_pos rfl] at G
      have hlt := idx_lt hk
      refine ⟨_, G, ?_⟩
      rw [if_pos hq]
      simp only [List.length_eraseIdx, if_pos hlt]
      omega
    · rw [if_neg haq] at G
      exact ⟨m, G.trans ha, by rw [if_neg (by omega)]⟩

set_option maxHeartbeats 8000000 in
set_option maxRecDepth 100000 in
theorem put_good {w : World} {M : Nat → Lab} {tb : Nat} {nv uv : Value} {ps : List Pn} {us : List Value} (h : Lies w M tb nv uv ps us) (hW : WF (nodesOf ps)) (hu : us.length ≤ 1099511627776) {a i c : Nat} {p m : Pn} (hp : ps[i]? = some p) (hm : ps[a]? = some m) (h0 : i ≠ 0) (hk : kidsB m.n.kind = true) {la : List Nat} (hup : Up (nodesOf ps) a la) (hno : i ∉ la) (hc : (c : Int) ≤ others a p m) :
    Calls Tryz.prog 43 #[.pointer (some ⟨tb, 0, none⟩), .int .i64 a, .int .i64 i, .int .i64 c] w (WasMoved w M tb nv ps us) := by
  have hai : a ≠ i := fun e => hno (e ▸ hup.head)
  obtain ⟨mid, fr, wz, hP⟩ := hW.pulls (nodes_get hp)
  obtain ⟨m', hm', hl'⟩ := others_mid hP (nodes_get hp) (nodes_get hm) hai
  obtain ⟨n', hn', hr'⟩ := hP.isRoot
  have hcl : c ≤ m'.kids.length := by unfold others at hc; omega
  have HP : Hid (Pulled (nodesOf ps) i mid fr wz) := hP
  have HQ : Hid (Pushed mid i c a _) := Pushed.kid hm' hn' hai hcl
  have HWm : Hid (WF mid) := hW.pulled hP
  have HWf : Hid (WF ((mid.set a { m' with kids := m'.kids.take c ++ (i : Int) :: m'.kids.drop c }).set i { n' with parent := a })) := (hW.pulled hP).pushed hn' hr' h0 hm' (hP.chain hup hno) hno
  have hb1 := hasB_of hm
  have hb2 := hasB_of hp
  have hwi : decide (i ∈ la) = false := by simpa using hno
  have hi0 : ((i : Int) == 0) = false := by simp; omega
  have hi0' : ¬ ((i : Int) = 0) := by omega
  obtain ⟨nb, cap, rfl, hcp, hmx, _, _, hil⟩ := h.form hp
  have hal := (List.getElem?_eq_some_iff.1 hm).1
  have c0 := h.cell0
  have c4 := (h.cellN rfl (f := 4) hp (by omega) rfl).1
  have c5 := (h.cellN rfl (f := 5) hm (by omega) rfl).1
  obtain ⟨ka, kc, hkv, hk1, hk2⟩ := (h.node a m hm).2.shape
  rw [hkv] at c5
  have hfew := hW.few (nodes_get hm)
  have H : Hid (Lies w M tb (.slice (some ⟨nb, 0, none⟩) ps.length cap) uv ps us) := h
  have HM : Hid (ps[a]? = some m) := hm
  have HU : Hid (Up (nodesOf ps) a la) := hup
  have i1 : (0 : Int) ≤ (i : Int) := by omega
  have i2 : (i : Int) < (ps.length : Int) := by omega
  have i3 : (0 : Int) ≤ (a : Int) := by omega
  have i4 : (a : Int) < (ps.length : Int) := by omega
  have i5 : (0 : Int) ≤ (c : Int) := by omega
  unfold maxLen at hmx hk2
  unfold others at hc
  clear h hW hp hm hup hP hm' hn' hkv hl' hcl hr'
  by_cases hpa : p.n.parent = (a : Int)
  all_goals (first | rw [if_pos hpa] at hc | rw [if_neg hpa] at hc)
  all_goals
    go_enter Tryz.func43, Tryz.ntmps43
    go_wp2_with (first
      | (go_at_call 73; refine (has_any H.out _).mono ?_; rintro e w' ⟨rfl, rfl⟩; simp only [hb1, hb2])
      | (go_at_call 88; refine (mayHaveKids_any H.out HM.out).mono ?_; rintro e w' ⟨rfl, rfl⟩; rw [hk])
      | (go_at_call 89; refine (within_any H.out HU.out i).mono ?_; rintro e w' ⟨rfl, rfl⟩; rw [hwi])
      | (go_at_call 90; refine (move_any H.out HP.out HQ.out HWm.out.kidsFew).mono ?_; rintro e w1 ⟨ca, rfl, M1, ps1, hL1, hn1, hm1, hv1⟩; have H1 : Hid _ := And.intro hL1 (And.intro hn1 (And.intro hm1 hv1)); clear hL1 hn1 hm1 hv1)
      | (go_at_call 84; refine (keep_any H1.out.1 _ _ ca hu).mono ?_; rintro e w2 ⟨rfl, M2, uv2, hL2, hm2⟩; have H2 : Hid _ := And.intro hL2 hm2; clear hL2 hm2))
  all_goals go_ret
  all_goals refine ⟨rfl, M2, uv2, ps1, _, i, fr, wz, H2.out.1, H1.out.2.2.2.moved H2.out.2, ?_, ?_, H1.out.2.2.1.trans H2.out.2, ?_⟩
  all_goals rw [H1.out.2.1]
  all_goals first
    | exact HWf.out
    | exact undo_move HWm.out HP.out HQ.out
    | exact HQ.out.attrs.trans HP.out.attrs

set_option maxHeartbeats 8000000 in
set_option maxRecDepth 100000 in
theorem put_any {w : World} {M : Nat → Lab} {tb : Nat} {nv uv : Value} {ps : List Pn} {us : List Value} (h : Lies w M tb nv uv ps us) (hE : Errs w M) (hW : WF (nodesOf ps)) (hu : us.length ≤ 1099511627776) (a b c : Int) :
    Calls Tryz.prog 43 #[.pointer (some ⟨tb, 0, none⟩), .int .i64 a, .int .i64 b, .int .i64 c] w fun e w' => Refused w e w' ∨ WasMoved w M tb nv ps us e w' := by
  obtain ⟨t1, a1, hc1⟩ := hE.cell 2 (by decide)
  obtain ⟨t2, a2, hc2⟩ := hE.cell 1 (by decide)
  have H : Hid (Lies w M tb nv uv ps us) := h
  have HW : Hid (WF (nodesOf ps)) := hW
  clear hE hW
  cases hb1 : hasB ps.length a
  · clear h
    go_enter Tryz.func43, Tryz.ntmps43
    go_wp2_with (go_at_call 73; refine (has_any H.out _).mono ?_; rintro e w' ⟨rfl, rfl⟩; simp only [hb1])
    all_goals go_ret
    all_goals exact .inl ⟨⟨_, rfl, ⟨t1, a1, rfl⟩⟩, Below.refl _ _⟩
  cases hb2 : hasB ps.length b
  · clear h
    go_enter Tryz.func43, Tryz.ntmps43
    go_wp2_with (go_at_call 73; refine (has_any H.out _).mono ?_; rintro e w' ⟨rfl, rfl⟩; simp only [hb1, hb2])
    all_goals go_ret
    all_goals exact .inl ⟨⟨_, rfl, ⟨t1, a1, rfl⟩⟩, Below.refl _ _⟩
  obtain ⟨an, m, rfl, hm⟩ := hasB_get hb1
  obtain ⟨i, p, rfl, hp⟩ := hasB_get hb2
  have HM : Hid (ps[an]? = some m) := hm
  have HP : Hid (ps[i]? = some p) := hp
  by_cases h0 : i = 0
  · subst h0
    have hb3 : hasB ps.length 0 = true := hb2
    clear h hm hp
    go_enter Tryz.func43, Tryz.ntmps43
    go_wp2_with (go_at_call 73; refine (has_any H.out _).mono ?_; rintro e w' ⟨rfl, rfl⟩; first | rw [hb1] | rw [hb3])
    all_goals go_ret
    all_goals exact .inl ⟨⟨_, rfl, ⟨t2, a2, rfl⟩⟩, Below.refl _ _⟩
  have hi0 : ((i : Int) == 0) = false := by simp; omega
  have hi0' : ¬ ((i : Int) = 0) := by omega
  cases hk : kidsB m.n.kind
  · clear h hm hp
    go_enter Tryz.func43, Tryz.ntmps43
    go_wp2_with (first
      | (go_at_call 73; refine (has_any H.out _).mono ?_; rintro e w' ⟨rfl, rfl⟩; simp only [hb1, hb2])
      | (go_at_call 88; refine (mayHaveKids_any H.out HM.out).mono ?_; rintro e w' ⟨rfl, rfl⟩; rw [hk]))
    all_goals go_ret
    all_goals exact .inl ⟨⟨_, rfl, ⟨t2, a2, rfl⟩⟩, Below.refl _ _⟩
  obtain ⟨la, hup⟩ := HW.out.up an _ (nodes_get hm)
  have HU : Hid (Up (nodesOf ps) an la) := hup
  by_cases hno : i ∈ la
  · have hwi : decide (i ∈ la) = true := by simpa using hno
    clear h hm hp hup
    go_enter Tryz.func43, Tryz.ntmps43
    go_wp2_with (first
      | (go_at_call 73; refine (has_any H.out _).mono ?_; rintro e w' ⟨rfl, rfl⟩; simp only [hb1, hb2])
      | (go_at_call 88; refine (mayHaveKids_any H.out HM.out).mono ?_; rintro e w' ⟨rfl, rfl⟩; rw [hk])
      | (go_at_call 89; refine (within_any H.out HU.out i).mono ?_; rintro e w' ⟨rfl, rfl⟩; rw [hwi]))
    all_goals go_ret
    all_goals exact .inl ⟨⟨_, rfl, ⟨t2, a2, rfl⟩⟩, Below.refl _ _⟩
  by_cases hc : 0 ≤ c ∧ c ≤ others an p m
  · obtain ⟨cn, rfl⟩ : ∃ cn : Nat, c = cn := ⟨c.toNat, by omega⟩
    exact (put_good H.out HW.out hu hp hm h0 hk hup hno hc.2).mono fun _ _ hq => .inr hq
  have hwi : decide (i ∈ la) = false := by simpa using hno
  obtain ⟨nb, cap, rfl, hcp, hmx, _, _, hil⟩ := h.form hp
  have hal := (List.getElem?_eq_some_iff.1 hm).1
  have c0 := h.cell0
  have c4 := (h.cellN rfl (f := 4) hp (by omega) rfl).1
  have c5 := (h.cellN rfl (f := 5) hm (by omega) rfl).1
  obtain ⟨ka, kc, hkv, hk1, hk2⟩ := (h.node an m hm).2.shape
  rw [hkv] at c5
  have hfew := HW.out.few (nodes_get hm)
  have i1 : (0 : Int) ≤ (i : Int) := by omega
  have i2 : (i : Int) < (ps.length : Int) := by omega
  have i3 : (0 : Int) ≤ (an : Int) := by omega
  have i4 : (an : Int) < (ps.length : Int) := by omega
  unfold maxLen at hmx hk2
  unfold others at hc
  clear h hm hp hup hkv
  by_cases hpa : p.n.parent = (an : Int)
  all_goals (first | rw [if_pos hpa] at hc | rw [if_neg hpa] at hc)
  all_goals
    have hc' : c < 0 ∨ 0 ≤ c := by omega
    rcases hc' with hc' | hc'
  all_goals
    go_enter Tryz.func43, Tryz.ntmps43
    go_wp2_with (first
      | (go_at_call 73; refine (has_any H.out _).mono ?_; rintro e w' ⟨rfl, rfl⟩; simp only [hb1, hb2])
      | (go_at_call 88; refine (mayHaveKids_any H.out HM.out).mono ?_; rintro e w' ⟨rfl, rfl⟩; rw [hk])
      | (go_at_call 89; refine (within_any H.out HU.out i).mono ?_; rintro e w' ⟨rfl, rfl⟩; rw [hwi]))
  all_goals go_ret
  all_goals exact .inl ⟨⟨_, rfl, ⟨t2, a2, rfl⟩⟩, Below.refl _ _⟩
end Go.Proofs.YtkaeenafejdkfaaGreatDoor

/- Elements, texts and comments; what undoes the making of a node; nothing can be undone any more. -/
namespace Go.Proofs.YtkaeenafejdkfaaGreatDoor
open Go.RowKit

set_option maxHeartbeats 2000000 in
theorem element_good {w : World} {M : Nat → Lab} {tb : Nat} {nv uv : Value} {ps : List Pn} {us : List Value} (h : Lies w M tb nv uv ps us) (hn : ps.length < 400) (hu : us.length ≤ 1099511627776) (tag : ByteArray) (ht : nameB tag = true) :
    Calls Tryz.prog 38 #[.pointer (some ⟨tb, 0, none⟩), .string tag] w (Made w M tb ps us (newP 2 tag ⟨#[]⟩)) := by
  have H : Hid (Lies w M tb nv uv ps us) := h
  clear h
  go_enter Tryz.func38, Tryz.ntmps38
  go_wp2_with (first
    | (go_at_call 80; refine (name_any _ _).mono ?_; rintro e w' ⟨rfl, rfl⟩; rw [ht])
    | (go_at_call 81; refine (create_good H.out hn hu 2 tag ⟨#[]⟩ (by decide)).mono ?_; rintro e w' ⟨rfl, M', nv', uv', f, h1, h2, h3⟩))
  go_ret2
  exact ⟨rfl, M', nv', uv', f, h1, h2, h3⟩

set_option maxHeartbeats 2000000 in
theorem element_bad {w : World} {M : Nat → Lab} {tb : Nat} {nv uv : Value} {ps : List Pn} {us : List Value} (h : Lies w M tb nv uv ps us) (hE : Errs w M) (hn : ps.length ≤ 400) (tag : ByteArray) (hbad : nameB tag = false ∨ ps.length = 400) :
    Calls Tryz.prog 38 #[.pointer (some ⟨tb, 0, none⟩), .string tag] w fun e w' => ∃ v, e = .returned (.tuple #[.int .i64 0, v]) ∧ isErr v ∧ Below w.heap.size w w' := by
  obtain ⟨t, a, hc⟩ := hE.cell 5 (by decide)
  have H : Hid (Lies w M tb nv uv ps us) := h
  have HE : Hid (Errs w M) := hE
  clear h hE
  cases ht : nameB tag
  · go_enter Tryz.func38, Tryz.ntmps38
    go_wp2_with (go_at_call 80; refine (name_any _ _).mono ?_; rintro e w' ⟨rfl, rfl⟩; rw [ht])
    go_quiet (fail)
    go_wp2
    go_ret2
    exact ⟨_, rfl, ⟨t, a, rfl⟩, below_drewN (Below.refl _ _) _⟩
  · have h4 : ps.length = 400 := by rcases hbad with h | h; · rw [ht] at h; cases h
                                    · exact h
    go_enter Tryz.func38, Tryz.ntmps38
    go_wp2_with (first
      | (go_at_call 80; refine (name_any _ _).mono ?_; rintro e w' ⟨rfl, rfl⟩; rw [ht])
      | (go_at_call 81; refine (create_bad H.out HE.out hn 2 tag ⟨#[]⟩ (.inr h4)).mono ?_; rintro e w' ⟨v, rfl, ⟨t2, a2, rfl⟩, hB⟩))
    go_ret2
    exact ⟨_, rfl, ⟨t2, a2, rfl⟩, hB⟩

set_option maxHeartbeats 2000000 in
theorem text_good {w : World} {M : Nat → Lab} {tb : Nat} {nv uv : Value} {ps : List Pn} {us : List Value} (h : Lies w M tb nv uv ps us) (hn : ps.length < 400) (hu : us.length ≤ 1099511627776) (words : ByteArray) (hw : words.size ≤ 20000) :
    Calls Tryz.prog 40 #[.pointer (some ⟨tb, 0, none⟩), .string words] w (Made w M tb ps us (newP 3 ⟨#[]⟩ words)) := by
  have H : Hid (Lies w M tb nv uv ps us) := h
  clear h
  go_enter Tryz.func40, Tryz.ntmps40
  go_wp2_with (go_at_call 81; refine (create_good H.out hn hu 3 ⟨#[]⟩ words hw).mono ?_; rintro e w' ⟨rfl, M', nv', uv', f, h1, h2, h3⟩)
  go_ret2
  exact ⟨rfl, M', nv', uv', f, h1, h2, h3⟩
set_option maxHeartbeats 2000000 in
theorem comment_good {w : World} {M : Nat → Lab} {tb : Nat} {nv uv : Value} {ps : List Pn} {us : List Value} (h : Lies w M tb nv uv ps us) (hn : ps.length < 400) (hu : us.length ≤ 1099511627776) (words : ByteArray) (hw : words.size ≤ 20000) :
    Calls Tryz.prog 39 #[.pointer (some ⟨tb, 0, none⟩), .string words] w (Made w M tb ps us (newP 4 ⟨#[]⟩ words)) := by
  have H : Hid (Lies w M tb nv uv ps us) := h
  clear h
  go_enter Tryz.func39, Tryz.ntmps39
  go_wp2_with (go_at_call 81; refine (create_good H.out hn hu 4 ⟨#[]⟩ words hw).mono ?_; rintro e w' ⟨rfl, M', nv', uv', f, h1, h2, h3⟩)
  go_ret2
  exact ⟨rfl, M', nv', uv', f, h1, h2, h3⟩

set_option maxHeartbeats 1000000 in
theorem settle_any {w : World} {M : Nat → Lab} {tb : Nat} {nv uv : Value} {ps : List Pn} {us : List Value} (h : Lies w M tb nv uv ps us) :
    Calls Tryz.prog 45 #[.pointer (some ⟨tb, 0, none⟩)] w fun e w' => e = .returned (.tuple #[]) ∧ Lies w' M tb nv (.slice none 0 0) ps [] ∧ Moved w M w' M := by
  have c1 := h.cell1
  have f1 := h.frozen 1
  have HR : Hid _ := h.headUndos (uv' := .slice none 0 0) (us' := []) (w1 := w) (M1 := M) ⟨rfl, rfl, rfl, Nat.le_refl _, fun _ _ => rfl, h.fresh, fun _ _ _ => rfl⟩ (Row.nil _ _ _ _ _)
  clear h
  go_enter Tryz.func45, Tryz.ntmps45
  go_wp2
  go_end0
  exact ⟨rfl, HR.out.1, HR.out.2⟩

/-- the last of the kept functions is let go -/
theorem Lies.pop {w : World} {M : Nat → Lab} {tb : Nat} {nv : Value} {ps : List Pn} {us : List Value} {f : Value} {ub uc m : Nat} (h : Lies w M tb nv (.slice (some ⟨ub, 0, none⟩) m uc) ps (us ++ [f])) :
    Lies ((w.setCell ⟨ub, us.length, none⟩ .nilFunc).setCell ⟨tb, 1, none⟩ (.slice (some ⟨ub, 0, none⟩) us.length us.length)) M tb nv (.slice (some ⟨ub, 0, none⟩) us.length us.length) ps us ∧
      Moved w M ((w.setCell ⟨ub, us.length, none⟩ .nilFunc).setCell ⟨tb, 1, none⟩ (.slice (some ⟨ub, 0, none⟩) us.length us.length)) M ∧
      (w.setCell ⟨ub, us.length, none⟩ .nilFunc).cell? ⟨tb, 1, none⟩ = some (.slice (some ⟨ub, 0, none⟩) m uc) ∧ (w.setCell ⟨ub, us.length, none⟩ .nilFunc).frozen? ⟨tb, 1, none⟩ = false := by
  have hl : (us ++ [f]).length = us.length + 1 := by simp
  have hr := h.undos
  rw [hl] at hr
  obtain ⟨g, cap, hv, h1, h2, h3, h4⟩ := hr.form (by omega)
  cases hv
  have st : Step w M (w.setCell ⟨ub, us.length, none⟩ .nilFunc) M .undos := step_setCell _ h3 h.fresh
  have hs := hr.set rfl us.length .nilFunc (by simp)
  have hrow : Row (w.setCell ⟨ub, us.length, none⟩ .nilFunc) M .undos 1 1 (.slice (some ⟨ub, 0, none⟩) us.length us.length) us.length us := by
    obtain ⟨_, a, cap', hv, k1, k2, k3⟩ := hs
    cases hv
    rcases k3 with ⟨e, _⟩ | ⟨g', cur, ha, hM, hg, k4, k5⟩
    · omega
    · refine ⟨by simp, _, us.length, rfl, Nat.le_refl _, by unfold maxLen at *; omega, .inr ⟨g', cur, ha, hM, hg, by omega, ?_⟩⟩
      have := congrArg (List.take us.length) k5
      rw [List.take_take] at this
      simpa [Nat.min_eq_left (Nat.le_succ _)] using this
  have HR := h.headUndos (us' := us) st hrow
  obtain ⟨_, hc1, _, hf1⟩ := head_cell ((st.far tb (lt_of_heap h.head) (by rw [h.tree]; intro e; cases e)).trans h.head)
  exact ⟨HR.1, HR.2, hc1, hf1⟩

theorem zeroNode (w : World) : (zeroValue 126).run Tryz.prog w = .ok (.agg #[.int .i64 0, .string ⟨#[]⟩, .string ⟨#[]⟩, .slice none 0 0, .int .i64 0, .slice none 0 0]) w := by
  obtain ⟨i0, hi, hz0, hz1, hz2⟩ := info_parts Tryz.infoNode
  simp [zeroValue, typeInfo, hi, hz0]

set_option maxHeartbeats 1000000 in
set_option maxRecDepth 100000 in
theorem forget1_any {w : World} {M : Nat → Lab} {tb : Nat} {nv uv : Value} {ps qs : List Pn} {us : List Value} {b1 b2 : Nat} (h : Lies w M tb nv uv (ps ++ qs) us) (hq : 0 < qs.length) (m1 : M b1 = .other) (m2 : M b2 = .other) (k1 : w.cell? ⟨b1, 0, none⟩ = some (.pointer (some ⟨tb, 0, none⟩))) (k2 : w.cell? ⟨b2, 0, none⟩ = some (.int .i64 ps.length)) :
    Calls Tryz.prog 150 #[.pointer (some ⟨b1, 0, none⟩), .pointer (some ⟨b2, 0, none⟩)] w fun e w' => e = .returned (.tuple #[]) ∧ ∃ nv', Lies w' M tb nv' uv ps us ∧ Moved w M w' M := by
  have hnr := h.nodes
  rw [List.length_append, flat_append] at hnr
  obtain ⟨nb, cap, rfl, hc, hm, hnM, hnl⟩ := hnr.form (by omega)
  have hd : Row w.drew M .nodes 126 6 (.slice (some ⟨nb, 0, none⟩) (ps.length + qs.length) cap) (ps.length + qs.length) (flat ps ++ flat qs) := hnr
  obtain ⟨w1, hr1, hrow, st⟩ := clear_tail (P := Tryz.prog) w.drew M .nodes 101 126 _ 6 Tryz.underlying101 zeroNode rfl (by simp [Value.cells, Value.oneCell']) (by decide) nb ps.length qs.length cap (cap - ps.length) (flat ps) (flat qs) hd (flat_length ps) hq h.fresh
  have l1 : b1 < w.heap.size := World.block_lt_of_cell? w _ k1
  have l2 : b2 < w.heap.size := World.block_lt_of_cell? w _ k2
  have j1 : w1.cell? ⟨b1, 0, none⟩ = some (.pointer (some ⟨tb, 0, none⟩)) := (World.cell?_of_block (a := ⟨b1, 0, none⟩) (st.far b1 l1 (by rw [m1]; intro e; cases e))).trans k1
  have j2 : w1.cell? ⟨b2, 0, none⟩ = some (.int .i64 ps.length) := (World.cell?_of_block (a := ⟨b2, 0, none⟩) (st.far b2 l2 (by rw [m2]; intro e; cases e))).trans k2
  have c0 := h.cell0
  obtain ⟨hc0, _, hf0, _⟩ := head_cell ((st.far tb (lt_of_heap h.head) (by rw [h.tree]; intro e; cases e)).trans h.head)
  have HR : Hid _ := h.drew.headNodes st hrow (fun i p hp => h.drew.node i p (by rw [List.getElem?_append_left (List.getElem?_eq_some_iff.1 hp).1]; exact hp))
  have HC : Hid (∀ ty, (Builtin.clear_ #[101] ty #[.slice (some ⟨nb, ps.length * 6, none⟩) qs.length (cap - ps.length)]).run Tryz.prog w.drew = .ok (.tuple #[]) w1) := hr1
  have hne : ¬ cap = ps.length := by omega
  have i1 : (ps.length : Int) ≤ (ps.length : Int) + (qs.length : Int) := by omega
  have i2 : (ps.length : Int) + (qs.length : Int) ≤ (cap : Int) := by omega
  have i3 : (0 : Int) ≤ (ps.length : Int) := by omega
  have i4 : (ps.length : Int) ≤ (cap : Int) := by omega
  unfold maxLen at hm
  clear h hnr hd hr1 hrow st
  go_enter Tryz.func150, Tryz.ntmps150
  go_wp2
  go_region_law ((refine step_clear _ (by rfl) (.tmp 7) 101 (by rfl) (.slice (some ⟨nb, ps.length * 6, none⟩) qs.length (cap - ps.length)) (by simp [Act.eval, Act.put]) w1 HC.out ?_))
  all_goals go_wp2
  all_goals go_region
  all_goals go_wp2
  all_goals go_end0
  all_goals exact ⟨rfl, _, HR.out.1.drew, ((Moved.refl w M).drew.trans HR.out.2).drew⟩

set_option maxHeartbeats 1000000 in
set_option maxRecDepth 100000 in
theorem undo_forget {w : World} {M : Nat → Lab} {tb : Nat} {nv uv : Value} {ps : List Pn} {p : Pn} {us : List Value} {f : Value} (h : Lies w M tb nv uv (ps ++ [p]) (us ++ [f])) (hF : Frg w M f tb ps.length) :
    Calls Tryz.prog 20 #[.pointer (some ⟨tb, 0, none⟩)] w fun e w' => e = .returned (.bool true) ∧ ∃ nv' uv', Lies w' M tb nv' uv' ps us ∧ Moved w M w' M := by
  have hF0 := hF
  obtain ⟨b1, b2, rfl, m1, m2, k1, k2⟩ := hF
  have hul : (us ++ [Value.func (.func 150) #[] #[.pointer (some ⟨b1, 0, none⟩), .pointer (some ⟨b2, 0, none⟩)]]).length = us.length + 1 := by simp
  have hur := h.undos
  rw [hul] at hur
  obtain ⟨ub, uc, rfl, huc, hum, huM, hulb⟩ := hur.form (by omega)
  have c1 := h.cell1
  have cu := (hur.cell rfl (j := us.length) (u := .func (.func 150) #[] #[.pointer (some ⟨b1, 0, none⟩), .pointer (some ⟨b2, 0, none⟩)]) (by simp))
  obtain ⟨cu1, cu2⟩ := cu
  unfold maxLen at hum
  obtain ⟨q1, q2, d1, d2⟩ := h.pop
  obtain ⟨c1', c2', he', m1', m2', k1', k2'⟩ := hF0.moved q2
  cases he'
  have H : Hid _ := And.intro q1 q2
  clear h hur hF0 q1 q2
  go_enter Tryz.func20, Tryz.ntmps20
  go_wp2_with (go_at_call 150; refine (forget1_any H.out.1 (by simp) m1' m2' k1' k2').mono ?_; rintro e w1 ⟨rfl, nv1, hL1, hm1⟩)
  go_ret
  exact ⟨rfl, nv1, _, hL1, H.out.2.trans hm1⟩
end Go.Proofs.YtkaeenafejdkfaaGreatDoor
