/- Package events: Next, walked. -/
import Derived.Test.YtlfepdecgfcifaaGreatDoorM24
import Derived.Laws.IdiomCopy
namespace Go.Proofs.YtlfepdecgfcifaaGreatDoor
open Go.RowKit
set_option linter.unusedVariables false
attribute [local go_sem] Oper.semAt_some

theorem idxFrom_bd (x : Int) : ∀ (zs : List Int) (i : Nat), -1 ≤ Lib.idxFrom zs x i ∧ Lib.idxFrom zs x i < (i : Int) + zs.length + (if zs = [] then 1 else 0)
  | [], i => by simp [Lib.idxFrom]; omega
  | z :: zs, i => by
    unfold Lib.idxFrom
    split
    · simp; omega
    · have := idxFrom_bd x zs (i + 1)
      refine ⟨this.1, ?_⟩
      rw [if_neg (by simp)]
      have h2 := this.2
      simp only [List.length_cons]
      split at h2
      · rename_i e
        subst e
        simp [Lib.idxFrom]
        omega
      · omega
theorem idxOf_bd (zs : List Int) (x : Int) (h : 0 < zs.length) : -1 ≤ Lib.idxOf zs x ∧ Lib.idxOf zs x < zs.length := by
  have := idxFrom_bd x zs 0
  rw [if_neg (by rintro rfl; simp at h)] at this
  unfold Lib.idxOf
  omega
/-- who comes behind one, forth or back -/
def nextP (l : List Int) (z : Int) (back : Bool) : Int :=
  if l.length = 0 then -1 else (if back then l.reverse else l).getD (((Lib.idxOf (if back then l.reverse else l) z + 1).toNat) % l.length) 0

theorem belSet {B g : Nat} {a : World} (hg : B ≤ g) : ∀ (vs : List Value) (o : Nat) (w : World), Below B a w → Below B a (w.setCells g o vs)
  | [], _, _, h => h
  | v :: vs, o, w, h => belSet hg vs (o + 1) _ (h.setCell (p := ⟨g, o, none⟩) hg v)

/-- a list of numbers in a row of its own: its cells -/
theorem own_cells {w : World} {B : Nat} {v : Value} {l : List Int} (h : w.ownsRow B 3 1 v l.length (l.map intV)) (hl : 0 < l.length) : ∃ g c, v = .slice (some ⟨g, 0, none⟩) l.length c ∧ B ≤ g ∧ g < w.heap.size ∧ (∀ j, w.frozen? ⟨g, j, none⟩ = false) ∧ ∀ j, j < l.length → w.cell? ⟨g, 0 + j, none⟩ = some (.int .i64 (l.getD j 0)) := by
  obtain ⟨_, ⟨_, h0⟩ | ⟨g, cap, cur, rfl, h1, h2, h3, h4, h5, h6⟩⟩ := h
  · omega
  · refine ⟨g, cap, rfl, h1, ltH h2, fun j => by simp [World.frozen?, h2], fun j hj => ?_⟩
    rw [Nat.zero_add, cell_of_row _ _ _ _ _ _ h2]
    have e : (cur.toList.take (l.length * 1))[j]? = (l.map intV)[j]? := by rw [h6]
    rw [List.getElem?_take, if_pos (by omega), List.getElem?_map, List.getElem?_eq_getElem hj] at e
    rw [← Array.getElem?_toList, e, List.getD_eq_getElem?_getD, List.getElem?_eq_getElem hj]
    rfl

set_option maxHeartbeats 8000000 in
set_option maxRecDepth 100000 in
theorem next_any {w : World} {tb : Nat} {l : List Int} {root : Int} (hlen : l.length ≤ 1000) (OR : Calls Tryz.prog 9 #[.pointer (some ⟨tb, 0, none⟩), .int .i64 root] w (UndPost w l)) (z : Int) (back : Bool) :
    Calls Tryz.prog 11 #[.pointer (some ⟨tb, 0, none⟩), .int .i64 root, .int .i64 z, .bool back] w fun e w' => e = .returned (.int .i64 (nextP l z back)) ∧ Below w.heap.size w w' := by
  have HO := hid OR
  clear OR
  by_cases hl0 : l.length = 0
  · have e0 : nextP l z back = -1 := by unfold nextP; rw [if_pos hl0]
    rw [e0]
    go_enter Tryz.func11, Tryz.ntmps11
    go_wp2_with fail
    refine HO.out.mono ?_
    rintro e w1 ⟨v, rfl, h1, h2⟩
    have HB := hid h2
    obtain ⟨a, c, rfl, _, _, _⟩ := own_shapeG h1
    rw [hl0]
    clear h1 h2
    go_wp2_with fail
    go_returns
    exact ⟨rfl, HB.out⟩
  · have hl1 : 0 < l.length := by omega
    have hz' : ((l.length : Int) == 0) = false := by rw [beq_eq_false_iff_ne]; omega
    have hz2 : ¬ (l.length : Int) = 0 := by omega
    cases back
    · obtain ⟨ib0, ib1⟩ := idxOf_bd l z hl1
      obtain ⟨m, hm⟩ : ∃ m, (Lib.idxOf l z + 1).toNat = m := ⟨_, rfl⟩
      have hm1 : Lib.idxOf l z + 1 = (m : Int) := by omega
      have W1 : IntKind.i64.wrap (Lib.idxOf l z + 1) = (m : Int) := by rw [IntKind.wrap_i64]; omega
      obtain ⟨q, hq⟩ : ∃ q, m % l.length = q := ⟨_, rfl⟩
      have R1 : (m : Int).tmod (l.length : Int) = (q : Int) := by rw [Int.tmod_eq_emod_of_nonneg (by omega), ← Int.natCast_emod, hq]
      have hql : q < l.length := by rw [← hq]; exact Nat.mod_lt _ hl1
      have hql' : (q : Int) < (l.length : Int) := by omega
      have W2 : IntKind.i64.wrap (q : Int) = (q : Int) := by rw [IntKind.wrap_i64]; omega
      have e0 : nextP l z false = l.getD q 0 := by unfold nextP; rw [if_neg hl0]; simp only [Bool.false_eq_true, if_false]; rw [hm, hq]
      obtain ⟨y, hy⟩ : ∃ y, l.getD q 0 = y := ⟨_, rfl⟩
      rw [e0, hy]
      have HY := hid hy
      clear e0 hm hq hm1 ib0 ib1 hy
      go_enter Tryz.func11, Tryz.ntmps11
      go_wp2_with fail
      refine HO.out.mono ?_
      rintro e w1 ⟨v, rfl, h1, h2⟩
      have HB := hid h2
      obtain ⟨g, c, rfl, hg0, hg1, hg2, hg3⟩ := own_cells h1 hl1
      have IX := hid (Tryz.slices_Index_int g 0 l.length c l z w1 (Nat.le_refl _) (by omega) hg3)
      rw [List.take_length] at IX
      have c0 := hg3 q hql
      rw [Nat.zero_add, HY.out] at c0
      clear h1 h2 hg3
      go_wp2_with fail
      refine IX.out.mono ?_
      rintro e w2 ⟨rfl, rfl⟩
      go_wp2_with fail
      go_returns
      exact ⟨rfl, HB.out⟩
    · have hrl : l.reverse.length = l.length := List.length_reverse
      obtain ⟨ib0, ib1⟩ := idxOf_bd l.reverse z (by omega)
      obtain ⟨m, hm⟩ : ∃ m, (Lib.idxOf l.reverse z + 1).toNat = m := ⟨_, rfl⟩
      have hm1 : Lib.idxOf l.reverse z + 1 = (m : Int) := by omega
      have W1 : IntKind.i64.wrap (Lib.idxOf l.reverse z + 1) = (m : Int) := by rw [IntKind.wrap_i64]; omega
      obtain ⟨q, hq⟩ : ∃ q, m % l.length = q := ⟨_, rfl⟩
      have R1 : (m : Int).tmod (l.length : Int) = (q : Int) := by rw [Int.tmod_eq_emod_of_nonneg (by omega), ← Int.natCast_emod, hq]
      have hql : q < l.length := by rw [← hq]; exact Nat.mod_lt _ hl1
      have hql' : (q : Int) < (l.length : Int) := by omega
      have W2 : IntKind.i64.wrap (q : Int) = (q : Int) := by rw [IntKind.wrap_i64]; omega
      have e0 : nextP l z true = l.reverse.getD q 0 := by unfold nextP; rw [if_neg hl0]; simp only [if_true]; rw [hm, hq]
      obtain ⟨y, hy⟩ : ∃ y, l.reverse.getD q 0 = y := ⟨_, rfl⟩
      rw [e0, hy]
      obtain ⟨ix, hix⟩ : ∃ i, Lib.idxOf l.reverse z = i := ⟨_, rfl⟩
      rw [hix] at W1
      have HIX := hid hix
      have HY := hid hy
      clear e0 hm hq hm1 ib0 ib1 hy hix
      go_enter Tryz.func11, Tryz.ntmps11
      go_wp2_with fail
      refine HO.out.mono ?_
      rintro e w1 ⟨v, rfl, h1, h2⟩
      have HB := hid h2
      obtain ⟨g, c, rfl, hg0, hg1, hg2, hg3⟩ := own_cells h1 hl1
      have RV := hid (Tryz.slices_Reverse_int_cells g 0 l.length c l w1 (Nat.le_refl _) (by omega) hg3 (fun j _ => by rw [Nat.zero_add]; exact hg2 j))
      rw [List.take_length] at RV
      have HG3 := hid hg3
      clear h1 h2 hg3
      go_wp2_with fail
      refine RV.out.mono ?_
      rintro e w2 ⟨rfl, dn, hw2⟩
      have hc2 : ∀ j, j < l.reverse.length → w2.cell? ⟨g, 0 + j, none⟩ = some (.int .i64 (l.reverse.getD j 0)) := fun j hj => by
        have := World.cell?_setCells_in g (l.reverse.map (Value.int .i64)) 0 (w1.drewN dn) (fun i hi => by
          have := HG3.out i (by simpa using hi)
          show (w1.cell? _).isSome = true
          rw [this]
          rfl) j (by simpa using hj)
        rw [hw2, this, List.getElem_map, List.getD_eq_getElem?_getD, List.getElem?_eq_getElem hj]
        rfl
      have hb2 : Below w.heap.size w w2 := by
        rw [hw2]
        exact belSet hg0 _ _ _ (belD HB.out _)
      have HB2 := hid hb2
      have IX := hid (Tryz.slices_Index_int g 0 l.length c l.reverse z w2 (by omega) (by omega) hc2)
      rw [← hrl, List.take_length, HIX.out, hrl] at IX
      have c0 := hc2 q (by omega)
      rw [Nat.zero_add, HY.out] at c0
      clear hw2 hb2 hc2
      go_wp2_with fail
      refine IX.out.mono ?_
      rintro e w3 ⟨rfl, rfl⟩
      go_wp2_with fail
      go_returns
      exact ⟨rfl, HB2.out⟩
end Go.Proofs.YtlfepdecgfcifaaGreatDoor

/- Going round a list, as plain mathematics. -/
namespace Go.Proofs.YtlfepdecgfcifaaGreatDoor
set_option linter.unusedVariables false

theorem insK_perm {α : Type} (k : α → Int) (x : α) : ∀ (l : List α), (insK k x l).Perm (x :: l)
  | [] => List.Perm.refl _
  | y :: l => by
    unfold insK
    split
    · exact ((insK_perm k x l).cons y).trans (List.Perm.swap x y l)
    · exact List.Perm.refl _
theorem sortK_perm {α : Type} (k : α → Int) (l : List α) : (sortK k l).Perm l := by
  unfold sortK
  have : ∀ (l acc : List α), (l.foldl (fun acc x => insK k x acc) acc).Perm (l ++ acc) := by
    intro l
    induction l with
    | nil => intro acc; exact List.Perm.refl _
    | cons x l ih =>
      intro acc
      simp only [List.foldl_cons]
      refine (ih _).trans (((insK_perm k x acc).append_left l).trans ?_)
      exact List.perm_middle
  simpa using this l []
theorem orderP_nodup {ns : List Nd} {L : List Int} (h : L.Nodup) : (orderP ns L).Nodup := by
  unfold orderP
  rw [(sortK_perm (turnI ns) (fltT ns L)).nodup_iff]
  exact h.filter _
theorem orderP_mem {ns : List Nd} {L : List Int} {x : Int} (h : x ∈ orderP ns L) : x ∈ L := by
  unfold orderP at h
  exact (List.mem_filter.1 ((sortK_mem _ _ x).1 h)).1
theorem orderP_len (ns : List Nd) (L : List Int) : (orderP ns L).length ≤ L.length := by
  unfold orderP
  rw [sortK_length]
  exact List.length_filter_le _ _
theorem getD_inj {l : List Int} (h : l.Nodup) {i j : Nat} (hi : i < l.length) (hj : j < l.length) (e : l.getD i 0 = l.getD j 0) : i = j := by
  rw [List.getD_eq_getElem?_getD, List.getD_eq_getElem?_getD, List.getElem?_eq_getElem hi, List.getElem?_eq_getElem hj] at e
  simp only [Option.getD_some] at e
  rcases Nat.lt_trichotomy i j with q | q | q
  · exact absurd e (List.pairwise_iff_getElem.1 h i j hi hj q)
  · exact q
  · exact absurd e.symm (List.pairwise_iff_getElem.1 h j i hj hi q)
theorem idxOf_nodup {l : List Int} (h : l.Nodup) {i : Nat} (hi : i < l.length) : Lib.idxOf l (l.getD i 0) = i := by
  have := Lib.idxFrom_hit (l.getD i 0) l i 0 hi rfl (fun j hj e => by have := getD_inj h (by omega) hi e; omega)
  unfold Lib.idxOf
  rw [this]
  simp
theorem idxOf_none {l : List Int} {x : Int} (h : x ∉ l) : Lib.idxOf l x = -1 := by
  unfold Lib.idxOf
  refine Lib.idxFrom_miss x l 0 fun j hj e => h ?_
  rw [← e, List.getD_eq_getElem?_getD, List.getElem?_eq_getElem hj]
  exact List.getElem_mem hj
theorem next_start {l : List Int} (hl : 0 < l.length) {x : Int} (h : x ∉ l) : nextP l x false = l.getD 0 0 := by
  unfold nextP
  rw [if_neg (by omega)]
  simp only [Bool.false_eq_true, if_false]
  rw [idxOf_none h]
  simp
theorem next_fwd {l : List Int} (h : l.Nodup) {i : Nat} (hi : i < l.length) : nextP l (l.getD i 0) false = l.getD ((i + 1) % l.length) 0 := by
  unfold nextP
  rw [if_neg (by omega)]
  simp only [Bool.false_eq_true, if_false]
  rw [idxOf_nodup h hi, show ((i : Int) + 1).toNat = i + 1 by omega]
theorem rev_getD (l : List Int) {i : Nat} (hi : i < l.length) : l.reverse.getD i 0 = l.getD (l.length - 1 - i) 0 := by
  rw [List.getD_eq_getElem?_getD, List.getD_eq_getElem?_getD, List.getElem?_reverse hi]
theorem next_back {l : List Int} (h : l.Nodup) {i : Nat} (hi : i < l.length) : nextP l (l.getD ((i + 1) % l.length) 0) true = l.getD i 0 := by
  have hr : l.reverse.Nodup := (List.reverse_perm l).nodup_iff.2 h
  have hrl : l.reverse.length = l.length := List.length_reverse
  obtain ⟨k, hk⟩ : ∃ k, (i + 1) % l.length = k := ⟨_, rfl⟩
  have hkl : k < l.length := by rw [← hk]; exact Nat.mod_lt _ (by omega)
  have hx : l.getD k 0 = l.reverse.getD (l.length - 1 - k) 0 := by
    rw [rev_getD l (by omega)]
    congr 1
    omega
  unfold nextP
  rw [if_neg (by omega), hk]
  simp only [if_true]
  rw [hx, idxOf_nodup hr (by omega)]
  rw [show (((l.length - 1 - k : Nat) : Int) + 1).toNat = l.length - k by omega]
  have hm : (l.length - k) % l.length < l.length := Nat.mod_lt _ (by omega)
  rw [rev_getD l hm]
  congr 1
  by_cases h1 : i + 1 < l.length
  · rw [Nat.mod_eq_of_lt h1] at hk
    rw [Nat.mod_eq_of_lt (by omega)]
    omega
  · have e : i + 1 = l.length := by omega
    rw [e, Nat.mod_self] at hk
    rw [← hk, Nat.sub_zero, Nat.mod_self]
    omega
theorem orderP_low {ns : List Nd} (hs : Sound ns) {z : Int} {x : Int} (h : x ∈ orderP ns (undZ ns z)) : 0 ≤ x := by
  obtain ⟨j, rfl, _⟩ := undZ_mem hs (orderP_mem h)
  omega
end Go.Proofs.YtlfepdecgfcifaaGreatDoor
