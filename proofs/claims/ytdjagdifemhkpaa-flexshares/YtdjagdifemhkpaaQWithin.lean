/- The document's Within: the items that count. -/
import Derived.Test.YtdjagdifemhkpaaQLeaf
import Derived.StillTailTactics
import Derived.Test.YtdjagdifemhkpaaSStep
namespace Go.Proofs.Ytdjagdifemhkpaa
open Go.RowKit
set_option linter.unusedVariables false      -- bounds that are for the walk

/-- an item as the document holds it: its least is never less than 0 -/
def qitN (i : It) : It := ⟨max (heldN i.b) 0, max (heldN i.mn) 0, heldN i.mx, heldN i.ar, facN i.gr, facN i.sh⟩
theorem qitN_ok (i : It) : (qitN i).Ok := by
  have h := itN_ok i
  have h2 := heldN_bd i.mn
  exact ⟨h.b0, h.b1, by show _ ≤ max _ _; omega, by show max _ _ ≤ _; omega, h.mx0, h.mx1, h.ar0, h.ar1, h.gr0, h.gr1, h.sh0, h.sh1⟩
theorem qitN_bnd (i : It) (n : Int) : bndI (qitN i) n = bndI (itN i) n := by
  unfold bndI qitN itN; simp only; omega
theorem Try.infoFlex : (Try.prog.info? 34).map (fun i => (i.zero, i.size, i.bytes)) = some (some (.agg #[.int .i64 0, .int .i64 0, .int .i64 0, .int .i64 0, .int .i64 0, .int .i64 0]), 6, 48) := by kernel_rfl

theorem own_itemsQ {e : TypeId} {w : World} {B : Nat} {v : Value} {xs : List It} (h : w.ownsRow B e 6 v xs.length (itsC xs)) : ItemsL w v xs := by
  obtain ⟨hl, h | ⟨g, cap, cur, rfl, hg, hh, h1, h2, h3, h4⟩⟩ := h
  · obtain ⟨rfl, hn⟩ := h
    refine ⟨none, 0, by rw [hn], by omega, by omega, fun j x hj => ?_⟩
    have := (List.getElem?_eq_some_iff.1 hj).1
    omega
  · unfold maxLen at h2
    refine ⟨_, cap, rfl, h1, by omega, fun j x hj => ⟨g, 0, rfl, ?_⟩⟩
    have hc : ∀ (i : Nat) u, i < 6 → (itC x)[i]? = some u → w.cell? ⟨g, 0 + j * 6 + i, none⟩ = some u := fun i u hi hu => by
      have e := itsC_get xs j i x hj hi
      rw [hu, ← h4, List.getElem?_take] at e
      rw [cell_of_row w g _ _ _ _ hh, Nat.zero_add]
      split at e
      · simpa using e
      · cases e
    exact ⟨ltH hh, hc 0 _ (by omega) rfl, hc 1 _ (by omega) rfl, hc 2 _ (by omega) rfl, hc 3 _ (by omega) rfl, hc 4 _ (by omega) rfl, hc 5 _ (by omega) rfl⟩


set_option maxHeartbeats 4000000 in
set_option maxRecDepth 100000 in
theorem qwithin_any {w : World} {v : Value} {l : List It} (h : ItemsL w v l) :
    Calls Try.prog 30 #[v] w fun e w' => ∃ v', e = .returned v' ∧ ItemsL w' v' ((l.take 200).map qitN) ∧ Below w.heap.size w w' := by
  obtain ⟨i0, hi, hz0, hz1, hz2⟩ := info_parts Try.infoFlex
  obtain ⟨a, cap, rfl, hc1, hc2, hl⟩ := h
  have HL := hidF hl
  obtain ⟨n, hn⟩ : ∃ n, min l.length 200 = n := ⟨_, rfl⟩
  have hn2 : n ≤ 200 := by omega
  have hnl : n ≤ l.length := by omega
  have HN := hidF hn
  clear hl
  go_enter Try.func30, Try.ntmps30
  go_wp2_with fail
  go_loopw [3, 4] (fun pv i wr => ∃ k : Nat, k ≤ n ∧ i = .int .i64 k ∧ Hid (Below w.heap.size w wr ∧ wr.ownsRow w.heap.size 34 6 pv k (itsC ((l.take k).map qitN)))) (fun _ i _ => n - (intV i).toNat)
  case atStart => exact ⟨0, Nat.zero_le _, rfl, Below.refl _ _, World.ownsRow_nil _ _ _ _⟩
  case round =>
    obtain ⟨k, hk, rfl, H⟩ := hrel
    by_cases hlt : k < n
    · obtain ⟨x, hx⟩ : ∃ x, l[k]? = some x := ⟨_, List.getElem?_eq_getElem (by omega)⟩
      obtain ⟨b, o, rfl, hit⟩ := HL.out k x hx
      have HX := hidF hx
      obtain ⟨x1, x2, x3, x4, x5, x6, x7⟩ := hit.below H.out.1
      have i1 : (0 : Int) ≤ (k : Int) := by omega
      have i2 : (k : Int) < (l.length : Int) := by omega
      have i3 : (k : Int) < 200 := by omega
      have x1' : b < wr.heap.size + 1 := by omega
      clear hit hx
      obtain ⟨xb, xmn, xmx, xar, xgr, xsh⟩ := x
      simp only at x2 x3 x4 x5 x6 x7
      have HE2 : Hid (itC (qitN ⟨xb, xmn, xmx, xar, xgr, xsh⟩) = [.int .i64 (max 0 (heldN xb)), .int .i64 (max 0 (heldN xmn)), .int .i64 (heldN xmx), .int .i64 (heldN xar), .int .i64 (facN xgr), .int .i64 (facN xsh)]) := by
        show _ = _
        simp only [itC, qitN]
        rw [Int.max_comm 0, Int.max_comm 0]
      have HT : Hid ((l.take (k + 1)).map qitN = (l.take k).map qitN ++ [qitN ⟨xb, xmn, xmx, xar, xgr, xsh⟩]) := by
        show _ = _
        rw [List.take_add_one, HX.out]; simp
      go_wp2_with fail
      generalize hw9 : wr.alloc (Obj.cells #[.int .i64 xb, .int .i64 xmn, .int .i64 xmx, .int .i64 xar, .int .i64 xgr, .int .i64 xsh] 34) = w9
      have h9 : w9.heap[wr.heap.size]? = some (.cells #[.int .i64 xb, .int .i64 xmn, .int .i64 xmx, .int .i64 xar, .int .i64 xgr, .int .i64 xsh] 34 (0, 0)) := by rw [← hw9]; exact heap_alloc_new wr _
      have b9 : Below wr.heap.size wr w9 := by rw [← hw9]; go_grown
      have s1 : wr.heap.size < w9.heap.size := ltH h9
      have c0 : w9.cell? ⟨wr.heap.size, 0, none⟩ = some (.int .i64 xb) := by rw [cell_of_row _ _ _ _ _ _ h9]; rfl
      have c1 : w9.cell? ⟨wr.heap.size, 1, none⟩ = some (.int .i64 xmn) := by rw [cell_of_row _ _ _ _ _ _ h9]; rfl
      have c2 : w9.cell? ⟨wr.heap.size, 2, none⟩ = some (.int .i64 xmx) := by rw [cell_of_row _ _ _ _ _ _ h9]; rfl
      have c3 : w9.cell? ⟨wr.heap.size, 3, none⟩ = some (.int .i64 xar) := by rw [cell_of_row _ _ _ _ _ _ h9]; rfl
      have c4 : w9.cell? ⟨wr.heap.size, 4, none⟩ = some (.int .i64 xgr) := by rw [cell_of_row _ _ _ _ _ _ h9]; rfl
      have c5 : w9.cell? ⟨wr.heap.size, 5, none⟩ = some (.int .i64 xsh) := by rw [cell_of_row _ _ _ _ _ _ h9]; rfl
      have H9 := hidF (And.intro (H.out.1.trans (b9.mono H.out.1.size)) (World.ownsRow.kept H.out.2 (row := none) ⟨b9.os, b9.tape, b9.output, b9.size, fun k hk _ => b9.block k hk⟩ (by cases u3.ownBlock <;> simp)))
      have QN : Hid (∀ q, u3.ownBlock = some q → q ≠ wr.heap.size) := fun q hq e => by have := (H.out.2.lt q hq).2; omega
      clear hw9 h9 b9 H x2 x3 x4 x5 x6 x7
      have D9 : Hid (Below w.heap.size w w9.drew ∧ w9.drew.ownsRow w.heap.size 34 6 u3 k (itsC ((l.take k).map qitN))) := ⟨H9.out.1.drew, H9.out.2⟩
      have s1' : wr.heap.size < w9.drew.heap.size := s1
      have hzw : w.heap.size ≤ w9.heap.size := H9.out.1.size
      have NE : Hid (∀ q, u3.ownBlock = some q → w.heap.size ≤ q ∧ q ≠ wr.heap.size) := fun q hq => ⟨(H9.out.2.lt q hq).1, QN.out q hq⟩
      go_region_held3 (fun wx => wx.cell? ⟨wr.heap.size, 0, none⟩ = some (.int .i64 xb) ∧ wx.cell? ⟨wr.heap.size, 1, none⟩ = some (.int .i64 xmn) ∧ wx.cell? ⟨wr.heap.size, 2, none⟩ = some (.int .i64 xmx) ∧ wx.cell? ⟨wr.heap.size, 3, none⟩ = some (.int .i64 xar) ∧ wx.cell? ⟨wr.heap.size, 4, none⟩ = some (.int .i64 xgr) ∧ wx.cell? ⟨wr.heap.size, 5, none⟩ = some (.int .i64 xsh)) (go_keep)
        (first
          | (go_at_call 31; refine (qheld_any _ _).mono ?_; rintro e w7 ⟨rfl, rfl⟩)
          | (go_at_call 47; refine (most_any _ _ _).mono ?_; rintro e w7 ⟨rfl, rfl⟩)
          | (go_at_call 56; refine (qfactor_any _ _).mono ?_; rintro e w7 ⟨rfl, rfl⟩)
          | (refine step_own _ (by rfl) (.tmp 20) (.tmp 42) 22 (by rfl) w.heap.size 34 i0 _ 6 48 Try.underlying22 hi hz0 hz1 hz2 rfl (by decide) u3 k (itsC ((l.take k).map qitN)) (by simp [Act.eval]) (D9.out.2.alloc _) ⟨w9.heap.size, 0, none⟩ 1 1 (itC (qitN ⟨xb, xmn, xmx, xar, xgr, xsh⟩)) (by simp [Act.eval]) rfl (fun j u hj => by rw [HE2.out] at hj; exact news_six w9.drew _ _ j u hj) (by simp [Value.oneCell', itC]) (by unfold maxLen; omega) (by omega) (by have := D9.out.1.size; simp at this ⊢; omega) ?_; intro v1 w8 hv1 hg1 hx1; clear hx1
             have m0 : w8.cell? ⟨wr.heap.size, 0, none⟩ = some (.int .i64 xb) := hg1.cell ((World.cell?_of_block (a := ⟨wr.heap.size, 0, none⟩) (Below.heap_alloc w9.drew _ _ s1')).trans c0) (fun e => (NE.out _ e.symm).2 rfl)
             have m1 : w8.cell? ⟨wr.heap.size, 1, none⟩ = some (.int .i64 xmn) := hg1.cell ((World.cell?_of_block (a := ⟨wr.heap.size, 1, none⟩) (Below.heap_alloc w9.drew _ _ s1')).trans c1) (fun e => (NE.out _ e.symm).2 rfl)
             have m2 : w8.cell? ⟨wr.heap.size, 2, none⟩ = some (.int .i64 xmx) := hg1.cell ((World.cell?_of_block (a := ⟨wr.heap.size, 2, none⟩) (Below.heap_alloc w9.drew _ _ s1')).trans c2) (fun e => (NE.out _ e.symm).2 rfl)
             have m3 : w8.cell? ⟨wr.heap.size, 3, none⟩ = some (.int .i64 xar) := hg1.cell ((World.cell?_of_block (a := ⟨wr.heap.size, 3, none⟩) (Below.heap_alloc w9.drew _ _ s1')).trans c3) (fun e => (NE.out _ e.symm).2 rfl)
             have m4 : w8.cell? ⟨wr.heap.size, 4, none⟩ = some (.int .i64 xgr) := hg1.cell ((World.cell?_of_block (a := ⟨wr.heap.size, 4, none⟩) (Below.heap_alloc w9.drew _ _ s1')).trans c4) (fun e => (NE.out _ e.symm).2 rfl)
             have m5 : w8.cell? ⟨wr.heap.size, 5, none⟩ = some (.int .i64 xsh) := hg1.cell ((World.cell?_of_block (a := ⟨wr.heap.size, 5, none⟩) (Below.heap_alloc w9.drew _ _ s1')).trans c5) (fun e => (NE.out _ e.symm).2 rfl)
             have H3 := hidF (And.intro ((D9.out.1.alloc D9.out.1.size _).grown hg1 (by have := D9.out.1.size; simp at this ⊢; omega) (fun q hq => (NE.out q hq).1)) hv1); clear hv1 hg1))
      all_goals
        go_wp2_with fail
        go_roundw
        case rel =>
          go_light
          refine ⟨k + 1, by omega, by go_num, H3.out.1, ?_⟩
          rw [HT.out, itsC_snoc]
          exact H3.out.2
        case measure => simp [intV]; omega
    · obtain rfl : k = n := by omega
      have e1 : l.take k = l.take 200 := by
        rw [← HN.out]
        rcases Nat.le_total l.length 200 with h | h
        · rw [Nat.min_eq_left h, List.take_of_length_le (Nat.le_refl _), List.take_of_length_le h]
        · rw [Nat.min_eq_right h]
      have HE1 := hidF e1
      clear e1
      have i1 : (0 : Int) ≤ (k : Int) := by omega
      have HI : Hid (ItemsL wr u3 ((l.take 200).map qitN)) := by
        have e2 : ((l.take 200).map qitN).length = k := by rw [← HE1.out]; simp; omega
        refine own_itemsQ (B := w.heap.size) (e := 34) ?_
        rw [e2, ← HE1.out]
        exact H.out.2
      by_cases hq : (k : Int) < (l.length : Int)
      · have hq2 : ¬ (k : Int) < 200 := by omega
        go_wp2_with fail
        go_returns
        exact ⟨_, rfl, by first | exact HI.out | (have := HI.out; rw [List.map_take] at this; exact this), H.out.1⟩
      · go_wp2_with fail
        go_returns
        exact ⟨_, rfl, by first | exact HI.out | (have := HI.out; rw [List.map_take] at this; exact this), H.out.1⟩
end Go.Proofs.Ytdjagdifemhkpaa
