/- needsOf, walked. -/
import Derived.Test.YtjdndaeobiagcaaTsNeed
namespace Go.Proofs.Ytjdndaeobiagcaa
open Go.RowKit
set_option linter.unusedVariables false      -- bounds that are for the walk

theorem KeepM.below {w w1 w2 : World} {g : Nat} (h : Below w.heap.size w w1) (hk : KeepM w1 g w2) (hg : w.heap.size ≤ g) : Below w.heap.size w w2 :=
  ⟨hk.os.trans h.os, hk.tape.trans h.tape, hk.output.trans h.output, Nat.le_trans h.size hk.size, fun b hb => (hk.block b (Nat.lt_of_lt_of_le hb h.size) (by omega)).trans (h.block b hb)⟩

set_option maxHeartbeats 4000000 in
set_option maxRecDepth 100000 in
theorem needsOf_any {w : World} {v : Value} {l : List Nd3} (h : NsL w v l) (hlen : l.length ≤ 60) :
    Calls Try.prog 51 #[v] w fun e w' => ∃ v', e = .returned v' ∧ NsL w' v' (byspan (needsP l)) ∧ Below w.heap.size w w' := by
  obtain ⟨i0, hi, hz0, hz1, hz2⟩ := info_parts Try.infoNd
  obtain ⟨a, cap, rfl, hc1, hc2, hl⟩ := h
  have HL := hidF hl
  obtain ⟨n, hn⟩ : ∃ n, l.length = n := ⟨_, rfl⟩
  have HN := hidF hn
  have NIL := hidF (fun W => sortStable_nil W)
  have SS := hidF (fun (W : World) (g m cp : Nat) (D : Nat → Nd3) (hd : NdB W g m D) (hm : m ≤ 60) => sortStable_any (cap := cp) hd hm)
  unfold needF at NIL SS
  rw [hn] at hc1 hlen ⊢
  clear hl hn
  go_enter Try.func51, Try.ntmps51
  go_wp2_with fail
  go_loopw [3, 8] (fun pv i wr => ∃ (k m : Nat), k ≤ n ∧ m ≤ k ∧ i = .int .i64 k ∧ Hid (Below w.heap.size w wr ∧ (needsP (l.take k)).length = m ∧ wr.ownsRow w.heap.size 60 3 pv m (ndsC (needsP (l.take k))))) (fun _ i _ => n - (intV i).toNat)
  case atStart => exact ⟨0, 0, Nat.zero_le _, Nat.zero_le _, rfl, Below.refl _ _, by simp [needsP], World.ownsRow_nil _ _ _ _⟩
  case round =>
    obtain ⟨k, m, hk, hm, rfl, H⟩ := hrel
    by_cases hlt : k < n
    · obtain ⟨x, hx⟩ : ∃ x, l[k]? = some x := ⟨_, List.getElem?_eq_getElem (by rw [HN.out]; exact hlt)⟩
      obtain ⟨b, o, rfl, e2, e3, e4, e5⟩ := HL.out k x hx
      have hkb := H.out.1.block b e2
      have x1 := Nat.lt_of_lt_of_le e2 H.out.1.size
      have x2 := (World.cell?_of_block (a := ⟨b, o + k * 3, none⟩) hkb).trans e3
      have x3 := (World.cell?_of_block (a := ⟨b, o + k * 3 + 1, none⟩) hkb).trans e4
      have x4 := (World.cell?_of_block (a := ⟨b, o + k * 3 + 2, none⟩) hkb).trans e5
      have i1 : (0 : Int) ≤ (k : Int) := by omega
      have i2 : (k : Int) < (n : Int) := by omega
      have HT := hidF (needsP_take hx)
      clear hx hkb e2 e3 e4 e5
      obtain ⟨xf, xs, xz⟩ := x
      simp only at x2 x3 x4
      obtain ⟨w5, hw5⟩ : ∃ w5, w5 = wr := ⟨_, rfl⟩
      subst hw5
      have HAL := hidF (H.out.1.alloc H.out.1.size (.cells #[.int .i64 xf, .int .i64 xs, .int .i64 xz] 60))
      have HRL := hidF (H.out.2.2.alloc (.cells #[.int .i64 xf, .int .i64 xs, .int .i64 xz] 60))
      by_cases hok : okN ⟨xf, xs, xz⟩ = true
      · have ok4 := of_decide_eq_true hok
        simp only at ok4
        obtain ⟨o1, o2, o3, o4⟩ := ok4
        rw [if_pos hok] at HT
        have p1 : ¬ xf < 1 := by omega
        have p2 : ¬ (200 : Int) < xf := by omega
        have p3 : ¬ xs < 1 := by omega
        have p4 : ¬ (20 : Int) < xs := by omega
        obtain ⟨yz, hyz⟩ : ∃ y, heldN xz = y := ⟨_, rfl⟩
        have HE : Hid (ndsC (needsP (l.take (k + 1))) = ndsC (needsP (l.take k)) ++ [.int .i64 xf, .int .i64 xs, .int .i64 yz] ∧ (needsP (l.take (k + 1))).length = m + 1) := by
          rw [HT.out, ndsC_snoc, List.length_append, H.out.2.1, ← hyz]
          exact ⟨rfl, rfl⟩
        clear hok HT
        go_wp2_with fail
        refine (hold_pre [(⟨w5.heap.size, 2, none⟩, xz)] _ _ _ _ rfl (by simp) (by simp [HoldPre, go_sem])).mono ?_
        rintro e W ⟨rfl, rfl⟩
        simp only [holdAll]
        rw [hyz]
        clear hyz
        have h9 : (((w5.alloc (Obj.cells #[.int .i64 xf, .int .i64 xs, .int .i64 xz] 60)).alloc (Obj.cells #[.pointer (some ⟨w5.heap.size, 2, none⟩)] 64)).setCell ⟨w5.heap.size, 2, none⟩ (.int .i64 yz)).heap[w5.heap.size]? = some (.cells #[.int .i64 xf, .int .i64 xs, .int .i64 yz] 60 (0, 0)) := by
          rw [heap_setCell_same _ w5.heap.size 2 _ 60 _ ((Below.heap_alloc (w5.alloc _) _ _ (by simp)).trans (heap_alloc_new w5 _))]
          rfl
        have b9 : Below w5.heap.size w5 (((w5.alloc (Obj.cells #[.int .i64 xf, .int .i64 xs, .int .i64 xz] 60)).alloc (Obj.cells #[.pointer (some ⟨w5.heap.size, 2, none⟩)] 64)).setCell ⟨w5.heap.size, 2, none⟩ (.int .i64 yz)) := by go_grown
        generalize hw9 : (((w5.alloc (Obj.cells #[.int .i64 xf, .int .i64 xs, .int .i64 xz] 60)).alloc (Obj.cells #[.pointer (some ⟨w5.heap.size, 2, none⟩)] 64)).setCell ⟨w5.heap.size, 2, none⟩ (.int .i64 yz)) = w9 at h9 b9 ⊢
        clear hw9
        have s1 : w5.heap.size < w9.heap.size := ltH h9
        have c0 : w9.cell? ⟨w5.heap.size, 0, none⟩ = some (.int .i64 xf) := by rw [cell_of_row _ _ _ _ _ _ h9]; rfl
        have c1 : w9.cell? ⟨w5.heap.size, 1, none⟩ = some (.int .i64 xs) := by rw [cell_of_row _ _ _ _ _ _ h9]; rfl
        have c2 : w9.cell? ⟨w5.heap.size, 2, none⟩ = some (.int .i64 yz) := by rw [cell_of_row _ _ _ _ _ _ h9]; rfl
        have H9 := hidF (And.intro (H.out.1.trans (b9.mono H.out.1.size)) (World.ownsRow.kept H.out.2.2 (row := none) ⟨b9.os, b9.tape, b9.output, b9.size, fun k hk _ => b9.block k hk⟩ (by cases u3.ownBlock <;> simp)))
        clear h9 b9 H x2 x3 x4 HAL HRL
        go_wp2_with (at_builtin; refine wpList_append_own_at _ rfl (.tmp 33) (.tmp 35) 57 rfl w.heap.size 60 i0 _ 3 24 Try.underlying57 hi hz0 hz1 hz2 rfl (by decide) _ _ _ rfl (H9.out.2.alloc _) ⟨_, 0, none⟩ 1 1 [.int .i64 xf, .int .i64 xs, .int .i64 yz] rfl rfl (fun j u hj => news_six _ _ _ j u hj) (by simp [Value.oneCell']) (by unfold maxLen; omega) (by omega) (by have := H9.out.1.size; simp; omega) ?_; intro v1 w1 hv1 hg1 hx1 hx2; clear hx1 hx2; have H3 := hidF (And.intro ((H9.out.1.alloc H9.out.1.size _).grown hg1 (by have := H9.out.1.size; simp; omega) (fun q hq => (H9.out.2.lt q hq).1)) hv1); clear hv1 hg1)
        go_roundw
        case rel =>
          go_light
          refine ⟨k + 1, m + 1, by omega, by omega, by go_num, H3.out.1, HE.out.2, ?_⟩
          rw [HE.out.1]
          exact H3.out.2
        case measure => simp [intV]; omega
      · have hok2 : ¬ (1 ≤ xf ∧ xf ≤ 200 ∧ 1 ≤ xs ∧ xs ≤ 20) := fun e => hok (decide_eq_true e)
        rw [if_neg hok] at HT
        clear hok
        by_cases p1 : xf < 1
        · clear hok2
          go_wp2_with fail
          go_roundw
          case rel => go_light; exact ⟨k + 1, m, by omega, by omega, by go_num, HAL.out, by rw [HT.out]; exact H.out.2.1, by rw [HT.out]; exact HRL.out⟩
          case measure => simp [intV]; omega
        · by_cases p2 : (200 : Int) < xf
          · clear hok2
            go_wp2_with fail
            go_roundw
            case rel => go_light; exact ⟨k + 1, m, by omega, by omega, by go_num, HAL.out, by rw [HT.out]; exact H.out.2.1, by rw [HT.out]; exact HRL.out⟩
            case measure => simp [intV]; omega
          · by_cases p3 : xs < 1
            · clear hok2
              go_wp2_with fail
              go_roundw
              case rel => go_light; exact ⟨k + 1, m, by omega, by omega, by go_num, HAL.out, by rw [HT.out]; exact H.out.2.1, by rw [HT.out]; exact HRL.out⟩
              case measure => simp [intV]; omega
            · have p4 : (20 : Int) < xs := by omega
              clear hok2
              go_wp2_with fail
              go_roundw
              case rel => go_light; exact ⟨k + 1, m, by omega, by omega, by go_num, HAL.out, by rw [HT.out]; exact H.out.2.1, by rw [HT.out]; exact HRL.out⟩
              case measure => simp [intV]; omega
    · obtain rfl : k = n := by omega
      have hlt' : ¬ (k : Int) < (k : Int) := by omega
      have e1 : l.take k = l := List.take_of_length_le (by rw [HN.out]; exact Nat.le_refl _)
      have HF : Hid (Below w.heap.size w wr ∧ (needsP l).length = m ∧ wr.ownsRow w.heap.size 60 3 u3 m (ndsC (needsP l))) := by rw [← e1]; exact H.out
      clear e1 H
      rcases own_nds HF.out.2.1 HF.out.2.2 with ⟨rfl, rfl⟩ | ⟨g, cp, rfl, hg, c1, c2, hd⟩
      · have HE : Hid (byspan (needsP l) = []) := by
          have : needsP l = [] := List.eq_nil_of_length_eq_zero HF.out.2.1
          show _ = _
          rw [this]
          simp [byspan]
        go_wp2_with fail
        refine (NIL.out _).mono ?_
        rintro e w1 ⟨rfl, hw1⟩
        rw [hw1]
        go_wp2_with fail
        go_returns
        refine ⟨_, rfl, ?_, HF.out.1⟩
        rw [HE.out]
        exact ⟨none, 0, rfl, by simp, by omega, fun j x hj => by simp at hj⟩
      · have SC := hidF (SS.out wr g m cp _ hd (by omega))
        have HG := hidF hg
        clear hd
        go_wp2_with fail
        refine SC.out.mono ?_
        rintro e w1 ⟨rfl, t, hw1, q1, q2⟩
        have HR : Hid (NsL w1 (.slice (some ⟨g, 0, none⟩) m cp) (byspan (needsP l)) ∧ Below w.heap.size w w1) := by
          refine ⟨?_, KeepM.below HF.out.1 hw1.keep HG.out⟩
          have hb := sorted_byspan (D := atN (needsP l)) (n := m) (t := t) (fun i hi => needsP_span l i (by rw [HF.out.2.1]; exact hi)) q1 q2
          have hr := ndB_reads hw1.row c1 c2
          rw [hb] at hr
          have er := range_atN (needsP l)
          rw [HF.out.2.1] at er
          rw [er] at hr
          exact hr
        clear hw1 q1 q2
        go_wp2_with fail
        go_returns
        exact ⟨_, rfl, HR.out.1, HR.out.2⟩
end Go.Proofs.Ytjdndaeobiagcaa
