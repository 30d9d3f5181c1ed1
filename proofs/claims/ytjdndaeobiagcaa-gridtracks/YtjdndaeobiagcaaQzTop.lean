/- The document's SizeTracks, as a whole. -/
import Derived.Test.YtjdndaeobiagcaaQzNeed
namespace Go.Proofs.Ytjdndaeobiagcaa
open Go.RowKit
set_option linter.unusedVariables false      -- bounds that are for the walk

set_option maxHeartbeats 8000000 in
set_option maxRecDepth 100000 in
theorem sizeQ_any {w : World} {v nv : Value} {l : List Tr2} {ns : List Nd3} (h : TkL w v l) (hn : NsL w nv ns) (hns : ns.length ≤ 60) (room gap : Int) :
    Calls Try.prog 23 #[v, nv, .int .i64 room, .int .i64 gap] w (QzPost w (tracksP l ns (heldN room) (heldN gap))) := by
  obtain ⟨i0, hi, hz0, hz1, hz2⟩ := info_parts Try.infoQt
  obtain ⟨r1, r2⟩ := heldN_bd room
  obtain ⟨g1, g2⟩ := heldN_bd gap
  have H1 := hidF (qheld_any room)
  have H2 := hidF (qheld_any gap)
  obtain ⟨ro, hro⟩ : ∃ q, heldN room = q := ⟨_, rfl⟩
  obtain ⟨ga, hga⟩ : ∃ q, heldN gap = q := ⟨_, rfl⟩
  rw [hro] at r1 r2 H1
  rw [hga] at g1 g2 H2
  rw [hro, hga]
  have HNS := hidF hn
  obtain ⟨na, ncap, rfl, nc1, nc2, _⟩ := hn
  obtain ⟨nn, hnn⟩ : ∃ nn, ns.length = nn := ⟨_, rfl⟩
  have HNN := hidF hnn
  rw [hnn] at nc1 hns HNS ⊢
  obtain ⟨a, cap, rfl, hc1, hc2, hl⟩ := h
  have HL := hidF hl
  obtain ⟨n, hn⟩ : ∃ n, min l.length 20 = n := ⟨_, rfl⟩
  have hn2 : n ≤ 20 := by omega
  have hnl : n ≤ l.length := by omega
  have HN := hidF hn
  obtain ⟨ll, hll⟩ : ∃ ll, l.length = ll := ⟨_, rfl⟩
  have HLL := hidF hll
  rw [hll] at hc1 hnl HN ⊢
  clear hl hn hnn hro hga hll
  go_enter Try.func23, Try.ntmps23
  go_wp2_with fail
  refine (H1.out _).mono ?_
  rintro e w1 ⟨rfl, hw1⟩
  rw [hw1]
  clear hw1 H1
  go_wp2_with fail
  refine (H2.out _).mono ?_
  rintro e w1 ⟨rfl, hw1⟩
  rw [hw1]
  clear hw1 H2
  go_wp2_with fail
  go_loopw [9, 10] (fun pv iv wr => ∃ k : Nat, k ≤ n ∧ iv = .int .i64 k ∧ Hid (Below w.heap.size w wr ∧ wr.ownsRow w.heap.size 56 2 pv k (trsC (l.take k)))) (fun _ iv _ => n - (intV iv).toNat)
  case atStart => exact ⟨0, Nat.zero_le _, rfl, Below.refl _ _, World.ownsRow_nil _ _ _ _⟩
  case round =>
    obtain ⟨k, hk, rfl, H⟩ := hrel
    by_cases hlt : k < n
    · obtain ⟨x, hx⟩ : ∃ x, l[k]? = some x := ⟨_, List.getElem?_eq_getElem (by rw [HLL.out]; omega)⟩
      obtain ⟨b, o, rfl, e2, e3, e4⟩ := HL.out k x hx
      have hkb := H.out.1.block b e2
      have x1 := Nat.lt_of_lt_of_le e2 H.out.1.size
      have x2 := (World.cell?_of_block (a := ⟨b, o + k * 2, none⟩) hkb).trans e3
      have x3 := (World.cell?_of_block (a := ⟨b, o + k * 2 + 1, none⟩) hkb).trans e4
      have i1 : (0 : Int) ≤ (k : Int) := by omega
      have i2 : (k : Int) < (ll : Int) := by omega
      have i3 : (k : Int) < 20 := by omega
      have HT : Hid (trsC (l.take (k + 1)) = trsC (l.take k) ++ trC x) := by
        show _ = _
        rw [List.take_add_one, hx]
        exact trsC_snoc _ _
      clear hx hkb e2 e3 e4
      obtain ⟨xk, xn⟩ := x
      simp only at x2 x3
      obtain ⟨w5, hw5⟩ : ∃ w5, w5 = wr := ⟨_, rfl⟩
      subst hw5
      go_wp2_with (at_builtin; refine wpList_append_own_at _ rfl (.tmp 39) (.tmp 44) 50 rfl w.heap.size 56 i0 _ 2 16 Try.underlying50 hi hz0 hz1 hz2 rfl (by decide) _ _ _ rfl (H.out.2.alloc _) ⟨_, 0, none⟩ 1 1 [.int .i64 xk, .int .i64 xn] rfl rfl (fun j u hj => news_six _ _ _ j u hj) (by simp [Value.oneCell']) (by unfold maxLen; omega) (by omega) (by have := H.out.1.size; simp; omega) ?_; intro v1 w1 hv1 hg1 hx1 hx2; clear hx1 hx2; have H3 := hidF (And.intro ((H.out.1.alloc H.out.1.size _).grown hg1 (by have := H.out.1.size; simp; omega) (fun q hq => (H.out.2.lt q hq).1)) hv1); clear hv1 hg1)
      go_roundw
      case rel =>
        go_light
        refine ⟨k + 1, by omega, by go_num, H3.out.1, ?_⟩
        rw [HT.out]
        exact H3.out.2
      case measure => simp [intV]; omega
    · obtain rfl : k = n := by omega
      have e1 : l.take k = l.take 20 := by
        rw [← HN.out, ← HLL.out]
        rcases Nat.le_total l.length 20 with h | h
        · rw [Nat.min_eq_left h, List.take_of_length_le (Nat.le_refl _), List.take_of_length_le h]
        · rw [Nat.min_eq_right h]
      obtain ⟨w5, hw5⟩ : ∃ w5, w5 = wr := ⟨_, rfl⟩
      subst hw5
      have HRW : Hid (Below w.heap.size w w5 ∧ w5.ownsRow w.heap.size 56 2 u9 (l.take 20).length (trsC (l.take 20))) := by
        refine ⟨H.out.1, ?_⟩
        rw [← e1, List.length_take, Nat.min_eq_left (by rw [HLL.out]; exact hnl)]
        exact H.out.2
      clear e1 H
      by_cases hq : (k : Int) < (ll : Int)
      · have hq2 : ¬ (k : Int) < 20 := by have := HN.out; omega
        go_upto_region 8 with fail
        go_cut [11] (fun s wx => s = .slice none 0 0 ∧ wx = w5)
        case first =>
          go_wp2_with fail
          go_meet
          case rel => go_light; exact ⟨rfl, rfl⟩
        case rest =>
        obtain ⟨rfl, hwx⟩ := hcut
        have hwy := hwx.symm
        clear hwx
        subst hwy
        refine (by assumption : ∀ (a : Act) (w : World), Code.wp _ _ _ a w → _) _ _ ?_
        exact qz_needs HRW.out.1 HRW.out.2 HNS.out HNN.out hns r1 r2 g1 g2 _ _ _ _ _ _ _ _ _ _ _ _ _ _ _ _ _ _ _ _ _ _ _ _ _ _ _ _ _ _ _ _ _ _ _ _ _ _ _ _ _ _ _ _ _ _ _ _ _ _ _ _ _ _ _ _ _ _ _ _ _ _ _ _ _ _ _ _ _ _ _ _ _ _ _ _ _ _ _ _ _ _ _ _ _ _ _ _ _ _ _ _ _ _ _ _ _ _ _ _ _ _ _ _ _ _ _ _ _ _ _ _ _ _ _ _ _ _ _ _ _ _ _ _ _ _ _ _ _ _ _ _ _ _ _ _ _ _ _ _ _ _ _ _ _ _ _ _ _ _ _ _ _ _ _ _ _ _ _ _ _ _ _ _ _ _ _ _ _ _ _ _ _ _ _ _ _ _ _ _ _ _ _ _ _ _ _ _ _ _ _ _ _ _ _ _ _ _ _ _ _ _ _ _ _ _ _ _ _ _ _ _ _ _ _ _ _ _ _ _ _ _ _ _ _ _ _ _ _ _ _ _ _ _ _ _ _ _ _ _ _ _ _ _ _ _ _ _ _ _ _ _ _ _ _ _ _ _ _ _ _ _ _ _ _ _ _ _ _ _ _ _ _ _ _ _ _ _ _ _ _ _ _ _ _ _ _ _ _ _ _ _ _ _ _ _ _ _ _ _ _ _ _ _ _ _
      · go_upto_region 8 with fail
        go_cut [11] (fun s wx => s = .slice none 0 0 ∧ wx = w5)
        case first =>
          go_wp2_with fail
          go_meet
          case rel => go_light; exact ⟨rfl, rfl⟩
        case rest =>
        obtain ⟨rfl, hwx⟩ := hcut
        have hwy := hwx.symm
        clear hwx
        subst hwy
        refine (by assumption : ∀ (a : Act) (w : World), Code.wp _ _ _ a w → _) _ _ ?_
        exact qz_needs HRW.out.1 HRW.out.2 HNS.out HNN.out hns r1 r2 g1 g2 _ _ _ _ _ _ _ _ _ _ _ _ _ _ _ _ _ _ _ _ _ _ _ _ _ _ _ _ _ _ _ _ _ _ _ _ _ _ _ _ _ _ _ _ _ _ _ _ _ _ _ _ _ _ _ _ _ _ _ _ _ _ _ _ _ _ _ _ _ _ _ _ _ _ _ _ _ _ _ _ _ _ _ _ _ _ _ _ _ _ _ _ _ _ _ _ _ _ _ _ _ _ _ _ _ _ _ _ _ _ _ _ _ _ _ _ _ _ _ _ _ _ _ _ _ _ _ _ _ _ _ _ _ _ _ _ _ _ _ _ _ _ _ _ _ _ _ _ _ _ _ _ _ _ _ _ _ _ _ _ _ _ _ _ _ _ _ _ _ _ _ _ _ _ _ _ _ _ _ _ _ _ _ _ _ _ _ _ _ _ _ _ _ _ _ _ _ _ _ _ _ _ _ _ _ _ _ _ _ _ _ _ _ _ _ _ _ _ _ _ _ _ _ _ _ _ _ _ _ _ _ _ _ _ _ _ _ _ _ _ _ _ _ _ _ _ _ _ _ _ _ _ _ _ _ _ _ _ _ _ _ _ _ _ _ _ _ _ _ _ _ _ _ _ _ _ _ _ _ _ _ _ _ _ _ _ _ _ _ _ _ _ _ _ _ _ _ _ _ _ _ _ _ _ _ _
end Go.Proofs.Ytjdndaeobiagcaa
