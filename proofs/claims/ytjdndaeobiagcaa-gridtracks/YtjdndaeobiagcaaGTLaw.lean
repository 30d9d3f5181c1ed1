/- GridTracks: the law, walked. -/
import Derived.Test.YtjdndaeobiagcaaQzTop
import Derived.Test.YtjdndaeobiagcaaTrAll
namespace Go.Proofs.Ytjdndaeobiagcaa
open Go.RowKit
set_option linter.unusedVariables false      -- bounds that are for the walk

theorem one_tracks : tracksP [⟨3, 1000⟩] [] (heldN 7) (heldN 0) = [7] := by
  rw [heldN_of 7 (by omega) (by omega), heldN_of 0 (by omega) (by omega)]
  have ef : facN 1000 = 1000 := by unfold facN; split <;> omega
  have e1 : byspan (needsP []) = [] := by
    unfold byspan needsP
    simp
  have e2 : trP [⟨3, 1000⟩] [] 7 = [⟨3, 1000⟩] := by
    unfold trP
    rw [e1]
    have e3 : cntT 7 ⟨3, 1000⟩ = ⟨3, 1000⟩ := by unfold cntT; rw [if_neg (by decide), if_pos ⟨.inr rfl, by omega⟩, ef]
    simp [reachN, padT, e3]
  unfold tracksP
  rw [e1, e2]
  have et : atT [⟨3, 1000⟩] 0 = ⟨3, 1000⟩ := rfl
  have es : shl (atT [⟨3, 1000⟩]) 1 = [0] := by unfold shl; simp [et]
  have ez : szP (atT [⟨3, 1000⟩]) 7 0 [] 0 = 0 := by unfold szP; simp [et, ownT]
  have el : leftD 1 7 0 (szP (atT [⟨3, 1000⟩]) 7 0 []) = 7 := by
    unfold leftD smz
    simp [ez]
    rfl
  show (List.range 1).map (dealF (atT [⟨3, 1000⟩]) 1 7 0 _) = [7]
  unfold dealF
  rw [es, el]
  simp [setQ, shareG, partN, et]
theorem one_tk (w : World) (t : Tr2) : TkL (w.alloc (.cells #[.int .i64 t.k, .int .i64 t.n] 54)) (.slice (some ⟨w.heap.size, 0, none⟩) 1 1) [t] := by
  refine ⟨_, 1, rfl, Nat.le_refl _, by omega, fun j x hj => ⟨w.heap.size, 0, rfl, ?_⟩⟩
  match j, hj with
  | 0, hj =>
    obtain rfl : t = x := by simpa using hj
    have hh := heap_alloc_new w (.cells #[.int .i64 t.k, .int .i64 t.n] 54)
    refine ⟨ltH hh, ?_, ?_⟩ <;> (rw [cell_of_row _ _ _ _ _ _ hh]; rfl)
  | (n + 1), hj => simp at hj
theorem no_ns (w : World) : NsL w (.slice none 0 0) [] := ⟨none, 0, rfl, Nat.le_refl _, by omega, fun j x hj => by simp at hj⟩

set_option maxHeartbeats 8000000 in
set_option maxRecDepth 100000 in
theorem tracks_law {w : World} {v nv : Value} {l : List Tr2} {ns : List Nd3} (h : TkL w v l) (hn : NsL w nv ns) (room gap : Int) :
    Calls Try.prog 8 #[v, nv, .int .i64 room, .int .i64 gap] w fun e w' => e = .returned (.bool true) ∧ Below w.heap.size w w' := by
  obtain ⟨i0, hi, hz0, hz1, hz2⟩ := info_parts Try.infoTr
  obtain ⟨j0, hj0, hy0, hy1, hy2⟩ := info_parts Try.infoNd
  have HI := hidF h
  have HJ := hidF hn
  obtain ⟨a, cap, rfl, hc1, hc2, hl⟩ := h
  obtain ⟨na, ncap, rfl, nc1, nc2, hnl⟩ := hn
  have HL := hidF hl
  have HNL := hidF hnl
  obtain ⟨n, hnn⟩ : ∃ n, l.length = n := ⟨_, rfl⟩
  obtain ⟨m, hmm⟩ : ∃ m, ns.length = m := ⟨_, rfl⟩
  have HN := hidF hnn
  have HM := hidF hmm
  rw [hnn] at hc1 HI ⊢
  rw [hmm] at nc1 HJ ⊢
  clear hl hnl hnn hmm
  go_enter Try.func8, Try.ntmps8
  go_wp2_with fail
  refine (tracks_any (one_tk w ⟨3, 1000⟩) (no_ns _) (by simp) 7 0).mono ?_
  rintro e w1 ⟨v1, rfl, ho, hb⟩
  rw [one_tracks] at ho
  obtain ⟨a1, c1, rfl, k1, k2, hr⟩ := ho
  obtain ⟨g1, o1, rfl, gl, gc⟩ := hr 0 7 rfl
  have B1 := hidF (show Below w.heap.size w w1 from ((Below.refl w.heap.size w).alloc (Nat.le_refl _) _).trans (hb.mono (by simp)))
  simp only [List.length_cons, List.length_nil] at k1
  have gc3 : w1.cell? ⟨g1, o1, none⟩ = some (.int .i64 7) := gc
  have i9 : (0 : Int) < ((1 : Nat) : Int) := by omega
  clear hr hb gc
  by_cases hb1 : 60 < n
  · have hb1' : (60 : Int) < (n : Int) := by omega
    go_wp2_with fail
    all_goals
      go_returns
      exact ⟨rfl, B1.out⟩
  · have hb1' : ¬ (60 : Int) < (n : Int) := by omega
    by_cases hb2 : 60 < m
    · have hb2' : (60 : Int) < (m : Int) := by omega
      go_wp2_with fail
      all_goals
        go_returns
        exact ⟨rfl, B1.out⟩
    · have hb2' : ¬ (60 : Int) < (m : Int) := by omega
      go_wp2_with fail
      clear gc3 gl
      go_loopw [10, 11] (fun pv i wr => ∃ k : Nat, k ≤ n ∧ i = .int .i64 k ∧ Hid (Below w1.heap.size w1 wr ∧ wr.ownsRow w1.heap.size 54 2 pv k (trsC (l.take k)))) (fun _ i _ => n - (intV i).toNat)
      case atStart => exact ⟨0, Nat.zero_le _, rfl, Below.refl _ _, World.ownsRow_nil _ _ _ _⟩
      case round =>
        obtain ⟨k, hk, rfl, H⟩ := hrel
        by_cases hlt : k < n
        · obtain ⟨x, hx⟩ : ∃ x, l[k]? = some x := ⟨_, List.getElem?_eq_getElem (by rw [HN.out]; exact hlt)⟩
          obtain ⟨b, o, rfl, e2, e3, e4⟩ := HL.out k x hx
          have HBW := hidF (B1.out.trans (H.out.1.mono B1.out.size))
          have hkb := HBW.out.block b e2
          have x1 := Nat.lt_of_lt_of_le e2 HBW.out.size
          have x2 := (World.cell?_of_block (a := ⟨b, o + k * 2, none⟩) hkb).trans e3
          have x3 := (World.cell?_of_block (a := ⟨b, o + k * 2 + 1, none⟩) hkb).trans e4
          have i1 : (0 : Int) ≤ (k : Int) := by omega
          have i2 : (k : Int) < (n : Int) := by omega
          have x1' : b < wr.heap.size + 1 := by omega
          have HT : Hid (trsC (l.take (k + 1)) = trsC (l.take k) ++ trC x) := by
            show _ = _
            rw [List.take_add_one, hx]
            exact trsC_snoc _ _
          clear hx hkb e2 e3 e4
          obtain ⟨xk, xn⟩ := x
          simp only at x2 x3
          have hsz := H.out.1.size
          have HD : Hid (∀ o : Obj, Below w1.heap.size w1 (wr.drew.alloc o) ∧ (wr.drew.alloc o).ownsRow w1.heap.size 54 2 u10 k (trsC (l.take k))) := fun o => ⟨H.out.1.drew.alloc H.out.1.size o, World.ownsRow.alloc (w := wr.drew) H.out.2 o⟩
          have HU : Hid (∀ q, u10.ownBlock = some q → w1.heap.size ≤ q) := fun q hq => (H.out.2.lt q hq).1
          go_wp2_with fail
          go_region_law ((refine step_own _ (by rfl) (.tmp 40) (.tmp 52) 55 (by rfl) w1.heap.size 54 i0 _ 2 16 Try.underlying55 hi hz0 hz1 hz2 rfl (by decide) u10 k (trsC (l.take k)) (by simp [Act.eval]) (HD.out _).2 ⟨wr.heap.size, 0, none⟩ 1 1 (trC ⟨xk, xn⟩) (by simp [Act.eval]) rfl (fun j u hj => news_six wr.drew #[.int .i64 xk, .int .i64 xn] 54 j u hj) (by simp [Value.oneCell', trC]) (by unfold maxLen; omega) (by omega) (HD.out _).1.size ?_; intro v9 w8 hv1 hg1 hx1
                          have H3 := hidF (And.intro ((HD.out _).1.grown hg1 (HD.out _).1.size HU.out) hv1)
                          clear hv1 hg1 hx1))
          all_goals
            go_wp2_with fail
            go_roundw
            case rel => go_light; exact ⟨k + 1, by omega, by go_num, H3.out.1, by rw [HT.out]; exact H3.out.2⟩
            case measure => simp [intV]; omega
        · obtain rfl : k = n := by omega
          have hl2 : ¬ (k : Int) < (k : Int) := by omega
          have e9 : l.take k = l := List.take_of_length_le (by rw [HN.out]; exact Nat.le_refl _)
          obtain ⟨w2, hw2⟩ : ∃ w2, w2 = wr := ⟨_, rfl⟩
          subst hw2
          have HTK : Hid (TkL w2 u10 l) := by
            have q := H.out.2
            rw [e9] at q
            exact own_tkL (B := w1.heap.size) (by rw [HN.out]; exact q)
          have B2 := hidF (B1.out.trans (H.out.1.mono B1.out.size))
          clear e9 H
          go_wp2_with fail
          go_loopw [12, 13] (fun pv i wr => ∃ k : Nat, k ≤ m ∧ i = .int .i64 k ∧ Hid (Below w2.heap.size w2 wr ∧ wr.ownsRow w2.heap.size 60 3 pv k (ndsC (ns.take k)))) (fun _ i _ => m - (intV i).toNat)
          case atStart => exact ⟨0, Nat.zero_le _, rfl, Below.refl _ _, World.ownsRow_nil _ _ _ _⟩
          case round =>
            obtain ⟨q, hq, rfl, H⟩ := hrel
            by_cases hlt : q < m
            · obtain ⟨x, hx⟩ : ∃ x, ns[q]? = some x := ⟨_, List.getElem?_eq_getElem (by rw [HM.out]; exact hlt)⟩
              obtain ⟨b, o, rfl, e2, e3, e4, e5⟩ := HNL.out q x hx
              have HBW := hidF (B2.out.trans (H.out.1.mono B2.out.size))
              have hkb := HBW.out.block b e2
              have x1 := Nat.lt_of_lt_of_le e2 HBW.out.size
              have x2 := (World.cell?_of_block (a := ⟨b, o + q * 3, none⟩) hkb).trans e3
              have x3 := (World.cell?_of_block (a := ⟨b, o + q * 3 + 1, none⟩) hkb).trans e4
              have x4 := (World.cell?_of_block (a := ⟨b, o + q * 3 + 2, none⟩) hkb).trans e5
              have i1 : (0 : Int) ≤ (q : Int) := by omega
              have i2 : (q : Int) < (m : Int) := by omega
              have x1' : b < wr.heap.size + 1 := by omega
              have HT : Hid (ndsC (ns.take (q + 1)) = ndsC (ns.take q) ++ ndC x) := by
                show _ = _
                rw [List.take_add_one, hx]
                exact ndsC_snoc _ _
              clear hx hkb e2 e3 e4 e5
              obtain ⟨xf, xs, xz⟩ := x
              simp only at x2 x3 x4
              have hsz := H.out.1.size
              have HD : Hid (∀ o : Obj, Below w2.heap.size w2 (wr.drew.alloc o) ∧ (wr.drew.alloc o).ownsRow w2.heap.size 60 3 u12 q (ndsC (ns.take q))) := fun o => ⟨H.out.1.drew.alloc H.out.1.size o, World.ownsRow.alloc (w := wr.drew) H.out.2 o⟩
              have HU : Hid (∀ q, u12.ownBlock = some q → w2.heap.size ≤ q) := fun q hq => (H.out.2.lt q hq).1
              go_wp2_with fail
              go_region_law ((refine step_own _ (by rfl) (.tmp 60) (.tmp 77) 57 (by rfl) w2.heap.size 60 j0 _ 3 24 Try.underlying57 hj0 hy0 hy1 hy2 rfl (by decide) u12 q (ndsC (ns.take q)) (by simp [Act.eval]) (HD.out _).2 ⟨wr.heap.size, 0, none⟩ 1 1 (ndC ⟨xf, xs, xz⟩) (by simp [Act.eval]) rfl (fun j u hj => news_six wr.drew #[.int .i64 xf, .int .i64 xs, .int .i64 xz] 60 j u hj) (by simp [Value.oneCell', ndC]) (by unfold maxLen; omega) (by omega) (HD.out _).1.size ?_; intro v9 w8 hv1 hg1 hx1
                              have H3 := hidF (And.intro ((HD.out _).1.grown hg1 (HD.out _).1.size HU.out) hv1)
                              clear hv1 hg1 hx1))
              all_goals
                go_wp2_with fail
                go_roundw
                case rel => go_light; exact ⟨q + 1, by omega, by go_num, H3.out.1, by rw [HT.out]; exact H3.out.2⟩
                case measure => simp [intV]; omega
            · obtain rfl : q = m := by omega
              have hl3 : ¬ (q : Int) < (q : Int) := by omega
              have e9 : ns.take q = ns := List.take_of_length_le (by rw [HM.out]; exact Nat.le_refl _)
              obtain ⟨w3, hw3⟩ : ∃ w3, w3 = wr := ⟨_, rfl⟩
              subst hw3
              have HNS : Hid (NsL w3 u12 ns) := by
                have h := H.out.2
                rw [e9] at h
                exact own_nsL HM.out h
              have HTK3 := hidF (HTK.out.below H.out.1)
              have B3 := hidF (B2.out.trans (H.out.1.mono B2.out.size))
              have h60 := hidF (show ns.length ≤ 60 by rw [HM.out]; omega)
              clear e9 H
              go_wp2_with fail
              refine (tracks_any HTK3.out HNS.out h60.out room gap).mono ?_
              rintro e w4 ⟨v4, rfl, hi4, hb4⟩
              have HR4 := hidF hi4
              have B4 := hidF (B3.out.trans (hb4.mono B3.out.size))
              have HI4 := hidF (show TkL w4 _ l from HI.out.below B4.out)
              have HJ4 := hidF (show NsL w4 _ ns from HJ.out.below B4.out)
              clear hi4 hb4
              go_wp2_with fail
              refine (sizeQ_any HI4.out HJ4.out h60.out room gap).mono ?_
              rintro e w5 ⟨v5, rfl, hi5, hb5⟩
              have HR5 := hidF (And.intro (HR4.out.below hb5) hi5)
              have B5 := hidF (B4.out.trans (hb5.mono B4.out.size))
              clear hi5 hb5
              go_wp2_with fail
              refine (sameI_any HR5.out.1 HR5.out.2).mono ?_
              rintro e w6 ⟨rfl, hb6⟩
              have B6 := hidF (B5.out.trans (hb6.mono B5.out.size))
              clear hb6
              go_wp2_with fail
              go_returns
              exact ⟨rfl, B6.out⟩
end Go.Proofs.Ytjdndaeobiagcaa
