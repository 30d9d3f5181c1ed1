/- PaintPicture: the law, walked. -/
import Derived.Test.YtpkdigjejijiiaaPpSame
namespace Go.Proofs.Ytpkdigjejijiiaa
open Go.RowKit
set_option linter.unusedVariables false      -- bounds that are for the walk

set_option maxHeartbeats 8000000 in
set_option maxRecDepth 100000 in
theorem paint_law {w : World} {v : Value} {l : List Mk} (h : MksL w v l) (wd ht : Int) :
    Calls Try.prog 3 #[v, .int .i64 wd, .int .i64 ht] w fun e w' => e = .returned (.bool true) ∧ Below w.heap.size w w' := by
  obtain ⟨i0, hi, hz0, hz1, hz2⟩ := info_parts Try.infoMark
  have HI := hidF h
  obtain ⟨a, cap, rfl, hc1, hc2, hl⟩ := h
  have HL := hidF hl
  obtain ⟨n, hn⟩ : ∃ n, l.length = n := ⟨_, rfl⟩
  have HN := hidF hn
  rw [hn] at hc1 HI ⊢
  clear hl hn
  by_cases hbig : 60 < n
  · have hbig' : (60 : Int) < (n : Int) := by omega
    go_enter Try.func3, Try.ntmps3
    go_wp2_with fail
    go_returns
    exact ⟨rfl, Below.refl _ _⟩
  · have hbig' : ¬ (60 : Int) < (n : Int) := by omega
    go_enter Try.func3, Try.ntmps3
    go_wp2_with fail
    go_loopw [7, 8] (fun pv i wr => ∃ k : Nat, k ≤ n ∧ i = .int .i64 k ∧ Hid (Below w.heap.size w wr ∧ wr.ownsRow w.heap.size 28 7 pv k (mksC (l.take k)) ∧ ∀ m ∈ l.take k, MkOk m)) (fun _ i _ => n - (intV i).toNat)
    case atStart => exact ⟨0, Nat.zero_le _, rfl, Below.refl _ _, World.ownsRow_nil _ _ _ _, fun m hm => by simp at hm⟩
    case round =>
      obtain ⟨k, hk, rfl, H⟩ := hrel
      by_cases hlt : k < n
      · obtain ⟨x, hx⟩ : ∃ x, l[k]? = some x := ⟨_, List.getElem?_eq_getElem (by rw [HN.out]; exact hlt)⟩
        have HX := hidF hx
        obtain ⟨hsz, b, o, rfl, MA⟩ := HL.out k x hx
        obtain ⟨m0, m1, m2, m3, m4, m5, m6, m7⟩ := MA.held H.out.1 MA.lt
        have i1 : (0 : Int) ≤ (k : Int) := by omega
        have i2 : (k : Int) < (n : Int) := by omega
        have x1' : b < wr.heap.size + 1 := by omega
        have x2' : b < wr.heap.size + 1 + 1 := by omega
        have HT : Hid (mksC (l.take (k + 1)) = mksC (l.take k) ++ mkC x) := by
          show _ = _
          rw [List.take_add_one, hx]
          exact mksC_snoc _ _
        have HTM : Hid (MkOk x → ∀ m ∈ l.take (k + 1), MkOk m) := by
          intro hxo m hm
          rw [List.take_add_one, hx] at hm
          rcases List.mem_append.1 hm with hm | hm
          · exact H.out.2.2 m hm
          · obtain rfl : m = x := by simpa using hm
            exact hxo
        clear hx MA
        have hsz2 := H.out.1.size
        obtain ⟨nd, c, x, y, wx, hh, s⟩ := x
        simp only at m1 m2 m3 m4 m5 m6 m7 hsz
        by_cases hok : -16777216 ≤ x ∧ x ≤ 16777216 ∧ -16777216 ≤ y ∧ y ≤ 16777216 ∧ -16777216 ≤ wx ∧ wx ≤ 16777216 ∧ -16777216 ≤ hh ∧ hh ≤ 16777216
        · obtain ⟨k1, k2, k3, k4, k5, k6, k7, k8⟩ := hok
          have HOK : Hid (MkOk ⟨nd, c, x, y, wx, hh, s⟩) := ⟨k1, k2, k3, k4, k5, k6, k7, k8⟩
          have HU : Hid (∀ q, u7.ownBlock = some q → w.heap.size ≤ q) := fun q hq => (H.out.2.1.lt q hq).1
          go_wp2_with fail
          have HB9 := hidF (H.out.1.alloc H.out.1.size (.cells #[.int .i64 x, .int .i64 y, .int .i64 wx, .int .i64 hh] 25))
          have HO9 := hidF (H.out.2.1.alloc (.cells #[.int .i64 x, .int .i64 y, .int .i64 wx, .int .i64 hh] 25))
          have HR9 := hidF (RcAt.cells (m := ⟨nd, c, x, y, wx, hh, s⟩) ⟨heap_alloc_new wr (.cells #[.int .i64 x, .int .i64 y, .int .i64 wx, .int .i64 hh] 25)⟩)
          have HA9 : Hid (Below wr.heap.size wr (wr.alloc (.cells #[.int .i64 x, .int .i64 y, .int .i64 wx, .int .i64 hh] 25))) := (Below.refl _ _).alloc (Nat.le_refl _) _
          obtain ⟨w9, hw9⟩ : ∃ q, q = wr.alloc (.cells #[.int .i64 x, .int .i64 y, .int .i64 wx, .int .i64 hh] 25) := ⟨_, rfl⟩
          rw [← hw9] at HB9 HO9 HR9 HA9 ⊢
          clear hw9
          obtain ⟨g9, r0, r1, r2, r3⟩ := HR9.out
          have p0 := Nat.lt_of_lt_of_le m0 HA9.out.size
          have p1 := (HA9.out.cell (p := ⟨b, o + k * 7, none⟩) m0).trans m1
          have p2 := (HA9.out.cell (p := ⟨b, o + k * 7 + 1, none⟩) m0).trans m2
          have p7 := (HA9.out.cell (p := ⟨b, o + k * 7 + 6, none⟩) m0).trans m7
          simp only at r0 r1 r2 r3
          have hs9 := HB9.out.size
          have p8 : b < w9.heap.size + 1 := by omega
          have g8 : wr.heap.size < w9.heap.size + 1 := by omega
          have HD : Hid (∀ o : Obj, Below w.heap.size w (w9.drew.alloc o) ∧ (w9.drew.alloc o).ownsRow w.heap.size 28 7 u7 k (mksC (l.take k))) := fun o => ⟨HB9.out.drew.alloc HB9.out.size o, World.ownsRow.alloc (w := w9.drew) HO9.out o⟩
          clear m1 m2 m3 m4 m5 m6 m7 HR9
          go_region_law ((refine step_own _ (by rfl) (.tmp 66) (.tmp 84) 23 (by rfl) w.heap.size 28 i0 _ 7 64 Try.underlying23 hi hz0 hz1 hz2 rfl (by decide) u7 k (mksC (l.take k)) (by simp [Act.eval]) (HD.out _).2 ⟨w9.heap.size, 0, none⟩ 1 1 (mkC ⟨nd, c, x, y, wx, hh, s⟩) (by simp [Act.eval]) rfl (fun j u hj => news_seven w9.drew #[.int .i64 nd, .int .i64 c, .int .i64 x, .int .i64 y, .int .i64 wx, .int .i64 hh, .string s] 28 j u hj) (by simp [Value.oneCell', mkC]) (by unfold maxLen; omega) (by omega) (HD.out _).1.size ?_; intro v9 w8 hv1 hg1 hx1
                          have H3 := hidF (And.intro ((HD.out _).1.grown hg1 (HD.out _).1.size HU.out) hv1)
                          clear hv1 hg1 hx1))
          all_goals
            go_wp2_with fail
            go_roundw
            case rel => go_light; exact ⟨k + 1, by omega, by go_num, H3.out.1, by rw [HT.out]; exact H3.out.2, HTM.out HOK.out⟩
            case measure => simp [intV]; omega
        · go_wp2_with fail
          all_goals
            first
              | (go_returns; exact ⟨rfl, H.out.1.alloc H.out.1.size _⟩)
              | (exfalso; omega)
      · obtain rfl : k = n := by omega
        have hl2 : ¬ (k : Int) < (k : Int) := by omega
        have e9 : l.take k = l := List.take_of_length_le (by rw [HN.out]; exact Nat.le_refl _)
        have hq := H.out
        rw [e9] at hq
        obtain ⟨q1, q2, q3⟩ := hq
        have HQ := hidF (own_mks (xs := l) (B := w.heap.size) (by rw [HN.out]; exact q2) (fun m hm => by
          obtain ⟨j, hj⟩ := List.mem_iff_getElem?.1 hm
          exact (HL.out j m hj).1))
        have HOK := hidF q3
        have HB := hidF q1
        have hl60 := hidF (show l.length ≤ 60 by rw [HN.out]; omega)
        have HIw := hidF ((show MksL w _ l from by have := HI.out; exact this).below HB.out)
        clear q1 q2 q3 e9
        go_wp2_with (first
          | (go_at_call 5; refine (picture_any HQ.out HOK.out wd ht).mono ?_; rintro e w6 ⟨v6, rfl, r6, b6⟩; have H6 := hidF (And.intro r6 b6); clear r6 b6)
          | (go_at_call 6; refine (qpicture_any (HIw.out.below H6.out.2) HOK.out hl60.out wd ht).mono ?_; rintro e w7 ⟨v7, rfl, r7, b7⟩; have H7 := hidF (And.intro r7 b7); clear r7 b7)
          | (go_at_call 4; refine (samePic_any (H6.out.1.below H7.out.2) H7.out.1).mono ?_; rintro e w8 ⟨rfl, b8⟩; have H8 := hidF b8; clear b8))
        go_returns
        have b2 := HB.out.trans (H6.out.2.mono HB.out.size)
        have b3 := b2.trans (H7.out.2.mono b2.size)
        exact ⟨rfl, b3.trans (H8.out.mono b3.size)⟩
end Go.Proofs.Ytpkdigjejijiiaa
