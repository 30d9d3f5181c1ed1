/- Pictures: the document's Picture. -/
import Derived.Test.YtpkdigjejijiiaaPpLeaf
namespace Go.Proofs.Ytpkdigjejijiiaa
open Go.RowKit
set_option linter.unusedVariables false      -- bounds that are for the walk

theorem IntL.grown {w w' : World} {u : Value} {l : List Int} {ob : Option Nat} (h : IntL w u l) (hg : w.grownBy w' ob) (hf : ∀ q, u.ownBlock = some q → ob ≠ some q) : IntL w' u l := by
  obtain ⟨a, cap, rfl, h1, h2, hc⟩ := h
  refine ⟨a, cap, rfl, h1, h2, fun j x hj => ?_⟩
  obtain ⟨b, o, rfl, e2, e3⟩ := hc j x hj
  exact ⟨b, o, rfl, Nat.lt_of_lt_of_le e2 hg.size, (World.cell?_of_block (a := ⟨b, o + j, none⟩) (hg.block b e2 (fun e => hf b rfl e.symm))).trans e3⟩
theorem owns_held {w w' : World} {B n size : Nat} {t : TypeId} {v : Value} {xs : List Value} (h : w.ownsRow B t size v n xs) (hb : Below w.heap.size w w') : w'.ownsRow B t size v n xs := by
  obtain ⟨hl, h0 | ⟨g', cap, cur, hv, hg, hh, h1, h2, h3, h4⟩⟩ := h
  · exact ⟨hl, .inl h0⟩
  · exact ⟨hl, .inr ⟨g', cap, cur, hv, hg, (hb.block g' (ltH hh)).trans hh, h1, h2, h3, h4⟩⟩
theorem owns_one {w : World} {B n size : Nat} {t : TypeId} {v : Value} {xs : List Value} (h : w.ownsRow B t size v n xs) : v.oneCell' = true := by
  obtain ⟨hl, ⟨rfl, _⟩ | ⟨g', cap, cur, rfl, _⟩⟩ := h <;> rfl

theorem owns_shape {w : World} {B n size : Nat} {t : TypeId} {v : Value} {xs : List Value} (h : w.ownsRow B t size v n xs) : ∃ a c, v = .slice a n c := by
  obtain ⟨hl, ⟨rfl, rfl⟩ | ⟨g', cap, cur, rfl, _⟩⟩ := h
  · exact ⟨none, 0, rfl⟩
  · exact ⟨_, cap, rfl⟩
/-- rows that are told, one below the other -/
structure OutAt (w wr : World) (ov : Value) (k : Nat) (R : Nat → List Int) : Prop where
  below : Below w.heap.size w wr
  ex : ∃ vs : List Value, wr.ownsRow w.heap.size 34 1 ov k vs ∧ ∀ y, y < k → ∃ u, vs[y]? = some u ∧ IntL wr u (R y) ∧ ∀ q, u.ownBlock = some q → q < wr.heap.size ∧ ov.ownBlock ≠ some q
section
variable {w wr W8 : World} {ov rv v2 : Value} {k : Nat} {R : Nat → List Int}
theorem OutAt.held (h : OutAt w wr ov k R) (hb : Below wr.heap.size wr W8) : OutAt w W8 ov k R := by
  obtain ⟨vs, h1, h2⟩ := h.ex
  refine ⟨h.below.trans (hb.mono h.below.size), vs, owns_held h1 hb, fun y hy => ?_⟩
  obtain ⟨u, e1, e2, e3⟩ := h2 y hy
  exact ⟨u, e1, e2.below hb, fun q hq => ⟨Nat.lt_of_lt_of_le (e3 q hq).1 hb.size, (e3 q hq).2⟩⟩
theorem OutAt.lt (h : OutAt w wr ov k R) : ∀ q, ov.ownBlock = some q → w.heap.size ≤ q ∧ q < wr.heap.size := by
  obtain ⟨vs, h1, h2⟩ := h.ex
  intro q hq
  obtain ⟨hl, ⟨rfl, _⟩ | ⟨g', cap, cur, rfl, hg, hh, _⟩⟩ := h1
  · cases hq
  · cases hq
    exact ⟨hg, ltH hh⟩
theorem OutAt.more (h : OutAt w wr ov k R) (hr : IntL wr rv (R k)) (hf : ∀ q, rv.ownBlock = some q → q < wr.heap.size ∧ ov.ownBlock ≠ some q) {vs : List Value} (h1 : ∀ y, y < k → ∃ u, vs[y]? = some u ∧ IntL wr u (R y) ∧ ∀ q, u.ownBlock = some q → q < wr.heap.size ∧ ov.ownBlock ≠ some q) (hl : vs.length = k)
    (ho : W8.ownsRow w.heap.size 34 1 v2 (k + 1) (vs ++ [rv])) {o : Obj} (hg : (wr.alloc o).grownBy W8 ov.ownBlock) (hx : v2.ownBlock = ov.ownBlock ∨ v2.ownBlock = some (wr.alloc o).heap.size) : OutAt w W8 v2 (k + 1) R := by
  have hbl : Below wr.heap.size wr (wr.alloc o) := (Below.refl _ wr).alloc (Nat.le_refl _) o
  have hs := h.below.size
  have hfar : ∀ q, q < wr.heap.size → ov.ownBlock ≠ some q → v2.ownBlock ≠ some q := fun q hq hn e => by
    rcases hx with hx | hx
    · exact hn (hx.symm.trans e)
    · rw [hx] at e; cases e; simp at hq; omega
  refine ⟨(h.below.alloc hs o).grown hg (by simp; omega) (fun q hq => (h.lt q hq).1), vs ++ [rv], ho, fun y hy => ?_⟩
  by_cases e : y < k
  · obtain ⟨u, e1, e2, e3⟩ := h1 y e
    refine ⟨u, by rw [List.getElem?_append_left (by omega)]; exact e1, (e2.below hbl).grown hg (fun q hq => (e3 q hq).2), fun q hq => ⟨?_, hfar q (e3 q hq).1 (e3 q hq).2⟩⟩
    have := (e3 q hq).1; have := hg.size; simp at this; omega
  · obtain rfl : y = k := by omega
    refine ⟨rv, by rw [List.getElem?_append_right (by omega), hl]; simp, (hr.below hbl).grown hg (fun q hq => (hf q hq).2), fun q hq => ⟨?_, hfar q (hf q hq).1 (hf q hq).2⟩⟩
    have := (hf q hq).1; have := hg.size; simp at this; omega
theorem OutAt.rows (h : OutAt w wr ov k R) : RowsL wr ov ((List.range k).map R) := by
  obtain ⟨vs, h1, h2⟩ := h.ex
  obtain ⟨hl, ⟨rfl, hn⟩ | ⟨g, cap, cur, rfl, hg, hh, c1, c2, c3, c4⟩⟩ := h1
  · subst hn
    exact ⟨none, 0, by simp, by simp, by omega, fun j l hj => by simp at hj⟩
  · unfold maxLen at c2
    refine ⟨some ⟨g, 0, none⟩, cap, by simp, by simpa using c1, by omega, fun j l hj => ?_⟩
    have hjl : j < k := by have := (List.getElem?_eq_some_iff.1 hj).1; simpa using this
    rw [List.getElem?_map, List.getElem?_range hjl] at hj
    cases hj
    obtain ⟨u, e1, e2, _⟩ := h2 j hjl
    refine ⟨g, 0, u, rfl, ltH hh, ?_, e2⟩
    rw [← c4, List.getElem?_take] at e1
    rw [cell_of_row wr g _ _ _ _ hh, Nat.zero_add]
    split at e1
    · simpa using e1
    · cases e1
end

theorem row_more {w5 w7 W9 W8 : World} {rv v8 : Value} {j : Nat} {f : Nat → Int} {o : Obj} {c : Int} (h1 : Below w5.heap.size w5 w7) (h2 : w7.ownsRow w5.heap.size 3 1 rv j (((List.range j).map f).map (Value.int .i64))) (hw : Below w7.heap.size w7 W9) (hc : f j = c)
    (hv : W8.ownsRow w5.heap.size 3 1 v8 (j + 1) (((List.range j).map f).map (Value.int .i64) ++ [.int .i64 c])) (hg : (W9.alloc o).grownBy W8 rv.ownBlock) : Below w5.heap.size w5 W8 ∧ W8.ownsRow w5.heap.size 3 1 v8 (j + 1) (((List.range (j + 1)).map f).map (Value.int .i64)) := by
  have s1 := h1.size
  have s2 := hw.size
  refine ⟨((h1.trans (hw.mono h1.size)).alloc (by omega) o).grown hg (by simp; omega) (fun q hq => (h2.lt q hq).1), ?_⟩
  rw [List.range_succ, List.map_append, List.map_append]
  simp only [List.map_cons, List.map_nil, hc]
  exact hv

set_option maxHeartbeats 8000000 in
set_option maxRecDepth 100000 in
theorem qpicture_any {w : World} {v : Value} {l : List Mk} (h : MksL w v l) (ok : ∀ m ∈ l, MkOk m) (hl60 : l.length ≤ 60) (wd ht : Int) :
    Calls Try.prog 6 #[v, .int .i64 wd, .int .i64 ht] w fun e w' => ∃ u, e = .returned u ∧ RowsL w' u (picP l (sideN wd) (sideN ht)) ∧ Below w.heap.size w w' := by
  obtain ⟨i0, hi, hz0, hz1, hz2⟩ := info_parts Try.infoInt
  obtain ⟨i9, hi9, hy0, hy1, hy2⟩ := info_parts Try.infoInts
  obtain ⟨a, cap, rfl, hc1, hc2, hl⟩ := h
  have HL := hidF hl
  have HO := hidF ok
  obtain ⟨n, hn⟩ : ∃ n, l.length = n := ⟨_, rfl⟩
  have HN := hidF hn
  rw [hn] at hc1 hl60 ⊢
  have sW := sideN_le wd
  have sH := sideN_le ht
  have EW := hidF (sideN_eq wd)
  have EH := hidF (sideN_eq ht)
  obtain ⟨W, hW⟩ : ∃ n, sideN wd = n := ⟨_, rfl⟩
  obtain ⟨H, hH⟩ : ∃ n, sideN ht = n := ⟨_, rfl⟩
  rw [hW] at sW EW
  rw [hH] at sH EH
  rw [hW, hH]
  clear hl ok hn hW hH
  go_enter Try.func6, Try.ntmps6
  go_wp2_with (first
    | (go_at_call 11; refine (most_any _ _ _ rfl _).mono ?_; rintro e w6 ⟨rfl, h6⟩; have h7 := h6.symm; clear h6; subst h7)
    | (go_at_call 10; refine (least_any _ _ _ EW.out _).mono ?_; rintro e w6 ⟨rfl, h6⟩; have h7 := h6.symm; clear h6; subst h7; clear EW)
    | (go_at_call 10; refine (least_any _ _ _ EH.out _).mono ?_; rintro e w6 ⟨rfl, h6⟩; have h7 := h6.symm; clear h6; subst h7))
  go_loopw [7, 8] (fun ov yv wr => ∃ k : Nat, k ≤ H ∧ yv = .int .i64 k ∧ Hid (OutAt w wr ov k (fun y => (List.range W).map fun x => pixP l x y))) (fun _ yv _ => H - (intV yv).toNat)
  case atStart => exact ⟨0, Nat.zero_le _, rfl, Below.refl _ _, [], World.ownsRow_nil _ _ _ _, fun y hy => by omega⟩
  case round =>
    obtain ⟨k, hk, rfl, HQ⟩ := hrel
    obtain ⟨ov, hov⟩ : ∃ v, v = u7 := ⟨_, rfl⟩
    subst hov
    obtain ⟨w5, hw5⟩ : ∃ w5, w5 = wr := ⟨_, rfl⟩
    subst hw5
    by_cases hlt : k < H
    · have hlt' : (k : Int) < (H : Int) := by omega
      go_wp2_with fail
      go_loopw [9, 10] (fun rv xv wx => ∃ j : Nat, j ≤ W ∧ xv = .int .i64 j ∧ Hid (Below w5.heap.size w5 wx ∧ wx.ownsRow w5.heap.size 3 1 rv j (((List.range j).map fun x => pixP l x k).map (Value.int .i64)))) (fun _ xv _ => W - (intV xv).toNat)
      case atStart => exact ⟨0, Nat.zero_le _, rfl, Below.refl _ _, World.ownsRow_nil _ _ _ _⟩
      case round =>
        obtain ⟨j, hj, rfl, HY⟩ := hrel
        obtain ⟨rv, hrv⟩ : ∃ v, v = u9 := ⟨_, rfl⟩
        subst hrv
        obtain ⟨w7, hw7⟩ : ∃ w7, w7 = wr := ⟨_, rfl⟩
        subst hw7
        by_cases hjl : j < W
        · have hjl' : (j : Int) < (W : Int) := by omega
          go_wp2_with fail
          go_loopw [11, 12] (fun cv iv wx => ∃ z : Int, -1 ≤ z ∧ z < (n : Int) ∧ iv = .int .i64 z ∧ cv = .int .i64 (-1) ∧ Hid (Below w7.heap.size w7 wx ∧ pixP (l.take (z + 1).toNat) j k = pixP l j k)) (fun _ iv _ => (intV iv + 1).toNat)
          case atStart => exact ⟨(n : Int) - 1, by omega, by omega, rfl, rfl, Below.refl _ _, by rw [List.take_of_length_le (by rw [HN.out]; omega)]⟩
          case round =>
            obtain ⟨z, hz1', hz2', rfl, rfl, HZ⟩ := hrel
            by_cases hz : z < 0
            · obtain rfl : z = -1 := by omega
              have HW : Hid (Below w7.heap.size w7 wr) := HZ.out.1
              have HC : Hid (pixP l j k = -1) := HZ.out.2.symm
              go_wp2_with (at_builtin; refine wpList_append_own_at _ (by rfl) (.tmp 77) (.tmp 79) 34 (by rfl) w5.heap.size 3 i0 (.int .i64 0) 1 8 Try.underlying34 hi hz0 hz1 hz2 rfl (by decide) rv j _ (by rfl) ((owns_held HY.out.2 HW.out).alloc _) ⟨_, 0, none⟩ 1 1 [.int .i64 (-1)] (by rfl) rfl (cell_one_new _ _ _) (by simp [Value.oneCell']) (by unfold maxLen; omega) (by omega) (by have := HY.out.1.size; have := HW.out.size; simp; omega) ?_; intro v8 w8 hv8 hg8 _ hx8
                           have HV := hidF (row_more HY.out.1 HY.out.2 HW.out (HC.out) hv8 hg8)
                           clear hv8 hg8 hx8)
              go_roundw
              case rel => go_light; exact ⟨j + 1, by omega, by go_num, HV.out⟩
              case measure => simp [intV]; omega
            · obtain ⟨i, rfl⟩ : ∃ i : Nat, z = (i : Int) := ⟨z.toNat, by omega⟩
              have hin : i < n := by omega
              obtain ⟨m, hm⟩ : ∃ m, l[i]? = some m := ⟨_, List.getElem?_eq_getElem (by rw [HN.out]; exact hin)⟩
              obtain ⟨hsz, b, o, rfl, MA⟩ := HL.out i m hm
              have HB1 : Hid (Below w.heap.size w wr) := HQ.out.below.trans ((HY.out.1.trans (HZ.out.1.mono HY.out.1.size)).mono HQ.out.below.size)
              obtain ⟨m0, m1, m2, m3, m4, m5, m6, m7⟩ := MA.held HB1.out MA.lt
              obtain ⟨x1, x2, y1, y2, w1, w2, h1, h2⟩ := HO.out m (List.mem_of_getElem? hm)
              have HM : Hid (pixS j k (pixP (l.take i) j k) m = pixP l j k) := by
                have e := HZ.out.2
                rw [show ((i : Int) + 1).toNat = i + 1 by omega, pixP_take hm] at e
                exact e
              have HR := hidF (inP_rect (m := m) (x := j) (y := k))
              have HK : Hid (∀ ob : Obj, MkAt (wr.alloc ob) b (o + i * 7) m) := fun ob => MA.held (HB1.out.alloc HB1.out.size ob) MA.lt
              have m8 : b < wr.heap.size + 1 := by omega
              clear MA hm
              by_cases he : m.s.toList.isEmpty = true
              · have HT : Hid (topN m = 0) := by show _ = _; unfold topN; rw [if_pos he]
                by_cases hp : inP m j k
                · have HC : Hid (pixP l j k = m.c) := by
                    have := HM.out
                    unfold pixS at this
                    rw [if_pos hp] at this
                    exact this.symm
                  have HP := HR.out.1 hp
                  rw [HT.out] at HP
                  obtain ⟨nd, c, x, y, wx, hh, s⟩ := m
                  simp only at m1 m2 m3 m4 m5 m6 m7 x1 x2 y1 y2 w1 w2 h1 h2 he HC HP
                  have HW0 := hidF (fun o : Obj => HZ.out.1.alloc HZ.out.1.size o)
                  clear HM HT HR hp
                  go_wp2_with (first
                    | (go_at_call 13; refine (inside_any _ _ _ _ _ _ (by omega) (by omega) (by omega) (by omega) (by omega) (by omega) (by omega) (by omega) true (by simp only [true_iff]; omega) _).mono ?_; rintro e w6 ⟨rfl, b6⟩
                       have HW : Hid (Below w7.heap.size w7 w6) := (HW0.out _).trans (b6.mono (HW0.out _).size)
                       have K6 := (HK.out _).held b6 (HK.out _).lt
                       have q1 := K6.lt
                       have q2 := K6.c1
                       simp only at q2
                       clear b6 K6)
                    | (at_builtin; refine wpList_append_own_at _ (by rfl) (.tmp 77) (.tmp 79) 34 (by rfl) w5.heap.size 3 i0 (.int .i64 0) 1 8 Try.underlying34 hi hz0 hz1 hz2 rfl (by decide) rv j _ (by rfl) ((owns_held HY.out.2 HW.out).alloc _) ⟨_, 0, none⟩ 1 1 [.int .i64 (c)] (by rfl) rfl (cell_one_new _ _ _) (by simp [Value.oneCell']) (by unfold maxLen; omega) (by omega) (by have := HY.out.1.size; have := HW.out.size; simp; omega) ?_; intro v8 w8 hv8 hg8 _ hx8
                       have HV := hidF (row_more HY.out.1 HY.out.2 HW.out (HC.out) hv8 hg8)
                       clear hv8 hg8 hx8))
                  go_roundw
                  case rel => go_light; exact ⟨j + 1, by omega, by go_num, HV.out⟩
                  case measure => simp [intV]; omega
                · have HC : Hid (pixP (l.take i) j k = pixP l j k) := by
                    have := HM.out
                    unfold pixS at this
                    rw [if_neg hp] at this
                    exact this
                  have HP : ¬ (_) := fun h => hp (HR.out.2 h)
                  rw [HT.out] at HP
                  obtain ⟨nd, c, x, y, wx, hh, s⟩ := m
                  simp only at m1 m2 m3 m4 m5 m6 m7 x1 x2 y1 y2 w1 w2 h1 h2 he HP
                  have HW0 := hidF (fun o : Obj => HZ.out.1.alloc HZ.out.1.size o)
                  clear HM HT HR hp
                  go_wp2_with (first
                    | (go_at_call 13; refine (inside_any _ _ _ _ _ _ (by omega) (by omega) (by omega) (by omega) (by omega) (by omega) (by omega) (by omega) false (by simp only [Bool.false_eq_true, false_iff]; omega) _).mono ?_; rintro e w6 ⟨rfl, b6⟩
                       have HW : Hid (Below w7.heap.size w7 w6) := (HW0.out _).trans (b6.mono (HW0.out _).size)
                       have K6 := (HK.out _).held b6 (HK.out _).lt
                       have q1 := K6.lt
                       have q2 := K6.c1
                       simp only at q2
                       clear b6 K6)
                    )
                  go_roundw
                  case rel => go_light; exact ⟨(i : Int) - 1, by omega, by omega, by go_num, rfl, HW.out, by rw [show ((i : Int) - 1 + 1).toNat = i by omega]; exact HC.out⟩
                  case measure => simp [intV]
              · replace he : m.s.toList.isEmpty = false := by simpa using he
                obtain ⟨dd, hdd⟩ : ∃ d, m.h / 2 = d := ⟨_, rfl⟩
                have HT : Hid (topN m = dd) := by show _ = _; unfold topN; rw [if_neg (by simp [he]), hdd]
                have d1 : -16777216 ≤ dd := by omega
                have d2 : dd ≤ 16777216 := by omega
                have HD := hidF (half_any m.h h1 h2)
                rw [hdd] at HD
                clear hdd
                by_cases hp : inP m j k
                · have HC : Hid (pixP l j k = m.c) := by
                    have := HM.out
                    unfold pixS at this
                    rw [if_pos hp] at this
                    exact this.symm
                  have HP := HR.out.1 hp
                  rw [HT.out] at HP
                  obtain ⟨nd, c, x, y, wx, hh, s⟩ := m
                  simp only at m1 m2 m3 m4 m5 m6 m7 x1 x2 y1 y2 w1 w2 h1 h2 he HC HP HD
                  have HW0 := hidF (fun o : Obj => HZ.out.1.alloc HZ.out.1.size o)
                  clear HM HT HR hp
                  go_wp2_with (first
                    | (go_at_call 13; refine (inside_any _ _ _ _ _ _ (by omega) (by omega) (by omega) (by omega) (by omega) (by omega) (by omega) (by omega) true (by simp only [true_iff]; omega) _).mono ?_; rintro e w6 ⟨rfl, b6⟩
                       have HW : Hid (Below w7.heap.size w7 w6) := (HW0.out _).trans (b6.mono (HW0.out _).size)
                       have K6 := (HK.out _).held b6 (HK.out _).lt
                       have q1 := K6.lt
                       have q2 := K6.c1
                       simp only at q2
                       clear b6 K6)
                    | (go_at_call 12; refine (HD.out _).mono ?_; rintro e w6 ⟨rfl, rfl⟩)
                    | (at_builtin; refine wpList_append_own_at _ (by rfl) (.tmp 77) (.tmp 79) 34 (by rfl) w5.heap.size 3 i0 (.int .i64 0) 1 8 Try.underlying34 hi hz0 hz1 hz2 rfl (by decide) rv j _ (by rfl) ((owns_held HY.out.2 HW.out).alloc _) ⟨_, 0, none⟩ 1 1 [.int .i64 (c)] (by rfl) rfl (cell_one_new _ _ _) (by simp [Value.oneCell']) (by unfold maxLen; omega) (by omega) (by have := HY.out.1.size; have := HW.out.size; simp; omega) ?_; intro v8 w8 hv8 hg8 _ hx8
                       have HV := hidF (row_more HY.out.1 HY.out.2 HW.out (HC.out) hv8 hg8)
                       clear hv8 hg8 hx8))
                  go_roundw
                  case rel => go_light; exact ⟨j + 1, by omega, by go_num, HV.out⟩
                  case measure => simp [intV]; omega
                · have HC : Hid (pixP (l.take i) j k = pixP l j k) := by
                    have := HM.out
                    unfold pixS at this
                    rw [if_neg hp] at this
                    exact this
                  have HP : ¬ (_) := fun h => hp (HR.out.2 h)
                  rw [HT.out] at HP
                  obtain ⟨nd, c, x, y, wx, hh, s⟩ := m
                  simp only at m1 m2 m3 m4 m5 m6 m7 x1 x2 y1 y2 w1 w2 h1 h2 he HP HD
                  have HW0 := hidF (fun o : Obj => HZ.out.1.alloc HZ.out.1.size o)
                  clear HM HT HR hp
                  go_wp2_with (first
                    | (go_at_call 13; refine (inside_any _ _ _ _ _ _ (by omega) (by omega) (by omega) (by omega) (by omega) (by omega) (by omega) (by omega) false (by simp only [Bool.false_eq_true, false_iff]; omega) _).mono ?_; rintro e w6 ⟨rfl, b6⟩
                       have HW : Hid (Below w7.heap.size w7 w6) := (HW0.out _).trans (b6.mono (HW0.out _).size)
                       have K6 := (HK.out _).held b6 (HK.out _).lt
                       have q1 := K6.lt
                       have q2 := K6.c1
                       simp only at q2
                       clear b6 K6)
                    | (go_at_call 12; refine (HD.out _).mono ?_; rintro e w6 ⟨rfl, rfl⟩))
                  go_roundw
                  case rel => go_light; exact ⟨(i : Int) - 1, by omega, by omega, by go_num, rfl, HW.out, by rw [show ((i : Int) - 1 + 1).toNat = i by omega]; exact HC.out⟩
                  case measure => simp [intV]
        · obtain rfl : j = W := by omega
          have hl3 : ¬ (j : Int) < (j : Int) := by omega
          obtain ⟨vs, ho, hvs⟩ := (HQ.out.held HY.out.1).ex
          have hvl : vs.length = k := by have := ho.1; simpa using this
          have HOQ := hidF (And.intro ho (And.intro hvs hvl))
          have HRI := hidF (own_intL (xs := (List.range j).map fun x => pixP l x k) (B := w5.heap.size) (by rw [List.length_map, List.length_range]; exact HY.out.2))
          have HFA : Hid (∀ q, rv.ownBlock = some q → q < w7.heap.size ∧ ov.ownBlock ≠ some q) := fun q hq => ⟨(HY.out.2.lt q hq).2, fun e => by have a1 := (HY.out.2.lt q hq).1; have a2 := (HQ.out.lt q e).2; omega⟩
          have hs1 := HQ.out.below.size
          have hs2 := HY.out.1.size
          obtain ⟨ra, rc, hrs⟩ := owns_shape HY.out.2
          clear ho hvs hvl
          subst hrs
          go_wp2_with (at_builtin; refine wpList_append_own_at _ (by rfl) (.tmp 81) (.tmp 83) 30 (by rfl) w.heap.size 34 i9 (.slice none 0 0) 1 24 Try.underlying30 hi9 hy0 hy1 hy2 rfl (by decide) ov k vs (by rfl) (HOQ.out.1.alloc _) ⟨_, 0, none⟩ 1 1 [.slice ra j rc] (by rfl) rfl (cell_one_new _ _ _) (by simp [Value.oneCell']) (by unfold maxLen; omega) (by omega) (by simp; omega) ?_; intro v8 w8 hv8 hg8 _ hx8
                       have HV := hidF ((HQ.out.held HY.out.1).more HRI.out HFA.out HOQ.out.2.1 HOQ.out.2.2 hv8 hg8 hx8)
                       clear hv8 hg8 hx8)
          go_roundw
          case rel => go_light; exact ⟨k + 1, by omega, by go_num, HV.out⟩
          case measure => simp [intV]; omega
    · obtain rfl : k = H := by omega
      have hl3 : ¬ (k : Int) < (k : Int) := by omega
      go_wp2_with fail
      go_returns
      exact ⟨_, rfl, HQ.out.rows, HQ.out.below⟩
end Go.Proofs.Ytpkdigjejijiiaa
