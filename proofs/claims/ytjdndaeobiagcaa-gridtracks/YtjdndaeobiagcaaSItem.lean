/- Items in memory; bounded, within, want, factor, firsts, itemsOf. -/
import Derived.Test.YtjdndaeobiagcaaGM12
import Derived.Test.YtjdndaeobiagcaaXLater
import Derived.Deep.RegionHeld3
import Derived.Deep.DeepCutAuto
import Derived.StillTailTactics
namespace Go.Proofs.Ytjdndaeobiagcaa
open Go.RowKit
set_option linter.unusedVariables false      -- bounds that are for the walk

theorem wrapJ {p : Int} (h0 : -9000000000000000000 ≤ p) (h1 : p ≤ 9000000000000000000) : IntKind.i64.wrap p = p := by rw [IntKind.wrap_i64]; omega

def itC (i : It) : List Value := [.int .i64 i.b, .int .i64 i.mn, .int .i64 i.mx, .int .i64 i.ar, .int .i64 i.gr, .int .i64 i.sh]
def itV (i : It) : Value := .agg #[.int .i64 i.b, .int .i64 i.mn, .int .i64 i.mx, .int .i64 i.ar, .int .i64 i.gr, .int .i64 i.sh]

structure ItAt (w : World) (b o : Nat) (i : It) : Prop where
  lt : b < w.heap.size
  c0 : w.cell? ⟨b, o, none⟩ = some (.int .i64 i.b)
  c1 : w.cell? ⟨b, o + 1, none⟩ = some (.int .i64 i.mn)
  c2 : w.cell? ⟨b, o + 2, none⟩ = some (.int .i64 i.mx)
  c3 : w.cell? ⟨b, o + 3, none⟩ = some (.int .i64 i.ar)
  c4 : w.cell? ⟨b, o + 4, none⟩ = some (.int .i64 i.gr)
  c5 : w.cell? ⟨b, o + 5, none⟩ = some (.int .i64 i.sh)

theorem ItAt.below {w w' : World} {b o : Nat} {i : It} (h : ItAt w b o i) (hb : Below w.heap.size w w') : ItAt w' b o i :=
  ⟨Nat.lt_of_lt_of_le h.lt hb.size, (hb.cell (p := ⟨b, o, none⟩) h.lt).trans h.c0, (hb.cell (p := ⟨b, o + 1, none⟩) h.lt).trans h.c1, (hb.cell (p := ⟨b, o + 2, none⟩) h.lt).trans h.c2, (hb.cell (p := ⟨b, o + 3, none⟩) h.lt).trans h.c3, (hb.cell (p := ⟨b, o + 4, none⟩) h.lt).trans h.c4, (hb.cell (p := ⟨b, o + 5, none⟩) h.lt).trans h.c5⟩

/-- a list of items that is read -/
def ItemsL (w : World) (v : Value) (l : List It) : Prop := ∃ a cap, v = .slice a l.length cap ∧ l.length ≤ cap ∧ cap ≤ 9223372036854775807 ∧ ∀ (j : Nat) (x : It), l[j]? = some x → ∃ b o, a = some ⟨b, o, none⟩ ∧ ItAt w b (o + j * 6) x

theorem ItemsL.below {w w' : World} {v : Value} {l : List It} (h : ItemsL w v l) (hb : Below w.heap.size w w') : ItemsL w' v l := by
  obtain ⟨a, cap, hv, h1, h2, hc⟩ := h
  refine ⟨a, cap, hv, h1, h2, fun j x hj => ?_⟩
  obtain ⟨b, o, e1, e2⟩ := hc j x hj
  exact ⟨b, o, e1, e2.below hb⟩

def itsC (l : List It) : List Value := l.flatMap itC
theorem itsC_snoc (l : List It) (x : It) : itsC (l ++ [x]) = itsC l ++ itC x := by simp [itsC]
theorem itsC_get : ∀ (l : List It) (j f : Nat) (x : It), l[j]? = some x → f < 6 → (itsC l)[j * 6 + f]? = (itC x)[f]?
  | [], j, f, x, h, _ => by simp at h
  | y :: r, 0, f, x, h, hf => by
    simp only [List.getElem?_cons_zero, Option.some.injEq] at h
    subst h
    rw [show itsC (y :: r) = itC y ++ itsC r by simp [itsC], Nat.zero_mul, Nat.zero_add, List.getElem?_append_left (by simp [itC]; omega)]
  | y :: r, j + 1, f, x, h, hf => by
    rw [show itsC (y :: r) = itC y ++ itsC r by simp [itsC], List.getElem?_append_right (by simp [itC]; omega)]
    rw [show (j + 1) * 6 + f - (itC y).length = j * 6 + f by simp [itC]; omega]
    exact itsC_get r j f x (by simpa using h) hf

theorem own_items {w : World} {B : Nat} {v : Value} {xs : List It} (h : w.ownsRow B 26 6 v xs.length (itsC xs)) : ItemsL w v xs := by
  obtain ⟨hl, h | ⟨g, cap, cur, rfl, hg, hh, h1, h2, h3, h4⟩⟩ := h
  · obtain ⟨rfl, hn⟩ := h
    refine ⟨none, 0, by rw [hn], by omega, by omega, fun j x hj => ?_⟩
    have := (List.getElem?_eq_some_iff.1 hj).1
    omega
  · unfold maxLen at h2
    refine ⟨_, cap, rfl, h1, by omega, fun j x hj => ⟨g, 0, rfl, ?_⟩⟩
    have hc : ∀ (i : Nat) u, i < 6 → (itC x)[i]? = some u → w.cell? ⟨g, 0 + j * 6 + i, none⟩ = some u := fun i u hi hu => by
      have e := itsC_get xs j i x hj hi
      rw [hu, ← h4, List.getElem?_take] at e
      rw [cell_of_row w g _ _ _ _ hh, Nat.zero_add]
      split at e
      · simpa using e
      · cases e
    exact ⟨ltH hh, hc 0 _ (by omega) rfl, hc 1 _ (by omega) rfl, hc 2 _ (by omega) rfl, hc 3 _ (by omega) rfl, hc 4 _ (by omega) rfl, hc 5 _ (by omega) rfl⟩

theorem ret_ib2 {a b : Int} {c d : Bool} (h1 : a = b) (h2 : c = d) : Ending.returned (.tuple #[.int .i64 a, .bool c]) = .returned (.tuple #[.int .i64 b, .bool d]) := by rw [h1, h2]

def BoundPost (v : Int) (w : World) (e : Ending) (w' : World) : Prop := ∃ c : Bool, e = .returned (.tuple #[.int .i64 v, .bool c]) ∧ w' = w
set_option maxHeartbeats 400000 in
theorem bound_any (n least most : Int) (w : World) :
    Calls Try.prog 81 #[.int .i64 n, .int .i64 least, .int .i64 most] w (BoundPost (max (capN n most) (max least 0)) w) := by
  unfold capN
  go_enter Try.func81, Try.ntmps81
  go_wp2
  all_goals
    go_returns
    refine ⟨_, ret_ib2 ?_ rfl, rfl⟩
    (repeat' split) <;> omega

set_option maxHeartbeats 400000 in
set_option maxRecDepth 100000 in
theorem within_any (i : It) (n : Int) (w : World) :
    Calls Try.prog 58 #[itV i, .int .i64 n] w fun e w' => e = .returned (.int .i64 (bndI i n)) ∧ Below w.heap.size w w' := by
  obtain ⟨b, mn, mx, ar, gr, sh⟩ := i
  unfold itV bndI
  simp only
  go_enter Try.func58, Try.ntmps58
  go_wp2_with fail
  refine (bound_any n mn mx _).mono ?_
  rintro e w' ⟨c, rfl, rfl⟩
  go_wp2_with fail
  go_returns
  exact ⟨rfl, by go_grown⟩

set_option maxHeartbeats 400000 in
set_option maxRecDepth 100000 in
theorem factor_any (n : Int) (w : World) :
    Calls Try.prog 62 #[.int .i64 n] w fun e w' => e = .returned (.int .i64 (facN n)) ∧ w' = w := by
  unfold facN
  go_enter Try.func62, Try.ntmps62
  go_wp2
  all_goals
    go_returns
    exact ⟨ret_i (by (repeat' split) <;> omega), rfl⟩

set_option maxHeartbeats 1000000 in
set_option maxRecDepth 100000 in
theorem want_any {i : It} (h : i.Ok) (w : World) :
    Calls Try.prog 29 #[itV i] w fun e w' => e = .returned (.int .i64 (wantN i)) ∧ Below w.heap.size w w' := by
  obtain ⟨z1, z2⟩ := bndI_b h
  have z3 := h.ar0
  have z4 := h.ar1
  have WI := hidF (fun W => within_any i i.b W)
  obtain ⟨z, hz⟩ : ∃ z, bndI i i.b = z := ⟨_, rfl⟩
  unfold wantN
  rw [hz] at z1 z2 WI ⊢
  clear h hz
  obtain ⟨b, mn, mx, ar, gr, sh⟩ := i
  unfold itV at WI ⊢
  simp only at z3 z4 WI ⊢
  have W9 : IntKind.i64.wrap (z + ar) = z + ar := wrapJ (by omega) (by omega)
  go_enter Try.func29, Try.ntmps29
  go_wp2_with fail
  go_region_held3 (fun wx => wx.cell? ⟨w.heap.size, 0, none⟩ = some (.int .i64 b) ∧ wx.cell? ⟨w.heap.size, 1, none⟩ = some (.int .i64 mn) ∧ wx.cell? ⟨w.heap.size, 2, none⟩ = some (.int .i64 mx) ∧ wx.cell? ⟨w.heap.size, 3, none⟩ = some (.int .i64 ar) ∧ wx.cell? ⟨w.heap.size, 4, none⟩ = some (.int .i64 gr) ∧ wx.cell? ⟨w.heap.size, 5, none⟩ = some (.int .i64 sh)) (go_keep)
    ((go_at_call 58; refine (WI.out _).mono ?_; rintro e w7 ⟨rfl, hb7⟩
      have m0 := (hb7.cell (p := ⟨w.heap.size, 0, none⟩) (by simp)).trans (show _ = some (.int .i64 b) by go_simp)
      have m1 := (hb7.cell (p := ⟨w.heap.size, 1, none⟩) (by simp)).trans (show _ = some (.int .i64 mn) by go_simp)
      have m2 := (hb7.cell (p := ⟨w.heap.size, 2, none⟩) (by simp)).trans (show _ = some (.int .i64 mx) by go_simp)
      have m3 := (hb7.cell (p := ⟨w.heap.size, 3, none⟩) (by simp)).trans (show _ = some (.int .i64 ar) by go_simp)
      have m4 := (hb7.cell (p := ⟨w.heap.size, 4, none⟩) (by simp)).trans (show _ = some (.int .i64 gr) by go_simp)
      have m5 := (hb7.cell (p := ⟨w.heap.size, 5, none⟩) (by simp)).trans (show _ = some (.int .i64 sh) by go_simp)
      have HB : Hid (Below w.heap.size w w7) := Below.trans (by go_grown) (hb7.mono (by simp))
      clear hb7))
  all_goals
    go_wp2_with fail
    go_returns
    exact ⟨rfl, HB.out⟩

set_option maxHeartbeats 1000000 in
set_option maxRecDepth 100000 in
theorem firstsT_any (a : Option Addr) (n cap : Nat) (h1 : n ≤ cap) (h2 : cap ≤ 9223372036854775807) (w : World) :
    Calls Try.prog 61 #[.slice a n cap, .int .i64 200] w fun e w' => e = .returned (.slice a (min n 200) cap) ∧ w' = w := by
  by_cases hc : n ≤ 200
  · have hc' : ¬ (200 : Int) < (n : Int) := by omega
    go_enter Try.func61, Try.ntmps61
    go_wp2_with fail
    all_goals
      go_returns
      exact ⟨rfl, rfl⟩
  · have hc' : (200 : Int) < (n : Int) := by omega
    have hn : min n 200 = 200 := by omega
    rw [hn]
    go_enter Try.func61, Try.ntmps61
    go_wp2_with fail
    all_goals
      go_returns
      exact ⟨rfl, rfl⟩

theorem Try.infoItem : (Try.prog.info? 26).map (fun i => (i.zero, i.size, i.bytes)) = some (some (.agg #[.int .i64 0, .int .i64 0, .int .i64 0, .int .i64 0, .int .i64 0, .int .i64 0]), 6, 48) := by kernel_rfl
theorem news_six (w : World) (cs : Array Value) (t : TypeId) : ∀ j u, cs.toList[j]? = some u → (w.alloc (.cells cs t)).cell? ((⟨w.heap.size, 0, none⟩ : Addr).add j) = some u := by
  intro j u h
  have e : ((⟨w.heap.size, 0, none⟩ : Addr).add j) = ⟨w.heap.size, j, none⟩ := by
    unfold Addr.add
    split
    · simp_all
    · simp
  rw [e, cell_of_row _ w.heap.size _ _ _ _ (heap_alloc_new w _)]
  simpa using h

set_option maxHeartbeats 4000000 in
set_option maxRecDepth 100000 in
theorem itemsOf_any {w : World} {v : Value} {l : List It} (h : ItemsL w v l) :
    Calls Try.prog 26 #[v] w fun e w' => ∃ v', e = .returned v' ∧ ItemsL w' v' ((l.take 200).map itN) ∧ Below w.heap.size w w' := by
  obtain ⟨i0, hi, hz0, hz1, hz2⟩ := info_parts Try.infoItem
  obtain ⟨a, cap, rfl, hc1, hc2, hl⟩ := h
  have HL := hidF hl
  obtain ⟨n, hn⟩ : ∃ n, min l.length 200 = n := ⟨_, rfl⟩
  have FI := hidF (firstsT_any a l.length cap hc1 hc2)
  rw [hn] at FI
  have hn2 : n ≤ 200 := by omega
  have hnl : n ≤ l.length := by omega
  have HN := hidF hn
  clear hl hn
  go_enter Try.func26, Try.ntmps26
  go_wp2_with fail
  refine (FI.out w).mono ?_
  rintro e w' ⟨rfl, hw'⟩
  rw [hw']
  clear hw' w'
  go_wp2_with fail
  go_loopw [3, 9] (fun pv i wr => ∃ k : Nat, k ≤ n ∧ i = .int .i64 k ∧ Hid (Below w.heap.size w wr ∧ wr.ownsRow w.heap.size 26 6 pv k (itsC ((l.take k).map itN)))) (fun _ i _ => n - (intV i).toNat)
  case atStart => exact ⟨0, Nat.zero_le _, rfl, Below.refl _ _, World.ownsRow_nil _ _ _ _⟩
  case round =>
    obtain ⟨k, hk, rfl, H⟩ := hrel
    by_cases hlt : k < n
    · obtain ⟨x, hx⟩ : ∃ x, l[k]? = some x := ⟨_, List.getElem?_eq_getElem (by omega)⟩
      obtain ⟨b, o, rfl, hit⟩ := HL.out k x hx
      have HX := hidF hx
      obtain ⟨x1, x2, x3, x4, x5, x6, x7⟩ := hit.below H.out.1
      have i1 : (0 : Int) ≤ (k : Int) := by omega
      have i2 : (k : Int) < (n : Int) := by omega
      have x1' : b < wr.heap.size + 1 := by omega
      clear hit hx
      obtain ⟨xb, xmn, xmx, xar, xgr, xsh⟩ := x
      simp only at x2 x3 x4 x5 x6 x7
      go_wp2_with fail
      refine (hold_pre [(⟨wr.heap.size, 0, none⟩, xb), (⟨wr.heap.size, 1, none⟩, xmn), (⟨wr.heap.size, 2, none⟩, xmx), (⟨wr.heap.size, 3, none⟩, xar)] _ _ _ _ rfl (by simp) (by simp [HoldPre, go_sem])).mono ?_
      rintro e W ⟨rfl, rfl⟩
      simp only [holdAll]
      obtain ⟨hb0, hb1⟩ := heldN_bd xb
      obtain ⟨yb, hyb⟩ : ∃ y, heldN xb = y := ⟨_, rfl⟩
      obtain ⟨ymn, hymn⟩ : ∃ y, heldN xmn = y := ⟨_, rfl⟩
      obtain ⟨ymx, hymx⟩ : ∃ y, heldN xmx = y := ⟨_, rfl⟩
      obtain ⟨yar, hyar⟩ : ∃ y, heldN xar = y := ⟨_, rfl⟩
      rw [hyb, hymn, hymx, hyar]
      have HY := hidF (And.intro hyb (And.intro hymn (And.intro hymx hyar)))
      obtain ⟨zb, hzb⟩ : ∃ z, (if yb < 0 then 0 else yb) = z := ⟨_, rfl⟩
      have HZB : Hid (max yb 0 = zb) := by
        show _ = _
        rw [← hzb]; split <;> omega
      clear hyb hymn hymx hyar
      go_upto_region 7 with fail
      go_cut [] (fun wx => Hid (Below wr.heap.size wr wx ∧ wx.heap[wr.heap.size]? = some (.cells #[.int .i64 zb, .int .i64 ymn, .int .i64 ymx, .int .i64 yar, .int .i64 (facN xgr), .int .i64 (facN xsh)] 26 (0, 0))))
      case first =>
        go_region_with ((go_at_call 62; refine (factor_any _ _).mono ?_; rintro e w7 ⟨rfl, rfl⟩))
        all_goals
          go_wp2_with fail
          go_meet
          case rel => go_light; exact ⟨by go_grown, (Below.heap_alloc (wr.alloc _) _ _ (by simp)).trans (heap_alloc_new wr _)⟩
      case rest =>
      obtain ⟨b9, h9⟩ := hcut.out
      have H9 := hidF (And.intro (H.out.1.trans (b9.mono H.out.1.size)) (World.ownsRow.kept H.out.2 (row := none) ⟨b9.os, b9.tape, b9.output, b9.size, fun k hk _ => b9.block k hk⟩ (by cases u3.ownBlock <;> simp)))
      have s1 : wr.heap.size < wc.heap.size := ltH h9
      have c0 : wc.cell? ⟨wr.heap.size, 0, none⟩ = some (.int .i64 zb) := by rw [cell_of_row _ _ _ _ _ _ h9]; rfl
      have c1 : wc.cell? ⟨wr.heap.size, 1, none⟩ = some (.int .i64 ymn) := by rw [cell_of_row _ _ _ _ _ _ h9]; rfl
      have c2 : wc.cell? ⟨wr.heap.size, 2, none⟩ = some (.int .i64 ymx) := by rw [cell_of_row _ _ _ _ _ _ h9]; rfl
      have c3 : wc.cell? ⟨wr.heap.size, 3, none⟩ = some (.int .i64 yar) := by rw [cell_of_row _ _ _ _ _ _ h9]; rfl
      have c4 : wc.cell? ⟨wr.heap.size, 4, none⟩ = some (.int .i64 (facN xgr)) := by rw [cell_of_row _ _ _ _ _ _ h9]; rfl
      have c5 : wc.cell? ⟨wr.heap.size, 5, none⟩ = some (.int .i64 (facN xsh)) := by rw [cell_of_row _ _ _ _ _ _ h9]; rfl
      have HE : Hid (itC (itN ⟨xb, xmn, xmx, xar, xgr, xsh⟩) = [.int .i64 zb, .int .i64 ymn, .int .i64 ymx, .int .i64 yar, .int .i64 (facN xgr), .int .i64 (facN xsh)]) := by
        show _ = _
        simp only [itC, itN, HY.out.1, HY.out.2.1, HY.out.2.2.1, HY.out.2.2.2, HZB.out]
      have HT : Hid ((l.take (k + 1)).map itN = (l.take k).map itN ++ [itN ⟨xb, xmn, xmx, xar, xgr, xsh⟩]) := by
        show _ = _
        rw [List.take_add_one, HX.out]; simp
      clear hcut b9 h9 H x2 x3 x4 x5 x6 x7
      go_wp2_with (at_builtin; refine wpList_append_own_at _ rfl (.tmp 31) (.tmp 33) 27 rfl w.heap.size 26 i0 _ 6 48 Try.underlying27 hi hz0 hz1 hz2 rfl (by decide) _ _ _ rfl (H9.out.2.alloc _) ⟨_, 0, none⟩ 1 1 [.int .i64 zb, .int .i64 ymn, .int .i64 ymx, .int .i64 yar, .int .i64 (facN xgr), .int .i64 (facN xsh)] rfl rfl (fun j u hj => news_six _ _ _ j u hj) (by simp [Value.oneCell']) (by unfold maxLen; omega) (by omega) (by have := H9.out.1.size; simp; omega) ?_; intro v1 w1 hv1 hg1 hx1 hx2; clear hx1 hx2; have H3 := hidF (And.intro ((H9.out.1.alloc H9.out.1.size _).grown hg1 (by have := H9.out.1.size; simp; omega) (fun q hq => (H9.out.2.lt q hq).1)) hv1); clear hv1 hg1)
      go_roundw
      case rel =>
        go_light
        refine ⟨k + 1, by omega, by go_num, H3.out.1, ?_⟩
        rw [HT.out, itsC_snoc, HE.out]
        exact H3.out.2
      case measure => simp [intV]; omega
    · obtain rfl : k = n := by omega
      go_wp2_with fail
      go_returns
      have e1 : l.take k = l.take 200 := by
        rw [← HN.out]
        rcases Nat.le_total l.length 200 with h | h
        · rw [Nat.min_eq_left h, List.take_of_length_le (Nat.le_refl _), List.take_of_length_le h]
        · rw [Nat.min_eq_right h]
      have e2 : ((l.take 200).map itN).length = k := by rw [← e1]; simp; omega
      refine ⟨_, rfl, own_items (B := w.heap.size) ?_, H.out.1⟩
      rw [e2, ← e1]
      exact H.out.2
end Go.Proofs.Ytjdndaeobiagcaa
