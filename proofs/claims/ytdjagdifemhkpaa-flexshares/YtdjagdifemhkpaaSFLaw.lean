/- FlexShares: rows and shares, by the program and by the document. -/
import Derived.Test.YtdjagdifemhkpaaQRows
import Derived.Test.YtdjagdifemhkpaaQShare
namespace Go.Proofs.Ytdjagdifemhkpaa
open Go.RowKit
set_option linter.unusedVariables false      -- bounds that are for the walk

theorem news_sixM (w : World) (cs : Array Value) (t : TypeId) (B : Nat) (hB : w.heap.size = B) : ∀ j u, cs.toList[j]? = some u → (w.alloc (.cells cs t)).cell? ((⟨B, 0, none⟩ : Addr).add j) = some u := by
  subst hB
  exact news_six w cs t

set_option maxHeartbeats 4000000 in
set_option maxRecDepth 100000 in
theorem flexes_any {w : World} {v : Value} {l : List It} (h : ItemsL w v l) (hlen : l.length ≤ 240) :
    Calls Try.prog 12 #[v] w fun e w' => ∃ v', e = .returned v' ∧ ItemsL w' v' l ∧ Below w.heap.size w w' := by
  obtain ⟨i0, hi, hz0, hz1, hz2⟩ := info_parts Try.infoItem
  obtain ⟨a, cap, rfl, hc1, hc2, hl⟩ := h
  have HL := hidF hl
  obtain ⟨n, hn⟩ : ∃ n, l.length = n := ⟨_, rfl⟩
  have HN := hidF hn
  rw [hn] at hlen hc1 ⊢
  clear hl hn
  go_enter Try.func12, Try.ntmps12
  go_wp2_with fail
  go_loopw [3, 4] (fun pv i wr => ∃ k : Nat, k ≤ n ∧ i = .int .i64 k ∧ Hid (Below w.heap.size w wr ∧ wr.ownsRow w.heap.size 26 6 pv k (itsC (l.take k)))) (fun _ i _ => n - (intV i).toNat)
  case atStart => exact ⟨0, Nat.zero_le _, rfl, Below.refl _ _, World.ownsRow_nil _ _ _ _⟩
  case round =>
    obtain ⟨k, hk, rfl, H⟩ := hrel
    by_cases hlt : k < n
    · obtain ⟨x, hx⟩ : ∃ x, l[k]? = some x := ⟨_, List.getElem?_eq_getElem (by rw [HN.out]; exact hlt)⟩
      obtain ⟨b, o, rfl, hit⟩ := HL.out k x hx
      have HX := hidF hx
      obtain ⟨x1, x2, x3, x4, x5, x6, x7⟩ := hit.below H.out.1
      have i1 : (0 : Int) ≤ (k : Int) := by omega
      have i2 : (k : Int) < (n : Int) := by omega
      have x1' : b < wr.heap.size + 1 := by omega
      have HT : Hid (itsC (l.take (k + 1)) = itsC (l.take k) ++ itC x) := by
        show _ = _
        rw [List.take_add_one, hx]
        exact itsC_snoc _ _
      clear hit hx
      obtain ⟨xb, xmn, xmx, xar, xgr, xsh⟩ := x
      simp only at x2 x3 x4 x5 x6 x7
      have H9 := hidF (fun (o : Obj) => And.intro (H.out.1.alloc H.out.1.size o) (H.out.2.alloc o))
      have hsz := H.out.1.size
      go_wp2_with (at_builtin; refine wpList_append_own_at _ rfl (.tmp 16) (.tmp 30) 27 rfl w.heap.size 26 i0 _ 6 48 Try.underlying27 hi hz0 hz1 hz2 rfl (by decide) _ _ _ rfl ((H9.out _).2.alloc _) ⟨_, 0, none⟩ 1 1 [.int .i64 xb, .int .i64 xmn, .int .i64 xmx, .int .i64 xar, .int .i64 xgr, .int .i64 xsh] rfl rfl (fun j u hj => news_sixM _ _ _ _ (by simp) j u hj) (by simp [Value.oneCell']) (by unfold maxLen; omega) (by omega) (by simp; omega) ?_; intro v1 w1 hv1 hg1 hx1 hx2; clear hx1 hx2; have H3 := hidF (And.intro (((H9.out _).1.alloc (H9.out _).1.size _).grown hg1 (by simp; omega) (fun q hq => (H.out.2.lt q hq).1)) hv1); clear hv1 hg1)
      go_roundw
      case rel =>
        go_light
        refine ⟨k + 1, by omega, by go_num, H3.out.1, ?_⟩
        rw [HT.out]
        exact H3.out.2
      case measure => simp [intV]; omega
    · obtain rfl : k = n := by omega
      have hl2 : ¬ (k : Int) < (k : Int) := by omega
      go_wp2_with fail
      go_returns
      refine ⟨_, rfl, own_items (B := w.heap.size) ?_, H.out.1⟩
      have := H.out.2
      rw [List.take_of_length_le (by rw [HN.out]; exact Nat.le_refl _)] at this
      rw [HN.out]
      exact this

theorem one_share : sharedN [⟨0, 0, -1, 0, 1000, 0⟩] 7 0 = [7] := by
  have h0 := heldN_of 0 (by omega) (by omega)
  have h7 := heldN_of 7 (by omega) (by omega)
  have h1 := heldN_of (-1) (by omega) (by omega)
  have e1 : facN 1000 = 1000 := by unfold facN; split <;> omega
  have e2 : facN 0 = 0 := by unfold facN; split <;> omega
  have hc : countN [⟨0, 0, -1, 0, 1000, 0⟩] = [⟨0, 0, -1, 0, 1000, 0⟩] := by
    unfold countN
    simp only [List.take_succ_cons, List.take_nil, List.map_cons, List.map_nil, itN, h0, h1, e1, e2]
    rfl
  unfold sharedN
  rw [hc, h0, h7]
  rfl
theorem one_items (w : World) (i : It) : ItemsL (w.alloc (.cells #[.int .i64 i.b, .int .i64 i.mn, .int .i64 i.mx, .int .i64 i.ar, .int .i64 i.gr, .int .i64 i.sh] 26)) (.slice (some ⟨w.heap.size, 0, none⟩) 1 1) [i] := by
  refine ⟨_, 1, rfl, Nat.le_refl _, by omega, fun j x hj => ⟨w.heap.size, 0, rfl, ?_⟩⟩
  match j, hj with
  | 0, hj =>
    obtain rfl : i = x := by simpa using hj
    have hh := heap_alloc_new w (.cells #[.int .i64 i.b, .int .i64 i.mn, .int .i64 i.mx, .int .i64 i.ar, .int .i64 i.gr, .int .i64 i.sh] 26)
    refine ⟨ltH hh, ?_, ?_, ?_, ?_, ?_, ?_⟩ <;> (rw [cell_of_row _ _ _ _ _ _ hh]; rfl)
  | (n + 1), hj => simp at hj

set_option maxHeartbeats 4000000 in
set_option maxRecDepth 100000 in
theorem shares_law {w : World} {v : Value} {l : List It} (h : ItemsL w v l) (room gap : Int) (wrap : Bool) :
    Calls Try.prog 3 #[v, .int .i64 room, .int .i64 gap, .bool wrap] w fun e w' => e = .returned (.bool true) ∧ Below w.heap.size w w' := by
  have HI := hidF h
  obtain ⟨a, cap, rfl, hc1, hc2, hl⟩ := h
  clear hl
  go_enter Try.func3, Try.ntmps3
  go_wp2_with fail
  refine (share_any (one_items w ⟨0, 0, -1, 0, 1000, 0⟩) 7 0).mono ?_
  rintro e w1 ⟨v1, rfl, ho, hb⟩
  rw [one_share] at ho
  obtain ⟨a1, c1, rfl, k1, k2, hr⟩ := ho
  obtain ⟨g1, o1, rfl, gl, gc⟩ := hr 0 7 rfl
  have B1 := hidF (show Below w.heap.size w w1 from ((Below.refl w.heap.size w).alloc (Nat.le_refl _) _).trans (hb.mono (by simp)))
  simp only [List.length_cons, List.length_nil] at k1
  have gc3 : w1.cell? ⟨g1, o1, none⟩ = some (.int .i64 7) := gc
  have i1 : (0 : Int) < ((1 : Nat) : Int) := by omega
  clear hr hb gc
  by_cases hbig : 240 < l.length
  · have hbig' : (240 : Int) < (l.length : Int) := by omega
    go_wp2_with fail
    go_returns
    exact ⟨rfl, B1.out⟩
  · have hbig' : ¬ (240 : Int) < (l.length : Int) := by omega
    have HI1 := hidF (HI.out.below B1.out)
    go_wp2_with fail
    refine (flexes_any HI1.out (by omega)).mono ?_
    rintro e w2 ⟨v2, rfl, hi2, hb2⟩
    have HI2 := hidF hi2
    have B2 := hidF (B1.out.trans (hb2.mono B1.out.size))
    clear hi2 hb2 gc3
    go_wp2_with fail
    refine (rows_any HI2.out room gap wrap).mono ?_
    rintro e w3 ⟨v3, rfl, hi3, hb3⟩
    have HR3 := hidF hi3
    have B3 := hidF (B2.out.trans (hb3.mono B2.out.size))
    have HI3 := hidF (HI.out.below B3.out)
    clear hi3 hb3
    go_wp2_with fail
    refine (qrows_any HI3.out room gap wrap).mono ?_
    rintro e w4 ⟨v4, rfl, hi4, hb4⟩
    have HR4 := hidF (And.intro (HR3.out.below hb4) hi4)
    have B4 := hidF (B3.out.trans (hb4.mono B3.out.size))
    clear hi4 hb4
    go_wp2_with fail
    refine (sameI_any HR4.out.1 HR4.out.2).mono ?_
    rintro e w5 ⟨rfl, hb5⟩
    have B5 := hidF (B4.out.trans (hb5.mono B4.out.size))
    have HI5 := hidF (HI.out.below B5.out)
    clear hb5
    go_wp2_with fail
    refine (flexes_any HI5.out (by omega)).mono ?_
    rintro e w6 ⟨v6, rfl, hi6, hb6⟩
    have HI6 := hidF hi6
    have B6 := hidF (B5.out.trans (hb6.mono B5.out.size))
    clear hi6 hb6
    go_wp2_with fail
    refine (share_any HI6.out room gap).mono ?_
    rintro e w7 ⟨v7, rfl, hi7, hb7⟩
    have HR7 := hidF hi7
    have B7 := hidF (B6.out.trans (hb7.mono B6.out.size))
    have HI7 := hidF (HI.out.below B7.out)
    clear hi7 hb7
    go_wp2_with fail
    refine (qshare_any HI7.out room gap).mono ?_
    rintro e w8 ⟨v8, rfl, hi8, hb8⟩
    have HR8 := hidF (And.intro (HR7.out.below hb8) hi8)
    have B8 := hidF (B7.out.trans (hb8.mono B7.out.size))
    clear hi8 hb8
    go_wp2_with fail
    refine (sameI_any HR8.out.1 HR8.out.2).mono ?_
    rintro e w9 ⟨rfl, hb9⟩
    have B9 := hidF (B8.out.trans (hb9.mono B8.out.size))
    clear hb9
    go_wp2_with fail
    go_returns
    exact ⟨rfl, B9.out⟩
end Go.Proofs.Ytdjagdifemhkpaa
