/- FlexSums: what is shared is shared to the last part. -/
import Derived.Test.YtdjagdifemhkpaaSSums2
import Derived.Deep.QuietTactic
import Derived.BigQuiet
namespace Go.Proofs.Ytdjagdifemhkpaa
open Go.RowKit
set_option linter.unusedVariables false      -- bounds that are for the walk

theorem news_sixL (w : World) (cs : Array Value) (t : TypeId) (B : Nat) (hB : w.heap.size = B) : ∀ j u, cs.toList[j]? = some u → (w.alloc (.cells cs t)).cell? ((⟨B, 0, none⟩ : Addr).add j) = some u := by
  subst hB
  exact news_six w cs t
theorem arsN_succ {its : List It} {k : Nat} {i : It} (h : its[k]? = some i) : arsN its (k + 1) = arsN its k + i.ar := by
  unfold arsN; rw [List.take_add_one, h]; simp
theorem good_bd {l : List It} {k : Nat} (h : ∀ x ∈ l.take k, GoodI x) (hl : l.length ≤ 60) : 0 ≤ basesN l k ∧ basesN l k ≤ 6000000 ∧ 0 ≤ arsN l k ∧ arsN l k ≤ 6000000 := by
  have h1 := sum_map_bd It.b 100000 (l.take k) (fun x hx => ⟨(h x hx).b0, (h x hx).b1⟩)
  have h2 := sum_map_bd It.ar 100000 (l.take k) (fun x hx => ⟨(h x hx).a0, (h x hx).a1⟩)
  have h3 : ((l.take k).length : Int) ≤ 60 := by rw [List.length_take]; omega
  unfold basesN arsN
  omega

set_option maxHeartbeats 4000000 in
set_option maxRecDepth 100000 in
theorem sums_law {w : World} {v : Value} {l : List It} (h : ItemsL w v l) (room gap : Int) :
    Calls Try.prog 4 #[v, .int .i64 room, .int .i64 gap] w fun e w' => e = .returned (.bool true) ∧ Below w.heap.size w w' := by
  obtain ⟨i0, hi, hz0, hz1, hz2⟩ := info_parts Try.infoItem
  have HI := hidF h
  obtain ⟨a, cap, rfl, hc1, hc2, hl⟩ := h
  have HL := hidF hl
  clear hl
  obtain ⟨n, hn⟩ : ∃ n, l.length = n := ⟨_, rfl⟩
  have HN := hidF hn
  rw [hn] at hc1 ⊢
  clear hn
  by_cases c0 : 0 < n ∧ n ≤ 60 ∧ 0 ≤ room ∧ room ≤ 16777216 ∧ 0 ≤ gap ∧ gap ≤ 1000
  · obtain ⟨n1, n2, r1, r2, g1, g2⟩ := c0
    have n1' : ((n : Int) == 0) = false := by simp; omega
    have n2' : ¬ (60 : Int) < (n : Int) := by omega
    have mb1 : 0 ≤ gap * ((n : Int) - 1) := Int.mul_nonneg g1 (by omega)
    have mb2 : gap * ((n : Int) - 1) ≤ 1000 * 60 := Int.le_trans (Int.mul_le_mul_of_nonneg_right g2 (by omega)) (Int.mul_le_mul_of_nonneg_left (by omega) (by omega))
    obtain ⟨gg, hgg⟩ : ∃ g, gap * ((n : Int) - 1) = g := ⟨_, rfl⟩
    rw [hgg] at mb1 mb2
    have WG : IntKind.i64.wrap gg = gg := wrapJ (by omega) (by omega)
    have HGG := hidF hgg
    go_enter Try.func4, Try.ntmps4
    go_wp2_with fail
    go_loopw [8, 9, 10] (fun us iv i wr => ∃ (k : Nat) (u : Int), k ≤ n ∧ i = .int .i64 k ∧ us = .int .i64 u ∧ Hid (u = gg + basesN l k + arsN l k ∧ (∀ x ∈ l.take k, GoodI x) ∧ Below w.heap.size w wr ∧ wr.ownsRow w.heap.size 26 6 iv k (itsC ((l.take k).map lawI)))) (fun _ _ i _ => n - (intV i).toNat)
    case atStart => exact ⟨0, _, Nat.zero_le _, rfl, rfl, by simp [basesN, arsN], by simp, Below.refl _ _, World.ownsRow_nil _ _ _ _⟩
    case round =>
      obtain ⟨k, u, hk, rfl, rfl, HZ⟩ := hrel
      obtain ⟨q1, q2, q3, q4⟩ := good_bd HZ.out.2.1 (by rw [HN.out]; exact n2)
      have u1 : 0 ≤ u := by have := HZ.out.1; omega
      have u2 : u ≤ 20000000 := by have := HZ.out.1; omega
      by_cases hlt : k < n
      · obtain ⟨x, hx⟩ : ∃ x, l[k]? = some x := ⟨_, List.getElem?_eq_getElem (by rw [HN.out]; exact hlt)⟩
        obtain ⟨b, o, rfl, hit⟩ := HL.out k x hx
        obtain ⟨x1, x2, x3, x4, x5, x6, x7⟩ := hit.below HZ.out.2.2.1
        have i1 : (0 : Int) ≤ (k : Int) := by omega
        have i2 : (k : Int) < (n : Int) := by omega
        have x1' : b < wr.heap.size + 1 := by omega
        have B1 := hidF (fun ob => HZ.out.2.2.1.alloc (o := ob) HZ.out.2.2.1.size)
        have HT : Hid ((l.take (k + 1)).map lawI = (l.take k).map lawI ++ [lawI x]) := by
          show _ = _
          rw [List.take_add_one, hx]; simp
        have HS : Hid (GoodI x → (basesN l (k + 1) = basesN l k + x.b ∧ arsN l (k + 1) = arsN l k + x.ar ∧ ∀ y ∈ l.take (k + 1), GoodI y)) := by
          intro hgx
          refine ⟨basesN_succ hx, arsN_succ hx, fun y hy => ?_⟩
          rw [List.take_add_one, hx] at hy
          rcases List.mem_append.1 hy with e | e
          · exact HZ.out.2.1 y e
          · obtain rfl : y = x := by simpa using e
            exact hgx
        clear hit hx q1 q2 q3 q4
        obtain ⟨xb, xmn, xmx, xar, xgr, xsh⟩ := x
        simp only [lawI] at x2 x3 x4 x5 x6 x7 HT
        by_cases ok : 0 ≤ xb ∧ xb ≤ 100000 ∧ 0 ≤ xar ∧ xar ≤ 100000 ∧ 1000 ≤ xgr ∧ xgr ≤ 1000000000
        · obtain ⟨o1, o2, o3, o4, o5, o6⟩ := ok
          have HS2 := hidF (HS.out ⟨o1, o2, o3, o4, o5, o6⟩)
          have H9 := hidF (fun ob => And.intro (HZ.out.2.2.1.alloc (o := ob) HZ.out.2.2.1.size) (HZ.out.2.2.2.alloc ob))
          go_wp2_with (at_builtin; refine wpList_append_own_at _ rfl (.tmp 87) (.tmp 97) 27 rfl w.heap.size 26 i0 _ 6 48 Try.underlying27 hi hz0 hz1 hz2 rfl (by decide) _ _ _ rfl ((H9.out _).2.alloc _) ⟨_, 0, none⟩ 1 1 [.int .i64 xb, .int .i64 0, .int .i64 (-1), .int .i64 xar, .int .i64 xgr, .int .i64 xsh] rfl rfl (fun j u hj => news_sixL _ _ _ _ (by simp) j u hj) (by simp [Value.oneCell']) (by unfold maxLen; omega) (by omega) (by have := HZ.out.2.2.1.size; simp; omega) ?_; intro v1 w1 hv1 hg1 hx1 hx2; clear hx1 hx2; have H3 := hidF (And.intro (((H9.out _).1.alloc (H9.out _).1.size _).grown hg1 (by have := HZ.out.2.2.1.size; simp; omega) (fun q hq => (HZ.out.2.2.2.lt q hq).1)) hv1); clear hv1 hg1)
          go_roundw
          case rel =>
            go_light
            refine ⟨k + 1, _, by omega, by go_num, rfl, ?_, HS2.out.2.2, H3.out.1, ?_⟩
            · rw [HS2.out.1, HS2.out.2.1, HZ.out.1]; simp only; omega
            · rw [HT.out, itsC_snoc]
              exact H3.out.2
          case measure => simp [intV]; omega
        · have OK := hidF ok
          clear ok
          go_wp2_with fail
          all_goals first
            | (exfalso; exact OK.out ⟨by omega, by omega, by omega, by omega, by omega, by omega⟩)
            | (go_returns; exact ⟨rfl, B1.out _⟩)
      · obtain rfl : k = n := by omega
        have hgd : ∀ x ∈ l, GoodI x := by
          have := HZ.out.2.1
          rwa [List.take_of_length_le (by rw [HN.out]; exact Nat.le_refl _)] at this
        have hrow : wr.ownsRow w.heap.size 26 6 u9 (l.map lawI).length (itsC (l.map lawI)) := by
          have := HZ.out.2.2.2
          rw [List.take_of_length_le (by rw [HN.out]; exact Nat.le_refl _)] at this
          rw [List.length_map, HN.out]
          exact this
        have SH := hidF (share_any (own_items hrow) room gap)
        have hsl : (sharedN (l.map lawI) room gap).length = k := by rw [shared_len, List.length_map, HN.out]; omega
        have HSZ : Hid (u < room → (sharedN (l.map lawI) room gap).sum + arsN l k + gg = room ∧ ∀ (j : Nat) (x : It), l[j]? = some x → ∃ o, (sharedN (l.map lawI) room gap)[j]? = some o ∧ x.b ≤ o) := by
          intro hu
          have := law_sizes hgd (by rw [HN.out]; exact n2) room gap r1 r2 g1 g2 (by rw [HN.out]; exact n1) (by rw [HN.out, HGG.out]; have := HZ.out.1; omega)
          rw [HN.out, HGG.out] at this
          exact this
        have HGD := hidF hgd
        obtain ⟨ou, hou⟩ : ∃ o, sharedN (l.map lawI) room gap = o := ⟨_, rfl⟩
        rw [hou] at SH hsl HSZ
        have HSL := hidF hsl
        have B0 := hidF HZ.out.2.2.1
        clear hgd hrow hsl hou HZ hk hlt
        go_wp2_with fail
        refine SH.out.mono ?_
        rintro e w2 ⟨v2, rfl, hI2, hb2⟩
        have B2 := hidF (B0.out.trans (hb2.mono B0.out.size))
        obtain ⟨oa, oc, rfl, oc1, oc2, hor⟩ := hI2
        rw [HSL.out] at oc1 ⊢
        have HOR := hidF hor
        clear hb2 hor SH
        by_cases hu : u < room
        · have hu' : ¬ u ≥ room := by omega
          obtain ⟨hsum, hge⟩ := HSZ.out hu
          have HSUM := hidF hsum
          have HGE := hidF hge
          have OB : Hid (∀ j, 0 ≤ (ou.take j).sum ∧ (ou.take j).sum ≤ 20000000) := by
            intro j
            have hpos : ∀ y ∈ ou, 0 ≤ y ∧ y ≤ 1000000000000 ∨ 0 ≤ y := fun y hy => by
              obtain ⟨j9, hj9⟩ := List.getElem?_of_mem hy
              have hjl : j9 < k := by rw [← HSL.out]; exact (List.getElem?_eq_some_iff.1 hj9).1
              obtain ⟨x, hx⟩ : ∃ x, l[j9]? = some x := ⟨_, List.getElem?_eq_getElem (by rw [HN.out]; exact hjl)⟩
              obtain ⟨o9, ho9, hle⟩ := HGE.out j9 x hx
              rw [hj9] at ho9
              cases ho9
              have := (HGD.out x (List.mem_of_getElem? hx)).b0
              right; omega
            have hnn : ∀ m : List Int, (∀ y ∈ m, y ∈ ou) → 0 ≤ m.sum := by
              intro m hm
              induction m with
              | nil => simp
              | cons y r ih =>
                rw [List.sum_cons]
                have h1 := hpos y (hm y (List.mem_cons_self ..))
                have h2 := ih (fun z hz => hm z (List.mem_cons_of_mem _ hz))
                omega
            have h1 := hnn (ou.take j) (fun y hy => List.mem_of_mem_take hy)
            have h2 := hnn (ou.drop j) (fun y hy => List.mem_of_mem_drop hy)
            have e : ou.sum = (ou.take j).sum + (ou.drop j).sum := by rw [← List.sum_append, List.take_append_drop]
            have hb := good_bd (l := l) (k := k) (fun x hx => HGD.out x (List.mem_of_mem_take hx)) (by rw [HN.out]; exact n2)
            have := HSUM.out
            omega
          have AB : Hid (∀ j, 0 ≤ arsN l j ∧ arsN l j ≤ 6000000) := fun j => by
            have := good_bd (l := l) (k := j) (fun x hx => HGD.out x (List.mem_of_mem_take hx)) (by rw [HN.out]; exact n2)
            omega
          clear hsum hge HSZ
          go_wp2_with fail
          go_loopw [13, 14] (fun sv i wr => ∃ (j : Nat) (s : Int), j ≤ k ∧ i = .int .i64 j ∧ sv = .int .i64 s ∧ Hid (s = gg + (ou.take j).sum + arsN l j ∧ Below w2.heap.size w2 wr)) (fun _ i _ => k - (intV i).toNat)
          case atStart => exact ⟨0, _, Nat.zero_le _, rfl, rfl, by simp [arsN], Below.refl _ _⟩
          case round =>
            obtain ⟨j, s, hj, rfl, rfl, HZ⟩ := hrel
            have ob := OB.out j
            have ab := AB.out j
            have s1 : 0 ≤ s := by have := HZ.out.1; omega
            have s2 : s ≤ 40000000 := by have := HZ.out.1; omega
            clear ob ab
            by_cases hlt : j < k
            · obtain ⟨x, hx⟩ : ∃ x, l[j]? = some x := ⟨_, List.getElem?_eq_getElem (by rw [HN.out]; exact hlt)⟩
              obtain ⟨oj, hoj, hle⟩ := HGE.out j x hx
              obtain ⟨ob, oo, rfl, ol, oc9⟩ := HOR.out j oj hoj
              obtain ⟨b, o, rfl, hit⟩ := HL.out j x hx
              have c1 := (HZ.out.2.cell (p := ⟨ob, oo + j, none⟩) ol).trans oc9
              have ol2 : ob < wr.heap.size := Nat.lt_of_lt_of_le ol HZ.out.2.size
              obtain ⟨x1, x2, x3, x4, x5, x6, x7⟩ := (hit.below B2.out).below HZ.out.2
              have gx := HGD.out x (List.mem_of_getElem? hx)
              have HS1 : Hid ((ou.take (j + 1)).sum = (ou.take j).sum + oj) := by
                show _ = _
                rw [List.take_add_one, hoj]; simp
              have HS2 := hidF (arsN_succ hx)
              have ob1 := OB.out (j + 1)
              rw [HS1.out] at ob1
              have ob0 := OB.out j
              have oj1 : 0 ≤ oj := by have := gx.b0; omega
              have oj2 : oj ≤ 20000000 := by omega
              have a0 := gx.a0
              have a1 := gx.a1
              have hle' : ¬ oj < x.b := by omega
              have i1 : (0 : Int) ≤ (j : Int) := by omega
              have i2 : (j : Int) < (k : Int) := by omega
              clear hx hoj oc9 hit gx ob1 ob0 hle
              obtain ⟨xb, xmn, xmx, xar, xgr, xsh⟩ := x
              simp only at x2 x5 HS2 a0 a1 hle'
              have W1 : IntKind.i64.wrap (s + oj) = s + oj := wrapJ (by omega) (by omega)
              have W2 : IntKind.i64.wrap (s + oj + xar) = s + oj + xar := wrapJ (by omega) (by omega)
              go_wp2_with fail
              go_quiet (fail)
              go_wp2_with fail
              go_quiet (fail)
              go_wp2_with fail
              go_roundw
              case rel =>
                go_light
                refine ⟨j + 1, s + oj + xar, by omega, by go_num, rfl, ?_, ?_⟩
                · rw [HS1.out, HS2.out, HZ.out.1]; omega
                · exact belD HZ.out.2 _
              case measure => simp [intV]; omega
            · obtain rfl : j = k := by omega
              have e : s = room := by
                rw [HZ.out.1, List.take_of_length_le (by rw [HSL.out]; exact Nat.le_refl _)]
                have := HSUM.out
                omega
              subst e
              have BF := hidF (B2.out.trans (HZ.out.2.mono B2.out.size))
              clear HZ
              go_wp2_with fail
              go_returns
              exact ⟨by simp, BF.out⟩
        · have hu' : u ≥ room := by omega
          go_wp2_with fail
          go_returns
          exact ⟨rfl, B2.out⟩
  · have OK := hidF c0
    clear c0
    go_enter Try.func4, Try.ntmps4
    go_wp2_with fail
    all_goals first
      | (exfalso; exact OK.out ⟨by omega, by omega, by omega, by omega, by omega, by omega⟩)
      | (go_returns; exact ⟨rfl, Below.refl _ _⟩)

end Go.Proofs.Ytdjagdifemhkpaa
