/- Spread, walked. -/
import Derived.Test.YtdjagdifemhkpaaXPlaces
namespace Go.Proofs.Ytdjagdifemhkpaa
open Go.RowKit
set_option linter.unusedVariables false      -- bounds that are for the walk

theorem wrapI {p : Int} (h0 : -9000000000000000000 ≤ p) (h1 : p ≤ 9000000000000000000) : IntKind.i64.wrap p = p := by rw [IntKind.wrap_i64]; omega

theorem own_cong {w : World} {B : Nat} {e : TypeId} {sz n : Nat} {v : Value} {xs ys : List Value} (h : w.ownsRow B e sz v n xs) (he : xs = ys) : w.ownsRow B e sz v n ys := he ▸ h
theorem SpAt2.drew {w wr : World} {pa : Option Addr} {pc : Nat} {hs : List Int} {g : Int} {f : Nat → Int} {k : Nat} (h : SpAt2 w wr pa pc hs g f k) : SpAt2 w wr.drew pa pc hs g f k :=
  ⟨h.below.drew, h.row⟩
theorem laterN_bd (left k n how : Int) (l1 : -10000000000 ≤ left) (l2 : left ≤ 10000000000) (k1 : 0 ≤ k) (k2 : k < n) (n2 : n ≤ 200) : -10000000000 ≤ laterN left k n how ∧ laterN left k n how ≤ 5000000000000 := by
  unfold laterN
  split
  · omega
  split
  · omega
  split
  · omega
  have hl : 0 ≤ left := by omega
  have key : ∀ p q : Int, 0 ≤ p → p ≤ 5000000000000 → -10000000000 ≤ p / q ∧ p / q ≤ 5000000000000 ∨ q ≤ 0 := fun p q h0 h1 => by
    rcases Int.lt_or_le 0 q with hq | hq
    · exact .inl ⟨Int.le_trans (by omega) (Int.ediv_nonneg h0 (by omega)), Int.le_trans (Int.ediv_le_self q h0) h1⟩
    · exact .inr hq
  split
  · obtain ⟨b1, b2⟩ := mul_bd hl l2 k1 (show k ≤ 200 by omega)
    rcases key (left * k) (max (n - 1) 1) b1 (by omega) with h | h
    · exact h
    · omega
  split
  · obtain ⟨b1, b2⟩ := mul_bd hl l2 (show 0 ≤ 2 * k + 1 by omega) (show 2 * k + 1 ≤ 401 by omega)
    rcases key (left * (2 * k + 1)) (2 * n) b1 (by omega) with h | h
    · exact h
    · omega
  split
  · obtain ⟨b1, b2⟩ := mul_bd hl l2 (show 0 ≤ k + 1 by omega) (show k + 1 ≤ 201 by omega)
    rcases key (left * (k + 1)) (n + 1) b1 (by omega) with h | h
    · exact h
    · omega
  omega

set_option maxHeartbeats 4000000 in
set_option maxRecDepth 100000 in
theorem spread_any {w : World} {v : Value} {l : List Int} (h : IntL w v l) (room gap how : Int) :
    Calls Try.prog 15 #[v, .int .i64 room, .int .i64 gap, .int .i64 how] w fun e w' => ∃ v', e = .returned v' ∧ w'.ownsRow (w.heap.size + 3) 3 1 v' (spreadN l room gap how).length ((spreadN l room gap how).map (Value.int .i64)) ∧ Below w.heap.size w w' := by
  obtain ⟨i0, hi, hz0, hz1, hz2⟩ := info_parts Try.infoInt
  obtain ⟨a, cap, rfl, hc1, hc2, hl⟩ := h
  obtain ⟨r1, r2⟩ := heldN_bd room
  obtain ⟨g1, g2⟩ := heldN_bd gap
  have HL := hidF hl
  have SM := hidF (cutN_small l)
  have hlen := cutN_len l
  obtain ⟨rm, hrm⟩ : ∃ r, heldN room = r := ⟨_, rfl⟩
  obtain ⟨g, hg⟩ : ∃ g, heldN gap = g := ⟨_, rfl⟩
  obtain ⟨hs, hhs⟩ : ∃ hs, cutN l = hs := ⟨_, rfl⟩
  have HS := hidF hhs
  have HR := hidF hrm
  have HG := hidF hg
  have HSP : Hid (spreadN l room gap how = (List.range hs.length).map fun (k : Nat) => begN hs g k + laterN (leftN hs rm g) k hs.length how) := by
    show _ = _
    unfold spreadN; rw [hhs, hrm, hg]
  rw [hrm] at r1 r2
  rw [hg] at g1 g2
  rw [hhs] at SM hlen
  have HLEN := hidF hlen
  obtain ⟨n, hn⟩ : ∃ n, hs.length = n := ⟨_, rfl⟩
  have hn200 : n ≤ 200 := by omega
  have HN := hidF hn
  have hnl : n ≤ l.length := by omega
  have hmin : min l.length 200 = n := by omega
  obtain ⟨t1, t2⟩ := SM.out.gaps g1 g2
  rw [hn] at t1 t2
  obtain ⟨tg, htg⟩ : ∃ t, max ((n : Int) - 1) 0 * g = t := ⟨_, rfl⟩
  have HTG := hidF htg
  rw [htg] at t1 t2
  clear hl hrm hg hhs hlen hn htg
  have FI := hidF (firsts_any a l.length cap hc1 hc2)
  rw [hmin] at FI
  clear hmin
  go_enter Try.func15, Try.ntmps15
  go_wp2_with fail
  refine (hold_pre [(⟨w.heap.size, 0, none⟩, room), (⟨w.heap.size + 1, 0, none⟩, gap)] _ _ _ _ rfl (by simp) (by simp [HoldPre, go_sem]; omega)).mono ?_
  rintro e w' ⟨rfl, hw'⟩
  simp only [holdAll, HR.out, HG.out] at hw'
  have hb1 : Below w.heap.size w w' := by rw [hw']; go_grown
  have hz : w'.heap.size = w.heap.size + 3 := by rw [hw']; simp
  have q1 : w'.cell? ⟨w.heap.size, 0, none⟩ = some (.int .i64 rm) := by rw [hw']; go_simp
  have q2 : w'.cell? ⟨w.heap.size + 1, 0, none⟩ = some (.int .i64 g) := by rw [hw']; go_simp
  have HB1 := hidF hb1
  clear hw' hb1
  go_wp2_with fail
  refine (FI.out _).mono ?_
  rintro e w'' ⟨rfl, rfl⟩
  go_wp2_with fail
  go_quiet (exact Calls.quiet_of_same (gaps_any n g (by omega) (by omega) g1 g2 _))
  rw [HTG.out]
  go_wp2_with fail
  go_loopw [9, 10, 11, 27] (fun lf pv at_ i wr => ∃ (k : Nat) (z : Int) (y : Int), k ≤ n ∧ i = .int .i64 k ∧ lf = .int .i64 z ∧ at_ = .int .i64 y ∧ Hid (z = rm - tg - (hs.take k).sum ∧ y = begN hs g k ∧ SpAt1 w wr (w.heap.size + 1) g pv hs k)) (fun _ _ _ i _ => n - (intV i).toNat)
  case atStart =>
    refine ⟨0, _, _, Nat.zero_le _, rfl, rfl, rfl, (by simp; exact IntWalk.wrap64_in _ (by omega)), by simp [begN], ⟨?_, ?_, by omega, by omega, ?_, ?_⟩⟩
    · exact belD HB1.out _
    · exact q2
    · show _ ≤ w''.heap.size
      omega
    · exact World.ownsRow_nil _ _ _ _
  case round =>
    obtain ⟨k, z, y, hk, rfl, rfl, rfl, H⟩ := hrel
    by_cases hlt : k < n
    · have hkl : k < l.length := by omega
      obtain ⟨x, hx⟩ : ∃ x, l[k]? = some x := ⟨_, List.getElem?_eq_getElem hkl⟩
      obtain ⟨b, o, rfl, l1, e1⟩ := HL.out k x hx
      have hhx : hs[k]? = some (heldN x) := by
        rw [← HS.out]; unfold cutN
        rw [List.getElem?_map, List.getElem?_take_of_lt (by omega), hx]; rfl
      obtain ⟨x1, x2⟩ := heldN_bd x
      obtain ⟨u, hu⟩ : ∃ u, heldN x = u := ⟨_, rfl⟩
      rw [hu] at hhx x1 x2
      have HX := hidF hhx
      have HU := hidF hu
      have e2 := (H.out.2.2.below.cell (p := ⟨b, o + k, none⟩) l1).trans e1
      have e3 : b < wr.heap.size := Nat.lt_of_lt_of_le l1 H.out.2.2.below.size
      have e3' : b < wr.heap.size + 1 := by omega
      have i1 : (0 : Int) ≤ (k : Int) := by omega
      have i2 : (k : Int) < (n : Int) := by omega
      obtain ⟨z1, z2⟩ := SM.out.sum_take k
      have zb1 : -6727663616 ≤ z := by have := H.out.1; omega
      have zb2 : z ≤ 6727663616 := by have := H.out.1; omega
      obtain ⟨yb1, yb2⟩ := SM.out.beg g1 g2 k (by omega)
      rw [← H.out.2.1] at yb1 yb2
      clear hx hhx hu z1 z2 e1
      go_wp2_with fail
      refine (hold_pre [(⟨wr.heap.size, 0, none⟩, x)] _ _ _ _ rfl (by simp) (by simp [HoldPre, go_sem]; try omega)).mono ?_
      rintro e W ⟨rfl, hW⟩
      simp only [holdAll, HU.out] at hW
      have b1 : Below wr.heap.size wr W := by rw [hW]; go_grown
      have s1 : wr.heap.size < W.heap.size := by rw [hW]; simp; omega
      have c1 : W.cell? ⟨wr.heap.size, 0, none⟩ = some (.int .i64 u) := by rw [hW]; go_simp
      have H2 := hidF (H.out.2.2.held b1)
      have NE := hidF (fun (e : some wr.heap.size = u10.ownBlock) => Nat.lt_irrefl _ (H.out.2.2.row.lt _ e.symm).2)
      have c1a : ∀ o, (W.alloc o).cell? ⟨wr.heap.size, 0, none⟩ = some (.int .i64 u) := fun o => (World.cell?_of_block (a := ⟨wr.heap.size, 0, none⟩) (Below.heap_alloc W o _ (by show wr.heap.size < _; omega))).trans c1
      have H0 := hidF (And.intro H.out.1 H.out.2.1)
      clear hW b1 H e2
      go_wp2_with (at_builtin; refine wpList_append_own_at _ rfl (.tmp 33) (.tmp 35) 23 rfl (w.heap.size + 3) 3 i0 (.int .i64 0) 1 8 Try.underlying23 hi hz0 hz1 hz2 rfl (by decide) _ _ _ rfl (H2.out.row.alloc _) ⟨_, 0, none⟩ 1 1 [.int .i64 y] rfl rfl (cell_one_new _ _ _) (by simp [Value.oneCell']) (by unfold maxLen; omega) (by omega) (by have := H2.out.size; simp; omega) ?_; intro v1 w1 hv1 hg1 hx1 hx2; clear hx1 hx2; have H3 := hidF (SpAt1.more (H2.out.held ((Below.refl _ _).alloc (Nat.le_refl _) _)) hg1 (by rw [H0.out.2] at hv1; exact hv1)); have c2 := hg1.cell (a := ⟨wr.heap.size, 0, none⟩) (c1a _) NE.out; have c3 := H3.out.gap; clear hv1 hg1)
      go_roundw
      case rel =>
        go_light
        refine ⟨k + 1, _, _, by omega, by go_num, rfl, rfl, ?_, ?_, H3.out⟩
        · rw [sum_take_succ HX.out, H0.out.1]; omega
        · rw [begN_succ HX.out, ← H0.out.2]
      case measure => simp [intV]; omega
    · obtain rfl : k = n := by omega
      obtain ⟨e1, e2, H2⟩ := H.out
      obtain ⟨pa, pc, rfl, pc1, pc2⟩ : ∃ pa pc, u10 = .slice pa k pc ∧ k ≤ pc ∧ pc ≤ 9223372036854775807 := by
        obtain ⟨_, ⟨rfl, hn0⟩ | ⟨gg, cp, cur, hv, _, _, q1, q2, _⟩⟩ := H2.row
        · exact ⟨none, 0, by rw [hn0], by omega, by omega⟩
        · unfold maxLen at q2
          exact ⟨_, cp, hv, q1, by omega⟩
      have HZ : Hid (z = leftN hs rm g) := by
        show _ = _
        unfold leftN
        rw [HN.out, HTG.out, e1, List.take_of_length_le (by rw [HN.out]; exact Nat.le_refl _)]
      have H4 : Hid (SpAt2 w wr pa pc hs g (fun j => laterN z j k how) 0) := by
        refine ⟨H2.below, ?_⟩
        rw [HN.out]
        simpa using H2.row
      obtain ⟨z1, z2⟩ := SM.out.sum_take k
      have zb1 : -6727663616 ≤ z := by omega
      have zb2 : z ≤ 6727663616 := by omega
      clear H e1 e2 H2 z1 z2 hk hlt
      obtain ⟨w2, e2⟩ : ∃ w2, w2 = wr := ⟨_, rfl⟩
      subst e2
      go_wp2_with fail
      go_loopw [48] (fun i wr => ∃ (j : Nat), j ≤ k ∧ i = .int .i64 j ∧ Hid (SpAt2 w wr pa pc hs g (fun j => laterN z j k how) j)) (fun i _ => k - (intV i).toNat)
      case atStart => exact ⟨0, Nat.zero_le _, rfl, H4.out⟩
      case round =>
        obtain ⟨j, hj, rfl, H5⟩ := hrel
        by_cases hlt : j < k
        · obtain ⟨b, rfl, hb1, hb2, hb3, hb4, hb5, hb6⟩ := H5.out.at (by rw [HN.out]; exact hlt)
          have i1 : (0 : Int) ≤ (j : Int) := by omega
          have i2 : (j : Int) < (k : Int) := by omega
          obtain ⟨y1, y2⟩ := SM.out.beg g1 g2 j (by omega)
          obtain ⟨y, hy⟩ : ∃ y, begN hs g j = y := ⟨_, rfl⟩
          rw [hy] at y1 y2 hb3
          have HY := hidF hy
          obtain ⟨la, hla⟩ : ∃ t, laterN z j k how = t := ⟨_, rfl⟩
          have LA := hidF (fun W => later_any z j k how (by omega) (by omega) i1 i2 (by omega) W)
          have HLA := hidF hla
          rw [hla] at LA
          have lb := laterN_bd z j k how (by omega) (by omega) i1 i2 (by omega)
          rw [hla] at lb
          obtain ⟨lb1, lb2⟩ := lb
          clear hy hla
          go_wp2_with fail
          go_still_tail 12, (by kernel_rfl)
          still_call (LA.out _)
          repeat still_step
          refine wpStill_nil ?_
          go_wp2_with fail
          go_roundw
          case rel =>
            go_light
            refine ⟨j + 1, by omega, by go_num, ?_⟩
            rw [← HY.out, ← HLA.out]
            exact (SpAt2.next H5.out (by rw [HN.out]; exact hlt) hb2).drew
          case measure => simp [intV]; omega
        · obtain rfl : j = k := by omega
          go_wp2_with fail
          go_returns
          refine ⟨_, rfl, ?_, H5.out.below⟩
          have hr := H5.out.row
          rw [HSP.out, List.length_map, List.length_range, List.map_map, HN.out]
          rw [HN.out] at hr
          refine (own_cong hr ?_)
          apply List.map_congr_left
          intro i hi
          have hi' : i < j := List.mem_range.1 hi
          simp only [if_pos hi', Function.comp, HZ.out]
end Go.Proofs.Ytdjagdifemhkpaa
