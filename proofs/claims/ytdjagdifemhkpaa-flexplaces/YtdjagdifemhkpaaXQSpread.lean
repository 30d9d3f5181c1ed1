/- The document's Spread, walked. -/
import Derived.Test.YtdjagdifemhkpaaXSpreadP
namespace Go.Proofs.Ytdjagdifemhkpaa
open Go.RowKit
set_option linter.unusedVariables false      -- bounds that are for the walk

theorem later3_one {left k n : Int} (h : ¬ 1 < n) (hk : k < n) (k0 : 0 ≤ k) : laterN left k n 3 = 0 := by
  unfold laterN
  obtain rfl : k = 0 := by omega
  rw [if_neg (by omega), if_neg (by omega)]
  split
  · rfl
  · rw [if_pos rfl]; simp
theorem later3_more {left k n : Int} (h : 1 < n) (h0 : ¬ left < 0) : laterN left k n 3 = left * k / (n - 1) := by
  unfold laterN
  rw [if_neg (by omega), if_neg (by omega), if_neg h0, if_pos rfl, show max (n - 1) 1 = n - 1 by omega]

structure SqAt (w wr : World) (pv : Value) (hs : List Int) (g : Int) (f : Nat → Int) (k : Nat) : Prop where
  below : Below w.heap.size w wr
  row : wr.ownsRow w.heap.size 3 1 pv k ((List.range k).map fun j => .int .i64 (begN hs g j + f j))

theorem SqAt.more {w wr W : World} {pv pv' : Value} {hs : List Int} {g : Int} {f : Nat → Int} {k : Nat} (h : SqAt w wr pv hs g f k) (hg : wr.grownBy W pv.ownBlock) (ho : W.ownsRow w.heap.size 3 1 pv' (k + 1) (((List.range k).map fun j => .int .i64 (begN hs g j + f j)) ++ [.int .i64 (begN hs g k + f k)])) : SqAt w W pv' hs g f (k + 1) := by
  have hne : ∀ b, pv.ownBlock = some b → w.heap.size ≤ b := fun b e => (h.row.lt b e).1
  refine ⟨h.below.grown hg h.below.size (fun b e => by have := hne b e; omega), ?_⟩
  rw [List.range_succ, List.map_append]
  exact ho
theorem SqAt.alloc {w wr : World} {pv : Value} {hs : List Int} {g : Int} {f : Nat → Int} {k : Nat} (h : SqAt w wr pv hs g f k) (o : Obj) : SqAt w (wr.alloc o) pv hs g f k :=
  ⟨h.below.alloc h.below.size o, h.row.alloc o⟩

set_option maxHeartbeats 4000000 in
set_option maxRecDepth 100000 in
theorem qspread_any {w : World} {v : Value} {l : List Int} (h : IntL w v l) (room gap how : Int) :
    Calls Try.prog 17 #[v, .int .i64 room, .int .i64 gap, .int .i64 how] w fun e w' => ∃ v', e = .returned v' ∧ w'.ownsRow w.heap.size 3 1 v' (spreadN l room gap how).length ((spreadN l room gap how).map (Value.int .i64)) ∧ Below w.heap.size w w' := by
  obtain ⟨i0, hi, hz0, hz1, hz2⟩ := info_parts Try.infoInt
  obtain ⟨a, cap, rfl, hc1, hc2, hl⟩ := h
  obtain ⟨r1, r2⟩ := heldN_bd room
  obtain ⟨g1, g2⟩ := heldN_bd gap
  have HL := hidF hl
  have SM := hidF (cutN_small l)
  have hlen := cutN_len l
  obtain ⟨rm, hrm⟩ : ∃ r, heldN room = r := ⟨_, rfl⟩
  obtain ⟨g, hg⟩ : ∃ g, heldN gap = g := ⟨_, rfl⟩
  obtain ⟨hs, hhs⟩ : ∃ hs, cutN l = hs := ⟨_, rfl⟩
  have HS := hidF hhs
  have HR := hidF hrm
  have HG := hidF hg
  have HSP : Hid (spreadN l room gap how = (List.range hs.length).map fun (k : Nat) => begN hs g k + laterN (leftN hs rm g) k hs.length how) := by
    show _ = _
    unfold spreadN; rw [hhs, hrm, hg]
  rw [hrm] at r1 r2
  rw [hg] at g1 g2
  rw [hhs] at SM hlen
  obtain ⟨n, hn⟩ : ∃ n, hs.length = n := ⟨_, rfl⟩
  have hn200 : n ≤ 200 := by omega
  have HN := hidF hn
  have hnl : n ≤ l.length := by omega
  have HGAP : Hid (∀ k : Nat, k < n → -3355443200 ≤ (k : Int) * g ∧ (k : Int) * g ≤ 3355443200) := fun k hk => nat_mul_bd k g (by omega) g1 g2
  have hmin : n = min l.length 200 := by omega
  clear hl hrm hg hhs hn hlen
  go_enter Try.func17, Try.ntmps17
  go_upto_if 19 with fail
  go_cut [9] (fun s wx => s = .int .i64 (n : Int) ∧ wx = w)
  case first =>
    by_cases hbig : l.length ≤ 200
    · have hb' : ¬ (200 : Int) < (l.length : Int) := by omega
      have he : (l.length : Int) = (n : Int) := by omega
      have HE := hidF he
      clear he
      go_wp2
      go_meet
      case rel => go_light; exact ⟨by rw [HE.out], rfl⟩
    · have hb' : (200 : Int) < (l.length : Int) := by omega
      have he : (200 : Int) = (n : Int) := by omega
      have HE := hidF he
      clear he
      go_wp2
      go_meet
      case rel => go_light; exact ⟨by rw [HE.out], rfl⟩
  case rest =>
  obtain ⟨rfl, hwx⟩ := hcut
  have hwx2 := hwx.symm
  clear hwx
  subst hwx2
  clear hmin
  go_wp2_with fail
  refine (qheld_any gap _).mono ?_
  rintro e wy ⟨rfl, hwy⟩
  have hwy2 := hwy.symm
  clear hwy
  subst hwy2
  rw [HG.out]
  go_wp2_with fail
  refine (qheld_any room _).mono ?_
  rintro e wy ⟨rfl, hwy⟩
  have hwy2 := hwy.symm
  clear hwy
  subst hwy2
  rw [HR.out]
  go_wp2_with fail
  go_loopw [10, 11] (fun lf i wr => ∃ (k : Nat) (z : Int), k ≤ n ∧ i = .int .i64 k ∧ lf = .int .i64 z ∧ wr = w ∧ Hid (z = rm - ((k - 1 : Nat) : Int) * g - (hs.take k).sum)) (fun _ i _ => n - (intV i).toNat)
  case atStart => exact ⟨0, _, Nat.zero_le _, rfl, rfl, rfl, by show _ = _; simp⟩
  case round =>
    obtain ⟨k, z, hk, rfl, rfl, hww, H⟩ := hrel
    have hww2 := hww.symm
    clear hww
    subst hww2
    by_cases hlt : k < n
    · have hkl : k < l.length := by omega
      obtain ⟨x, hx⟩ : ∃ x, l[k]? = some x := ⟨_, List.getElem?_eq_getElem hkl⟩
      obtain ⟨b, o, rfl, l1, e1⟩ := HL.out k x hx
      have hhx : hs[k]? = some (heldN x) := by
        rw [← HS.out]; unfold cutN
        rw [List.getElem?_map, List.getElem?_take_of_lt (by omega), hx]; rfl
      obtain ⟨x1, x2⟩ := heldN_bd x
      obtain ⟨u, hu⟩ : ∃ u, heldN x = u := ⟨_, rfl⟩
      rw [hu] at hhx x1 x2
      have HX := hidF hhx
      have HU := hidF hu
      have i1 : (0 : Int) ≤ (k : Int) := by omega
      have i2 : (k : Int) < (l.length : Int) := by omega
      have i3 : (k : Int) < (n : Int) := by omega
      obtain ⟨z1, z2⟩ := SM.out.sum_take k
      have zg := HGAP.out (k - 1) (by omega)
      have zb1 : -6727663616 ≤ z := by have := H.out; omega
      have zb2 : z ≤ 6727663616 := by have := H.out; omega
      clear hx hhx hu z1 z2 zg
      go_wp2_with fail
      refine (qheld_any x _).mono ?_
      rintro e W ⟨rfl, hW9⟩
      subst hW9
      rw [HU.out]
      rcases Nat.eq_zero_or_pos k with hk0 | hk0
      · subst hk0
        have H9 : Hid (z - u = rm - ((1 - 1 : Nat) : Int) * g - (hs.take 1).sum) := by
          show _ = _
          rw [sum_take_succ HX.out, H.out]
          simp
        go_wp2_with fail
        go_roundw
        case rel => go_light; exact ⟨1, _, by omega, by go_num, rfl, by trivial, H9.out⟩
        case measure => simp [intV]; omega
      · have hk1 : (0 : Int) < (k : Int) := by omega
        have H9 : Hid (z - u - g = rm - ((k + 1 - 1 : Nat) : Int) * g - (hs.take (k + 1)).sum) := by
          show _ = _
          rw [sum_take_succ HX.out, H.out]
          obtain ⟨q, rfl⟩ : ∃ q, k = q + 1 := ⟨k - 1, by omega⟩
          simp only [Nat.add_sub_cancel]
          have : ((q + 1 : Nat) : Int) * g = q * g + g := by rw [Int.natCast_add, Int.add_mul]; simp
          rw [this]; omega
        go_wp2_with fail
        go_roundw
        case rel => go_light; exact ⟨k + 1, _, by omega, by go_num, rfl, by trivial, H9.out⟩
        case measure => simp [intV]; omega
    · obtain rfl : k = n := by omega
      have HZ : Hid (z = leftN hs rm g) := by
        show _ = _
        unfold leftN
        rw [HN.out, max_nat, H.out, List.take_of_length_le (by rw [HN.out]; exact Nat.le_refl _)]
      obtain ⟨z1, z2⟩ := SM.out.sum_take k
      have zb1 : -6727663616 ≤ z := by
        have e := H.out
        rcases Nat.eq_zero_or_pos k with hk0 | hk0
        · subst hk0; simp at e; omega
        · have zg := HGAP.out (k - 1) (by omega); omega
      have zb2 : z ≤ 6727663616 := by
        have e := H.out
        rcases Nat.eq_zero_or_pos k with hk0 | hk0
        · subst hk0; simp at e; omega
        · have zg := HGAP.out (k - 1) (by omega); omega
      clear H z1 z2 hk hlt
      go_wp2_with fail
      go_loopw [12, 13, 14] (fun pv at_ i w2 => ∃ (j : Nat) (y : Int), j ≤ k ∧ i = .int .i64 j ∧ at_ = .int .i64 y ∧ Hid (y = begN hs g j ∧ SqAt w w2 pv hs g (fun j => laterN z j k how) j)) (fun _ _ i _ => k - (intV i).toNat)
      case atStart => exact ⟨0, 0, Nat.zero_le _, rfl, rfl, by simp [begN], ⟨Below.refl _ _, World.ownsRow_nil _ _ _ _⟩⟩
      case round =>
        obtain ⟨j, y, hj, rfl, rfl, H⟩ := hrel
        by_cases hlt : j < k
        · have hkl : j < l.length := by omega
          obtain ⟨x, hx⟩ : ∃ x, l[j]? = some x := ⟨_, List.getElem?_eq_getElem hkl⟩
          obtain ⟨b, o, rfl, l1, e1⟩ := HL.out j x hx
          have hhx : hs[j]? = some (heldN x) := by
            rw [← HS.out]; unfold cutN
            rw [List.getElem?_map, List.getElem?_take_of_lt (by omega), hx]; rfl
          obtain ⟨x1, x2⟩ := heldN_bd x
          obtain ⟨u, hu⟩ : ∃ u, heldN x = u := ⟨_, rfl⟩
          rw [hu] at hhx x1 x2
          have HX := hidF hhx
          have HU := hidF hu
          have e1a := hidF e1
          have i1 : (0 : Int) ≤ (j : Int) := by omega
          have i2 : (j : Int) < (l.length : Int) := by omega
          have i3 : (j : Int) < (k : Int) := by omega
          obtain ⟨y1, y2⟩ := SM.out.beg g1 g2 j (by omega)
          rw [← H.out.1] at y1 y2
          clear hx hhx hu e1
          by_cases h1 : how = 1
          · subst h1
            have HT : Hid (laterN z j k 1 = z) := by
              show _ = _
              rfl
            have E0 : Hid (begN hs g j + laterN z j k 1 = y + z) := by show _ = _; rw [HT.out, ← H.out.1]
            go_wp2_with (at_builtin; refine wpList_append_own_at _ rfl (.tmp 96) (.tmp 100) 23 rfl w.heap.size 3 i0 (.int .i64 0) 1 8 Try.underlying23 hi hz0 hz1 hz2 rfl (by decide) _ _ _ rfl (H.out.2.row.alloc _) ⟨_, 0, none⟩ 1 1 [.int .i64 (y + z)] rfl rfl (cell_one_new _ _ _) (by simp [Value.oneCell']) (by unfold maxLen; omega) (by omega) (by have := H.out.2.below.size; simp; omega) ?_; intro v1 w1 hv1 hg1 hx1 hx2; clear hx1 hx2; have H3 := hidF (SqAt.more (H.out.2.alloc _) hg1 (by simp only [E0.out]; exact hv1)); clear hv1 hg1; have c3 := (H3.out.below.cell (p := ⟨b, o + j, none⟩) l1).trans e1a.out; have c4 : b < w1.heap.size := Nat.lt_of_lt_of_le l1 H3.out.below.size)
            refine (qheld_any x _).mono ?_
            rintro e W ⟨rfl, hW9⟩
            subst hW9
            rw [HU.out]
            go_wp2_with fail
            go_roundw
            case rel =>
              go_light
              refine ⟨j + 1, _, by omega, by go_num, rfl, ?_, H3.out⟩
              rw [begN_succ HX.out, ← H.out.1]; omega
            case measure => simp [intV]; omega
          by_cases h2 : how = 2
          · subst h2
            have HT : Hid (laterN z j k 2 = z / 2) := by
              show _ = _
              rfl
            obtain ⟨t, ht⟩ : ∃ t, z / 2 = t := ⟨_, rfl⟩
            have HTT := hidF ht
            rw [ht] at HT
            have lb := laterN_bd z j k 2 (by omega) (by omega) i1 i3 (by omega)
            rw [HT.out] at lb
            obtain ⟨lb1, lb2⟩ := lb
            clear ht
            go_wp2_with fail
            refine (down_any z 2 (by omega) (by omega) (by omega) (by omega) _).mono ?_
            rintro e W ⟨rfl, hW9⟩
            subst hW9
            rw [HTT.out]
            have E0 : Hid (begN hs g j + laterN z j k 2 = y + t) := by show _ = _; rw [HT.out, ← H.out.1]
            go_wp2_with (at_builtin; refine wpList_append_own_at _ rfl (.tmp 96) (.tmp 100) 23 rfl w.heap.size 3 i0 (.int .i64 0) 1 8 Try.underlying23 hi hz0 hz1 hz2 rfl (by decide) _ _ _ rfl (H.out.2.row.alloc _) ⟨_, 0, none⟩ 1 1 [.int .i64 (y + t)] rfl rfl (cell_one_new _ _ _) (by simp [Value.oneCell']) (by unfold maxLen; omega) (by omega) (by have := H.out.2.below.size; simp; omega) ?_; intro v1 w1 hv1 hg1 hx1 hx2; clear hx1 hx2; have H3 := hidF (SqAt.more (H.out.2.alloc _) hg1 (by simp only [E0.out]; exact hv1)); clear hv1 hg1; have c3 := (H3.out.below.cell (p := ⟨b, o + j, none⟩) l1).trans e1a.out; have c4 : b < w1.heap.size := Nat.lt_of_lt_of_le l1 H3.out.below.size)
            refine (qheld_any x _).mono ?_
            rintro e W ⟨rfl, hW9⟩
            subst hW9
            rw [HU.out]
            go_wp2_with fail
            go_roundw
            case rel =>
              go_light
              refine ⟨j + 1, _, by omega, by go_num, rfl, ?_, H3.out⟩
              rw [begN_succ HX.out, ← H.out.1]; omega
            case measure => simp [intV]; omega
          by_cases h3 : how = 3
          · subst h3
            by_cases h0 : z < 0
            · have h0' : ¬ 0 ≤ z := by omega
              have HT : Hid (laterN z j k 3 = 0) := by
                show _ = _
                unfold laterN; rw [if_neg (by omega), if_neg (by omega), if_pos h0]
              have E0 : Hid (begN hs g j + laterN z j k 3 = y) := by show _ = _; rw [HT.out, ← H.out.1]; omega
              go_wp2_with (at_builtin; refine wpList_append_own_at _ rfl (.tmp 96) (.tmp 100) 23 rfl w.heap.size 3 i0 (.int .i64 0) 1 8 Try.underlying23 hi hz0 hz1 hz2 rfl (by decide) _ _ _ rfl (H.out.2.row.alloc _) ⟨_, 0, none⟩ 1 1 [.int .i64 (y)] rfl rfl (cell_one_new _ _ _) (by simp [Value.oneCell']) (by unfold maxLen; omega) (by omega) (by have := H.out.2.below.size; simp; omega) ?_; intro v1 w1 hv1 hg1 hx1 hx2; clear hx1 hx2; have H3 := hidF (SqAt.more (H.out.2.alloc _) hg1 (by simp only [E0.out]; exact hv1)); clear hv1 hg1; have c3 := (H3.out.below.cell (p := ⟨b, o + j, none⟩) l1).trans e1a.out; have c4 : b < w1.heap.size := Nat.lt_of_lt_of_le l1 H3.out.below.size)
              refine (qheld_any x _).mono ?_
              rintro e W ⟨rfl, hW9⟩
              subst hW9
              rw [HU.out]
              go_wp2_with fail
              go_roundw
              case rel =>
                go_light
                refine ⟨j + 1, _, by omega, by go_num, rfl, ?_, H3.out⟩
                rw [begN_succ HX.out, ← H.out.1]; omega
              case measure => simp [intV]; omega
            · have h0' : 0 ≤ z := by omega
              by_cases hn1 : (1 : Int) < (k : Int)
              · obtain ⟨m1, m2⟩ := mul_bd h0' zb2 i1 (show (j : Int) ≤ 200 by omega)
                have HT : Hid (laterN z j k 3 = z * j / (k - 1)) := by
                  show _ = _
                  exact later3_more hn1 h0
                obtain ⟨t, ht⟩ : ∃ t, z * j / (k - 1) = t := ⟨_, rfl⟩
                have HTT := hidF ht
                rw [ht] at HT
                have lb := laterN_bd z j k 3 (by omega) (by omega) i1 i3 (by omega)
                rw [HT.out] at lb
                obtain ⟨lb1, lb2⟩ := lb
                clear ht
                go_wp2_with fail
                refine (down_any (z * j) (k - 1) (by omega) (by omega) (by omega) (by omega) _).mono ?_
                rintro e W ⟨rfl, hW9⟩
                subst hW9
                rw [HTT.out]
                have E0 : Hid (begN hs g j + laterN z j k 3 = y + t) := by show _ = _; rw [HT.out, ← H.out.1]
                go_wp2_with (at_builtin; refine wpList_append_own_at _ rfl (.tmp 96) (.tmp 100) 23 rfl w.heap.size 3 i0 (.int .i64 0) 1 8 Try.underlying23 hi hz0 hz1 hz2 rfl (by decide) _ _ _ rfl (H.out.2.row.alloc _) ⟨_, 0, none⟩ 1 1 [.int .i64 (y + t)] rfl rfl (cell_one_new _ _ _) (by simp [Value.oneCell']) (by unfold maxLen; omega) (by omega) (by have := H.out.2.below.size; simp; omega) ?_; intro v1 w1 hv1 hg1 hx1 hx2; clear hx1 hx2; have H3 := hidF (SqAt.more (H.out.2.alloc _) hg1 (by simp only [E0.out]; exact hv1)); clear hv1 hg1; have c3 := (H3.out.below.cell (p := ⟨b, o + j, none⟩) l1).trans e1a.out; have c4 : b < w1.heap.size := Nat.lt_of_lt_of_le l1 H3.out.below.size)
                refine (qheld_any x _).mono ?_
                rintro e W ⟨rfl, hW9⟩
                subst hW9
                rw [HU.out]
                go_wp2_with fail
                go_roundw
                case rel =>
                  go_light
                  refine ⟨j + 1, _, by omega, by go_num, rfl, ?_, H3.out⟩
                  rw [begN_succ HX.out, ← H.out.1]; omega
                case measure => simp [intV]; omega
              · have HT : Hid (laterN z j k 3 = 0) := by
                  show _ = _
                  exact later3_one hn1 i3 i1
                have E0 : Hid (begN hs g j + laterN z j k 3 = y) := by show _ = _; rw [HT.out, ← H.out.1]; omega
                go_wp2_with (at_builtin; refine wpList_append_own_at _ rfl (.tmp 96) (.tmp 100) 23 rfl w.heap.size 3 i0 (.int .i64 0) 1 8 Try.underlying23 hi hz0 hz1 hz2 rfl (by decide) _ _ _ rfl (H.out.2.row.alloc _) ⟨_, 0, none⟩ 1 1 [.int .i64 (y)] rfl rfl (cell_one_new _ _ _) (by simp [Value.oneCell']) (by unfold maxLen; omega) (by omega) (by have := H.out.2.below.size; simp; omega) ?_; intro v1 w1 hv1 hg1 hx1 hx2; clear hx1 hx2; have H3 := hidF (SqAt.more (H.out.2.alloc _) hg1 (by simp only [E0.out]; exact hv1)); clear hv1 hg1; have c3 := (H3.out.below.cell (p := ⟨b, o + j, none⟩) l1).trans e1a.out; have c4 : b < w1.heap.size := Nat.lt_of_lt_of_le l1 H3.out.below.size)
                refine (qheld_any x _).mono ?_
                rintro e W ⟨rfl, hW9⟩
                subst hW9
                rw [HU.out]
                go_wp2_with fail
                go_roundw
                case rel =>
                  go_light
                  refine ⟨j + 1, _, by omega, by go_num, rfl, ?_, H3.out⟩
                  rw [begN_succ HX.out, ← H.out.1]; omega
                case measure => simp [intV]; omega
          by_cases h4 : how = 4
          · subst h4
            by_cases h0 : z < 0
            · have h0' : ¬ 0 ≤ z := by omega
              have HT : Hid (laterN z j k 4 = 0) := by
                show _ = _
                unfold laterN; rw [if_neg (by omega), if_neg (by omega), if_pos h0]
              have E0 : Hid (begN hs g j + laterN z j k 4 = y) := by show _ = _; rw [HT.out, ← H.out.1]; omega
              go_wp2_with (at_builtin; refine wpList_append_own_at _ rfl (.tmp 96) (.tmp 100) 23 rfl w.heap.size 3 i0 (.int .i64 0) 1 8 Try.underlying23 hi hz0 hz1 hz2 rfl (by decide) _ _ _ rfl (H.out.2.row.alloc _) ⟨_, 0, none⟩ 1 1 [.int .i64 (y)] rfl rfl (cell_one_new _ _ _) (by simp [Value.oneCell']) (by unfold maxLen; omega) (by omega) (by have := H.out.2.below.size; simp; omega) ?_; intro v1 w1 hv1 hg1 hx1 hx2; clear hx1 hx2; have H3 := hidF (SqAt.more (H.out.2.alloc _) hg1 (by simp only [E0.out]; exact hv1)); clear hv1 hg1; have c3 := (H3.out.below.cell (p := ⟨b, o + j, none⟩) l1).trans e1a.out; have c4 : b < w1.heap.size := Nat.lt_of_lt_of_le l1 H3.out.below.size)
              refine (qheld_any x _).mono ?_
              rintro e W ⟨rfl, hW9⟩
              subst hW9
              rw [HU.out]
              go_wp2_with fail
              go_roundw
              case rel =>
                go_light
                refine ⟨j + 1, _, by omega, by go_num, rfl, ?_, H3.out⟩
                rw [begN_succ HX.out, ← H.out.1]; omega
              case measure => simp [intV]; omega
            · have h0' : 0 ≤ z := by omega
              obtain ⟨m1, m2⟩ := mul_bd h0' zb2 (show (0 : Int) ≤ 2 * j + 1 by omega) (show (2 * j + 1 : Int) ≤ 401 by omega)
              have HT : Hid (laterN z j k 4 = z * (2 * j + 1) / (2 * k)) := by
                show _ = _
                unfold laterN; rw [if_neg (by omega), if_neg (by omega), if_neg h0]; simp
              obtain ⟨t, ht⟩ : ∃ t, z * (2 * j + 1) / (2 * k) = t := ⟨_, rfl⟩
              have HTT := hidF ht
              rw [ht] at HT
              have lb := laterN_bd z j k 4 (by omega) (by omega) i1 i3 (by omega)
              rw [HT.out] at lb
              obtain ⟨lb1, lb2⟩ := lb
              clear ht
              go_wp2_with fail
              refine (down_any (z * (2 * j + 1)) (2 * k) (by omega) (by omega) (by omega) (by omega) _).mono ?_
              rintro e W ⟨rfl, hW9⟩
              subst hW9
              rw [HTT.out]
              have E0 : Hid (begN hs g j + laterN z j k 4 = y + t) := by show _ = _; rw [HT.out, ← H.out.1]
              go_wp2_with (at_builtin; refine wpList_append_own_at _ rfl (.tmp 96) (.tmp 100) 23 rfl w.heap.size 3 i0 (.int .i64 0) 1 8 Try.underlying23 hi hz0 hz1 hz2 rfl (by decide) _ _ _ rfl (H.out.2.row.alloc _) ⟨_, 0, none⟩ 1 1 [.int .i64 (y + t)] rfl rfl (cell_one_new _ _ _) (by simp [Value.oneCell']) (by unfold maxLen; omega) (by omega) (by have := H.out.2.below.size; simp; omega) ?_; intro v1 w1 hv1 hg1 hx1 hx2; clear hx1 hx2; have H3 := hidF (SqAt.more (H.out.2.alloc _) hg1 (by simp only [E0.out]; exact hv1)); clear hv1 hg1; have c3 := (H3.out.below.cell (p := ⟨b, o + j, none⟩) l1).trans e1a.out; have c4 : b < w1.heap.size := Nat.lt_of_lt_of_le l1 H3.out.below.size)
              refine (qheld_any x _).mono ?_
              rintro e W ⟨rfl, hW9⟩
              subst hW9
              rw [HU.out]
              go_wp2_with fail
              go_roundw
              case rel =>
                go_light
                refine ⟨j + 1, _, by omega, by go_num, rfl, ?_, H3.out⟩
                rw [begN_succ HX.out, ← H.out.1]; omega
              case measure => simp [intV]; omega
          by_cases h5 : how = 5
          · subst h5
            by_cases h0 : z < 0
            · have h0' : ¬ 0 ≤ z := by omega
              have HT : Hid (laterN z j k 5 = 0) := by
                show _ = _
                unfold laterN; rw [if_neg (by omega), if_neg (by omega), if_pos h0]
              have E0 : Hid (begN hs g j + laterN z j k 5 = y) := by show _ = _; rw [HT.out, ← H.out.1]; omega
              go_wp2_with (at_builtin; refine wpList_append_own_at _ rfl (.tmp 96) (.tmp 100) 23 rfl w.heap.size 3 i0 (.int .i64 0) 1 8 Try.underlying23 hi hz0 hz1 hz2 rfl (by decide) _ _ _ rfl (H.out.2.row.alloc _) ⟨_, 0, none⟩ 1 1 [.int .i64 (y)] rfl rfl (cell_one_new _ _ _) (by simp [Value.oneCell']) (by unfold maxLen; omega) (by omega) (by have := H.out.2.below.size; simp; omega) ?_; intro v1 w1 hv1 hg1 hx1 hx2; clear hx1 hx2; have H3 := hidF (SqAt.more (H.out.2.alloc _) hg1 (by simp only [E0.out]; exact hv1)); clear hv1 hg1; have c3 := (H3.out.below.cell (p := ⟨b, o + j, none⟩) l1).trans e1a.out; have c4 : b < w1.heap.size := Nat.lt_of_lt_of_le l1 H3.out.below.size)
              refine (qheld_any x _).mono ?_
              rintro e W ⟨rfl, hW9⟩
              subst hW9
              rw [HU.out]
              go_wp2_with fail
              go_roundw
              case rel =>
                go_light
                refine ⟨j + 1, _, by omega, by go_num, rfl, ?_, H3.out⟩
                rw [begN_succ HX.out, ← H.out.1]; omega
              case measure => simp [intV]; omega
            · have h0' : 0 ≤ z := by omega
              obtain ⟨m1, m2⟩ := mul_bd h0' zb2 (show (0 : Int) ≤ j + 1 by omega) (show (j + 1 : Int) ≤ 201 by omega)
              have HT : Hid (laterN z j k 5 = z * (j + 1) / (k + 1)) := by
                show _ = _
                unfold laterN; rw [if_neg (by omega), if_neg (by omega), if_neg h0]; simp
              obtain ⟨t, ht⟩ : ∃ t, z * (j + 1) / (k + 1) = t := ⟨_, rfl⟩
              have HTT := hidF ht
              rw [ht] at HT
              have lb := laterN_bd z j k 5 (by omega) (by omega) i1 i3 (by omega)
              rw [HT.out] at lb
              obtain ⟨lb1, lb2⟩ := lb
              clear ht
              go_wp2_with fail
              refine (down_any (z * (j + 1)) (k + 1) (by omega) (by omega) (by omega) (by omega) _).mono ?_
              rintro e W ⟨rfl, hW9⟩
              subst hW9
              rw [HTT.out]
              have E0 : Hid (begN hs g j + laterN z j k 5 = y + t) := by show _ = _; rw [HT.out, ← H.out.1]
              go_wp2_with (at_builtin; refine wpList_append_own_at _ rfl (.tmp 96) (.tmp 100) 23 rfl w.heap.size 3 i0 (.int .i64 0) 1 8 Try.underlying23 hi hz0 hz1 hz2 rfl (by decide) _ _ _ rfl (H.out.2.row.alloc _) ⟨_, 0, none⟩ 1 1 [.int .i64 (y + t)] rfl rfl (cell_one_new _ _ _) (by simp [Value.oneCell']) (by unfold maxLen; omega) (by omega) (by have := H.out.2.below.size; simp; omega) ?_; intro v1 w1 hv1 hg1 hx1 hx2; clear hx1 hx2; have H3 := hidF (SqAt.more (H.out.2.alloc _) hg1 (by simp only [E0.out]; exact hv1)); clear hv1 hg1; have c3 := (H3.out.below.cell (p := ⟨b, o + j, none⟩) l1).trans e1a.out; have c4 : b < w1.heap.size := Nat.lt_of_lt_of_le l1 H3.out.below.size)
              refine (qheld_any x _).mono ?_
              rintro e W ⟨rfl, hW9⟩
              subst hW9
              rw [HU.out]
              go_wp2_with fail
              go_roundw
              case rel =>
                go_light
                refine ⟨j + 1, _, by omega, by go_num, rfl, ?_, H3.out⟩
                rw [begN_succ HX.out, ← H.out.1]; omega
              case measure => simp [intV]; omega
          have f1 : (how == 1) = false := by simpa using h1
          have f2 : (how == 2) = false := by simpa using h2
          have f3 : (how == 3) = false := by simpa using h3
          have f4 : (how == 4) = false := by simpa using h4
          have f5 : (how == 5) = false := by simpa using h5
          have HT : Hid (laterN z j k how = 0) := by
            show _ = _
            unfold laterN; rw [if_neg h1, if_neg h2]
            split
            · rfl
            · first | rfl | (rw [if_neg h3, if_neg h4, if_neg h5])
          have E0 : Hid (begN hs g j + laterN z j k how = y) := by show _ = _; rw [HT.out, ← H.out.1]; omega
          clear h1 h2 h3 h4 h5
          go_wp2_with (at_builtin; refine wpList_append_own_at _ rfl (.tmp 96) (.tmp 100) 23 rfl w.heap.size 3 i0 (.int .i64 0) 1 8 Try.underlying23 hi hz0 hz1 hz2 rfl (by decide) _ _ _ rfl (H.out.2.row.alloc _) ⟨_, 0, none⟩ 1 1 [.int .i64 (y)] rfl rfl (cell_one_new _ _ _) (by simp [Value.oneCell']) (by unfold maxLen; omega) (by omega) (by have := H.out.2.below.size; simp; omega) ?_; intro v1 w1 hv1 hg1 hx1 hx2; clear hx1 hx2; have H3 := hidF (SqAt.more (H.out.2.alloc _) hg1 (by simp only [E0.out]; exact hv1)); clear hv1 hg1; have c3 := (H3.out.below.cell (p := ⟨b, o + j, none⟩) l1).trans e1a.out; have c4 : b < w1.heap.size := Nat.lt_of_lt_of_le l1 H3.out.below.size)
          refine (qheld_any x _).mono ?_
          rintro e W ⟨rfl, hW9⟩
          subst hW9
          rw [HU.out]
          go_wp2_with fail
          go_roundw
          case rel =>
            go_light
            refine ⟨j + 1, _, by omega, by go_num, rfl, ?_, H3.out⟩
            rw [begN_succ HX.out, ← H.out.1]; omega
          case measure => simp [intV]; omega
        · obtain rfl : j = k := by omega
          go_wp2_with fail
          go_returns
          refine ⟨_, rfl, ?_, H.out.2.below⟩
          have hr := H.out.2.row
          rw [HSP.out, List.length_map, List.length_range, List.map_map, HN.out]
          refine (own_cong hr ?_)
          apply List.map_congr_left
          intro i hi
          simp only [Function.comp, HZ.out]
end Go.Proofs.Ytdjagdifemhkpaa
