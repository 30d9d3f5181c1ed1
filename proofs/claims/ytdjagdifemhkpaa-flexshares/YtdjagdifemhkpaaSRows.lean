/- Rows: how many items each row has; the program's. -/
import Derived.Test.YtdjagdifemhkpaaSShare
namespace Go.Proofs.Ytdjagdifemhkpaa
open Go.RowKit
set_option linter.unusedVariables false      -- bounds that are for the walk

/-- rows so far, and how wide the last one is -/
structure Ro where
  rows : List Int
  wide : Int
def rowS (room gap : Int) (wrap : Bool) (s : Ro) (i : It) : Ro :=
  if s.rows ≠ [] ∧ (wrap = false ∨ s.wide + gap + wantN i ≤ room) then ⟨s.rows.set (s.rows.length - 1) (s.rows.getD (s.rows.length - 1) 0 + 1), s.wide + (gap + wantN i)⟩ else ⟨s.rows ++ [1], wantN i⟩
def rowsN (room gap : Int) (wrap : Bool) (its : List It) : Ro := its.foldl (rowS room gap wrap) ⟨[], 0⟩
theorem rowsN_take {room gap : Int} {wrap : Bool} {its : List It} {k : Nat} {i : It} (h : its[k]? = some i) : rowsN room gap wrap (its.take (k + 1)) = rowS room gap wrap (rowsN room gap wrap (its.take k)) i := by
  rw [List.take_add_one, h]; simp [rowsN, List.foldl_append]

/-- how great the numbers may be -/
structure RoOk (k : Nat) (s : Ro) : Prop where
  len : s.rows.length ≤ k
  num : ∀ x ∈ s.rows, 0 ≤ x ∧ x ≤ (k : Int)
  w1 : -((k : Int) * 50331648) ≤ s.wide
  w2 : s.wide ≤ (k : Int) * 50331648
theorem rowS_ok {room gap : Int} {wrap : Bool} {s : Ro} {i : It} {k : Nat} (h : RoOk k s) (hi : i.Ok) (g1 : -16777216 ≤ gap) (g2 : gap ≤ 16777216) : RoOk (k + 1) (rowS room gap wrap s i) := by
  have hw : -33554432 ≤ wantN i ∧ wantN i ≤ 33554432 := by
    have := bndI_b hi; have := hi.ar0; have := hi.ar1
    unfold wantN; omega
  have hw1 := h.w1
  have hw2 := h.w2
  have hl := h.len
  unfold rowS
  split
  · rename_i hc
    refine ⟨by rw [List.length_set]; omega, fun x hx => ?_, by simp only; omega, by simp only; omega⟩
    rcases List.mem_or_eq_of_mem_set hx with hx | rfl
    · have := h.num x hx; omega
    · have hpos : 0 < s.rows.length := List.length_pos_iff.2 hc.1
      have hm : s.rows.getD (s.rows.length - 1) 0 ∈ s.rows := by
        rw [List.getD_eq_getElem?_getD, List.getElem?_eq_getElem (by omega)]
        exact List.getElem_mem _
      have := h.num _ hm
      omega
  · refine ⟨by rw [List.length_append]; simp; omega, fun x hx => ?_, by simp only; omega, by simp only; omega⟩
    rcases List.mem_append.1 hx with hx | hx
    · have := h.num x hx; omega
    · obtain rfl : x = 1 := by simpa using hx
      omega
theorem rowsN_ok {room gap : Int} {wrap : Bool} {its : List It} (h : ItsOk its) (g1 : -16777216 ≤ gap) (g2 : gap ≤ 16777216) : ∀ k, k ≤ its.length → RoOk k (rowsN room gap wrap (its.take k))
  | 0, _ => ⟨by simp [rowsN], fun x hx => by simp [rowsN] at hx, by simp [rowsN], by simp [rowsN]⟩
  | k + 1, hk => by
    obtain ⟨i, hi⟩ : ∃ i, its[k]? = some i := ⟨_, List.getElem?_eq_getElem (by omega)⟩
    rw [rowsN_take hi]
    exact rowS_ok (rowsN_ok h g1 g2 k (by omega)) (h.ok i (List.mem_of_getElem? hi)) g1 g2

/-- while rows are told, since the items lie there -/
structure RsAt (w wr : World) (rv : Value) (rs : List Int) : Prop where
  below : Below w.heap.size w wr
  row : wr.ownsRow w.heap.size 3 1 rv rs.length (rs.map (Value.int .i64))
theorem RsAt.held {w wr W : World} {rv : Value} {rs : List Int} (h : RsAt w wr rv rs) (hb : Below wr.heap.size wr W) : RsAt w W rv rs :=
  ⟨h.below.trans (hb.mono h.below.size), h.row.kept (row := none) ⟨hb.os, hb.tape, hb.output, hb.size, fun k hk _ => hb.block k hk⟩ (by cases rv.ownBlock <;> simp)⟩
theorem RsAt.more {w wr W : World} {rv rv' : Value} {rs : List Int} {x : Int} (h : RsAt w wr rv rs) (hg : wr.grownBy W rv.ownBlock) (ho : W.ownsRow w.heap.size 3 1 rv' (rs.length + 1) (rs.map (Value.int .i64) ++ [.int .i64 x])) : RsAt w W rv' (rs ++ [x]) := by
  refine ⟨h.below.grown hg h.below.size (fun b e => (h.row.lt b e).1), ?_⟩
  rw [List.length_append, List.map_append]
  exact ho
theorem RsAt.set {w wr : World} {g c k : Nat} {rs : List Int} {x : Int} (h : RsAt w wr (.slice (some ⟨g, 0, none⟩) rs.length c) rs) (hk : k < rs.length) : RsAt w (wr.setCell ⟨g, k, none⟩ (.int .i64 x)) (.slice (some ⟨g, 0, none⟩) rs.length c) (rs.set k x) := by
  have hg : w.heap.size ≤ g := (h.row.lt g rfl).1
  refine ⟨h.below.setCell hg _, ?_⟩
  have := own_setS h.row hk (.int .i64 x)
  rw [List.length_set, List.map_set]
  exact this
theorem RsAt.slice {w wr : World} {rv : Value} {rs : List Int} (h : RsAt w wr rv rs) : ∃ a c, rv = .slice a rs.length c ∧ rs.length ≤ c ∧ c ≤ 9223372036854775807 := by
  obtain ⟨hl, ⟨rfl, hn⟩ | ⟨g, cap, cur, rfl, hg, hh, h1, h2, h3, h4⟩⟩ := h.row
  · exact ⟨none, 0, by rw [hn], by omega, by omega⟩
  · unfold maxLen at h2
    exact ⟨_, cap, rfl, h1, by omega⟩
theorem RsAt.last {w wr : World} {rv : Value} {rs : List Int} (h : RsAt w wr rv rs) {k : Nat} (hk : k < rs.length) : ∃ g c, rv = .slice (some ⟨g, 0, none⟩) rs.length c ∧ rs.length ≤ c ∧ c ≤ 9223372036854775807 ∧ g < wr.heap.size ∧ wr.cell? ⟨g, k, none⟩ = some (.int .i64 (rs.getD k 0)) ∧ wr.frozen? ⟨g, k, none⟩ = false := by
  obtain ⟨hl, ⟨_, hn⟩ | ⟨g, cap, cur, rfl, hg, hh, h1, h2, h3, h4⟩⟩ := h.row
  · omega
  · unfold maxLen at h2
    refine ⟨g, cap, rfl, h1, by omega, ltH hh, ?_, by simp [World.frozen?, hh]⟩
    have e : (rs.map (Value.int .i64))[k]? = some (.int .i64 (rs.getD k 0)) := by
      rw [List.getElem?_map, List.getElem?_eq_getElem hk, List.getD_eq_getElem?_getD, List.getElem?_eq_getElem hk]; rfl
    rw [← h4, List.getElem?_take] at e
    rw [cell_of_row wr g _ _ _ _ hh]
    split at e
    · simpa using e
    · cases e

def toldN (l : List It) (room gap : Int) (wrap : Bool) : List Int := (rowsN (heldN room) (heldN gap) wrap (countN l)).rows

set_option maxHeartbeats 4000000 in
set_option maxRecDepth 100000 in
theorem rows_any {w : World} {v : Value} {l : List It} (h : ItemsL w v l) (room gap : Int) (wrap : Bool) :
    Calls Try.prog 11 #[v, .int .i64 room, .int .i64 gap, .bool wrap] w fun e w' => ∃ v', e = .returned v' ∧ IntL w' v' (toldN l room gap wrap) ∧ Below w.heap.size w w' := by
  obtain ⟨i0, hi, hz0, hz1, hz2⟩ := info_parts Try.infoInt
  obtain ⟨r1, r2⟩ := heldN_bd room
  obtain ⟨g1, g2⟩ := heldN_bd gap
  unfold toldN
  have HO := hidF (countN_ok l)
  obtain ⟨rm, hrm⟩ : ∃ r, heldN room = r := ⟨_, rfl⟩
  obtain ⟨gp, hgp⟩ : ∃ r, heldN gap = r := ⟨_, rfl⟩
  have HRM := hidF hrm
  have HGP := hidF hgp
  rw [hrm] at r1 r2 ⊢
  rw [hgp] at g1 g2 ⊢
  obtain ⟨its, hits⟩ : ∃ x, countN l = x := ⟨_, rfl⟩
  rw [hits] at HO ⊢
  have IT := hidF (fun (W : World) (hb : Below w.heap.size w W) => itemsOf_any (h.below hb))
  rw [show (l.take 200).map itN = its from hits] at IT
  obtain ⟨n, hn⟩ : ∃ n, its.length = n := ⟨_, rfl⟩
  have HN := hidF hn
  have hln := HO.out.len
  rw [hn] at hln
  have RK := hidF (fun k hk => rowsN_ok (room := rm) (gap := gp) (wrap := wrap) HO.out g1 g2 k hk)
  obtain ⟨a, cap, rfl, _, _, _⟩ := h
  clear hrm hgp hits hn
  go_enter Try.func11, Try.ntmps11
  go_wp2_with fail
  refine (hold_pre [(⟨w.heap.size, 0, none⟩, room), (⟨w.heap.size + 1, 0, none⟩, gap)] _ _ _ _ rfl (by simp) (by simp [HoldPre, go_sem]; omega)).mono ?_
  rintro e w1 ⟨rfl, hw1⟩
  simp only [holdAll, HRM.out, HGP.out] at hw1
  have hb1 : Below w.heap.size w w1 := by rw [hw1]; go_grown
  have hz : w.heap.size + 1 < w1.heap.size := by rw [hw1]; simp
  have hzz : w.heap.size < w1.heap.size := by omega
  have q1 : w1.cell? ⟨w.heap.size, 0, none⟩ = some (.int .i64 rm) := by rw [hw1]; go_simp
  have q2 : w1.cell? ⟨w.heap.size + 1, 0, none⟩ = some (.int .i64 gp) := by rw [hw1]; go_simp
  have B1 := hidF hb1
  clear hw1 hb1
  go_wp2_with fail
  refine (IT.out _ (by first | exact B1.out | exact B1.out.drew)).mono ?_
  rintro e w5 ⟨v5, rfl, hI5, hb5⟩
  have m0 : w5.cell? ⟨w.heap.size, 0, none⟩ = some (.int .i64 rm) := (hb5.cell (p := ⟨w.heap.size, 0, none⟩) hzz).trans q1
  have m1 : w5.cell? ⟨w.heap.size + 1, 0, none⟩ = some (.int .i64 gp) := (hb5.cell (p := ⟨w.heap.size + 1, 0, none⟩) hz).trans q2
  have B5 : Hid (Below w.heap.size w w5) := B1.out.trans (hb5.mono B1.out.size)
  have k5 : w1.heap.size ≤ w5.heap.size := hb5.size
  have n0 : w.heap.size < w5.heap.size := by omega
  have n1 : w.heap.size + 1 < w5.heap.size := by omega
  obtain ⟨a5, cap5, rfl, c1, c2, hl5⟩ := hI5
  rw [HN.out] at c1 ⊢
  have HL := hidF hl5
  clear hb5 hl5 q1 q2 hz hzz k5 B1 IT
  go_wp2_with fail
  go_loopw [9, 10, 20] (fun rv wv i wr => ∃ (k : Nat) (z : Int) (rs : List Int), k ≤ n ∧ i = .int .i64 k ∧ wv = .int .i64 z ∧ Hid (rowsN rm gp wrap (its.take k) = ⟨rs, z⟩ ∧ RsAt w5 wr rv rs)) (fun _ _ i _ => n - (intV i).toNat)
  case atStart => exact ⟨0, 0, [], Nat.zero_le _, rfl, rfl, rfl, by first | exact Below.refl _ _ | exact (Below.refl _ _).drew, World.ownsRow_nil _ _ _ _⟩
  case round =>
    obtain ⟨k, z, rs, hk, rfl, rfl, HZ⟩ := hrel
    by_cases hlt : k < n
    · obtain ⟨x, hx⟩ : ∃ x, its[k]? = some x := ⟨_, List.getElem?_eq_getElem (by rw [HN.out]; exact hlt)⟩
      obtain ⟨b, o, rfl, hit⟩ := HL.out k x hx
      obtain ⟨x1, x2, x3, x4, x5, x6, x7⟩ := hit.below HZ.out.2.below
      have hok := HO.out.ok x (List.mem_of_getElem? hx)
      have WA := hidF (fun W => want_any hok W)
      have rk := RK.out k (by rw [HN.out]; exact hk)
      rw [HZ.out.1] at rk
      have z1 : -10066329600 ≤ z := by have := rk.w1; simp only at this; omega
      have z2 : z ≤ 10066329600 := by have := rk.w2; simp only at this; omega
      have rl : rs.length ≤ 200 := by have := rk.len; simp only at this; omega
      have RN := hidF rk.num
      have wb : -33554432 ≤ wantN x ∧ wantN x ≤ 33554432 := by
        have := bndI_b hok; have := hok.ar0; have := hok.ar1
        unfold wantN; omega
      have HS := hidF ((rowsN_take (room := rm) (gap := gp) (wrap := wrap) hx).trans (by rw [HZ.out.1]))
      unfold rowS at HS
      obtain ⟨wn, hwn⟩ : ∃ t, wantN x = t := ⟨_, rfl⟩
      rw [hwn] at WA wb HS
      obtain ⟨wb1, wb2⟩ := wb
      have i1 : (0 : Int) ≤ (k : Int) := by omega
      have i2 : (k : Int) < (n : Int) := by omega
      have x1' : b < wr.heap.size + 1 := by omega
      clear hit hx hok hwn rk
      obtain ⟨xb, xmn, xmx, xar, xgr, xsh⟩ := x
      unfold itV at WA
      simp only at x2 x3 x4 x5 x6 x7 WA HS RN
      go_wp2_with fail
      refine (WA.out _).mono ?_
      rintro e w2 ⟨rfl, hb2⟩
      have R2 := hidF (HZ.out.2.held (Below.trans ((Below.refl wr.heap.size wr).alloc (Nat.le_refl _) _) (hb2.mono (by simp))))
      have d0 : w2.cell? ⟨w.heap.size, 0, none⟩ = some (.int .i64 rm) := (R2.out.below.cell (p := ⟨w.heap.size, 0, none⟩) n0).trans m0
      have d1 : w2.cell? ⟨w.heap.size + 1, 0, none⟩ = some (.int .i64 gp) := (R2.out.below.cell (p := ⟨w.heap.size + 1, 0, none⟩) n1).trans m1
      have p0 : w.heap.size < w2.heap.size := Nat.lt_of_lt_of_le n0 R2.out.below.size
      have p1 : w.heap.size + 1 < w2.heap.size := Nat.lt_of_lt_of_le n1 R2.out.below.size
      have W1 : IntKind.i64.wrap (z + gp) = z + gp := wrapJ (by omega) (by omega)
      have W2 : IntKind.i64.wrap (z + gp + wn) = z + gp + wn := wrapJ (by omega) (by omega)
      have W3 : IntKind.i64.wrap (gp + wn) = gp + wn := wrapJ (by omega) (by omega)
      have W4 : IntKind.i64.wrap (z + (gp + wn)) = z + (gp + wn) := wrapJ (by omega) (by omega)
      clear hb2 x2 x3 x4 x5 x6 x7 WA HZ
      rcases Nat.eq_zero_or_pos rs.length with h0 | h0
      · obtain rfl : rs = [] := List.length_eq_zero_iff.1 h0
        obtain ⟨a2, c2, rfl, e1, e2⟩ := R2.out.slice
        have HS2 : Hid (rowsN rm gp wrap (its.take (k + 1)) = ⟨[1], wn⟩) := by
          show _ = _
          rw [HS.out]; simp
        clear HS h0
        simp only [List.length_nil] at e1 R2 ⊢
        have RW : Hid (w2.ownsRow w5.heap.size 3 1 (.slice a2 0 c2) 0 []) := R2.out.row
        have MO := hidF (fun (o : Obj) (v1 : Value) (W : World) (hg : (w2.alloc o).grownBy W (Value.slice a2 0 c2).ownBlock) (hv : W.ownsRow w5.heap.size 3 1 v1 (0 + 1) ([] ++ [.int .i64 1])) => (R2.out.held ((Below.refl w2.heap.size w2).alloc (Nat.le_refl _) o)).more (x := 1) hg hv)
        go_wp2_with (at_builtin; refine wpList_append_own_at _ rfl (.tmp 55) (.tmp 56) 23 rfl w5.heap.size 3 i0 (.int .i64 0) 1 8 Try.underlying23 hi hz0 hz1 hz2 rfl (by decide) _ _ _ rfl (RW.out.alloc _) ⟨_, 0, none⟩ 1 1 [.int .i64 1] rfl rfl (cell_one_new _ _ _) (by simp [Value.oneCell']) (by unfold maxLen; omega) (by omega) (by have := R2.out.below.size; simp; omega) ?_; intro v1 w8 hv1 hg1 hx1 hx2; clear hx1 hx2; have R4 := hidF (MO.out _ _ _ hg1 hv1); clear hv1 hg1)
        go_roundw
        case rel => go_light; exact ⟨k + 1, wn, [1], by omega, by go_num, rfl, HS2.out, R4.out⟩
        case measure => simp [intV]; omega
      · obtain ⟨la, hla⟩ : ∃ j, rs.length - 1 = j := ⟨_, rfl⟩
        have hla2 : la < rs.length := by omega
        obtain ⟨g, c, rfl, e1, e2, e3, e4, e5⟩ := R2.out.last hla2
        have hne : rs ≠ [] := fun e => by rw [e] at h0; simp at h0
        rw [hla] at HS
        obtain ⟨y, hy⟩ : ∃ y, rs.getD la 0 = y := ⟨_, rfl⟩
        have yb : 0 ≤ y ∧ y ≤ 200 := by
          have hm : rs.getD la 0 ∈ rs := by
            rw [List.getD_eq_getElem?_getD, List.getElem?_eq_getElem hla2]
            exact List.getElem_mem _
          have := RN.out _ hm
          omega
        obtain ⟨y1, y2⟩ := yb
        rw [hy] at e4 HS
        have R3 := hidF (R2.out.set (x := y + 1) hla2)
        obtain ⟨rn, hrn⟩ : ∃ r, rs.length = r := ⟨_, rfl⟩
        have HRN := hidF hrn
        rw [hrn] at rl hla hla2 h0 e1 R2 R3 ⊢
        have hla3 : (rn : Int) - 1 = (la : Int) := by omega
        have hla4 : (0 : Int) ≤ (la : Int) := by omega
        have hla5 : (la : Int) < (rn : Int) := by omega
        by_cases hc : wrap = false ∨ z + gp + wn ≤ rm
        · have HS2 : Hid (rowsN rm gp wrap (its.take (k + 1)) = ⟨rs.set la (y + 1), z + (gp + wn)⟩) := by
            show _ = _
            rw [HS.out, if_pos ⟨hne, hc⟩]
          have hg : w5.heap.size ≤ g := (R2.out.row.lt g rfl).1
          have hgn : w.heap.size + 1 ≠ g := by omega
          have d1' : (w2.setCell ⟨g, la, none⟩ (.int .i64 (y + 1))).cell? ⟨w.heap.size + 1, 0, none⟩ = some (.int .i64 gp) := by
            rw [World.cell?_of_block (w := w2) (Below.heap_setCell w2 _ _ _ (by show w.heap.size + 1 ≠ g; omega))]; exact d1
          clear HS R2
          cases wrap
          · go_wp2_with fail
            go_roundw
            case rel => go_light; exact ⟨k + 1, _, _, by omega, by go_num, rfl, HS2.out, R3.out⟩
            case measure => simp [intV]; omega
          · have hc2 : z + gp + wn ≤ rm := by simpa using hc
            go_wp2_with fail
            go_roundw
            case rel => go_light; exact ⟨k + 1, _, _, by omega, by go_num, rfl, HS2.out, R3.out⟩
            case measure => simp [intV]; omega
        · have HS2 : Hid (rowsN rm gp wrap (its.take (k + 1)) = ⟨rs ++ [1], wn⟩) := by
            show _ = _
            rw [HS.out, if_neg (fun h => hc h.2)]
          clear HS R3
          obtain ⟨hw, hc3⟩ := not_or.1 hc
          obtain rfl : wrap = true := by simpa using hw
          have hc2 : ¬ z + gp + wn ≤ rm := hc3
          have RW : Hid (w2.ownsRow w5.heap.size 3 1 (.slice (some ⟨g, 0, none⟩) rn c) rn (rs.map (Value.int .i64))) := by
            have := R2.out.row
            rwa [HRN.out] at this
          have MO := hidF (fun (o : Obj) (v1 : Value) (W : World) (hg : (w2.alloc o).grownBy W (Value.slice (some ⟨g, 0, none⟩) rn c).ownBlock) (hv : W.ownsRow w5.heap.size 3 1 v1 (rn + 1) (rs.map (Value.int .i64) ++ [.int .i64 1])) => (R2.out.held ((Below.refl w2.heap.size w2).alloc (Nat.le_refl _) o)).more (x := 1) hg (by rw [HRN.out]; exact hv))
          go_wp2_with (at_builtin; refine wpList_append_own_at _ rfl (.tmp 55) (.tmp 56) 23 rfl w5.heap.size 3 i0 (.int .i64 0) 1 8 Try.underlying23 hi hz0 hz1 hz2 rfl (by decide) _ _ _ rfl (RW.out.alloc _) ⟨_, 0, none⟩ 1 1 [.int .i64 1] rfl rfl (cell_one_new _ _ _) (by simp [Value.oneCell']) (by unfold maxLen; omega) (by omega) (by have := R2.out.below.size; simp; omega) ?_; intro v1 w8 hv1 hg1 hx1 hx2; clear hx1 hx2; have R4 := hidF (MO.out _ _ _ hg1 hv1); clear hv1 hg1)
          go_roundw
          case rel => go_light; exact ⟨k + 1, wn, _, by omega, by go_num, rfl, HS2.out, R4.out⟩
          case measure => simp [intV]; omega
    · obtain rfl : k = n := by omega
      have HF : Hid ((rowsN rm gp wrap its).rows = rs) := by
        show _ = _
        have := HZ.out.1
        rw [List.take_of_length_le (by rw [HN.out]; exact Nat.le_refl _)] at this
        rw [this]
      go_wp2_with fail
      go_returns
      refine ⟨_, rfl, ?_, ?_⟩
      · rw [HF.out]; exact own_intL HZ.out.2.row
      · exact B5.out.trans (HZ.out.2.below.mono B5.out.size)
end Go.Proofs.Ytdjagdifemhkpaa
