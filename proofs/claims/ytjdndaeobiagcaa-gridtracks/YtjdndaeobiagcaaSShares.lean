/- shares: an amount shared by weights. -/
import Derived.Test.YtjdndaeobiagcaaSAmount
import Derived.OwnWalk
namespace Go.Proofs.Ytjdndaeobiagcaa
open Go.RowKit
set_option linter.unusedVariables false      -- bounds that are for the walk

def shareN (a : Int) (ws : List Int) (m : Nat) : Int := partN a (ws.take m).sum (ws.getD m 0) ws.sum
/-- of all of these together, or of least, if that is more -/
def shareG (least a : Int) (ws : List Int) (m : Nat) : Int := if ws.sum = 0 then 0 else partN a (ws.take m).sum (ws.getD m 0) (max ws.sum least)
theorem shareG_zero (a : Int) (ws : List Int) (h : 0 ≤ ws.sum) : shareG 0 a ws = shareN a ws := by
  funext m
  unfold shareG shareN
  split
  · rename_i e
    unfold partN
    rw [if_pos e]
  · rw [show max ws.sum 0 = ws.sum by omega]

theorem own_setS {w : World} {B g cap n k : Nat} {e : TypeId} {xs : List Value} (h : w.ownsRow B e 1 (.slice (some ⟨g, 0, none⟩) n cap) n xs) (hk : k < n) (u : Value) :
    (w.setCell ⟨g, k, none⟩ u).ownsRow B e 1 (.slice (some ⟨g, 0, none⟩) n cap) n (xs.set k u) := by
  obtain ⟨hl, ⟨h, _⟩ | ⟨g', cap', cur, hv, hg, hh, h1, h2, h3, h4⟩⟩ := h
  · cases h
  · cases hv
    refine ⟨by simpa using hl, .inr ⟨g, cap, _, rfl, hg, heap_setCell_same w g k cur e u hh, h1, h2, by simpa using h3, ?_⟩⟩
    rw [← h4, Nat.mul_one]
    simp [Array.toList_setIfInBounds, List.take_set]

theorem map_set_rangeS {n k : Nat} {f g : Nat → Value} (hk : k < n) : ((List.range n).map fun j => if j < k then f j else g j).set k (f k) = (List.range n).map fun j => if j < k + 1 then f j else g j := by
  apply List.ext_getElem?
  intro j
  rw [List.getElem?_set]
  by_cases hj : j < n
  · by_cases e : k = j
    · subst e; simp [hj]
    · simp only [e, if_false, List.getElem?_map, List.getElem?_range hj, Option.map_some]
      congr 1
      by_cases h2 : j < k
      · rw [if_pos h2, if_pos (by omega)]
      · rw [if_neg h2, if_neg (by omega)]
  · have h1 : ((List.range n).map fun j => if j < k + 1 then f j else g j)[j]? = none := by simp; omega
    rw [h1]
    split
    · omega
    · simp; omega

theorem make_ints (w : World) (n : Nat) (hn : n ≤ 1000) : ∃ w1, (Instr.makeSlice 23 (.int .i64 (n : Int)) (.int .i64 (n : Int))).run Try.prog w = .ok (.slice (some ⟨w.heap.size, 0, none⟩) n n) w1 ∧ w1.ownsRow w.heap.size 3 1 (.slice (some ⟨w.heap.size, 0, none⟩) n n) n (List.replicate n (.int .i64 0)) ∧ Below w.heap.size w w1 := by
  obtain ⟨i0, hi, hz0, hz1, hz2⟩ := info_parts Try.infoInt
  obtain ⟨w1, h1, h2, h3⟩ := run_make_full (P := Try.prog) w w.heap.size 23 3 i0 (.int .i64 0) 1 Try.underlying23 hi hz0 hz1 .i64 .i64 n (by rw [hz2]; omega) (by unfold maxLen; omega) (Nat.le_refl _)
  refine ⟨w1, h1, ?_, ⟨h3.os, h3.tape, h3.output, h3.size, fun k hk => h3.block k hk (by simp)⟩⟩
  rw [show (Value.int .i64 0).cells = #[.int .i64 0] from rfl, toList_madeCells_one, Nat.mul_one] at h2
  exact h2

/-- while shares are told -/
structure ShAt (w wr : World) (g n m : Nat) (f : Nat → Int) : Prop where
  below : Below w.heap.size w wr
  lo : w.heap.size ≤ g
  row : wr.ownsRow w.heap.size 3 1 (.slice (some ⟨g, 0, none⟩) n n) n ((List.range n).map fun j => if j < m then .int .i64 (f j) else .int .i64 0)
theorem ShAt.at {w wr : World} {g n m : Nat} {f : Nat → Int} (h : ShAt w wr g n m f) (hm : m < n) : g < wr.heap.size ∧ (∃ u, wr.cell? ⟨g, m, none⟩ = some u) ∧ wr.frozen? ⟨g, m, none⟩ = false := by
  obtain ⟨hl, ⟨e, hn⟩ | ⟨b, cap', cur, hv, hg, hh, h1, h2, h3, h4⟩⟩ := h.row
  · cases e
  · cases hv
    refine ⟨ltH hh, ?_, by simp [World.frozen?, hh]⟩
    rw [cell_of_row wr g _ _ _ _ hh]
    exact ⟨_, Array.getElem?_eq_getElem (by omega)⟩
theorem ShAt.next {w wr : World} {g n m : Nat} {f : Nat → Int} (h : ShAt w wr g n m f) (hm : m < n) : ShAt w (wr.setCell ⟨g, m, none⟩ (.int .i64 (f m))) g n (m + 1) f := by
  refine ⟨h.below.setCell h.lo _, h.lo, ?_⟩
  have := own_setS h.row hm (.int .i64 (f m))
  rwa [map_set_rangeS (f := fun j => .int .i64 (f j)) (g := fun _ => .int .i64 0) hm] at this
theorem ShAt.held {w wr W : World} {g n m : Nat} {f : Nat → Int} (h : ShAt w wr g n m f) (hb : Below wr.heap.size wr W) : ShAt w W g n m f :=
  ⟨h.below.trans (hb.mono h.below.size), h.lo, h.row.kept (row := none) ⟨hb.os, hb.tape, hb.output, hb.size, fun k hk _ => hb.block k hk⟩ (by simp [Value.ownBlock])⟩

set_option maxHeartbeats 2000000 in
set_option maxRecDepth 100000 in
theorem sharesG_any {w : World} {v : Value} {ws : List Int} (h : IntL w v ws) (a least : Int) (a1 : -100000000000 ≤ a) (a2 : a ≤ 100000000000) (q1 : 0 ≤ least) (q2 : least ≤ 1000) (hl : ws.length ≤ 200) (hw : ∀ x ∈ ws, 0 ≤ x ∧ x ≤ 16777216000000000) :
    Calls Try.prog 64 #[.int .i64 a, v, .int .i64 least] w fun e w' => ∃ v', e = .returned v' ∧ IntL w' v' ((List.range ws.length).map (shareG least a ws)) ∧ (∀ g, v'.ownBlock = some g → w.heap.size ≤ g) ∧ Below w.heap.size w w' := by
  obtain ⟨i0, hi, hz0, hz1, hz2⟩ := info_parts Try.infoInt
  obtain ⟨oa, oc, rfl, o1, o2, hor⟩ := h
  have HP := hidF hor
  have SB := hidF (fun m => (sum_map_bd id 16777216000000000 (ws.take m) (fun x hx => hw x (List.mem_of_mem_take hx))))
  obtain ⟨n, hn⟩ : ∃ n, ws.length = n := ⟨_, rfl⟩
  have HN := hidF hn
  have HW := hidF hw
  rw [hn] at hl o1 ⊢
  clear hor hn hw
  go_enter Try.func64, Try.ntmps64
  go_wp2_with fail
  go_loopw [7, 18] (fun f i wr => ∃ (m : Nat) (z : Int), m ≤ n ∧ i = .int .i64 m ∧ f = .int .i64 z ∧ wr = w ∧ Hid (z = (ws.take m).sum)) (fun _ i _ => n - (intV i).toNat)
  case atStart => exact ⟨0, 0, Nat.zero_le _, rfl, rfl, rfl, by show _ = _; simp⟩
  case round =>
    obtain ⟨m, z, hm, rfl, rfl, hww, HZ⟩ := hrel
    have hww2 := hww.symm
    clear hww
    subst hww2
    by_cases hlt : m < n
    · obtain ⟨x, hx⟩ : ∃ x, ws[m]? = some x := ⟨_, List.getElem?_eq_getElem (by rw [HN.out]; exact hlt)⟩
      obtain ⟨b, o, rfl, l1, e1⟩ := HP.out m x hx
      have sb := SB.out m
      have xb := HW.out x (List.mem_of_getElem? hx)
      have hml : ((ws.take m).length : Int) ≤ 200 := by rw [List.length_take]; omega
      simp only [List.map_id] at sb
      rw [← HZ.out] at sb
      have z1 : 0 ≤ z := sb.1
      have z2 : z ≤ 3355443200000000000 := by omega
      obtain ⟨x1, x2⟩ := xb
      have HS : Hid (z + x = (ws.take (m + 1)).sum) := by
        show _ = _
        rw [List.take_add_one, hx]; simp [HZ.out]
      have i1 : (0 : Int) ≤ (m : Int) := by omega
      have i2 : (m : Int) < (n : Int) := by omega
      clear hx sb hml
      go_wp2_with fail
      go_roundw
      case rel => go_light; exact ⟨m + 1, _, by omega, by go_num, rfl, by trivial, HS.out⟩
      case measure => simp [intV]; omega
    · obtain rfl : m = n := by omega
      have HALL : Hid (ws.sum = z) := by
        show _ = _
        rw [HZ.out, List.take_of_length_le (by rw [HN.out]; exact Nat.le_refl _)]
      have sb := SB.out m
      have hml : ((ws.take m).length : Int) ≤ 200 := by rw [List.length_take]; omega
      simp only [List.map_id] at sb
      rw [← HZ.out] at sb
      have z1 : 0 ≤ z := sb.1
      have z2 : z ≤ 3355443200000000000 := by omega
      obtain ⟨w1, mk, ow, bw⟩ := make_ints w m (by omega)
      have HT : Hid (ShAt w w1 w.heap.size m 0 (shareG least a ws)) := by
        refine ⟨bw, Nat.le_refl _, ?_⟩
        have e : List.replicate m (Value.int .i64 0) = (List.range m).map fun j => if j < 0 then .int .i64 (shareG least a ws j) else .int .i64 0 := by
          apply List.ext_getElem?
          intro j
          by_cases hj : j < m
          · simp [hj]
          · rw [List.getElem?_eq_none (by simp; omega), List.getElem?_eq_none (by simp; omega)]
        rw [← e]; exact ow
      clear sb hml ow bw
      by_cases hz : z = 0
      · subst hz
        have HT2 : Hid (IntL w1 (.slice (some ⟨w.heap.size, 0, none⟩) m m) ((List.range m).map (shareG least a ws))) := by
          have e : ∀ j, shareG least a ws j = 0 := fun j => by unfold shareG; rw [if_pos HALL.out]
          have hr := HT.out.row
          have hr2 : w1.ownsRow w.heap.size 3 1 (.slice (some ⟨w.heap.size, 0, none⟩) m m) ((List.range m).map (shareG least a ws)).length (((List.range m).map (shareG least a ws)).map (Value.int .i64)) := by
            rw [List.length_map, List.length_range, List.map_map]
            have e2 : ((List.range m).map fun j => if j < 0 then Value.int .i64 (shareG least a ws j) else .int .i64 0) = (List.range m).map (Value.int .i64 ∘ shareG least a ws) := by
              apply List.map_congr_left
              intro j _
              simp [e j]
            rw [e2] at hr
            exact hr
          exact own_intL hr2
        go_wp2_with fail
        go_returns
        exact ⟨_, rfl, HT2.out, fun g hg => by cases hg; exact Nat.le_refl _, HT.out.below⟩
      · have hz' : (z == 0) = false := by simpa using hz
        have z3 : 0 < z := by omega
        have HL1 : w.heap.size < w1.heap.size := by
          obtain ⟨_, ⟨e, _⟩ | ⟨b, cap', cur, hv, hg, hh, _⟩⟩ := HT.out.row
          · cases e
          · cases hv; exact ltH hh
        obtain ⟨zz, hzz⟩ : ∃ zz, zz = max z least := ⟨_, rfl⟩
        have z4 : 0 < zz := by omega
        have z5 : zz ≤ 3355443200000001000 := by omega
        have HLE : Hid (∀ m2 x, ws[m2]? = some x → (ws.take m2).sum + x ≤ zz) := fun m2 x hx => by
          have e0 : (ws.take m2).sum + x = (ws.take (m2 + 1)).sum := by rw [List.take_add_one, hx]; simp
          have e := List.take_append_drop (m2 + 1) ws
          have e2 : ws.sum = (ws.take (m2 + 1)).sum + (ws.drop (m2 + 1)).sum := by rw [← List.sum_append, e]
          have := (sum_map_bd id 16777216000000000 (ws.drop (m2 + 1)) (fun x hx => HW.out x (List.mem_of_mem_drop hx))).1
          simp only [List.map_id] at this
          have h8 := HALL.out
          omega
        have HFZ : Hid (∀ m2 x, ws[m2]? = some x → shareG least a ws m2 = a * ((ws.take m2).sum + x) / zz - a * (ws.take m2).sum / zz) := fun m2 x hx => by
          unfold shareG partN
          rw [HALL.out, if_neg hz, ← hzz, if_neg (by omega), List.getD_eq_getElem?_getD, hx]
          rfl
        have HZM := hidF hzz.symm
        clear hz hzz
        go_wp2_with fail
        rw [HZM.out]
        go_loopw [11, 12, 37] (fun sm fm i wr => ∃ (m2 : Nat) (s f : Int), m2 ≤ m ∧ i = .int .i64 m2 ∧ sm = .int .i64 s ∧ fm = .int .i64 f ∧ Hid (s = (ws.take m2).sum ∧ f = a * s / zz ∧ ShAt w wr w.heap.size m m2 (shareG least a ws))) (fun _ _ i _ => m - (intV i).toNat)
        case atStart => exact ⟨0, 0, 0, Nat.zero_le _, rfl, rfl, rfl, by simp, by simp, HT.out⟩
        case round =>
          obtain ⟨m2, s, f, hm2, rfl, rfl, rfl, HZ2⟩ := hrel
          by_cases hlt2 : m2 < m
          · obtain ⟨x, hx⟩ : ∃ x, ws[m2]? = some x := ⟨_, List.getElem?_eq_getElem (by rw [HN.out]; exact hlt2)⟩
            obtain ⟨b, o, rfl, l1, e1⟩ := HP.out m2 x hx
            have sb := SB.out m2
            have xb := HW.out x (List.mem_of_getElem? hx)
            have hml : ((ws.take m2).length : Int) ≤ 200 := by rw [List.length_take]; omega
            simp only [List.map_id] at sb
            rw [← HZ2.out.1] at sb
            have s1 : 0 ≤ s := sb.1
            have s2 : s ≤ 3355443200000000000 := by omega
            obtain ⟨x1, x2⟩ := xb
            have HS : Hid (s + x = (ws.take (m2 + 1)).sum) := by
              show _ = _
              rw [List.take_add_one, hx]; simp [HZ2.out.1]
            have hle : s + x ≤ zz := by have := HLE.out m2 x hx; rw [← HZ2.out.1] at this; exact this
            have e2 := (HZ2.out.2.2.below.cell (p := ⟨b, o + m2, none⟩) l1).trans e1
            have e3 : b < wr.heap.size := Nat.lt_of_lt_of_le l1 HZ2.out.2.2.below.size
            have i1 : (0 : Int) ≤ (m2 : Int) := by omega
            have i2 : (m2 : Int) < (m : Int) := by omega
            have PO := hidF (fun W => portion_any a (s + x).toNat zz.toNat (by omega) (by omega) (by omega) (by omega) (by omega) W)
            rw [show (((s + x).toNat : Nat) : Int) = s + x by omega, show ((zz.toNat : Nat) : Int) = zz by omega] at PO
            have pb1 := portion_bd a (s + x) zz (by omega) hle z4
            have pb2 := portion_bd a s zz s1 (by omega) z4
            obtain ⟨t, ht⟩ : ∃ t, a * (s + x) / zz = t := ⟨_, rfl⟩
            rw [← HZ2.out.2.1] at pb2
            rw [ht] at PO pb1
            have HSH : Hid ((shareG least a ws) m2 = t - f) := by
              show _ = _
              rw [HFZ.out m2 x hx, ← HZ2.out.1, ht, ← HZ2.out.2.1]
            have HT3 := hidF ht
            have t1 : -100000000000 ≤ t := by omega
            have t2 : t ≤ 100000000000 := by omega
            have f1 : -100000000000 ≤ f := by omega
            have f2 : f ≤ 100000000000 := by omega
            have bz := HZ2.out.2.2.below.size
            clear hx sb hml e1 ht pb1 pb2
            go_wp2_with fail
            refine (PO.out _).mono ?_
            rintro e w5 ⟨rfl, hb5⟩
            have H5 := hidF (HZ2.out.2.2.held hb5)
            obtain ⟨g1, ⟨u, g2⟩, g3⟩ := H5.out.at hlt2
            clear hb5
            go_wp2_with fail
            go_roundw
            case rel =>
              go_light
              refine ⟨m2 + 1, _, _, by omega, by go_num, rfl, rfl, HS.out, HT3.out.symm, ?_⟩
              have := H5.out.next hlt2
              rw [HSH.out] at this
              exact this
            case measure => simp [intV]; omega
          · obtain rfl : m2 = m := by omega
            have hr := HZ2.out.2.2.row
            have hr2 : wr.ownsRow w.heap.size 3 1 (.slice (some ⟨w.heap.size, 0, none⟩) m2 m2) ((List.range m2).map (shareG least a ws)).length (((List.range m2).map (shareG least a ws)).map (Value.int .i64)) := by
              rw [List.length_map, List.length_range, List.map_map]
              have e2 : ((List.range m2).map fun j => if j < m2 then Value.int .i64 ((shareG least a ws) j) else .int .i64 0) = (List.range m2).map (Value.int .i64 ∘ (shareG least a ws)) := by
                apply List.map_congr_left
                intro j hj
                simp [List.mem_range.1 hj]
              rw [e2] at hr
              exact hr
            have HR2 := hidF (own_intL hr2)
            clear hr hr2
            go_wp2_with fail
            go_returns
            exact ⟨_, rfl, HR2.out, fun g hg => by cases hg; exact Nat.le_refl _, HZ2.out.2.2.below⟩

theorem shares_any {w : World} {v : Value} {ws : List Int} (h : IntL w v ws) (a : Int) (a1 : -100000000000 ≤ a) (a2 : a ≤ 100000000000) (hl : ws.length ≤ 200) (hw : ∀ x ∈ ws, 0 ≤ x ∧ x ≤ 16777216000000000) :
    Calls Try.prog 64 #[.int .i64 a, v, .int .i64 0] w fun e w' => ∃ v', e = .returned v' ∧ IntL w' v' ((List.range ws.length).map (shareN a ws)) ∧ (∀ g, v'.ownBlock = some g → w.heap.size ≤ g) ∧ Below w.heap.size w w' := by
  have := sharesG_any h a 0 a1 a2 (by omega) (by omega) hl hw
  rw [shareG_zero a ws (by have := (sum_map_bd id 16777216000000000 ws hw).1; simpa using this)] at this
  exact this
end Go.Proofs.Ytjdndaeobiagcaa
