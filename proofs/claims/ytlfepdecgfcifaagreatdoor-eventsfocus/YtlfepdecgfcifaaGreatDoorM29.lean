/- The document's FocusOrder, walked. -/
import Derived.Test.YtlfepdecgfcifaaGreatDoorM27
import Derived.Deep.RegionHeld3
namespace Go.Proofs.YtlfepdecgfcifaaGreatDoor
open Go.RowKit
set_option linter.unusedVariables false
attribute [local go_sem] Oper.semAt_some

theorem srcTakeD {w : World} {size g n cap c cap' : Nat} {xs : List Value} (h : SrcOf w size (.slice (some ⟨g, 0, none⟩) n cap) n xs) (hc : c ≤ n) : SrcOf w size (.slice (some ⟨g, 0, none⟩) c cap') c (xs.take (c * size)) := by
  obtain ⟨h1, h2, a, c', h3, h4⟩ := h
  cases h3
  refine ⟨?_, fun u hu => h2 u (List.mem_of_mem_take hu), _, _, rfl, .inr ⟨_, rfl, ?_⟩⟩
  · rw [List.length_take, h1]
    exact Nat.min_eq_left (Nat.mul_le_mul_right _ hc)
  · rcases h4 with ⟨h4, _⟩ | ⟨ad, h4, h5⟩
    · cases h4
    · cases h4
      intro j u hu
      refine h5 j u ?_
      rw [List.getElem?_take] at hu
      split at hu
      · exact hu
      · cases hu
theorem srcZeroD (w : World) (size : Nat) (a : Option Addr) (c : Nat) : SrcOf w size (.slice a 0 c) 0 [] := by
  refine ⟨by simp, by simp, a, c, rfl, ?_⟩
  cases a with
  | none => exact .inl ⟨rfl, rfl⟩
  | some ad => exact .inr ⟨ad, rfl, by simp⟩
theorem srcDropD {w : World} {size g n cap c cap' : Nat} {xs : List Value} (h : SrcOf w size (.slice (some ⟨g, 0, none⟩) n cap) n xs) (hc : c ≤ n) (hcap : n ≤ cap) : SrcOf w size (.slice (if cap = c then some ⟨g, 0, none⟩ else some ⟨g, c * size, none⟩) (n - c) cap') (n - c) (xs.drop (c * size)) := by
  by_cases e : cap = c
  · rw [if_pos e]
    have e1 : n - c = 0 := by omega
    have e0 : n = c := by omega
    have e2 : xs.drop (c * size) = [] := List.drop_eq_nil_of_le (by rw [h.1, e0]; exact Nat.le_refl _)
    rw [e1, e2]
    exact srcZeroD _ _ _ _
  · rw [if_neg e]
    obtain ⟨h1, h2, a, c', h3, h4⟩ := h
    cases h3
    refine ⟨?_, fun u hu => h2 u (List.mem_of_mem_drop hu), _, _, rfl, .inr ⟨_, rfl, ?_⟩⟩
    · rw [List.length_drop, h1, Nat.sub_mul]
    · rcases h4 with ⟨h4, _⟩ | ⟨ad, h4, h5⟩
      · cases h4
      · cases h4
        intro j u hu
        rw [List.getElem?_drop] at hu
        have := h5 (c * size + j) u hu
        rw [add0] at this
        rw [← this]
        congr 1
        unfold Addr.add
        simp

section
variable {w wr w' : World} {tb : Nat} {nv tuv uv ov rv : Value} {ns : List Nd} {L : List Int} {k : Nat} {o r : List Int}
theorem DoI.t0 (h : DoI w wr tb nv tuv uv ov rv ns L k o r) : wr.cell? ⟨tb, 0, none⟩ = some nv := by rw [cell_of_row _ _ _ _ _ _ h.tree]; rfl
theorem DoI.t1c (h : DoI w wr tb nv tuv uv ov rv ns L k o r) : wr.cell? ⟨tb, 1, none⟩ = some tuv := by rw [cell_of_row _ _ _ _ _ _ h.tree]; rfl
theorem DoI.und0 {g c : Nat} (h : DoI w wr tb nv tuv (.slice (some ⟨g, 0, none⟩) L.length c) ov rv ns L k o r) {j : Nat} {x : Int} (hx : L[j]? = some x) : wr.cell? ⟨g, j, none⟩ = some (.int .i64 x) := by
  rw [h.und.cellAt j (by have := (List.getElem?_eq_some_iff.1 hx).1; omega), List.getElem?_map, hx]; rfl
theorem DoI.out0 {g c : Nat} (h : DoI w wr tb nv tuv uv (.slice (some ⟨g, 0, none⟩) o.length c) rv ns L k o r) {j : Nat} {x : Int} (hx : o[j]? = some x) : wr.cell? ⟨g, j, none⟩ = some (.int .i64 x) := by
  rw [h.oo.cellAt j (by have := (List.getElem?_eq_some_iff.1 hx).1; omega), List.getElem?_map, hx]; rfl
theorem DoI.mem (h : DoI w wr tb nv tuv uv ov rv ns L k o r) {y : Int} (hy : y ∈ o) : y ∈ L := by
  have : y ∈ sortK (turnI ns) (fltT ns (L.take k)) := by rw [h.doc.eq]; exact List.mem_append_left _ hy
  exact List.mem_of_mem_take (List.mem_filter.1 ((sortK_mem _ _ _).1 this)).1
theorem DoI.outP (h : DoI w wr tb nv tuv uv ov rv ns L k o r) {x : Int} (hx : L[k]? = some x) (ht : 0 < turnJ ns x ∧ turnI ns x = turnJ ns x ∧ turnI ns x < 1000000000) {j : Nat} (hc : cutJ (turnJ ns) (turnJ ns x) o o.length = j) (hj : j ≤ o.length) (hb : Below wr.heap.size wr w') {v1 : Value} (hv : w'.ownsRow wr.heap.size 3 1 v1 (j + 1 + (o.length - j)) (((o.take j).map intV ++ [.int .i64 x]) ++ (o.drop j).map intV)) : DoI w w' tb nv tuv uv v1 rv ns L (k + 1) (o.take j ++ [x] ++ o.drop j) r := by
  refine h.out hx ht hb (by rw [hc]) ?_
  have e1 : (o.take j ++ [x] ++ o.drop j).length = j + 1 + (o.length - j) := by simp; omega
  have e2 : (o.take j ++ [x] ++ o.drop j).map intV = ((o.take j).map intV ++ [.int .i64 x]) ++ (o.drop j).map intV := by simp [intV]
  rw [e1, e2]; exact hv
end
theorem cutJ_succ (f : Int → Int) (n : Int) (l : List Int) {j : Nat} (hj : 0 < j) {y : Int} (hy : l[j - 1]? = some y) : cutJ f n l j = if f y > n then cutJ f n l (j - 1) else j := by
  obtain ⟨m, rfl⟩ : ∃ m, j = m + 1 := ⟨j - 1, by omega⟩
  rw [Nat.add_sub_cancel] at hy ⊢
  show (if f (l.getD m 0) > n then cutJ f n l m else m + 1) = _
  rw [List.getD_eq_getElem?_getD, hy]
  rfl
/-- the world behind a draw and a call -/
theorem belD1 {wr w7 : World} (hb : Below (wr.drewN 1).heap.size (wr.drewN 1) w7) : Below wr.heap.size wr w7 := (belD (Below.refl _ wr) 1).trans hb

set_option maxHeartbeats 8000000 in
set_option maxRecDepth 100000 in
theorem focusO_any {w : World} {M : Nat → Lab} {B : Nat} {nv uv : Value} {ps : List Pn} {us : List Value} (h : RLies w M B nv uv ps us) (hs : Sound (nodesOf ps)) (hn : Neat (nodesOf ps)) (hl : ps.length ≤ 1000) (htag : ∀ n ∈ nodesOf ps, TagOk n) (z : Int) :
    Calls Tryz.prog 10 #[.agg #[nv, uv], .int .i64 z] w (UndPost w (orderP (nodesOf ps) (undZ (nodesOf ps) z))) := by
  obtain ⟨i0, hi, hz0, hz1, hz2⟩ := info_parts Tryz.infoInt
  have hln : (nodesOf ps).length = ps.length := by simp [nodesOf]
  obtain ⟨na, nc, hnv, _, _⟩ := h.nodes.shape
  obtain ⟨ta, tc, htv, _, _⟩ := h.undos.shape
  have hb1 : Below w.heap.size w (w.alloc (.cells #[nv, uv] 29)) := (Below.refl _ w).alloc (Nat.le_refl _) _
  have hbox : (w.alloc (.cells #[nv, uv] 29)).heap[w.heap.size]? = some (.cells #[nv, uv] 29 (0, 0)) := heap_alloc_new _ _
  obtain ⟨M1, hR1⟩ := (h.below hb1).reheadE hbox (h.fresh _ (Nat.le_refl _))
  have UN := hidF (rundZ_any hR1 hs hn (by omega) z)
  have HLI := hidF (fun (W : World) (hb : Below w.heap.size w W) => h.below hb)
  have HTO := hidF (turnIJ htag)
  obtain ⟨ns, hns⟩ : ∃ ns, nodesOf ps = ns := ⟨_, rfl⟩
  obtain ⟨L, hL⟩ : ∃ L, undZ ns z = L := ⟨_, rfl⟩
  have HMEM : Hid (∀ x ∈ L, ∃ j : Nat, x = j ∧ j < ns.length) := fun x hx => by rw [← hL] at hx; exact undZ_mem (hns ▸ hs) hx
  have hlen : L.length ≤ ns.length := by rw [← hL]; exact undZ_len (hns ▸ hs) (hns ▸ hn) z
  have HNS := hidF hns
  rw [hns] at UN hln HTO ⊢
  rw [hL] at UN ⊢
  have HB1 := hidF hb1
  have HBX := hidF hbox
  have HTN : Hid (∀ (W : World) (x : Int), x ∈ L → Below w.heap.size w W → Calls Tryz.prog 37 #[.agg #[nv, uv], .int .i64 x] W fun e w' => e = .returned (.int .i64 (turnJ ns x)) ∧ Below W.heap.size W w') := by
    intro W x hx hb
    obtain ⟨j, rfl, hj⟩ := HMEM.out x hx
    obtain ⟨p, hp⟩ : ∃ p, ps[j]? = some p := ⟨_, List.getElem?_eq_getElem (by omega)⟩
    have e : turnJ ns (j : Int) = turnQ p.n := by
      unfold turnJ
      rw [← HNS.out, Int.toNat_natCast, show (nodesOf ps)[j]? = some p.n by unfold nodesOf; rw [List.getElem?_map, hp]; rfl]
    rw [e]
    exact turnQ_any (HLI.out W hb) hp
  clear h hs hn hL hns htag hb1 hbox hR1 HLI
  subst hnv htv
  go_enter Tryz.func10, Tryz.ntmps10
  go_wp2_with fail
  refine UN.out.mono ?_
  rintro e w3 ⟨uv3, rfl, hu, hb3⟩
  obtain ⟨ua, uc, rfl, hu1, hu2, hu3⟩ := own_shapeG hu
  have H0 : Hid (DoI w w3 w.heap.size (.slice na ps.length nc) (.slice ta us.length tc) (.slice ua L.length uc) (.slice none 0 0) (.slice none 0 0) ns L 0 [] []) := by
    have hsz : (w.alloc (.cells #[.slice na ps.length nc, .slice ta us.length tc] 29)).heap.size = w.heap.size + 1 := by simp
    rw [hsz] at hu hb3
    refine ⟨HB1.out.trans (hb3.mono (by omega)), (hb3.block _ (by omega)).trans HBX.out, Nat.le_refl _, own_monoF hu (by omega), World.ownsRow_nil _ _ _ _, World.ownsRow_nil _ _ _ _, ⟨by rfl, by simp, by simp, by simp⟩, by simp, ⟨fun q => ?_, by simp [Value.ownBlock], by simp [Value.ownBlock]⟩, fun b hb => by simp [Value.ownBlock], fun b hb => by simp [Value.ownBlock]⟩
    have := (hu.lt _ q).1; omega
  clear hu hb3 UN
  go_wp2_with fail
  go_loopw [5, 6, 8] (fun ov rv iv wr => ∃ (k : Nat) (o r : List Int), k ≤ L.length ∧ iv = .int .i64 k ∧ Hid (DoI w wr w.heap.size (.slice na ps.length nc) (.slice ta us.length tc) (.slice ua L.length uc) ov rv ns L k o r)) (fun _ _ iv _ => L.length - (intOf iv).toNat)
  case atStart => exact ⟨0, [], [], by omega, rfl, H0⟩
  case round =>
    obtain ⟨k, o, r, hk, rfl, HI⟩ := hrel
    by_cases hlt : k < L.length
    · obtain ⟨g, rfl⟩ := hu3 (by omega)
      obtain ⟨x, hx⟩ : ∃ x, L[k]? = some x := ⟨_, List.getElem?_eq_getElem hlt⟩
      have HX := hidF hx
      have c0 := HI.out.und0 hx
      have ct0 := HI.out.t0
      have ct1 := HI.out.t1c
      have TN := hidF (HTN.out (wr.drewN 1) x (List.mem_of_getElem? hx) (belD HI.out.below 1))
      have hlt' : (k : Int) < (L.length : Int) := by omega
      obtain ⟨tv, htv⟩ : ∃ t, turnJ ns x = t := ⟨_, rfl⟩
      rw [htv] at TN
      have HTV := hidF htv
      clear hx htv
      go_upto_region 7 with fail
      go_cut [9] (fun s9 wx => s9 = .int .i64 tv ∧ Hid (Below wr.heap.size wr wx))
      case first =>
        go_region_held3 (fun wx => wx.cell? ⟨w.heap.size, 0, none⟩ = some (.slice na ps.length nc) ∧ wx.cell? ⟨w.heap.size, 1, none⟩ = some (.slice ta us.length tc) ∧ wx.cell? ⟨g, k, none⟩ = some (.int .i64 x)) (go_keep)
          ((go_at_call 37; refine TN.out.mono ?_; rintro e w7 ⟨rfl, hb7⟩
            have HB7 := hidF (belD1 hb7)
            have HI7 := HI.out.held HB7.out
            have m0 := HI7.t0
            have m1 := HI7.t1c
            have m2 := HI7.und0 HX.out
            clear hb7 HI7))
        all_goals
          go_wp2_with fail
          go_meet
          case rel => go_light; exact ⟨rfl, HB7.out⟩
      case rest =>
      obtain ⟨rfl, HB7⟩ := hcut
      have H7 := hidF (HI.out.held HB7.out)
      clear c0 ct0 ct1 TN HB7
      have c0 := H7.out.und0 HX.out
      rename World => wx
      have tri := HTO.out x
      rw [HTV.out] at tri
      have htb := turnI_bd ns x
      by_cases t0 : tv = 0
      · subst t0
        have hT : turnI ns x = 1000000000 := by omega
        have HT := hidF hT
        obtain ⟨ra, rc, hrv, _, _, _⟩ := own_shapeG H7.out.rr
        subst hrv
        have hrl := H7.out.len
        have hbs := H7.out.below.size
        clear hT tri htb
        go_wp2_with (at_builtin; refine wpList_app_own _ (by rfl) _ _ 32 (by rfl) w.heap.size 3 i0 (.int .i64 0) 1 8 Tryz.underlying32 hi hz0 hz1 hz2 rfl (by decide) (.slice ra r.length rc) r.length (r.map intV) (by rfl) (H7.out.rr.alloc _) _ 1 [.int .i64 x] (by rfl) ⟨rfl, by simp [Value.oneCell'], _, _, rfl, .inr ⟨_, rfl, cell_one_new _ _ _⟩⟩ (by unfold maxLen; omega) (by omega) (by simp; omega) ?_
                     intro v1 w8 hv1 hg1 hx1
                     have HJ := hidF (H7.out.rest HX.out ⟨HTV.out, HT.out⟩ hv1 hg1 hx1)
                     clear hv1 hg1 hx1)
        go_roundw
        case rel => exact ⟨k + 1, _, _, by omega, by go_num, HJ.out⟩
        case measure => simp [intOf]; omega
      by_cases t1 : tv < 0
      · have HT : Hid (turnJ ns x < 0 ∧ turnI ns x ≤ 0) := ⟨by rw [HTV.out]; exact t1, by omega⟩
        clear tri htb
        go_wp2_with fail
        go_roundw
        case rel => exact ⟨k + 1, _, _, by omega, by go_num, H7.out.skip HX.out HT.out⟩
        case measure => simp [intOf]; omega
      have HT : Hid (0 < turnJ ns x ∧ turnI ns x = turnJ ns x ∧ turnI ns x < 1000000000) := by
        show _ ∧ _ ∧ _
        rw [HTV.out]; omega
      have t2 : tv < 1000000000 := by omega
      have t3 : 0 < tv := by omega
      have t4 : ¬ tv ≤ 0 := by omega
      obtain ⟨oa, oc, hov, hoc1, hoc2, ho3⟩ := own_shapeG H7.out.oo
      obtain ⟨ra, rc, hrv, _, _, _⟩ := own_shapeG H7.out.rr
      subst hov hrv
      have hol := H7.out.len
      clear tri htb t1
      go_wp2_with fail
      go_loopw [10] (fun jv wy => ∃ j : Nat, j ≤ o.length ∧ jv = .int .i64 j ∧ Hid (cutJ (turnJ ns) tv o o.length = cutJ (turnJ ns) tv o j) ∧ Hid (DoI w wy w.heap.size (.slice na ps.length nc) (.slice ta us.length tc) (.slice (some ⟨g, 0, none⟩) L.length uc) (.slice oa o.length oc) (.slice ra r.length rc) ns L k o r)) (fun jv _ => (intOf jv).toNat)
      case atStart => exact ⟨o.length, Nat.le_refl _, rfl, rfl, H7⟩
      case round =>
        obtain ⟨j, hj, rfl, HC, HY⟩ := hrel
        by_cases hj0 : j = 0
        · subst hj0
          clear c0
          have hd : decide (((0 : Nat) : Int) > 0) = false := by decide
          go_wp2_with fail
          go_cut [51] (fun s51 wz => s51 = .bool false ∧ Hid (Below wr.heap.size wr wz))
          case first =>
            go_quiet (fail)
            all_goals
              go_wp2_with fail
              go_meet
              case rel => go_light; exact ⟨rfl, belD (Below.refl _ _) _⟩
          case rest =>
          obtain ⟨rfl, HZ⟩ := hcut
          have H9 := hidF (HY.out.held HZ.out)
          clear HZ
          rename World => wz
          have hoo := H9.out.oo
          obtain ⟨_, ⟨hv0, ho0⟩ | ⟨og, ocap, ocur, hv0, _⟩⟩ := hoo
          · injection hv0 with q1 q2 q3
            subst q1 q3
            obtain rfl : o = [] := List.eq_nil_of_length_eq_zero ho0
            have hbz := H9.out.below.size
            have e0 := H9.out.und0 HX.out
            go_upto_region 16 with (at_builtin; refine wpList_app_own _ (by rfl) _ _ 32 (by rfl) wz.heap.size 3 i0 (.int .i64 0) 1 8 Tryz.underlying32 hi hz0 hz1 hz2 rfl (by decide) (.slice none 0 0) 0 [] (by rfl) (World.ownsRow_nil _ _ _ _) _ 0 ((([] : List Int).take 0).map intV) (by rfl) (by simp [Act.eval]; exact srcZeroD _ _ _ _) (by unfold maxLen; omega) (by omega) (Nat.le_refl _) ?_
                                    intro v1 w8 hv1 hg1 hx1
                                    have A1 := hidF (And.intro ((Below.refl _ wz).grown hg1 (Nat.le_refl _) (fun q hq => by simp [Value.ownBlock] at hq)) (by rw [Nat.zero_add, List.nil_append] at hv1; exact hv1))
                                    have e1 := (H9.out.held A1.out.1).und0 HX.out
                                    obtain ⟨va, vc, hva, _, _, _⟩ := own_shapeG A1.out.2
                                    subst hva
                                    clear hv1 hg1 hx1)
            have hs8 := A1.out.1.size
            go_upto_region 17 with (at_builtin; refine wpList_app_own _ (by rfl) _ _ 32 (by rfl) wz.heap.size 3 i0 (.int .i64 0) 1 8 Tryz.underlying32 hi hz0 hz1 hz2 rfl (by decide) (.slice va 0 vc) 0 ((([] : List Int).take 0).map intV) (by rfl) (A1.out.2.alloc _) _ 1 [.int .i64 x] (by rfl) ⟨rfl, by simp [Value.oneCell'], _, _, rfl, .inr ⟨_, rfl, cell_one_new _ _ _⟩⟩ (by unfold maxLen; omega) (by omega) (by simp; omega) ?_
                                    intro v2 w9 hv2 hg2 hx2
                                    have A2 := hidF (And.intro ((A1.out.1.alloc A1.out.1.size _).grown hg2 (by have := A1.out.1.size; simp; omega) (fun q hq => (A1.out.2.lt q hq).1)) hv2)
                                    obtain ⟨vb, vd, hvb, _, _, _⟩ := own_shapeG A2.out.2
                                    subst hvb
                                    clear hv2 hg2 hx2)
            have hs9 := A2.out.1.size
            have HY2 := hidF (H9.out.held A2.out.1)
            go_wp2_with (at_builtin; refine wpList_app_own _ (by rfl) _ _ 32 (by rfl) wz.heap.size 3 i0 (.int .i64 0) 1 8 Tryz.underlying32 hi hz0 hz1 hz2 rfl (by decide) (.slice vb (0 + 1) vd) (0 + 1) ((([] : List Int).take 0).map intV ++ [.int .i64 x]) (by rfl) A2.out.2 _ (([] : List Int).length - 0) ((([] : List Int).drop 0).map intV) (by rfl) (by simp [Act.eval]; exact srcZeroD _ _ _ _) (by unfold maxLen; omega) (by omega) (by omega) ?_
                         intro v3 w10 hv3 hg3 hx3
                         have A3 := hidF (H9.out.outP HX.out HT.out (show cutJ (turnJ ns) (turnJ ns x) [] ([] : List Int).length = 0 by rw [HTV.out]; exact HC.out) (Nat.zero_le _) (A2.out.1.grown hg3 A2.out.1.size (fun q hq => (A2.out.2.lt q hq).1)) hv3)
                         clear hv3 hg3 hx3)
            go_roundw
            case rel => exact ⟨k + 1, _, _, by omega, by go_num, A3.out⟩
            case measure => simp [intOf]; omega
          · cases hv0
            have hbz := H9.out.below.size
            have e0 := H9.out.und0 HX.out
            go_upto_region 16 with (at_builtin; refine wpList_app_own _ (by rfl) _ _ 32 (by rfl) wz.heap.size 3 i0 (.int .i64 0) 1 8 Tryz.underlying32 hi hz0 hz1 hz2 rfl (by decide) (.slice none 0 0) 0 [] (by rfl) (World.ownsRow_nil _ _ _ _) _ 0 ((o.take 0).map intV) (by rfl) (by simp [Act.eval]; have := srcTakeD (cap' := oc) (own_src H9.out.oo (by intro u hu; obtain ⟨q, _, rfl⟩ := List.mem_map.1 hu; rfl)) (c := 0) (by omega); simpa [List.map_take] using this) (by unfold maxLen; omega) (by omega) (Nat.le_refl _) ?_
                                    intro v1 w8 hv1 hg1 hx1
                                    have A1 := hidF (And.intro ((Below.refl _ wz).grown hg1 (Nat.le_refl _) (fun q hq => by simp [Value.ownBlock] at hq)) (by rw [Nat.zero_add, List.nil_append] at hv1; exact hv1))
                                    have e1 := (H9.out.held A1.out.1).und0 HX.out
                                    obtain ⟨va, vc, hva, _, _, _⟩ := own_shapeG A1.out.2
                                    subst hva
                                    clear hv1 hg1 hx1)
            have hs8 := A1.out.1.size
            go_upto_region 17 with (at_builtin; refine wpList_app_own _ (by rfl) _ _ 32 (by rfl) wz.heap.size 3 i0 (.int .i64 0) 1 8 Tryz.underlying32 hi hz0 hz1 hz2 rfl (by decide) (.slice va 0 vc) 0 ((o.take 0).map intV) (by rfl) (A1.out.2.alloc _) _ 1 [.int .i64 x] (by rfl) ⟨rfl, by simp [Value.oneCell'], _, _, rfl, .inr ⟨_, rfl, cell_one_new _ _ _⟩⟩ (by unfold maxLen; omega) (by omega) (by simp; omega) ?_
                                    intro v2 w9 hv2 hg2 hx2
                                    have A2 := hidF (And.intro ((A1.out.1.alloc A1.out.1.size _).grown hg2 (by have := A1.out.1.size; simp; omega) (fun q hq => (A1.out.2.lt q hq).1)) hv2)
                                    obtain ⟨vb, vd, hvb, _, _, _⟩ := own_shapeG A2.out.2
                                    subst hvb
                                    clear hv2 hg2 hx2)
            have hs9 := A2.out.1.size
            have HY2 := hidF (H9.out.held A2.out.1)
            go_wp2_with (at_builtin; refine wpList_app_own _ (by rfl) _ _ 32 (by rfl) wz.heap.size 3 i0 (.int .i64 0) 1 8 Tryz.underlying32 hi hz0 hz1 hz2 rfl (by decide) (.slice vb (0 + 1) vd) (0 + 1) ((o.take 0).map intV ++ [.int .i64 x]) (by rfl) A2.out.2 _ (o.length - 0) ((o.drop 0).map intV) (by rfl) (by simp [Act.eval]; have := srcDropD (cap' := oc - 0) (own_src HY2.out.oo (by intro u hu; obtain ⟨q, _, rfl⟩ := List.mem_map.1 hu; rfl)) (c := 0) (by omega) (by omega); simpa [List.map_drop] using this) (by unfold maxLen; omega) (by omega) (by omega) ?_
                         intro v3 w10 hv3 hg3 hx3
                         have A3 := hidF (H9.out.outP HX.out HT.out (show cutJ (turnJ ns) (turnJ ns x) o o.length = 0 by rw [HTV.out]; exact HC.out) (Nat.zero_le _) (A2.out.1.grown hg3 A2.out.1.size (fun q hq => (A2.out.2.lt q hq).1)) hv3)
                         clear hv3 hg3 hx3)
            go_roundw
            case rel => exact ⟨k + 1, _, _, by omega, by go_num, A3.out⟩
            case measure => simp [intOf]; omega
        · obtain ⟨og, rfl⟩ := ho3 (by omega)
          obtain ⟨y, hy⟩ : ∃ y, o[j - 1]? = some y := ⟨_, List.getElem?_eq_getElem (by omega)⟩
          have HYY := hidF hy
          have d0 := HY.out.out0 hy
          have dt0 := HY.out.t0
          have dt1 := HY.out.t1c
          have TY := hidF (HTN.out (wr.drewN 1) y (HY.out.mem (List.mem_of_getElem? hy)) (belD HY.out.below 1))
          have hj1 : (j : Int) > 0 := by omega
          have hj2 : IntKind.i64.wrap ((j : Int) - 1) = ((j - 1 : Nat) : Int) := by rw [IntKind.wrap_i64] <;> omega
          have hj3 : ((j - 1 : Nat) : Int) < (o.length : Int) := by omega
          have hj4 : (0 : Int) ≤ ((j - 1 : Nat) : Int) := by omega
          have hj5 : (((j - 1 : Nat) : Int)).toNat = j - 1 := by omega
          have hd : decide (0 < j) = true := by simp; omega
          have hcs := cutJ_succ (turnJ ns) tv o (j := j) (by omega) hy
          obtain ⟨yv, hyv⟩ : ∃ v, turnJ ns y = v := ⟨_, rfl⟩
          rw [hyv] at TY hcs
          clear c0 hy
          go_wp2_with fail
          go_cut [51] (fun s51 wz => s51 = .bool (decide (yv > tv)) ∧ Hid (Below wr.heap.size wr wz))
          case first =>
            go_region_held3 (fun wx => wx.cell? ⟨w.heap.size, 0, none⟩ = some (.slice na ps.length nc) ∧ wx.cell? ⟨w.heap.size, 1, none⟩ = some (.slice ta us.length tc) ∧ wx.cell? ⟨og, j - 1, none⟩ = some (.int .i64 y)) (go_keep)
              ((go_at_call 37; refine TY.out.mono ?_; rintro e w7 ⟨rfl, hb7⟩
                have HB9 := hidF (belD1 hb7)
                have HI9 := HY.out.held HB9.out
                have m0 := HI9.t0
                have m1 := HI9.t1c
                have m2 := HI9.out0 HYY.out
                clear hb7 HI9))
            all_goals
              go_wp2_with fail
              go_meet
              case rel => go_light; exact ⟨rfl, HB9.out⟩
          case rest =>
          obtain ⟨rfl, HZ⟩ := hcut
          have H9 := hidF (HY.out.held HZ.out)
          clear d0 dt0 dt1 TY HZ hd hj3 hj4 hj5
          rename World => wz
          by_cases hgt : yv > tv
          · rw [if_pos hgt] at hcs
            have HC2 := hidF (HC.out.trans hcs)
            have hdg : decide (yv > tv) = true := by simp; omega
            clear hcs
            go_wp2_with fail
            go_roundw
            case rel => exact ⟨j - 1, by omega, by go_num, HC2.out, H9.out⟩
            case measure => simp [intOf]; omega
          · rw [if_neg hgt] at hcs
            have HC2 := hidF (HC.out.trans hcs)
            have hdg : decide (yv > tv) = false := by simp; omega
            clear hcs
            have hbz := H9.out.below.size
            have e0 := H9.out.und0 HX.out
            go_upto_region 16 with (at_builtin; refine wpList_app_own _ (by rfl) _ _ 32 (by rfl) wz.heap.size 3 i0 (.int .i64 0) 1 8 Tryz.underlying32 hi hz0 hz1 hz2 rfl (by decide) (.slice none 0 0) 0 [] (by rfl) (World.ownsRow_nil _ _ _ _) _ j ((o.take j).map intV) (by rfl) (by simp [Act.eval]; have := srcTakeD (cap' := oc) (own_src H9.out.oo (by intro u hu; obtain ⟨q, _, rfl⟩ := List.mem_map.1 hu; rfl)) (c := j) (by omega); simpa [List.map_take] using this) (by unfold maxLen; omega) (by omega) (Nat.le_refl _) ?_
                                    intro v1 w8 hv1 hg1 hx1
                                    have A1 := hidF (And.intro ((Below.refl _ wz).grown hg1 (Nat.le_refl _) (fun q hq => by simp [Value.ownBlock] at hq)) (by rw [Nat.zero_add, List.nil_append] at hv1; exact hv1))
                                    have e1 := (H9.out.held A1.out.1).und0 HX.out
                                    obtain ⟨va, vc, hva, _, _, _⟩ := own_shapeG A1.out.2
                                    subst hva
                                    clear hv1 hg1 hx1)
            have hs8 := A1.out.1.size
            go_upto_region 17 with (at_builtin; refine wpList_app_own _ (by rfl) _ _ 32 (by rfl) wz.heap.size 3 i0 (.int .i64 0) 1 8 Tryz.underlying32 hi hz0 hz1 hz2 rfl (by decide) (.slice va j vc) j ((o.take j).map intV) (by rfl) (A1.out.2.alloc _) _ 1 [.int .i64 x] (by rfl) ⟨rfl, by simp [Value.oneCell'], _, _, rfl, .inr ⟨_, rfl, cell_one_new _ _ _⟩⟩ (by unfold maxLen; omega) (by omega) (by simp; omega) ?_
                                    intro v2 w9 hv2 hg2 hx2
                                    have A2 := hidF (And.intro ((A1.out.1.alloc A1.out.1.size _).grown hg2 (by have := A1.out.1.size; simp; omega) (fun q hq => (A1.out.2.lt q hq).1)) hv2)
                                    obtain ⟨vb, vd, hvb, _, _, _⟩ := own_shapeG A2.out.2
                                    subst hvb
                                    clear hv2 hg2 hx2)
            have hs9 := A2.out.1.size
            have HY2 := hidF (H9.out.held A2.out.1)
            go_wp2_with (at_builtin; refine wpList_app_own _ (by rfl) _ _ 32 (by rfl) wz.heap.size 3 i0 (.int .i64 0) 1 8 Tryz.underlying32 hi hz0 hz1 hz2 rfl (by decide) (.slice vb (j + 1) vd) (j + 1) ((o.take j).map intV ++ [.int .i64 x]) (by rfl) A2.out.2 _ (o.length - j) ((o.drop j).map intV) (by rfl) (by simp [Act.eval]; have := srcDropD (cap' := oc - j) (own_src HY2.out.oo (by intro u hu; obtain ⟨q, _, rfl⟩ := List.mem_map.1 hu; rfl)) (c := j) (by omega) (by omega); simpa [List.map_drop] using this) (by unfold maxLen; omega) (by omega) (by omega) ?_
                         intro v3 w10 hv3 hg3 hx3
                         have A3 := hidF (H9.out.outP HX.out HT.out (show cutJ (turnJ ns) (turnJ ns x) o o.length = j by rw [HTV.out]; exact HC2.out) hj (A2.out.1.grown hg3 A2.out.1.size (fun q hq => (A2.out.2.lt q hq).1)) hv3)
                         clear hv3 hg3 hx3)
            go_roundw
            case rel => exact ⟨k + 1, _, _, by omega, by go_num, A3.out⟩
            case measure => simp [intOf]; omega
    · obtain rfl : k = L.length := by omega
      have htk : L.take L.length = L := List.take_length
      have hrl := HI.out.len
      have hbs := HI.out.below.size
      have hdoc := HI.out.doc.eq
      rw [htk] at hdoc
      have HD : Hid (orderP ns L = o ++ r) := hdoc
      have HS := hidF (own_src HI.out.rr (by intro u hu; obtain ⟨q, _, rfl⟩ := List.mem_map.1 hu; rfl))
      obtain ⟨ra, rc, hrv, _, _, _⟩ := own_shapeG HI.out.rr
      obtain ⟨oa, oc, hov, _, _, _⟩ := own_shapeG HI.out.oo
      subst hrv hov
      clear hdoc htk
      go_wp2_with (at_builtin; refine wpList_app_own _ (by rfl) _ _ 32 (by rfl) w.heap.size 3 i0 (.int .i64 0) 1 8 Tryz.underlying32 hi hz0 hz1 hz2 rfl (by decide) (.slice oa o.length oc) o.length (o.map intV) (by rfl) HI.out.oo _ r.length (r.map intV) (by rfl) HS.out (by unfold maxLen; omega) (by omega) (by omega) ?_
                   intro v1 w8 hv1 hg1 hx1
                   have HR : Hid (w8.ownsRow w.heap.size 3 1 v1 (orderP ns L).length ((orderP ns L).map intV)) := by
                     show World.ownsRow _ _ _ _ _ _ _
                     rw [HD.out, List.length_append, List.map_append]; exact hv1
                   have HB := hidF (HI.out.below.grown hg1 HI.out.below.size (fun q hq => (HI.out.oo.lt q hq).1))
                   clear hv1 hg1 hx1)
      go_returns
      exact ⟨_, rfl, HR.out, HB.out⟩
end Go.Proofs.YtlfepdecgfcifaaGreatDoor
