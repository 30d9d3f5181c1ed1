/- The document's Rows: the same as the program's. -/
import Derived.Test.YtdjagdifemhkpaaSRows
import Derived.Test.YtdjagdifemhkpaaQShPure
import Derived.Deep.DeepCutAuto
namespace Go.Proofs.Ytdjagdifemhkpaa
open Go.RowKit
set_option linter.unusedVariables false      -- bounds that are for the walk

theorem wantN_nrm (i : It) : wantN (nrm i) = wantN i := by unfold wantN; rw [bndI_nrm]; rfl
theorem rowsN_nrm (room gap : Int) (wrap : Bool) (its : List It) : rowsN room gap wrap (its.map nrm) = rowsN room gap wrap its := by
  unfold rowsN
  rw [List.foldl_map]
  congr 1
  funext s i
  unfold rowS
  rw [wantN_nrm]
/-- how wide so many items from a place on are, with the gaps between them -/
def wideN (gap : Int) (its : List It) (i n : Nat) : Int := (((its.drop i).take n).map wantN).sum + (n : Int) * gap
theorem wideN_zero (gap : Int) (its : List It) (i : Nat) : wideN gap its i 0 = 0 := by simp [wideN]
theorem wideN_succ {gap : Int} {its : List It} {i n : Nat} {x : It} (h : its[i + n]? = some x) : wideN gap its i (n + 1) = wideN gap its i n + wantN x + gap := by
  unfold wideN
  have h2 : (its.drop i)[n]? = some x := by rw [List.getElem?_drop]; exact h
  rw [List.take_add_one, h2]
  simp only [Option.toList_some, List.map_append, List.sum_append, List.map_cons, List.map_nil, List.sum_cons, List.sum_nil, Int.natCast_add, Int.add_mul]
  omega
theorem want_bd {i : It} (h : i.Ok) : -33554432 ≤ wantN i ∧ wantN i ≤ 33554432 := by
  have := bndI_b h; have := h.ar0; have := h.ar1
  unfold wantN; omega
theorem wideN_bd {gap : Int} {its : List It} (h : ItsOk its) (g1 : -16777216 ≤ gap) (g2 : gap ≤ 16777216) (i n : Nat) (hn : i + n ≤ its.length) : -((n : Int) * 50331648) ≤ wideN gap its i n ∧ wideN gap its i n ≤ (n : Int) * 50331648 := by
  induction n with
  | zero => rw [wideN_zero]; simp
  | succ n ih =>
    obtain ⟨x, hx⟩ : ∃ x, its[i + n]? = some x := ⟨_, List.getElem?_eq_getElem (by omega)⟩
    have := ih (by omega)
    have := want_bd (h.ok x (List.mem_of_getElem? hx))
    rw [wideN_succ hx, Int.natCast_add, Int.add_mul]
    omega
/-- while the document tells rows: out, and n items from i on in the row that is being told -/
def RwInv (room gap : Int) (wrap : Bool) (its : List It) (out : List Int) (i n : Nat) : Prop :=
  if n = 0 then (rowsN room gap wrap (its.take i)).rows = out ∧ (i < its.length → ∀ x, its[i]? = some x → ¬ ((rowsN room gap wrap (its.take i)).rows ≠ [] ∧ (wrap = false ∨ (rowsN room gap wrap (its.take i)).wide + gap + wantN x ≤ room)))
  else rowsN room gap wrap (its.take (i + n)) = ⟨out ++ [(n : Int)], wideN gap its i n - gap⟩
theorem RwInv.start (room gap : Int) (wrap : Bool) (its : List It) : RwInv room gap wrap its [] 0 0 := by
  unfold RwInv
  rw [if_pos rfl]
  refine ⟨by simp [rowsN], fun _ x _ h => ?_⟩
  exact h.1 (by simp [rowsN])
theorem RwInv.first {room gap : Int} {wrap : Bool} {its : List It} {out : List Int} {i : Nat} {x : It} (h : RwInv room gap wrap its out i 0) (hx : its[i]? = some x) : RwInv room gap wrap its out i 1 := by
  unfold RwInv at h ⊢
  rw [if_pos rfl] at h
  rw [if_neg (by omega), rowsN_take hx]
  unfold rowS
  rw [if_neg (h.2 (List.getElem?_eq_some_iff.1 hx).1 x hx), h.1]
  congr 1
  rw [wideN_succ (n := 0) (by simpa using hx), wideN_zero]; omega
theorem RwInv.more {room gap : Int} {wrap : Bool} {its : List It} {out : List Int} {i n : Nat} {x : It} (h : RwInv room gap wrap its out i n) (hn : 0 < n) (hx : its[i + n]? = some x) (hc : ¬ (wrap = true ∧ wideN gap its i (n + 1) - gap > room)) : RwInv room gap wrap its out i (n + 1) := by
  unfold RwInv at h ⊢
  rw [if_neg (by omega)] at h
  rw [if_neg (by omega), ← Nat.add_assoc, rowsN_take hx, h]
  unfold rowS
  have hw := wideN_succ (gap := gap) hx
  rw [if_pos]
  · simp only [List.length_append, List.length_cons, List.length_nil, Nat.zero_add, Nat.add_sub_cancel]
    congr 1
    · rw [List.getD_eq_getElem?_getD, List.getElem?_append_right (Nat.le_refl _), List.set_append_right _ _ (Nat.le_refl _)]
      simp
    · omega
  · refine ⟨by simp, ?_⟩
    cases wrap with
    | false => exact .inl rfl
    | true =>
      right
      have : ¬ wideN gap its i (n + 1) - gap > room := fun h => hc ⟨rfl, h⟩
      simp only
      omega
theorem RwInv.done {room gap : Int} {wrap : Bool} {its : List It} {out : List Int} {i n : Nat} (h : RwInv room gap wrap its out i n) (hn : 0 < n) (hc : i + n = its.length ∨ (wrap = true ∧ wideN gap its i (n + 1) - gap > room)) : RwInv room gap wrap its (out ++ [(n : Int)]) (i + n) 0 := by
  unfold RwInv at h ⊢
  rw [if_neg (by omega)] at h
  rw [if_pos rfl, h]
  refine ⟨rfl, fun hl x hx hh => ?_⟩
  rcases hc with hc | hc
  · omega
  · rcases hh.2 with e | e
    · rw [hc.1] at e; cases e
    · have hw := wideN_succ (gap := gap) hx
      simp only at e
      omega
theorem RwInv.all {room gap : Int} {wrap : Bool} {its : List It} {out : List Int} (h : RwInv room gap wrap its out its.length 0) : (rowsN room gap wrap its).rows = out := by
  unfold RwInv at h
  rw [if_pos rfl, List.take_of_length_le (Nat.le_refl _)] at h
  exact h.1
theorem told_same (l : List It) (room gap : Int) (wrap : Bool) : (rowsN (heldN room) (heldN gap) wrap ((l.take 200).map qitN)).rows = toldN l room gap wrap := by
  have e0 : (l.take 200).map qitN = (countN l).map nrm := by
    unfold countN
    rw [List.map_map]
    rfl
  rw [e0, rowsN_nrm]
  rfl

set_option maxHeartbeats 8000000 in
set_option maxRecDepth 100000 in
theorem qrows_any {w : World} {v : Value} {l : List It} (h : ItemsL w v l) (room gap : Int) (wrap : Bool) :
    Calls Try.prog 13 #[v, .int .i64 room, .int .i64 gap, .bool wrap] w fun e w' => ∃ v', e = .returned v' ∧ IntL w' v' (toldN l room gap wrap) ∧ Below w.heap.size w w' := by
  obtain ⟨i0, hi, hz0, hz1, hz2⟩ := info_parts Try.infoInt
  obtain ⟨r1, r2⟩ := heldN_bd room
  obtain ⟨p1, p2⟩ := heldN_bd gap
  have HSH := hidF (told_same l room gap wrap)
  have HO : Hid (ItsOk ((l.take 200).map qitN)) := by
    refine ⟨by rw [List.length_map, List.length_take]; omega, fun i hi => ?_⟩
    obtain ⟨j, _, rfl⟩ := List.mem_map.1 hi
    exact qitN_ok j
  have HM : Hid (∀ i ∈ (l.take 200).map qitN, 0 ≤ i.mn) := fun i hi => by
    obtain ⟨j, _, rfl⟩ := List.mem_map.1 hi
    show 0 ≤ max _ _; omega
  have QW := hidF (qwithin_any h)
  have QH1 := hidF (fun W => qheld_any room W)
  have QH2 := hidF (fun W => qheld_any gap W)
  obtain ⟨rm, hrm⟩ : ∃ r, heldN room = r := ⟨_, rfl⟩
  obtain ⟨gp, hgp⟩ : ∃ r, heldN gap = r := ⟨_, rfl⟩
  rw [hrm] at r1 r2 QH1 HSH
  rw [hgp] at p1 p2 QH2 HSH
  obtain ⟨its, hits⟩ : ∃ x, (l.take 200).map qitN = x := ⟨_, rfl⟩
  rw [hits] at QW HO HM HSH
  obtain ⟨n, hn⟩ : ∃ n, its.length = n := ⟨_, rfl⟩
  have hn2 : n ≤ 200 := by rw [← hn]; exact HO.out.len
  have HN := hidF hn
  clear hrm hgp hits hn h
  go_enter Try.func13, Try.ntmps13
  go_wp2_with fail
  refine QW.out.mono ?_
  rintro e w1 ⟨v1, rfl, hi1, hb1⟩
  have HB1 := hidF hb1
  obtain ⟨la, lc, rfl, q1, q2, hl⟩ := hi1
  have HL := hidF hl
  rw [HN.out] at q1 ⊢
  clear hl hb1 QW
  go_wp2_with fail
  refine (QH1.out _).mono ?_
  rintro e w2 ⟨rfl, hw2⟩
  rw [hw2]
  clear hw2 w2 QH1
  go_wp2_with fail
  refine (QH2.out _).mono ?_
  rintro e w2 ⟨rfl, hw2⟩
  rw [hw2]
  clear hw2 w2 QH2
  go_wp2_with fail
  go_loopw [10, 11] (fun pv i wr => ∃ (k : Nat) (out : List Int), k ≤ n ∧ i = .int .i64 k ∧ Hid (RwInv rm gp wrap its out k 0 ∧ out.length ≤ k ∧ RsAt w1 wr pv out)) (fun _ i _ => n - (intV i).toNat)
  case atStart => exact ⟨0, [], Nat.zero_le _, rfl, RwInv.start .., Nat.le_refl _, Below.refl _ _, World.ownsRow_nil _ _ _ _⟩
  case round =>
    obtain ⟨k, out, hk, rfl, HZ⟩ := hrel
    obtain ⟨w3, hw3⟩ : ∃ w9, w9 = wr := ⟨_, rfl⟩
    subst hw3
    obtain ⟨ra, rc, rfl, c1, c2⟩ := HZ.out.2.2.slice
    have hol : out.length ≤ 200 := by have := HZ.out.2.1; omega
    by_cases hlt : k < n
    · have i2 : (k : Int) < (n : Int) := by omega
      go_wp2_with fail
      go_loopw [12] (fun nv wr => ∃ (m : Nat), k + m ≤ n ∧ nv = .int .i64 m ∧ Hid (RwInv rm gp wrap its out k m ∧ Below w3.heap.size w3 wr)) (fun nv _ => n - (intV nv).toNat)
      case atStart => exact ⟨0, by omega, rfl, HZ.out.1, Below.refl _ _⟩
      case round =>
        obtain ⟨m, hm, rfl, HY⟩ := hrel
        obtain ⟨w4, hw4⟩ : ∃ w9, w9 = wr := ⟨_, rfl⟩
        subst hw4
        have j0 : IntKind.i64.wrap ((k : Int) + (m : Int)) = ((k + m : Nat) : Int) := by rw [IntKind.wrap_i64]; omega
        by_cases hlt2 : k + m < n
        · have j1 : ((k + m : Nat) : Int) < (n : Int) := by omega
          obtain ⟨km, hkm⟩ : ∃ q, k + m = q := ⟨_, rfl⟩
          rw [hkm] at j0 j1
          have HKM := hidF hkm
          clear hkm
          go_wp2_with fail
          go_loopw [13, 14] (fun sv tv wr => ∃ (t : Nat) (s : Int), t ≤ m + 1 ∧ tv = .int .i64 t ∧ sv = .int .i64 s ∧ Hid (s = wideN gp its k t - (if 0 < t then gp else 0) ∧ Below w3.heap.size w3 wr)) (fun _ tv _ => m + 1 - (intV tv).toNat)
          case atStart => exact ⟨0, 0, by omega, rfl, rfl, by rw [wideN_zero]; simp, HY.out.2⟩
          case round =>
            obtain ⟨t, s, ht, rfl, rfl, HX⟩ := hrel
            have sb := wideN_bd HO.out p1 p2 k t (by rw [HN.out]; omega)
            have s1 : -12000000000 ≤ s := by
              rw [HX.out.1]; split <;> omega
            have s2 : s ≤ 12000000000 := by
              rw [HX.out.1]; split <;> omega
            clear sb
            by_cases hlt3 : t < m + 1
            · have j2 : (t : Int) ≤ (m : Int) := by omega
              obtain ⟨x, hx⟩ : ∃ x, its[k + t]? = some x := ⟨_, List.getElem?_eq_getElem (by rw [HN.out]; omega)⟩
              have HWS := hidF (wideN_succ (gap := gp) hx)
              obtain ⟨b, o, rfl, hit⟩ := HL.out (k + t) x hx
              obtain ⟨x1, x2, x3, x4, x5, x6, x7⟩ := hit.below (HZ.out.2.2.below.trans (HX.out.2.mono HZ.out.2.2.below.size))
              have hok := HO.out.ok x (List.mem_of_getElem? hx)
              have HH := hidF (fun W => qhold_any x x.b (HM.out x (List.mem_of_getElem? hx)) W)
              have bb := bndI_b hok
              obtain ⟨a1, a2⟩ : -16777216 ≤ x.ar ∧ x.ar ≤ 16777216 := ⟨hok.ar0, hok.ar1⟩
              unfold wantN at HWS
              obtain ⟨bd, hbd⟩ : ∃ t, bndI x x.b = t := ⟨_, rfl⟩
              rw [hbd] at bb HH HWS
              obtain ⟨bb1, bb2⟩ := bb
              have j3 : IntKind.i64.wrap ((k : Int) + (t : Int)) = ((k + t : Nat) : Int) := by rw [IntKind.wrap_i64]; omega
              have j4 : (0 : Int) ≤ ((k + t : Nat) : Int) := by omega
              have j5 : ((k + t : Nat) : Int) < (n : Int) := by omega
              obtain ⟨kt, hkt⟩ : ∃ q, k + t = q := ⟨_, rfl⟩
              rw [hkt] at j3 j4 j5 x2 x3 x4 x5 x6 x7
              have W8 : IntKind.i64.wrap (s + bd) = s + bd := wrapJ (by omega) (by omega)
              have W9 : IntKind.i64.wrap (s + bd + x.ar) = s + bd + x.ar := wrapJ (by omega) (by omega)
              clear hx hit hok hbd hkt
              obtain ⟨xb, xmn, xmx, xar, xgr, xsh⟩ := x
              unfold itV at HH
              simp only at x2 x3 x4 x5 x6 x7 a1 a2 HH W9 HWS
              obtain ⟨w5, hw5⟩ : ∃ w9, w9 = wr := ⟨_, rfl⟩
              subst hw5
              go_upto_region 13 with fail
              go_cut [13] (fun sv wx => sv = .int .i64 (s + bd + xar) ∧ Hid (Below w3.heap.size w3 wx))
              case first =>
                go_region_held3 (fun wx => wx.cell? ⟨b, o + kt * 6, none⟩ = some (.int .i64 xb) ∧ wx.cell? ⟨b, o + kt * 6 + 1, none⟩ = some (.int .i64 xmn) ∧ wx.cell? ⟨b, o + kt * 6 + 2, none⟩ = some (.int .i64 xmx) ∧ wx.cell? ⟨b, o + kt * 6 + 3, none⟩ = some (.int .i64 xar) ∧ wx.cell? ⟨b, o + kt * 6 + 4, none⟩ = some (.int .i64 xgr) ∧ wx.cell? ⟨b, o + kt * 6 + 5, none⟩ = some (.int .i64 xsh)) (go_keep)
                  ((go_at_call 32; refine (HH.out _).mono ?_; rintro e w7 ⟨rfl, hb7⟩
                    have m0 := (hb7.cell (p := ⟨b, o + kt * 6, none⟩) x1).trans x2
                    have m1 := (hb7.cell (p := ⟨b, o + kt * 6 + 1, none⟩) x1).trans x3
                    have m2 := (hb7.cell (p := ⟨b, o + kt * 6 + 2, none⟩) x1).trans x4
                    have m3 := (hb7.cell (p := ⟨b, o + kt * 6 + 3, none⟩) x1).trans x5
                    have m4 := (hb7.cell (p := ⟨b, o + kt * 6 + 4, none⟩) x1).trans x6
                    have m5 := (hb7.cell (p := ⟨b, o + kt * 6 + 5, none⟩) x1).trans x7
                    have B7 := hidF (HX.out.2.trans (Below.mono ((Below.refl w5.heap.size w5).drew.trans hb7) HX.out.2.size))
                    clear hb7))
                all_goals
                  go_wp2_with fail
                  go_meet
                  case rel => go_light; exact ⟨rfl, B7.out⟩
              case rest =>
              obtain ⟨rfl, B7⟩ := hcut
              by_cases ht0 : 0 < t
              · have ht1 : (0 : Int) < (t : Int) := by omega
                go_wp2_with fail
                go_roundw
                case rel =>
                  go_light
                  refine ⟨t + 1, _, by omega, by go_num, rfl, ?_, B7.out⟩
                  rw [HWS.out, HX.out.1, if_pos ht0, if_pos (by omega)]; omega
                case measure => simp [intV]; omega
              · have ht1 : ¬ (0 : Int) < (t : Int) := by omega
                go_wp2_with fail
                go_roundw
                case rel =>
                  go_light
                  refine ⟨t + 1, _, by omega, by go_num, rfl, ?_, B7.out⟩
                  rw [HWS.out, HX.out.1, if_neg ht0, if_pos (by omega)]; omega
                case measure => simp [intV]; omega
            · obtain rfl : t = m + 1 := by omega
              have j2 : ¬ ((m + 1 : Nat) : Int) ≤ (m : Int) := by omega
              have HS : Hid (s = wideN gp its k (m + 1) - gp) := by
                show _ = _
                rw [HX.out.1, if_pos (by omega)]
              obtain ⟨x, hx⟩ : ∃ x, its[k + m]? = some x := ⟨_, List.getElem?_eq_getElem (by rw [HN.out, HKM.out]; omega)⟩
              have HXX := hidF hx
              clear hx
              by_cases hm0 : 0 < m
              · have hm1 : (0 : Int) < (m : Int) := by omega
                have HMO : Hid (¬ (wrap = true ∧ s > rm) → RwInv rm gp wrap its out k (m + 1)) := fun hc => HY.out.1.more hm0 HXX.out (by rw [← HS.out]; exact hc)
                have HDO : Hid ((wrap = true ∧ s > rm) → RwInv rm gp wrap its (out ++ [(m : Int)]) (k + m) 0) := fun hc => HY.out.1.done hm0 (.inr (by rw [← HS.out]; exact hc))
                by_cases hw : wrap = true
                · subst hw
                  by_cases hc : rm < s
                  · have HD2 := hidF (HDO.out ⟨rfl, hc⟩)
                    have HD3 : Hid (RwInv rm gp true its (out ++ [(m : Int)]) km 0) := by rw [← HKM.out]; exact HD2.out
                    have hkmn : km = k + m := HKM.out.symm
                    clear HMO HDO HD2
                    obtain ⟨w6, hw6⟩ : ∃ w9, w9 = wr := ⟨_, rfl⟩
                    subst hw6
                    have HX2 := hidF HX.out.2
                    have R2 := hidF (HZ.out.2.2.held HX2.out)
                    have RW : Hid (w6.ownsRow w1.heap.size 3 1 (.slice ra out.length rc) out.length (out.map (Value.int .i64))) := R2.out.row
                    have MO := hidF (fun (o : Obj) (v1 : Value) (W : World) (hg : (w6.alloc o).grownBy W (Value.slice ra out.length rc).ownBlock) (hv : W.ownsRow w1.heap.size 3 1 v1 (out.length + 1) (out.map (Value.int .i64) ++ [.int .i64 (m : Int)])) => (R2.out.held ((Below.refl w6.heap.size w6).alloc (Nat.le_refl _) o)).more (x := (m : Int)) hg hv)
                    have hsz : w1.heap.size ≤ w6.heap.size := R2.out.below.size
                    go_wp2_with (at_builtin; refine wpList_append_own_at _ rfl (.tmp 77) (.tmp 79) 23 rfl w1.heap.size 3 i0 (.int .i64 0) 1 8 Try.underlying23 hi hz0 hz1 hz2 rfl (by decide) _ _ _ rfl (RW.out.alloc _) ⟨_, 0, none⟩ 1 1 [.int .i64 (m : Int)] rfl rfl (cell_one_new _ _ _) (by simp [Value.oneCell']) (by unfold maxLen; omega) (by omega) (by simp; omega) ?_; intro v1 w8 hv1 hg1 hx1 hx2; clear hx1 hx2; have R4 := hidF (MO.out _ _ _ hg1 hv1); clear hv1 hg1)
                    go_roundw
                    case rel =>
                      go_light
                      refine ⟨km, out ++ [(m : Int)], by omega, by first | rfl | (congr 1; omega), HD3.out, ?_, R4.out⟩
                      rw [List.length_append]
                      have := HZ.out.2.1
                      simp only [List.length_cons, List.length_nil]
                      omega
                    case measure => simp [intV]; omega
                  · have HM2 := hidF (HMO.out (fun h => hc h.2))
                    clear HMO HDO
                    go_wp2_with fail
                    go_roundw
                    case rel => go_light; exact ⟨m + 1, by have := HKM.out; omega, by go_num, HM2.out, HX.out.2⟩
                    case measure => simp [intV]; omega
                · obtain rfl : wrap = false := by simpa using hw
                  have HM2 := hidF (HMO.out (fun h => by cases h.1))
                  clear HMO HDO hw
                  go_wp2_with fail
                  go_roundw
                  case rel => go_light; exact ⟨m + 1, by have := HKM.out; omega, by go_num, HM2.out, HX.out.2⟩
                  case measure => simp [intV]; omega
              · obtain rfl : m = 0 := by omega
                have HM2 := hidF (HY.out.1.first (by simpa using HXX.out))
                have hm1 : ¬ (0 : Int) < ((0 : Nat) : Int) := by omega
                cases wrap
                all_goals
                  go_wp2_with fail
                  go_roundw
                  case rel => go_light; exact ⟨1, by have := HKM.out; omega, by go_num, HM2.out, HX.out.2⟩
                  case measure => simp [intV]; have := HKM.out; omega
        · have j1 : ¬ ((k + m : Nat) : Int) < (n : Int) := by omega
          have hm0 : 0 < m := by omega
          have HD2 := hidF (HY.out.1.done hm0 (.inl (by rw [HN.out]; omega)))
          have R2 := hidF (HZ.out.2.2.held HY.out.2)
          have RW : Hid (w4.ownsRow w1.heap.size 3 1 (.slice ra out.length rc) out.length (out.map (Value.int .i64))) := R2.out.row
          have MO := hidF (fun (o : Obj) (v1 : Value) (W : World) (hg : (w4.alloc o).grownBy W (Value.slice ra out.length rc).ownBlock) (hv : W.ownsRow w1.heap.size 3 1 v1 (out.length + 1) (out.map (Value.int .i64) ++ [.int .i64 (m : Int)])) => (R2.out.held ((Below.refl w4.heap.size w4).alloc (Nat.le_refl _) o)).more (x := (m : Int)) hg hv)
          have hsz : w1.heap.size ≤ w4.heap.size := R2.out.below.size
          go_wp2_with (at_builtin; refine wpList_append_own_at _ rfl (.tmp 77) (.tmp 79) 23 rfl w1.heap.size 3 i0 (.int .i64 0) 1 8 Try.underlying23 hi hz0 hz1 hz2 rfl (by decide) _ _ _ rfl (RW.out.alloc _) ⟨_, 0, none⟩ 1 1 [.int .i64 (m : Int)] rfl rfl (cell_one_new _ _ _) (by simp [Value.oneCell']) (by unfold maxLen; omega) (by omega) (by simp; omega) ?_; intro v1 w8 hv1 hg1 hx1 hx2; clear hx1 hx2; have R4 := hidF (MO.out _ _ _ hg1 hv1); clear hv1 hg1)
          go_roundw
          case rel =>
            go_light
            refine ⟨k + m, out ++ [(m : Int)], by omega, by first | rfl | (congr 1; omega), HD2.out, ?_, R4.out⟩
            rw [List.length_append]
            have := HZ.out.2.1
            simp only [List.length_cons, List.length_nil]
            omega
          case measure => simp [intV]; omega
    · obtain rfl : k = n := by omega
      have hl2 : ¬ (k : Int) < (k : Int) := by omega
      have HI9 : Hid (IntL w3 (.slice ra out.length rc) (toldN l room gap wrap)) := by
        have e := RwInv.all (by have := HZ.out.1; rw [← HN.out] at this; exact this)
        rw [← HSH.out, e]
        exact own_intL HZ.out.2.2.row
      have HB9 := hidF (HB1.out.trans (HZ.out.2.2.below.mono HB1.out.size))
      go_wp2_with fail
      go_returns
      exact ⟨_, rfl, HI9.out, HB9.out⟩
end Go.Proofs.Ytdjagdifemhkpaa
