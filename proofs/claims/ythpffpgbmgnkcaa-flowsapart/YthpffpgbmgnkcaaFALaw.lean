/- FlowsApart: floats never overlap, and none stands above one ahead of it. -/
import Derived.Test.YthpffpgbmgnkcaaFAPure
import Derived.Test.YthpffpgbmgnkcaaFLRoom
import Derived.Deep.QuietTactic
import Derived.BigQuiet
import Derived.StillTailTactics
import Derived.Deep.RegionHeld3
import Derived.Deep.DeepCutAuto
import Derived.Deep.Light
namespace Go.Proofs.Ythpffpgbmgnkcaa
open Go.RowKit
set_option linter.unusedVariables false      -- the slice's bounds are for the walk

set_option maxHeartbeats 1000000 in
theorem apart_yes (a b : Fl) (h : apartN a b) (ha1 : -10000000000 ≤ a.x) (ha2 : a.x ≤ 10000000000) (ha3 : -10000000000 ≤ a.y) (ha4 : a.y ≤ 10000000000) (ha5 : 0 ≤ a.w) (ha6 : a.w ≤ 16777216) (ha7 : 0 ≤ a.h) (ha8 : a.h ≤ 16777216)
    (hb1 : -10000000000 ≤ b.x) (hb2 : b.x ≤ 10000000000) (hb3 : -10000000000 ≤ b.y) (hb4 : b.y ≤ 10000000000) (hb5 : 0 ≤ b.w) (hb6 : b.w ≤ 16777216) (hb7 : 0 ≤ b.h) (hb8 : b.h ≤ 16777216) (w : World) :
    Calls Try.prog 15 #[.agg #[.int .i64 a.x, .int .i64 a.y, .int .i64 a.w, .int .i64 a.h], .agg #[.int .i64 b.x, .int .i64 b.y, .int .i64 b.w, .int .i64 b.h]] w fun e w' => e = .returned (.bool true) ∧ Below w.heap.size w w' := by
  obtain ⟨ar, ax, ay, aw, ah⟩ := a
  obtain ⟨br, bx, by_, bw, bh⟩ := b
  simp only [apartN] at *
  by_cases c1 : ax + aw ≤ bx
  · clear h
    go_enter Try.func15, Try.ntmps15
    go_wp2
    go_returns
    exact ⟨rfl, by go_grown⟩
  · by_cases c2 : bx + bw ≤ ax
    · clear h
      go_enter Try.func15, Try.ntmps15
      go_wp2
      go_returns
      exact ⟨rfl, by go_grown⟩
    · by_cases c3 : ay + ah ≤ by_
      · clear h
        go_enter Try.func15, Try.ntmps15
        go_wp2
        go_returns
        exact ⟨rfl, by go_grown⟩
      · have c4 : by_ + bh ≤ ay := by omega
        clear h
        go_enter Try.func15, Try.ntmps15
        go_wp2
        go_returns
        exact ⟨rfl, by go_grown⟩

/-- floats that are asked for, as they came -/
def PutsAt (w : World) (pa : Option Addr) (ps : List Pt) : Prop :=
  ∀ (j : Nat) p, ps[j]? = some p → ∃ b o, pa = some ⟨b, o, none⟩ ∧ b < w.heap.size ∧ w.cell? ⟨b, o + j * 7, none⟩ = some (.bool p.r) ∧ w.cell? ⟨b, o + j * 7 + 1, none⟩ = some (.bool p.i) ∧ w.cell? ⟨b, o + j * 7 + 2, none⟩ = some (.int .i64 p.w) ∧
    w.cell? ⟨b, o + j * 7 + 3, none⟩ = some (.int .i64 p.h) ∧ w.cell? ⟨b, o + j * 7 + 4, none⟩ = some (.int .i64 p.f)

/-- while floats are added -/
structure ApAt (w wr : World) (M : Nat → Lab) (nb lb : Nat) (sv : Value) (width : Int) (ps : List Pt) (fs : List Fl) : Prop where
  below : Below w.heap.size w wr
  fl : FlAt wr M lb sv fs
  rm : RmAt wr M nb lb 0 width
  old : ∀ b, b < w.heap.size → M b = .other
  bd : Bd fs
  apt : Apt width ps fs

/-- a row of one's own, as it is read -/
theorem own_read {w : World} {base : Nat} {v : Value} {fs : List Fl} (h : w.ownsRow base 43 5 v fs.length (fcells fs)) :
    ∃ a c, v = .slice a fs.length c ∧ fs.length ≤ c ∧ c ≤ 9223372036854775807 ∧ ∀ (j : Nat) o, fs[j]? = some o → ∃ g, a = some ⟨g, 0, none⟩ ∧ g < w.heap.size ∧ w.cell? ⟨g, j * 5 + 1, none⟩ = some (.int .i64 o.x) ∧ w.cell? ⟨g, j * 5 + 2, none⟩ = some (.int .i64 o.y) ∧ w.cell? ⟨g, j * 5 + 3, none⟩ = some (.int .i64 o.w) ∧ w.cell? ⟨g, j * 5 + 4, none⟩ = some (.int .i64 o.h) := by
  obtain ⟨hl, h | ⟨g, cap, cur, rfl, hg, hh, h1, h2, h3, h4⟩⟩ := h
  · obtain ⟨rfl, hn⟩ := h
    refine ⟨none, 0, by rw [hn], by omega, by omega, fun j o hj => ?_⟩
    have := (List.getElem?_eq_some_iff.1 hj).1
    omega
  · unfold maxLen at h2
    refine ⟨_, cap, rfl, h1, by omega, fun j o hj => ⟨g, rfl, lt_of_heap hh, ?_⟩⟩
    have hc : ∀ (i : Nat) u, i < 5 → (flv o)[i]? = some u → w.cell? ⟨g, j * 5 + i, none⟩ = some u := fun i u hi hu => by
      have e := fcells_get fs j i o hj hi
      rw [hu, ← h4, List.getElem?_take] at e
      rw [cell_of_row w g _ _ _ _ hh]
      split at e
      · simpa using e
      · cases e
    exact ⟨hc 1 _ (by omega) rfl, hc 2 _ (by omega) rfl, hc 3 _ (by omega) rfl, hc 4 _ (by omega) rfl⟩

theorem cell4 {w : World} {b : Nat} {u v x y : Value} {t : TypeId} (h : w.heap[b]? = some (.cells #[u, v, x, y] t (0, 0))) :
    w.cell? ⟨b, 0, none⟩ = some u ∧ w.cell? ⟨b, 1, none⟩ = some v ∧ w.cell? ⟨b, 2, none⟩ = some x ∧ w.cell? ⟨b, 3, none⟩ = some y := by
  refine ⟨?_, ?_, ?_, ?_⟩ <;> rw [cell_of_row w b _ _ _ _ h] <;> rfl

theorem ApAt.add {w wr w5 : World} {M M' : Nat → Lab} {nb lb : Nat} {sv sv' : Value} {width : Int} {ps : List Pt} {fs : List Fl} (h : ApAt w wr M nb lb sv width ps fs) (p : Pt) {x y : Int} (c1 : 0 ≤ width) (c2 : width ≤ 16777216) (o1 : 0 ≤ p.w) (o2 : p.w ≤ width) (o3 : 0 ≤ p.h) (o4 : p.h ≤ 100000) (o5 : 0 ≤ p.f) (o6 : p.f ≤ 100000)
    (hf : FitAt 0 width fs p.w p.h (topN fs p.f) y) (hx : x = xOf p.r (gapN 0 width fs y p.h) p.w) (hl : FlAt w5 M' lb sv' (fs ++ [⟨p.r, x, y, p.w, p.h⟩])) (hk : Kept wr M w5 M') : ApAt w w5 M' nb lb sv' width (ps ++ [p]) (fs ++ [⟨p.r, x, y, p.w, p.h⟩]) :=
  ⟨⟨hk.os.trans h.below.os, hk.tape.trans h.below.tape, hk.output.trans h.below.output, Nat.le_trans h.below.size hk.size, fun b hb => (hk.far b (Nat.lt_of_lt_of_le hb h.below.size) (h.old b hb)).trans (h.below.block b hb)⟩, hl,
    ⟨(hk.far nb (lt_of_heap h.rm.head) h.rm.lab).trans h.rm.head, (hk.lab nb (lt_of_heap h.rm.head)).trans h.rm.lab⟩, fun b hb => (hk.lab b (Nat.lt_of_lt_of_le hb h.below.size)).trans (h.old b hb),
    bd_next h.bd (by omega) c1 c2 o1 (by omega) o3 (by omega) (by omega) (by omega) hf hx, h.apt.snoc p p.r o2 hf hx⟩

set_option maxHeartbeats 2000000 in
set_option maxRecDepth 100000 in
theorem apart_law (width : Int) (pa : Option Addr) (pc : Nat) (ps : List Pt) (w : World) (hp : PutsAt w pa ps) (hpc : ps.length ≤ pc) (hpm : pc ≤ 9223372036854775807) :
    Calls Try.prog 4 #[.int .i64 width, .slice pa ps.length pc] w fun e w' => e = .returned (.bool true) ∧ Below w.heap.size w w' := by
  have HP := hidF hp
  clear hp
  by_cases c0 : 0 ≤ width ∧ width ≤ 16777216 ∧ ps.length ≤ 60
  · obtain ⟨c1, c2, c3⟩ := c0
    have c3' : (ps.length : Int) ≤ 60 := by omega
    go_enter Try.func4, Try.ntmps4
    go_wp2_with fail
    refine (new_any w width).mono ?_
    rintro e w1 ⟨nb, lb, M1, rfl, hfl, hrm, hb1, hold⟩
    rw [heldN_of width (by omega) c2, show max 0 width = width by omega] at hrm
    have A1 : Hid (ApAt w w1 M1 nb lb (.slice none 0 0) width [] []) := ⟨hb1, hfl, hrm, hold, fun o ho => by simp at ho, Apt.nil width⟩
    clear hfl hrm hb1 hold
    go_wp2_with fail
    go_loopw [6] (fun i wr => ∃ (k : Nat) (M : Nat → Lab) (sv : Value) (fs : List Fl), k ≤ ps.length ∧ i = .int .i64 k ∧ Hid (ApAt w wr M nb lb sv width (ps.take k) fs)) (fun i _ => ps.length - (intV i).toNat)
    case atStart => exact ⟨0, M1, _, [], Nat.zero_le _, rfl, A1.out⟩
    case round =>
      obtain ⟨k, M, sv, fs, hk, rfl, hA⟩ := hrel
      by_cases hlt : k < ps.length
      · obtain ⟨p, hp⟩ : ∃ p, ps[k]? = some p := ⟨_, List.getElem?_eq_getElem hlt⟩
        obtain ⟨pb, po, rfl, hpb, _⟩ := HP.out k p hp
        obtain ⟨pb', po', he, hpb', q0, q1, q2, q3, q4⟩ := HP.out k p hp
        cases he
        have b0 := (hA.out.below.cell (p := ⟨pb, po + k * 7, none⟩) hpb).trans q0
        have b1 := (hA.out.below.cell (p := ⟨pb, po + k * 7 + 1, none⟩) hpb).trans q1
        have b2 := (hA.out.below.cell (p := ⟨pb, po + k * 7 + 2, none⟩) hpb).trans q2
        have b3 := (hA.out.below.cell (p := ⟨pb, po + k * 7 + 3, none⟩) hpb).trans q3
        have b4 := (hA.out.below.cell (p := ⟨pb, po + k * 7 + 4, none⟩) hpb).trans q4
        have i1 : (0 : Int) ≤ (k : Int) := by omega
        have i2 : (k : Int) < (ps.length : Int) := by omega
        have HPK := hidF hp
        clear q0 q1 q2 q3 q4 hpb' hp
        obtain ⟨pr, pi, pw, ph, pf, plo, phi⟩ := p
        simp only at b0 b1 b2 b3 b4
        by_cases ok : pi = false ∧ 0 ≤ pw ∧ pw ≤ width ∧ 0 ≤ ph ∧ ph ≤ 100000 ∧ 0 ≤ pf ∧ pf ≤ 100000
        · obtain ⟨rfl, o1, o2, o3, o4, o5, o6⟩ := ok
          have hlf : fs.length ≤ 60 := by have := hA.out.apt.len; simp at this; omega
          have AD : Hid (Calls Try.prog 10 #[.pointer (some ⟨nb, 0, none⟩), .bool pr, .int .i64 pw, .int .i64 ph, .int .i64 pf] wr.drew fun e w' => ∃ x y, FitAt 0 width fs pw ph (topN fs pf) y ∧ x = xOf pr (gapN 0 width fs y ph) pw ∧ e = .returned (.tuple #[.int .i64 x, .int .i64 y]) ∧ ∃ M' sv', FlAt w' M' lb sv' (fs ++ [⟨pr, x, y, pw, ph⟩]) ∧ Kept wr.drew M w' M') := by
            have hd : Below wr.heap.size wr wr.drew := (Below.refl _ _).drew
            have := add_any (hA.out.fl.below hd) (hA.out.rm.below hd) (by omega) hA.out.bd (by omega) c1 c2 pr pw ph pf
            rw [heldN_of pw (by omega) (by omega), heldN_of ph (by omega) (by omega), heldN_of pf (by omega) (by omega), show max pw 0 = pw by omega, show max ph 0 = ph by omega] at this
            exact this
          go_wp2_with fail
          go_still_tail 21, (by kernel_rfl)
          go_wp2_with fail
          refine AD.out.mono ?_
          rintro e w5 ⟨x, y, hfit, hx, rfl, M', sv', hfl', hk'⟩
          have AN : Hid (ApAt w w5 M' nb lb sv' width (ps.take (k + 1)) (fs ++ [⟨pr, x, y, pw, ph⟩])) := by
            have := hA.out.add ⟨pr, false, pw, ph, pf, plo, phi⟩ c1 c2 o1 o2 o3 o4 o5 o6 hfit hx hfl' ⟨hk'.size, hk'.lab, hk'.far, hk'.os, hk'.tape, hk'.output⟩
            rw [List.take_add_one, HPK.out]
            exact this
          clear hfit hx hfl' hk'
          go_wp2_with fail
          go_roundw
          case rel => go_light; exact ⟨k + 1, M', sv', _, by omega, by go_num, AN.out⟩
          case measure => simp [intV]; omega
        · cases pi
          · have OK : Hid (¬ (0 ≤ pw ∧ pw ≤ width ∧ 0 ≤ ph ∧ ph ≤ 100000 ∧ 0 ≤ pf ∧ pf ≤ 100000)) := fun h => ok ⟨rfl, h⟩
            clear ok
            go_wp2_with fail
            all_goals first
              | (exfalso; exact OK.out ⟨by omega, by omega, by omega, by omega, by omega, by omega⟩)
              | (go_returns; exact ⟨rfl, hA.out.below⟩)
          · go_wp2_with fail
            go_returns
            exact ⟨rfl, hA.out.below⟩
      · have hA2 := hA.out
        rw [List.take_of_length_le (by omega)] at hA2
        have hlf := hA2.apt.len
        have hl60 : fs.length ≤ 200 := by omega
        have AL := hidF (all_any hA2.fl hA2.rm hl60)
        have HA2 := hidF hA2
        clear hA hA2 A1
        obtain ⟨w3, e3⟩ : ∃ w3, w3 = wr := ⟨_, rfl⟩
        subst e3
        go_wp2_with fail
        refine AL.out.mono ?_
        rintro e w4 ⟨v', rfl, ho, hb4⟩
        obtain ⟨a, c, hv, hc1, hc2, hread⟩ := own_read ho
        rw [hlf] at hv hc1
        subst hv
        have HRD := hidF hread
        have B4 := hidF (HA2.out.below.trans (hb4.mono HA2.out.below.size))
        clear hread ho hb4 AL
        have HLF := hidF hlf
        clear hlf
        go_wp2_with fail
        go_loopw [8] (fun i wr => ∃ (k : Nat), k ≤ ps.length ∧ i = .int .i64 k ∧ Hid (Below w4.heap.size w4 wr)) (fun i _ => ps.length - (intV i).toNat)
        case atStart => exact ⟨0, Nat.zero_le _, rfl, Below.refl _ _⟩
        case round =>
          obtain ⟨k2, hk2, rfl, hB⟩ := hrel
          by_cases hlt2 : k2 < ps.length
          · obtain ⟨p, hp⟩ : ∃ p, ps[k2]? = some p := ⟨_, List.getElem?_eq_getElem hlt2⟩
            obtain ⟨o, ho⟩ : ∃ o, fs[k2]? = some o := ⟨_, List.getElem?_eq_getElem (by rw [HLF.out]; exact hlt2)⟩
            obtain ⟨pb, po, rfl, hpb, q0, q1, q2, q3, q4⟩ := HP.out k2 p hp
            obtain ⟨g, rfl, hg, r1, r2, r3, r4⟩ := HRD.out k2 o ho
            obtain ⟨t1, t2, t3, t4, t5⟩ := HA2.out.apt.each k2 p o hp ho
            obtain ⟨ub1, ub2, ub3, ub4, ub5, ub6, ub7, ub8⟩ := HA2.out.bd.at hl60 (List.mem_of_getElem? ho)
            have Bw := hidF (B4.out.trans (hB.out.mono B4.out.size))
            have b2 := (Bw.out.cell (p := ⟨pb, po + k2 * 7 + 2, none⟩) hpb).trans q2
            have b3 := (Bw.out.cell (p := ⟨pb, po + k2 * 7 + 3, none⟩) hpb).trans q3
            have b4 := (Bw.out.cell (p := ⟨pb, po + k2 * 7 + 4, none⟩) hpb).trans q4
            rw [← t1] at b2
            rw [← t2] at b3
            have d1 := (hB.out.cell (p := ⟨g, k2 * 5 + 1, none⟩) hg).trans r1
            have d2 := (hB.out.cell (p := ⟨g, k2 * 5 + 2, none⟩) hg).trans r2
            have d3 := (hB.out.cell (p := ⟨g, k2 * 5 + 3, none⟩) hg).trans r3
            have d4 := (hB.out.cell (p := ⟨g, k2 * 5 + 4, none⟩) hg).trans r4
            have z1 : pb < wr.heap.size := Nat.lt_of_lt_of_le hpb Bw.out.size
            have z2 : g < wr.heap.size := Nat.lt_of_lt_of_le hg hB.out.size
            have i1 : (0 : Int) ≤ (k2 : Int) := by omega
            have i2 : (k2 : Int) < (ps.length : Int) := by omega
            have HO := hidF ho
            clear q0 q1 q2 q3 q4 r1 r2 r3 r4 hp ho t1 t2
            obtain ⟨orr, ox, oy, ow, oh⟩ := o
            simp only at d1 d2 d3 d4 b2 b3 t3 t4 t5 ub1 ub2 ub3 ub4 ub5 ub6 ub7 ub8
            have y1 : decide (ox < 0) = false := by simp; omega
            have y2 : decide (width < ox + ow) = false := by simp; omega
            have y3 : decide (oy < p.f) = false := by simp; omega
            go_wp2_with fail
            go_quiet (fail)
            go_wp2_with fail
            obtain ⟨w5, e5⟩ : ∃ w5, w5 = wr := ⟨_, rfl⟩
            subst e5
            clear d1 d2 d3 d4 b2 b3 b4 y1 y2 y3
            go_loopw [10] (fun i wx => ∃ (k3 : Nat), k3 ≤ k2 ∧ i = .int .i64 k3 ∧ Hid (Below w4.heap.size w4 wx ∧ wx.heap[w5.heap.size]? = some (.cells #[.int .i64 ox, .int .i64 oy, .int .i64 ow, .int .i64 oh] 41 (0, 0)))) (fun i _ => k2 - (intV i).toNat)
            case atStart => exact ⟨0, Nat.zero_le _, rfl, below_drewN (hB.out.alloc hB.out.size _) _, heap_alloc_new w5 _⟩
            case round =>
              obtain ⟨k3, hk3, rfl, hC⟩ := hrel
              have x1 := cell4 hC.out.2
              obtain ⟨x0, x1, x2, x3⟩ := x1
              have z3 : w5.heap.size < wr.heap.size := lt_of_heap hC.out.2
              have z4 : g < wr.heap.size := by omega
              by_cases hlt3 : k3 < k2
              · obtain ⟨o3, ho3⟩ : ∃ o, fs[k3]? = some o := ⟨_, List.getElem?_eq_getElem (by rw [HLF.out]; omega)⟩
                obtain ⟨g', he, hg', r1, r2, r3, r4⟩ := HRD.out k3 o3 ho3
                cases he
                obtain ⟨ap, hyy⟩ := HA2.out.apt.two k3 k2 o3 _ hlt3 ho3 HO.out
                obtain ⟨v1, v2, v3, v4, v5, v6, v7, v8⟩ := HA2.out.bd.at hl60 (List.mem_of_getElem? ho3)
                have d1 := (hC.out.1.cell (p := ⟨g, k3 * 5 + 1, none⟩) hg).trans r1
                have d2 := (hC.out.1.cell (p := ⟨g, k3 * 5 + 2, none⟩) hg).trans r2
                have d3 := (hC.out.1.cell (p := ⟨g, k3 * 5 + 3, none⟩) hg).trans r3
                have d4 := (hC.out.1.cell (p := ⟨g, k3 * 5 + 4, none⟩) hg).trans r4
                have AP := hidF (apart_yes ⟨orr, ox, oy, ow, oh⟩ o3 ap ub1 ub2 ub3 ub4 ub5 ub6 ub7 ub8 v1 v2 v3 v4 v5 v6 v7 v8)
                have j1 : (0 : Int) ≤ (k3 : Int) := by omega
                have j2 : (k3 : Int) < (ps.length : Int) := by omega
                have j3 : (k3 : Int) < (k2 : Int) := by omega
                clear r1 r2 r3 r4 hg' ap ho3
                obtain ⟨pr3, px, py, pw, ph⟩ := o3
                simp only at d1 d2 d3 d4 hyy
                have y4 : decide (oy < py) = false := by simp; omega
                go_wp2_with fail
                go_region_held3 (fun wx => wx.cell? ⟨w5.heap.size, 0, none⟩ = some (.int .i64 ox) ∧ wx.cell? ⟨w5.heap.size, 1, none⟩ = some (.int .i64 oy) ∧ wx.cell? ⟨w5.heap.size, 2, none⟩ = some (.int .i64 ow) ∧ wx.cell? ⟨w5.heap.size, 3, none⟩ = some (.int .i64 oh) ∧ wx.cell? ⟨g, k3 * 5 + 1, none⟩ = some (.int .i64 px) ∧ wx.cell? ⟨g, k3 * 5 + 2, none⟩ = some (.int .i64 py) ∧ wx.cell? ⟨g, k3 * 5 + 3, none⟩ = some (.int .i64 pw) ∧ wx.cell? ⟨g, k3 * 5 + 4, none⟩ = some (.int .i64 ph)) (go_keep)
                  ((go_at_call 15; refine (AP.out _).mono ?_; rintro e w7 ⟨rfl, hb7⟩
                    have m0 := (hb7.cell (p := ⟨w5.heap.size, 0, none⟩) z3).trans x0
                    have m1 := (hb7.cell (p := ⟨w5.heap.size, 1, none⟩) z3).trans x1
                    have m2 := (hb7.cell (p := ⟨w5.heap.size, 2, none⟩) z3).trans x2
                    have m3 := (hb7.cell (p := ⟨w5.heap.size, 3, none⟩) z3).trans x3
                    have n1 := (hb7.cell (p := ⟨g, k3 * 5 + 1, none⟩) z4).trans d1
                    have n2 := (hb7.cell (p := ⟨g, k3 * 5 + 2, none⟩) z4).trans d2
                    have n3 := (hb7.cell (p := ⟨g, k3 * 5 + 3, none⟩) z4).trans d3
                    have n4 := (hb7.cell (p := ⟨g, k3 * 5 + 4, none⟩) z4).trans d4
                    have HB7 : Hid (Below wr.heap.size wr w7) := (Below.refl wr.heap.size wr).drew.trans hb7
                    clear hb7))
                all_goals
                  go_wp2_with fail
                  go_quiet (fail)
                  go_wp2_with fail
                  go_roundw
                  case rel => go_light; exact ⟨k3 + 1, by omega, by go_num, below_drewN (hC.out.1.trans (HB7.out.mono hC.out.1.size)) _, (HB7.out.block _ z3).trans hC.out.2⟩
                  case measure => simp [intV]; omega
              · have hk : k3 = k2 := by omega
                go_wp2_with fail
                go_roundw
                case rel => go_light; exact ⟨k2 + 1, by omega, by go_num, hC.out.1⟩
                case measure => simp [intV]; omega
          · go_wp2_with fail
            go_returns
            exact ⟨rfl, B4.out.trans (hB.out.mono B4.out.size)⟩
  · by_cases d1 : width < 0
    · go_enter Try.func4, Try.ntmps4
      go_wp2_with fail
      refine (new_any w width).mono ?_
      rintro e w1 ⟨nb, lb, M1, rfl, _, _, hb1, _⟩
      go_wp2_with fail
      go_returns
      exact ⟨rfl, hb1⟩
    · by_cases d2 : 16777216 < width
      · go_enter Try.func4, Try.ntmps4
        go_wp2_with fail
        refine (new_any w width).mono ?_
        rintro e w1 ⟨nb, lb, M1, rfl, _, _, hb1, _⟩
        go_wp2_with fail
        go_returns
        exact ⟨rfl, hb1⟩
      · have d3 : (60 : Int) < (ps.length : Int) := by omega
        go_enter Try.func4, Try.ntmps4
        go_wp2_with fail
        refine (new_any w width).mono ?_
        rintro e w1 ⟨nb, lb, M1, rfl, _, _, hb1, _⟩
        go_wp2_with fail
        go_returns
        exact ⟨rfl, hb1⟩
end Go.Proofs.Ythpffpgbmgnkcaa
