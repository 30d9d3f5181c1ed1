/- widen, walked. -/
import Derived.Test.YtjdndaeobiagcaaTrWide
namespace Go.Proofs.Ytjdndaeobiagcaa
open Go.RowKit
set_option linter.unusedVariables false      -- bounds that are for the walk

theorem TkL.at {w : World} {v : Value} {l : List Tr2} (h : TkL w v l) {k : Nat} (hk : k < l.length) : ∃ b o cap, v = .slice (some ⟨b, o, none⟩) l.length cap ∧ b < w.heap.size ∧ w.cell? ⟨b, o + k * 2, none⟩ = some (.int .i64 (atT l k).k) ∧ w.cell? ⟨b, o + k * 2 + 1, none⟩ = some (.int .i64 (atT l k).n) := by
  obtain ⟨a, cap, rfl, h1, h2, hc⟩ := h
  obtain ⟨b, o, rfl, e2, e3, e4⟩ := hc k (atT l k) (by simp [atT, hk])
  exact ⟨b, o, cap, rfl, e2, e3, e4⟩
theorem sub_mul_ediv_nonneg {a : Int} (h : 0 ≤ a) (q : Nat) (L : Nat) (hL : 0 < L) (hq : q < L) (hb : a ≤ 1000000000) : 0 ≤ a * ((q : Int) + 1) ∧ a * ((q : Int) + 1) ≤ 1000000000 * (L : Int) ∧ 0 ≤ a * (q : Int) ∧ a * (q : Int) ≤ 1000000000 * (L : Int) ∧ a * (q : Int) / (L : Int) ≤ a * ((q : Int) + 1) / (L : Int) ∧ 0 ≤ a * (q : Int) / (L : Int) ∧ a * ((q : Int) + 1) / (L : Int) ≤ a := by
  have hL' : (0 : Int) < (L : Int) := by omega
  have h1 : 0 ≤ a * ((q : Int) + 1) := Int.mul_nonneg h (by omega)
  have h3 : 0 ≤ a * (q : Int) := Int.mul_nonneg h (by omega)
  have h2 : a * ((q : Int) + 1) ≤ a * (L : Int) := Int.mul_le_mul_of_nonneg_left (by omega) h
  have h4 : a * (L : Int) ≤ 1000000000 * (L : Int) := Int.mul_le_mul_of_nonneg_right hb (by omega)
  have h5 : a * (q : Int) ≤ a * ((q : Int) + 1) := Int.mul_le_mul_of_nonneg_left (by omega) h
  refine ⟨h1, by omega, h3, by omega, Int.ediv_le_ediv hL' h5, Int.ediv_nonneg h3 (by omega), ?_⟩
  refine Int.le_trans (Int.ediv_le_ediv hL' h2) ?_
  rw [Int.mul_ediv_cancel _ (by omega)]
  exact Int.le_refl _

theorem addQ_succ (miss : Int) (op : List Nat) (q : Nat) (sz : Nat → Int) (j : Nat) : addQ miss op (q + 1) sz j = if j = op.getD q 0 then addQ miss op q sz j + (miss * ((q : Int) + 1) / (op.length : Int) - miss * (q : Int) / (op.length : Int)) else addQ miss op q sz j := rfl
theorem own_open {w : World} {B c : Nat} {v : Value} {op : List Nat} (hc : op.length = c) (h : w.ownsRow B 3 1 v c (op.map (fun (i : Nat) => Value.int .i64 (i : Int)))) : ∃ a cap, v = .slice a c cap ∧ c ≤ cap ∧ cap ≤ 9223372036854775807 ∧ ∀ (j x : Nat), op[j]? = some x → ∃ g, a = some ⟨g, 0, none⟩ ∧ B ≤ g ∧ g < w.heap.size ∧ w.cell? ⟨g, j, none⟩ = some (.int .i64 (x : Int)) := by
  obtain ⟨hl, ⟨rfl, hn⟩ | ⟨g, cap, cur, rfl, hg, hh, h1, h2, h3, h4⟩⟩ := h
  · refine ⟨none, 0, by rw [hn], by omega, by omega, fun j x hj => ?_⟩
    have := (List.getElem?_eq_some_iff.1 hj).1
    omega
  · unfold maxLen at h2
    refine ⟨_, cap, rfl, h1, by omega, fun j x hj => ⟨g, rfl, hg, ltH hh, ?_⟩⟩
    have hjl := (List.getElem?_eq_some_iff.1 hj).1
    have e : (op.map (fun (i : Nat) => Value.int .i64 (i : Int)))[j]? = some (.int .i64 (x : Int)) := by rw [List.getElem?_map, hj]; rfl
    rw [← h4, List.getElem?_take] at e
    rw [cell_of_row w g _ _ _ _ hh]
    split at e
    · simpa using e
    · cases e

set_option maxHeartbeats 8000000 in
set_option maxRecDepth 100000 in
theorem widen_any {w0 w : World} {bb sb n : Nat} {tv : Value} {gap : Int} {sz : Nat → Int} {l : List Tr2} (hB : BdAt w0 w bb sb n tv gap sz) (hT : TkL w0 tv l) (hln : l.length = n) (hn : n ≤ 300) {M : Int} (hM : ∀ j, j < n → 0 ≤ sz j ∧ sz j ≤ M) (hM0 : 0 ≤ M) (hM2 : M ≤ 1000000000000) (g1 : -16777216 ≤ gap) (g2 : gap ≤ 16777216) {x : Nd3} (hx : NdOk x) (hr : (x.f - 1).toNat + x.s.toNat ≤ n) :
    Calls Try.prog 54 #[.pointer (some ⟨bb, 0, none⟩), ndV x] w fun e w' => e = .returned (.tuple #[]) ∧ BdAt w0 w' bb sb n tv gap (widF (atT l) gap x sz) := by
  obtain ⟨i0, hi, hz0, hz1, hz2⟩ := info_parts Try.infoIntT
  have HB := hidF hB
  have HT := hidF hT
  have HMB := hidF hM
  have f1 := hx.f1; have f2 := hx.f2; have s1 := hx.s1; have s2 := hx.s2; have z1 := hx.z1; have z2 := hx.z2
  have GP := hidF (fun W => gaps_any x.s gap (by omega) (by omega) g1 g2 W)
  obtain ⟨xf, xs, xz⟩ := x
  simp only at f1 f2 s1 s2 z1 z2 hr GP
  obtain ⟨fr, hfr⟩ : ∃ fr : Nat, (xf - 1).toNat = fr := ⟨_, rfl⟩
  obtain ⟨m, hm⟩ : ∃ m : Nat, xs.toNat = m := ⟨_, rfl⟩
  rw [hfr, hm] at hr
  have m2 : m ≤ 20 := by omega
  have HW : Hid (widF (atT l) gap ⟨xf, xs, xz⟩ sz = widF (atT l) gap ⟨xf, xs, xz⟩ sz ∧ (xf - 1).toNat = fr ∧ xs.toNat = m) := ⟨rfl, hfr, hm⟩
  obtain ⟨gp, hgp⟩ : ∃ g, max (xs - 1) 0 * gap = g := ⟨_, rfl⟩
  have gb : -335544320 ≤ gp ∧ gp ≤ 335544320 := by
    rw [← hgp]
    have a0 : 0 ≤ max (xs - 1) 0 := by omega
    have a1 : max (xs - 1) 0 * gap ≤ 20 * 16777216 := Int.le_trans (Int.mul_le_mul_of_nonneg_left g2 a0) (Int.mul_le_mul_of_nonneg_right (by omega) (by omega))
    have a2 : max (xs - 1) 0 * (-gap) ≤ 20 * 16777216 := Int.le_trans (Int.mul_le_mul_of_nonneg_left (show -gap ≤ 16777216 by omega) a0) (Int.mul_le_mul_of_nonneg_right (by omega) (by omega))
    rw [Int.mul_neg] at a2
    omega
  obtain ⟨gb1, gb2⟩ := gb
  rw [hgp] at GP
  have HGP := hidF hgp
  -- what comes out
  have HEND : Hid ((∃ i, i < m ∧ (atT l (fr + i)).k = 3) → widF (atT l) gap ⟨xf, xs, xz⟩ sz = sz) := by
    intro h
    unfold widF
    simp only
    rw [hfr, hm, if_pos h]
  have HEND2 : Hid (¬ (∃ i, i < m ∧ (atT l (fr + i)).k = 3) → xz - gp - smz sz fr m ≤ 0 → widF (atT l) gap ⟨xf, xs, xz⟩ sz = sz) := by
    intro h h2
    unfold widF missW
    simp only
    rw [hfr, hm, hgp, if_neg h, if_pos h2]
  have HEND3 : Hid (¬ (∃ i, i < m ∧ (atT l (fr + i)).k = 3) → ¬ xz - gp - smz sz fr m ≤ 0 → widF (atT l) gap ⟨xf, xs, xz⟩ sz = addQ (xz - gp - smz sz fr m) (opn (atT l) fr m) (opn (atT l) fr m).length sz) := by
    intro h h2
    unfold widF missW
    simp only
    rw [hfr, hm, hgp, if_neg h, if_neg h2]
  obtain ⟨R, hR⟩ : ∃ R, widF (atT l) gap ⟨xf, xs, xz⟩ sz = R := ⟨_, rfl⟩
  rw [hR] at HEND HEND2 HEND3 ⊢
  have W1 : IntKind.i64.wrap (xf - 1) = (fr : Int) := by rw [wrapT (by omega) (by omega)]; omega
  have W2 : IntKind.i64.wrap ((fr : Int) + xs) = ((fr + m : Nat) : Int) := by rw [wrapT (by omega) (by omega)]; omega
  have W3 : IntKind.i64.wrap (xz - gp) = xz - gp := wrapT (by omega) (by omega)
  obtain ⟨en, hen⟩ : ∃ en, fr + m = en := ⟨_, rfl⟩
  rw [hen] at W2
  clear hB hT hM hx hfr hm hgp hR HW
  obtain ⟨q0, q1, q2, q3⟩ := HB.out.cells
  have HNX : Hid (Below w.heap.size w (w.alloc (.cells #[.int .i64 xf, .int .i64 xs, .int .i64 xz] 60)) ∧ (w.alloc (.cells #[.int .i64 xf, .int .i64 xs, .int .i64 xz] 60)).heap[w.heap.size]? = some (.cells #[.int .i64 xf, .int .i64 xs, .int .i64 xz] 60 (0, 0))) := ⟨(Below.refl _ _).alloc (Nat.le_refl _) _, heap_alloc_new w _⟩
  unfold ndV
  simp only
  go_enter Try.func54, Try.ntmps54
  go_upto_region 0 with fail
  go_cut [3] (fun p wx => p = .pointer (some ⟨w.heap.size, 0, none⟩) ∧ Hid (Below w.heap.size w wx ∧ wx.heap[w.heap.size]? = some (.cells #[.int .i64 xf, .int .i64 xs, .int .i64 xz] 60 (0, 0))))
  case first =>
    go_wp2_with fail
    go_meet
    case rel => go_light; exact ⟨rfl, HNX.out.1, HNX.out.2⟩
  case rest =>
  obtain ⟨rfl, HC⟩ := hcut
  clear HNX q0 q1 q2 q3
  obtain ⟨xb, hxb⟩ : ∃ x, w.heap.size = x := ⟨_, rfl⟩
  obtain ⟨w5, hw5⟩ : ∃ w5, w5 = wc := ⟨_, rfl⟩
  subst hw5
  have HB5 := hidF (HB.out.held HC.out.1)
  have HX5 : Hid (w5.heap[xb]? = some (.cells #[.int .i64 xf, .int .i64 xs, .int .i64 xz] 60 (0, 0))) := by rw [← hxb]; exact HC.out.2
  rw [hxb]
  clear HC HB hxb
  obtain ⟨q0, q1, q2, q3⟩ := HB5.out.cells
  have y0 := ltH HX5.out
  have y1 : w5.cell? ⟨xb, 0, none⟩ = some (.int .i64 xf) := by rw [cell_of_row w5 xb _ _ _ _ HX5.out]; rfl
  have y2 : w5.cell? ⟨xb, 1, none⟩ = some (.int .i64 xs) := by rw [cell_of_row w5 xb _ _ _ _ HX5.out]; rfl
  have y3 : w5.cell? ⟨xb, 2, none⟩ = some (.int .i64 xz) := by rw [cell_of_row w5 xb _ _ _ _ HX5.out]; rfl
  go_upto_region 1 with fail
  go_cut [4] (fun mv wx => mv = .int .i64 (xz - gp) ∧ Hid (Below w5.heap.size w5 wx))
  case first =>
    go_quiet ((go_at_call 38; exact Calls.quiet_of_same (GP.out _)))
    go_wp2_with fail
    go_meet
    case rel => go_light; exact ⟨rfl, rfl, rfl, rfl, Nat.le_refl _, fun _ _ => rfl⟩
  case rest =>
  obtain ⟨rfl, HC⟩ := hcut
  have HB6 := hidF (HB5.out.held HC.out)
  have HX6 : Hid (wc.heap[xb]? = some (.cells #[.int .i64 xf, .int .i64 xs, .int .i64 xz] 60 (0, 0))) := (HC.out.block xb y0).trans HX5.out
  obtain ⟨w6, hw6⟩ : ∃ w6, w6 = wc := ⟨_, rfl⟩
  subst hw6
  clear HC HB5 HX5 q0 q1 q2 q3 y0 y1 y2 y3 GP
  obtain ⟨q0, q1, q2, q3⟩ := HB6.out.cells
  have y0 := ltH HX6.out
  have y1 : w6.cell? ⟨xb, 0, none⟩ = some (.int .i64 xf) := by rw [cell_of_row w6 xb _ _ _ _ HX6.out]; rfl
  go_wp2_with fail
  go_loopw [4, 5, 6] (fun mv ov av wr => ∃ (q : Nat) (at_ c : Nat) (ms : Int), q ≤ m ∧ av = .int .i64 (at_ : Int) ∧ mv = .int .i64 ms ∧ c ≤ q ∧ Hid (at_ = fr + q ∧ ms = xz - gp - smz sz fr q ∧ (opn (atT l) fr q).length = c ∧ (∀ i, i < q → ¬ (atT l (fr + i)).k = 3) ∧ Below w6.heap.size w6 wr ∧ wr.ownsRow w6.heap.size 3 1 ov c ((opn (atT l) fr q).map (fun (i : Nat) => Value.int .i64 (i : Int))))) (fun _ _ av _ => en - (intV av).toNat)
  case atStart => exact ⟨0, fr, 0, xz - gp, Nat.zero_le _, rfl, rfl, Nat.le_refl _, rfl, by simp [smz], by simp [opn], (fun i hi => by omega), Below.refl _ _, World.ownsRow_nil _ _ _ _⟩
  case round =>
    obtain ⟨q, at_, c, ms, hq, rfl, rfl, hcq, HZ⟩ := hrel
    obtain ⟨hat, hms, hop, hno, hbz, hrow⟩ := HZ.out
    have sb0 := smz_bd (M := M) HMB.out fr q (by omega)
    have hqM : (q : Int) * M ≤ 20 * 1000000000000 := Int.le_trans (Int.mul_le_mul_of_nonneg_left hM2 (by omega)) (Int.mul_le_mul_of_nonneg_right (by omega) (by omega))
    have ms1 : -30000000000000 ≤ ms := by omega
    have ms2 : ms ≤ 1000000000 := by omega
    have HAT := hidF hat
    have HMS := hidF hms
    have HQ := hidF (And.intro hop (And.intro hno (And.intro hbz hrow)))
    have qz0 := Nat.lt_of_lt_of_le q0 hbz.size
    have qz1 := (hbz.cell (p := ⟨bb, 0, none⟩) q0).trans q1
    have qz2 := (hbz.cell (p := ⟨bb, 1, none⟩) q0).trans q2
    have yz0 := Nat.lt_of_lt_of_le y0 hbz.size
    have yz1 := (hbz.cell (p := ⟨xb, 0, none⟩) y0).trans y1
    have yz2 : wr.cell? ⟨xb, 1, none⟩ = some (.int .i64 xs) := (hbz.cell (p := ⟨xb, 1, none⟩) y0).trans (by rw [cell_of_row w6 xb _ _ _ _ HX6.out]; rfl)
    have sl := Nat.lt_of_lt_of_le HB6.out.siz.lt hbz.size
    by_cases hlt : q < m
    · have ha1 : at_ < en := by omega
      have ha2 : at_ < n := by omega
      have ha1' : (at_ : Int) < (en : Int) := by omega
      have i1 : (0 : Int) ≤ (at_ : Int) := by omega
      have i2 : (at_ : Int) < (n : Int) := by omega
      have sc := (hbz.cell (p := ⟨sb, at_, none⟩) HB6.out.siz.lt).trans (HB6.out.siz.cell ha2)
      have hszb := HMB.out at_ ha2
      obtain ⟨b, o, cap, htv, e2, e3, e4⟩ := HT.out.at (k := at_) (by rw [hln]; exact ha2)
      rw [hln] at htv
      subst htv
      have hbw := HB6.out.below.trans (hbz.mono HB6.out.below.size)
      have x1 := Nat.lt_of_lt_of_le e2 hbw.size
      have x2 := (hbw.cell (p := ⟨b, o + at_ * 2, none⟩) e2).trans e3
      have HSM := hidF (smz_succ sz fr q)
      have HOS := hidF (opn_succ (atT l) fr q)
      rw [← hat] at HSM HOS
      obtain ⟨sa, hsa⟩ : ∃ s, sz at_ = s := ⟨_, rfl⟩
      have HSA := hidF hsa
      rw [hsa] at sc hszb HSM
      obtain ⟨h0, h1⟩ := hszb
      have W4 : IntKind.i64.wrap (ms - sa) = ms - sa := wrapT (by omega) (by omega)
      have HK3 : Hid (¬ (atT l at_).k = 3 → ∀ i, i < q + 1 → ¬ (atT l (fr + i)).k = 3) := fun hk i hi => by
        by_cases e : i = q
        · subst e; rw [← HAT.out]; exact hk
        · exact HQ.out.2.1 i (by omega)
      have HR3 : Hid ((atT l at_).k = 3 → R = sz) := fun hk => HEND.out ⟨q, hlt, by rw [← HAT.out]; exact hk⟩
      obtain ⟨kd, hkd⟩ : ∃ k, (atT l at_).k = k := ⟨_, rfl⟩
      rw [hkd] at x2 HOS HK3 HR3
      have hb6 := HQ.out.2.2.1
      have HBH := hidF (HB6.out.held hb6)
      clear hat hms hop hno hbz hrow e2 e3 e4 hbw hsa hkd hb6 HZ
      by_cases hk0 : kd = 0
      · subst hk0
        rw [if_pos rfl] at HOS
        obtain ⟨w7, hw7⟩ : ∃ w7, w7 = wr := ⟨_, rfl⟩
        subst hw7
        have HA7 := hidF (fun (o : Obj) => And.intro (HQ.out.2.2.1.alloc HQ.out.2.2.1.size o) (HQ.out.2.2.2.alloc o))
        go_wp2_with (at_builtin; refine wpList_append_own_at _ rfl (.tmp 42) (.tmp 44) 23 rfl w6.heap.size 3 i0 _ 1 8 Try.underlying23 hi hz0 hz1 hz2 rfl (by decide) _ _ _ rfl ((HA7.out _).2) ⟨_, 0, none⟩ 1 1 [.int .i64 (at_ : Int)] rfl rfl (fun j u hj => news_six _ _ _ j u hj) (by simp [Value.oneCell']) (by unfold maxLen; omega) (by omega) (by have := HQ.out.2.2.1.size; simp; omega) ?_; intro v1 w1 hv1 hg1 hx1 hx2; clear hx1 hx2; have H3 := hidF (And.intro ((HA7.out _).1.grown hg1 (by have := HQ.out.2.2.1.size; simp; omega) (fun q hq => (HQ.out.2.2.2.lt q hq).1)) hv1); have r0 := Nat.lt_of_lt_of_le q0 H3.out.1.size; have r2 := (H3.out.1.cell (p := ⟨bb, 1, none⟩) q0).trans q2; have r3 := Nat.lt_of_lt_of_le HB6.out.siz.lt H3.out.1.size; have r4 := (H3.out.1.cell (p := ⟨sb, at_, none⟩) HB6.out.siz.lt).trans (HB6.out.siz.cell ha2); rw [HSA.out] at r4; clear hv1 hg1)
        go_roundw
        case rel =>
          go_light
          refine ⟨q + 1, at_ + 1, c + 1, ms - sa, by omega, by go_num, rfl, by omega, by have := HAT.out; omega, by rw [HSM.out, HMS.out]; omega, by rw [HOS.out, List.length_append, HQ.out.1]; rfl, HK3.out (by omega), H3.out.1, ?_⟩
          rw [HOS.out, List.map_append]
          exact H3.out.2
        case measure => simp [intV]; omega
      · have hk0' : (kd == 0) = false := by simpa using hk0
        by_cases hk3 : kd = 3
        · subst hk3
          have HRR := hidF (HR3.out rfl)
          go_wp2_with fail
          go_returns
          refine ⟨rfl, ?_⟩
          rw [HRR.out]
          exact HBH.out
        · have hk3' : (kd == 3) = false := by simpa using hk3
          rw [if_neg hk0] at HOS
          have HK := hidF (HK3.out hk3)
          clear hk0 hk3
          go_wp2_with fail
          go_roundw
          case rel =>
            go_light
            refine ⟨q + 1, at_ + 1, c, ms - sa, by omega, by go_num, rfl, by omega, by have := HAT.out; omega, by rw [HSM.out, HMS.out]; omega, by rw [HOS.out]; exact HQ.out.1, HK.out, HQ.out.2.2.1, ?_⟩
            rw [HOS.out]
            exact HQ.out.2.2.2
          case measure => simp [intV]; omega
    · obtain rfl : q = m := by omega
      have ha1' : ¬ (at_ : Int) < (en : Int) := by omega
      have HNE : Hid (¬ ∃ i, i < q ∧ (atT l (fr + i)).k = 3) := fun ⟨i, i1, i2⟩ => HQ.out.2.1 i i1 i2
      obtain ⟨op, hopn⟩ : ∃ op, opn (atT l) fr q = op := ⟨_, rfl⟩
      have HOM : Hid (∀ x ∈ op, x < n) := fun x hx => by
        rw [← hopn] at hx
        have := opn_mem hx
        omega
      rw [hopn] at HEND3 HQ
      have hBr := HB6.out.held hbz
      have HBR := hidF hBr
      obtain ⟨oa, oc, hov, o1, o2, hoc⟩ := own_open HQ.out.1 HQ.out.2.2.2
      subst hov
      have HOC := hidF hoc
      have HS6 : Hid (sb < w6.heap.size) := HB6.out.siz.lt
      have HLN := hidF HQ.out.1
      rw [← hms] at HEND2 HEND3
      clear hat hms hop hno hbz hrow hBr hoc HZ sl hopn
      by_cases hm0 : ms ≤ 0
      · have HRR := hidF (HEND2.out HNE.out hm0)
        go_wp2_with fail
        go_returns
        refine ⟨rfl, ?_⟩
        rw [HRR.out]
        exact HBR.out
      · have HRR := hidF (HEND3.out HNE.out (by omega))
        obtain ⟨w7, hw7⟩ : ∃ w7, w7 = wr := ⟨_, rfl⟩
        subst hw7
        clear HQ
        go_wp2_with fail
        go_loopw [61] (fun iv wr => ∃ k : Nat, k ≤ c ∧ iv = .int .i64 k ∧ Hid (BdAt w0 wr bb sb n tv gap (addQ ms op k sz) ∧ KeepM w7 sb wr)) (fun iv _ => c - (intV iv).toNat)
        case atStart => exact ⟨0, Nat.zero_le _, rfl, HBR.out, KeepM.refl _ _⟩
        case round =>
          obtain ⟨k, hk, rfl, HY⟩ := hrel
          by_cases hkc : k < c
          · have hkc' : (k : Int) < (c : Int) := by omega
            obtain ⟨x, hx⟩ : ∃ x, op[k]? = some x := ⟨_, List.getElem?_eq_getElem (by rw [HLN.out]; exact hkc)⟩
            obtain ⟨g, rfl, u1, u2, u3⟩ := HOC.out k x hx
            have hgs : g ≠ sb := by have := HS6.out; omega
            have v1 := Nat.lt_of_lt_of_le u2 HY.out.2.size
            have v2 := (HY.out.2.cell (p := ⟨g, k, none⟩) u2 hgs).trans u3
            have hxn := HOM.out x (List.mem_of_getElem? hx)
            obtain ⟨p0, p1, p2, p3⟩ := HY.out.1.cells
            have c0 := HY.out.1.siz.lt
            have c1 := HY.out.1.siz.cell hxn
            have c2 := HY.out.1.siz.frz x
            have hbd := addQ_bd (op := op) (miss := ms) HMB.out (by omega) k (by rw [HLN.out]; exact hk) x hxn
            have har := sub_mul_ediv_nonneg (a := ms) (by omega) k c (by omega) hkc ms2
            have HSET : Hid (∀ wx : World, BdAt w0 wx bb sb n tv gap (addQ ms op k sz) → BdAt w0 (wx.setCell ⟨sb, x, none⟩ (.int .i64 (addQ ms op k sz x + (ms * ((k : Int) + 1) / (c : Int) - ms * (k : Int) / (c : Int))))) bb sb n tv gap (addQ ms op (k + 1) sz)) := by
              intro wx hwx
              refine (hwx.set x _).congr (fun j hj => ?_)
              have eg : op.getD k 0 = x := by rw [List.getD_eq_getElem?_getD, hx]; rfl
              rw [addQ_succ, eg, HLN.out]
              by_cases e : j = x
              · subst e; simp
              · simp [e]
            rw [HLN.out] at hbd
            obtain ⟨A, hA⟩ : ∃ A, ms * ((k : Int) + 1) = A := ⟨_, rfl⟩
            obtain ⟨B, hBB⟩ : ∃ B, ms * (k : Int) = B := ⟨_, rfl⟩
            obtain ⟨S, hS⟩ : ∃ S, addQ ms op k sz x = S := ⟨_, rfl⟩
            rw [hA, hBB] at har HSET
            rw [hBB, hS] at hbd
            rw [hS] at c1 HSET
            obtain ⟨b1, b2, b3, b4, b5, b6, b7⟩ := har
            have cc : (c : Int) ≤ 20 := by omega
            have T1 : Int.tdiv A (c : Int) = A / (c : Int) := Int.tdiv_eq_ediv_of_nonneg b1
            have T2 : Int.tdiv B (c : Int) = B / (c : Int) := Int.tdiv_eq_ediv_of_nonneg b3
            obtain ⟨A2, hA2⟩ : ∃ z, A / (c : Int) = z := ⟨_, rfl⟩
            obtain ⟨B2, hB2⟩ : ∃ z, B / (c : Int) = z := ⟨_, rfl⟩
            rw [hA2] at T1 b5 b7 HSET
            rw [hB2] at T2 b5 b6 hbd HSET
            have V0 : IntKind.i64.wrap ((k : Int) + 1) = (k : Int) + 1 := wrapT (by omega) (by omega)
            have V1 : IntKind.i64.wrap (ms * ((k : Int) + 1)) = A := by rw [hA]; exact wrapT (by omega) (by omega)
            have V2 : IntKind.i64.wrap (ms * (k : Int)) = B := by rw [hBB]; exact wrapT (by omega) (by omega)
            have V3 : IntKind.i64.wrap A2 = A2 := wrapT (by omega) (by omega)
            have V4 : IntKind.i64.wrap B2 = B2 := wrapT (by omega) (by omega)
            have V5 : IntKind.i64.wrap (A2 - B2) = A2 - B2 := wrapT (by omega) (by omega)
            have V6 : IntKind.i64.wrap (S + (A2 - B2)) = S + (A2 - B2) := wrapT (by omega) (by omega)
            have cz : ((c : Int) == 0) = false := by simp; omega
            have cz2 : ¬ (c : Int) = 0 := by omega
            have j1 : (0 : Int) ≤ (k : Int) := by omega
            have j2 : (0 : Int) ≤ (x : Int) := by omega
            have j3 : (x : Int) < (n : Int) := by omega
            have HKY := hidF HY.out.2
            have HN2 := hidF (HSET.out wr HY.out.1)
            obtain ⟨w8, hw8⟩ : ∃ w8, w8 = wr := ⟨_, rfl⟩
            subst hw8
            clear hx u1 u2 u3 hbd b1 b2 b3 b4 b5 b6 b7 hA hBB hS hA2 hB2 HSET
            go_upto_region 15 with fail
            go_region
            all_goals
              go_wp2_with fail
              go_roundw
              case rel => go_light; exact ⟨k + 1, by omega, by go_num, HN2.out.held (Below.refl _ _).drew, (HKY.out.setCell _ _).trans (KeepM.of_below (Below.refl _ _).drew)⟩
              case measure => simp [intV]; omega
          · obtain rfl : k = c := by omega
            have hkc' : ¬ (k : Int) < (k : Int) := by omega
            go_wp2_with fail
            go_returns
            refine ⟨rfl, ?_⟩
            rw [HRR.out, HLN.out]
            exact HY.out.1
end Go.Proofs.Ytjdndaeobiagcaa
