/- The document's spread: the same as widen. -/
import Derived.Test.YtjdndaeobiagcaaTrAll
namespace Go.Proofs.Ytjdndaeobiagcaa
open Go.RowKit
set_option linter.unusedVariables false      -- bounds that are for the walk

/-- gaps between q tracks -/
def gpQ (gap : Int) (q : Nat) : Int := if q = 0 then 0 else ((q : Int) - 1) * gap
theorem gpQ_succ (gap : Int) (q : Nat) : gpQ gap (q + 1) = if 0 < q then gpQ gap q + gap else gpQ gap q := by
  unfold gpQ
  rw [if_neg (by omega)]
  by_cases h : q = 0
  · subst h; simp
  · rw [if_pos (by omega), if_neg h, show ((q + 1 : Nat) : Int) - 1 = ((q : Int) - 1) + 1 by omega, Int.add_mul]; omega
theorem gpQ_bd {gap : Int} (g1 : -16777216 ≤ gap) (g2 : gap ≤ 16777216) (q : Nat) (hq : q ≤ 20) : -335544320 ≤ gpQ gap q ∧ gpQ gap q ≤ 335544320 := by
  unfold gpQ
  split
  · omega
  · have a0 : 0 ≤ (q : Int) - 1 := by omega
    have a1 : ((q : Int) - 1) * gap ≤ 20 * 16777216 := Int.le_trans (Int.mul_le_mul_of_nonneg_left g2 a0) (Int.mul_le_mul_of_nonneg_right (by omega) (by omega))
    have a2 : ((q : Int) - 1) * (-gap) ≤ 20 * 16777216 := Int.le_trans (Int.mul_le_mul_of_nonneg_left (show -gap ≤ 16777216 by omega) a0) (Int.mul_le_mul_of_nonneg_right (by omega) (by omega))
    rw [Int.mul_neg] at a2
    omega

set_option maxHeartbeats 8000000 in
set_option maxRecDepth 100000 in
theorem qspread_any {w : World} {ob n : Nat} {lv : Value} {gap : Int} {sz : Nat → Int} {l : List Tr2} (hT : TkL w lv l) (hS : SzAt w ob n sz) (hln : l.length = n) (hn : n ≤ 300) (hne : ∀ b o, lv = .slice (some ⟨b, o, none⟩) n n → True) (hno : lv.ownBlock ≠ some ob) {M : Int} (hM : ∀ j, j < n → 0 ≤ sz j ∧ sz j ≤ M) (hM0 : 0 ≤ M) (hM2 : M ≤ 1000000000000) (g1 : -16777216 ≤ gap) (g2 : gap ≤ 16777216) {x : Nd3} (hx : NdOk x) (hr : (x.f - 1).toNat + x.s.toNat ≤ n) :
    Calls Try.prog 57 #[lv, .slice (some ⟨ob, 0, none⟩) n n, .agg #[.int .i64 (x.f - 1), .int .i64 x.s, .int .i64 x.z], .int .i64 gap] w fun e w' => e = .returned (.tuple #[]) ∧ SzAt w' ob n (widF (atT l) gap x sz) ∧ KeepM w ob w' := by
  obtain ⟨i0, hi, hz0, hz1, hz2⟩ := info_parts Try.infoIntT
  have HT := hidF hT
  have HS := hidF hS
  have HMB := hidF hM
  have f1 := hx.f1; have f2 := hx.f2; have s1 := hx.s1; have s2 := hx.s2; have z1 := hx.z1; have z2 := hx.z2
  obtain ⟨xf, xs, xz⟩ := x
  simp only at f1 f2 s1 s2 z1 z2 hr ⊢
  obtain ⟨fr, hfr⟩ : ∃ fr : Nat, (xf - 1).toNat = fr := ⟨_, rfl⟩
  obtain ⟨m, hm⟩ : ∃ m : Nat, xs.toNat = m := ⟨_, rfl⟩
  rw [hfr, hm] at hr
  have m2 : m ≤ 20 := by omega
  have m1 : 1 ≤ m := by omega
  have hgp : max (xs - 1) 0 * gap = gpQ gap m := by
    unfold gpQ
    rw [if_neg (by omega), show max (xs - 1) 0 = (m : Int) - 1 by omega]
  have HEND : Hid ((∃ i, i < m ∧ (atT l (fr + i)).k = 3) → widF (atT l) gap ⟨xf, xs, xz⟩ sz = sz) := by
    intro h
    unfold widF
    simp only
    rw [hfr, hm, if_pos h]
  have HEND2 : Hid (¬ (∃ i, i < m ∧ (atT l (fr + i)).k = 3) → xz - gpQ gap m - smz sz fr m ≤ 0 → widF (atT l) gap ⟨xf, xs, xz⟩ sz = sz) := by
    intro h h2
    unfold widF missW
    simp only
    rw [hfr, hm, hgp, if_neg h, if_pos h2]
  have HEND3 : Hid (¬ (∃ i, i < m ∧ (atT l (fr + i)).k = 3) → ¬ xz - gpQ gap m - smz sz fr m ≤ 0 → widF (atT l) gap ⟨xf, xs, xz⟩ sz = addQ (xz - gpQ gap m - smz sz fr m) (opn (atT l) fr m) (opn (atT l) fr m).length sz) := by
    intro h h2
    unfold widF missW
    simp only
    rw [hfr, hm, hgp, if_neg h, if_neg h2]
  obtain ⟨R, hR⟩ : ∃ R, widF (atT l) gap ⟨xf, xs, xz⟩ sz = R := ⟨_, rfl⟩
  rw [hR] at HEND HEND2 HEND3 ⊢
  have hxf : xf - 1 = (fr : Int) := by omega
  have hxs : xs = (m : Int) := by omega
  rw [hxf]
  subst hxs
  have W2 : IntKind.i64.wrap ((fr : Int) + (m : Int)) = ((fr + m : Nat) : Int) := by rw [wrapT (by omega) (by omega)]; omega
  obtain ⟨en, hen⟩ : ∃ en, fr + m = en := ⟨_, rfl⟩
  rw [hen] at W2
  obtain ⟨la, lc, hlv, lc1, lc2, _⟩ := hT
  rw [hln] at hlv lc1
  subst hlv
  clear hS hM hx hfr hm hR hgp hxf hne
  have HNX : Hid (Below w.heap.size w (w.alloc (.cells #[.int .i64 (fr : Int), .int .i64 (m : Int), .int .i64 xz] 59)) ∧ (w.alloc (.cells #[.int .i64 (fr : Int), .int .i64 (m : Int), .int .i64 xz] 59)).heap[w.heap.size]? = some (.cells #[.int .i64 (fr : Int), .int .i64 (m : Int), .int .i64 xz] 59 (0, 0))) := ⟨(Below.refl _ _).alloc (Nat.le_refl _) _, heap_alloc_new w _⟩
  go_enter Try.func57, Try.ntmps57
  go_upto_region 0 with fail
  go_cut [6] (fun p wx => p = .pointer (some ⟨w.heap.size, 0, none⟩) ∧ Hid (Below w.heap.size w wx ∧ wx.heap[w.heap.size]? = some (.cells #[.int .i64 (fr : Int), .int .i64 (m : Int), .int .i64 xz] 59 (0, 0))))
  case first =>
    go_wp2_with fail
    go_meet
    case rel => go_light; exact ⟨rfl, HNX.out.1, HNX.out.2⟩
  case rest =>
  obtain ⟨rfl, HC⟩ := hcut
  have HCB := hidF HC.out.1
  obtain ⟨xb, hxb⟩ : ∃ x, w.heap.size = x := ⟨_, rfl⟩
  obtain ⟨w6, hw6⟩ : ∃ w6, w6 = wc := ⟨_, rfl⟩
  subst hw6
  have HX6 : Hid (w6.heap[xb]? = some (.cells #[.int .i64 (fr : Int), .int .i64 (m : Int), .int .i64 xz] 59 (0, 0))) := by rw [← hxb]; exact HC.out.2
  rw [hxb]
  have HS6 := hidF (HS.out.held HCB.out)
  have HT6 := hidF (HT.out.below HCB.out)
  clear HC HNX hxb
  have y0 := ltH HX6.out
  have y1 : w6.cell? ⟨xb, 0, none⟩ = some (.int .i64 (fr : Int)) := by rw [cell_of_row w6 xb _ _ _ _ HX6.out]; rfl
  have y2 : w6.cell? ⟨xb, 1, none⟩ = some (.int .i64 (m : Int)) := by rw [cell_of_row w6 xb _ _ _ _ HX6.out]; rfl
  have y3 : w6.cell? ⟨xb, 2, none⟩ = some (.int .i64 xz) := by rw [cell_of_row w6 xb _ _ _ _ HX6.out]; rfl
  go_wp2_with fail
  go_loopw [8, 9, 10] (fun ov hv av wr => ∃ (q : Nat) (at_ c : Nat) (hs : Int), q ≤ m ∧ av = .int .i64 (at_ : Int) ∧ hv = .int .i64 hs ∧ c ≤ q ∧ Hid (at_ = fr + q ∧ hs = smz sz fr q + gpQ gap q ∧ (opn (atT l) fr q).length = c ∧ (∀ i, i < q → ¬ (atT l (fr + i)).k = 3) ∧ Below w6.heap.size w6 wr ∧ wr.ownsRow w6.heap.size 3 1 ov c ((opn (atT l) fr q).map (fun (i : Nat) => Value.int .i64 (i : Int))))) (fun _ _ av _ => en - (intV av).toNat)
  case atStart => exact ⟨0, fr, 0, 0, Nat.zero_le _, rfl, rfl, Nat.le_refl _, rfl, by simp [smz, gpQ], by simp [opn], (fun i hi => by omega), Below.refl _ _, World.ownsRow_nil _ _ _ _⟩
  case round =>
    obtain ⟨q, at_, c, hs, hq, rfl, rfl, hcq, HZ⟩ := hrel
    obtain ⟨hat, hhs, hop, hno3, hbz, hrow⟩ := HZ.out
    have sb0 := smz_bd (M := M) HMB.out fr q (by omega)
    have gq0 := gpQ_bd g1 g2 q (by omega)
    have hqM : (q : Int) * M ≤ 20 * 1000000000000 := Int.le_trans (Int.mul_le_mul_of_nonneg_left hM2 (by omega)) (Int.mul_le_mul_of_nonneg_right (by omega) (by omega))
    have hs1 : -400000000 ≤ hs := by omega
    have hs2 : hs ≤ 30000000000000 := by omega
    have HAT := hidF hat
    have HHS := hidF hhs
    have HQ := hidF (And.intro hop (And.intro hno3 (And.intro hbz hrow)))
    have yz0 := Nat.lt_of_lt_of_le y0 hbz.size
    have yz1 := (hbz.cell (p := ⟨xb, 0, none⟩) y0).trans y1
    have yz2 := (hbz.cell (p := ⟨xb, 1, none⟩) y0).trans y2
    have yz3 := (hbz.cell (p := ⟨xb, 2, none⟩) y0).trans y3
    by_cases hlt : q < m
    · have ha1 : at_ < en := by omega
      have ha2 : at_ < n := by omega
      have ha1' : (at_ : Int) < (en : Int) := by omega
      have i1 : (0 : Int) ≤ (at_ : Int) := by omega
      have i2 : (at_ : Int) < (n : Int) := by omega
      have hszb := HMB.out at_ ha2
      obtain ⟨b, o, cap, htv, e2, e3, e4⟩ := HT6.out.at (k := at_) (by rw [hln]; exact ha2)
      rw [hln] at htv
      cases htv
      have x1 := Nat.lt_of_lt_of_le e2 hbz.size
      have x2 := (hbz.cell (p := ⟨b, o + at_ * 2, none⟩) e2).trans e3
      have HSM := hidF (smz_succ sz fr q)
      have HOS := hidF (opn_succ (atT l) fr q)
      have HGS := hidF (gpQ_succ gap q)
      rw [← hat] at HSM HOS
      obtain ⟨sa, hsa⟩ : ∃ s, sz at_ = s := ⟨_, rfl⟩
      have HSA := hidF hsa
      rw [hsa] at hszb HSM
      obtain ⟨h0, h1⟩ := hszb
      have W4 : IntKind.i64.wrap (hs + sa) = hs + sa := wrapT (by omega) (by omega)
      have W5 : IntKind.i64.wrap (hs + sa + gap) = hs + sa + gap := wrapT (by omega) (by omega)
      have HK3 : Hid (¬ (atT l at_).k = 3 → ∀ i, i < q + 1 → ¬ (atT l (fr + i)).k = 3) := fun hk i hi => by
        by_cases e : i = q
        · subst e; rw [← HAT.out]; exact hk
        · exact HQ.out.2.1 i (by omega)
      have HR3 : Hid ((atT l at_).k = 3 → R = sz) := fun hk => HEND.out ⟨q, hlt, by rw [← HAT.out]; exact hk⟩
      obtain ⟨kd, hkd⟩ : ∃ k, (atT l at_).k = k := ⟨_, rfl⟩
      rw [hkd] at x2 HOS HK3 HR3
      clear hat hhs hop hno3 hbz hrow e2 e3 e4 hsa hkd HZ
      by_cases hk3 : kd = 3
      · subst hk3
        have HRR := hidF (HR3.out rfl)
        go_wp2_with fail
        go_returns
        refine ⟨rfl, ?_, (KeepM.of_below HCB.out).trans (KeepM.of_below HQ.out.2.2.1)⟩
        rw [HRR.out]
        exact HS6.out.held HQ.out.2.2.1
      · have hk3' : (kd == 3) = false := by simpa using hk3
        have HK := hidF (HK3.out hk3)
        obtain ⟨w7, hw7⟩ : ∃ w7, w7 = wr := ⟨_, rfl⟩
        subst hw7
        clear hk3
        go_upto_if 35 with fail
        go_cut [8] (fun ov wx => Hid (∃ c', c' ≤ q + 1 ∧ (opn (atT l) fr (q + 1)).length = c' ∧ Below w6.heap.size w6 wx ∧ wx.ownsRow w6.heap.size 3 1 ov c' ((opn (atT l) fr (q + 1)).map (fun (i : Nat) => Value.int .i64 (i : Int)))))
        case first =>
          by_cases hk0 : kd = 0
          · subst hk0
            rw [if_pos rfl] at HOS
            have HA7 := hidF (fun (o : Obj) => And.intro (HQ.out.2.2.1.alloc HQ.out.2.2.1.size o) (HQ.out.2.2.2.alloc o))
            go_wp2_with (at_builtin; refine wpList_append_own_at _ rfl (.tmp 36) (.tmp 38) 23 rfl w6.heap.size 3 i0 _ 1 8 Try.underlying23 hi hz0 hz1 hz2 rfl (by decide) _ _ _ rfl ((HA7.out _).2) ⟨_, 0, none⟩ 1 1 [.int .i64 (at_ : Int)] rfl rfl (fun j u hj => news_six _ _ _ j u hj) (by simp [Value.oneCell']) (by unfold maxLen; omega) (by omega) (by have := HQ.out.2.2.1.size; simp; omega) ?_; intro v1 w1 hv1 hg1 hx1 hx2; clear hx1 hx2; have H3 := hidF (And.intro ((HA7.out _).1.grown hg1 (by have := HQ.out.2.2.1.size; simp; omega) (fun q hq => (HQ.out.2.2.2.lt q hq).1)) hv1); clear hv1 hg1)
            go_meet
            case rel =>
              go_light
              refine ⟨c + 1, by omega, by rw [HOS.out, List.length_append, HQ.out.1]; rfl, H3.out.1, ?_⟩
              rw [HOS.out, List.map_append]
              exact H3.out.2
          · have hk0' : (kd == 0) = false := by simpa using hk0
            rw [if_neg hk0] at HOS
            clear hk0
            go_wp2_with fail
            go_meet
            case rel =>
              go_light
              refine ⟨c, by omega, by rw [HOS.out]; exact HQ.out.1, HQ.out.2.2.1, ?_⟩
              rw [HOS.out]
              exact HQ.out.2.2.2
        case rest =>
        obtain ⟨c', hc1, hc2, hcb, hcr⟩ := hcut.out
        have HR8 := hidF (And.intro hc2 (And.intro hcb hcr))
        have sl := Nat.lt_of_lt_of_le HS6.out.lt hcb.size
        have sc := (hcb.cell (p := ⟨ob, at_, none⟩) HS6.out.lt).trans (HS6.out.cell ha2)
        rw [HSA.out] at sc
        have yw0 := Nat.lt_of_lt_of_le y0 hcb.size
        have yw1 := (hcb.cell (p := ⟨xb, 0, none⟩) y0).trans y1
        clear hcut hc2 hcb hcr x1 x2
        by_cases hq0 : 0 < q
        · have hq0' : (fr : Int) < (at_ : Int) := by have := HAT.out; omega
          rw [if_pos hq0] at HGS
          go_wp2_with fail
          go_roundw
          case rel => go_light; exact ⟨q + 1, at_ + 1, c', hs + sa + gap, by omega, by go_num, rfl, by omega, by have := HAT.out; omega, by rw [HSM.out, HGS.out, HHS.out]; omega, HR8.out.1, HK.out, HR8.out.2.1, HR8.out.2.2⟩
          case measure => simp [intV]; omega
        · have hq0' : ¬ (fr : Int) < (at_ : Int) := by have := HAT.out; omega
          rw [if_neg hq0] at HGS
          go_wp2_with fail
          go_roundw
          case rel => go_light; exact ⟨q + 1, at_ + 1, c', hs + sa, by omega, by go_num, rfl, by omega, by have := HAT.out; omega, by rw [HSM.out, HGS.out, HHS.out]; omega, HR8.out.1, HK.out, HR8.out.2.1, HR8.out.2.2⟩
          case measure => simp [intV]; omega
    · obtain rfl : q = m := by omega
      have ha1' : ¬ (at_ : Int) < (en : Int) := by omega
      have HNE : Hid (¬ ∃ i, i < q ∧ (atT l (fr + i)).k = 3) := fun ⟨i, i1, i2⟩ => HQ.out.2.1 i i1 i2
      obtain ⟨op, hopn⟩ : ∃ op, opn (atT l) fr q = op := ⟨_, rfl⟩
      have HOM : Hid (∀ x ∈ op, x < n) := fun x hx => by
        rw [← hopn] at hx
        have := opn_mem hx
        omega
      obtain ⟨ms, hms⟩ : ∃ ms, xz - hs = ms := ⟨_, rfl⟩
      have W6 : IntKind.i64.wrap (xz - hs) = ms := by rw [hms]; exact wrapT (by omega) (by omega)
      have ms2 : ms ≤ 1000000000 := by omega
      have hme : xz - gpQ gap q - smz sz fr q = ms := by omega
      rw [hopn, hme] at HEND3
      rw [hme] at HEND2
      rw [hopn] at HQ
      have HSR := hidF (HS6.out.held hbz)
      obtain ⟨oa, oc, hov, o1, o2, hoc⟩ := own_open HQ.out.1 HQ.out.2.2.2
      subst hov
      have HOC := hidF hoc
      have HS7 : Hid (ob < w6.heap.size) := HS6.out.lt
      have HLN := hidF HQ.out.1
      have HKW := hidF ((KeepM.of_below (b := ob) HCB.out).trans (KeepM.of_below hbz))
      clear hat hhs hop hno3 hbz hrow hoc HZ hopn hme
      obtain ⟨w7, hw7⟩ : ∃ w7, w7 = wr := ⟨_, rfl⟩
      subst hw7
      clear HQ
      go_wp2_with fail
      go_loopw [12] (fun iv wr => ∃ k : Nat, k ≤ c ∧ iv = .int .i64 k ∧ (0 < k → 0 < ms) ∧ Hid (SzAt wr ob n (addQ ms op k sz) ∧ KeepM w7 ob wr)) (fun iv _ => c - (intV iv).toNat)
      case atStart => exact ⟨0, Nat.zero_le _, rfl, (fun e => by omega), HSR.out, KeepM.refl _ _⟩
      case round =>
        obtain ⟨k, hk, rfl, hkm, HY⟩ := hrel
        by_cases hm0 : 0 < ms
        · by_cases hkc : k < c
          · have hkc' : (k : Int) < (c : Int) := by omega
            obtain ⟨x, hx⟩ : ∃ x, op[k]? = some x := ⟨_, List.getElem?_eq_getElem (by rw [HLN.out]; exact hkc)⟩
            obtain ⟨g, rfl, u1, u2, u3⟩ := HOC.out k x hx
            have hgs : g ≠ ob := by have := HS7.out; omega
            have v1 := Nat.lt_of_lt_of_le u2 HY.out.2.size
            have v2 := (HY.out.2.cell (p := ⟨g, k, none⟩) u2 hgs).trans u3
            have hxn := HOM.out x (List.mem_of_getElem? hx)
            have c0 := HY.out.1.lt
            have c1 := HY.out.1.cell hxn
            have c2 := HY.out.1.frz x
            have hbd := addQ_bd (op := op) (miss := ms) HMB.out (by omega) k (by rw [HLN.out]; exact hk) x hxn
            have har := sub_mul_ediv_nonneg (a := ms) (by omega) k c (by omega) hkc ms2
            have HSET : Hid (∀ wx : World, SzAt wx ob n (addQ ms op k sz) → SzAt (wx.setCell ⟨ob, x, none⟩ (.int .i64 (addQ ms op k sz x + ms * ((k : Int) + 1) / (c : Int) - ms * (k : Int) / (c : Int)))) ob n (addQ ms op (k + 1) sz)) := by
              intro wx hwx
              refine (hwx.set x _).congr (fun j hj => ?_)
              have eg : op.getD k 0 = x := by rw [List.getD_eq_getElem?_getD, hx]; rfl
              rw [addQ_succ, eg, HLN.out]
              by_cases e : j = x
              · subst e; simp; omega
              · simp [e]
            rw [HLN.out] at hbd
            obtain ⟨A, hA⟩ : ∃ A, ms * ((k : Int) + 1) = A := ⟨_, rfl⟩
            obtain ⟨B, hBB⟩ : ∃ B, ms * (k : Int) = B := ⟨_, rfl⟩
            obtain ⟨S, hS⟩ : ∃ S, addQ ms op k sz x = S := ⟨_, rfl⟩
            rw [hA, hBB] at har HSET
            rw [hBB, hS] at hbd
            rw [hS] at c1 HSET
            obtain ⟨b1, b2, b3, b4, b5, b6, b7⟩ := har
            have cc : (c : Int) ≤ 20 := by omega
            have T1 : Int.tdiv A (c : Int) = A / (c : Int) := Int.tdiv_eq_ediv_of_nonneg b1
            have T2 : Int.tdiv B (c : Int) = B / (c : Int) := Int.tdiv_eq_ediv_of_nonneg b3
            obtain ⟨A2, hA2⟩ : ∃ z, A / (c : Int) = z := ⟨_, rfl⟩
            obtain ⟨B2, hB2⟩ : ∃ z, B / (c : Int) = z := ⟨_, rfl⟩
            rw [hA2] at T1 b5 b7 HSET
            rw [hB2] at T2 b5 b6 hbd HSET
            have V0 : IntKind.i64.wrap ((k : Int) + 1) = (k : Int) + 1 := wrapT (by omega) (by omega)
            have V1 : IntKind.i64.wrap (ms * ((k : Int) + 1)) = A := by rw [hA]; exact wrapT (by omega) (by omega)
            have V2 : IntKind.i64.wrap (ms * (k : Int)) = B := by rw [hBB]; exact wrapT (by omega) (by omega)
            have V3 : IntKind.i64.wrap A2 = A2 := wrapT (by omega) (by omega)
            have V4 : IntKind.i64.wrap B2 = B2 := wrapT (by omega) (by omega)
            have V5 : IntKind.i64.wrap (S + A2) = S + A2 := wrapT (by omega) (by omega)
            have V6 : IntKind.i64.wrap (S + A2 - B2) = S + A2 - B2 := wrapT (by omega) (by omega)
            have cz : ((c : Int) == 0) = false := by simp; omega
            have cz2 : ¬ (c : Int) = 0 := by omega
            have j1 : (0 : Int) ≤ (k : Int) := by omega
            have j2 : (0 : Int) ≤ (x : Int) := by omega
            have j3 : (x : Int) < (n : Int) := by omega
            have HKY := hidF HY.out.2
            have HN2 := hidF (HSET.out wr HY.out.1)
            obtain ⟨w8, hw8⟩ : ∃ w8, w8 = wr := ⟨_, rfl⟩
            subst hw8
            clear hx u1 u2 u3 hbd b1 b2 b3 b4 b5 b6 b7 hA hBB hS hA2 hB2 HSET hkm
            go_upto_region 16 with fail
            go_region
            all_goals
              go_wp2_with fail
              go_roundw
              case rel => go_light; exact ⟨k + 1, by omega, by go_num, (fun _ => hm0), HN2.out.held (Below.refl _ _).drew, (HKY.out.setCell _ _).trans (KeepM.of_below (Below.refl _ _).drew)⟩
              case measure => simp [intV]; omega
          · obtain rfl : k = c := by omega
            have hkc' : ¬ (k : Int) < (k : Int) := by omega
            have HRR := hidF (HEND3.out HNE.out (by omega))
            clear hkm
            go_wp2_with fail
            go_returns
            refine ⟨rfl, ?_, HKW.out.trans HY.out.2⟩
            rw [HRR.out, HLN.out]
            exact HY.out.1
        · have hk0 : k = 0 := by
            rcases Nat.eq_zero_or_pos k with e | e
            · exact e
            · exact absurd (hkm e) hm0
          subst hk0
          have HRR := hidF (HEND2.out HNE.out (by omega))
          clear hkm
          by_cases hc0 : 0 < c
          · have hc0' : ((0 : Nat) : Int) < (c : Int) := by omega
            have hc0'' : (0 : Int) < (c : Int) := by omega
            go_wp2_with fail
            go_returns
            refine ⟨rfl, ?_, HKW.out.trans HY.out.2⟩
            rw [HRR.out]
            exact HY.out.1
          · have hc0' : ¬ (0 : Int) < (c : Int) := by omega
            go_wp2_with fail
            go_returns
            refine ⟨rfl, ?_, HKW.out.trans HY.out.2⟩
            rw [HRR.out]
            exact HY.out.1
end Go.Proofs.Ytjdndaeobiagcaa
