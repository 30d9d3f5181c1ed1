/- deal: what is left, among the shares. -/
import Derived.Test.YtjdndaeobiagcaaTrWideW
import Derived.Test.YtjdndaeobiagcaaSShares
namespace Go.Proofs.Ytjdndaeobiagcaa
open Go.RowKit
set_option linter.unusedVariables false      -- bounds that are for the walk

set_option maxHeartbeats 400000 in
theorem gapsT_any (n g : Int) (h0 : 0 ≤ n) (h1 : n ≤ 300) (g1 : -16777216 ≤ g) (g2 : g ≤ 16777216) (w : World) : Calls Try.prog 38 #[.int .i64 n, .int .i64 g] w fun e w' => e = .returned (.int .i64 (max (n - 1) 0 * g)) ∧ w' = w := by
  have hb : -5033164800 ≤ max (n - 1) 0 * g ∧ max (n - 1) 0 * g ≤ 5033164800 := by
    have a1 : max (n - 1) 0 * g ≤ 300 * 16777216 := Int.le_trans (Int.mul_le_mul_of_nonneg_left g2 (by omega)) (Int.mul_le_mul_of_nonneg_right (by omega) (by omega))
    have a2 : max (n - 1) 0 * (-g) ≤ 300 * 16777216 := Int.le_trans (Int.mul_le_mul_of_nonneg_left (show -g ≤ 16777216 by omega) (by omega)) (Int.mul_le_mul_of_nonneg_right (by omega) (by omega))
    rw [Int.mul_neg] at a2
    omega
  obtain ⟨b1, b2⟩ := hb
  have W0 : IntKind.i64.wrap (n - 1) = n - 1 := wrapT (by omega) (by omega)
  have W1 : IntKind.i64.wrap (max (n - 1) 0 * g) = max (n - 1) 0 * g := wrapT (by omega) (by omega)
  go_enter Try.func38, Try.ntmps38
  go_wp2_with fail
  go_returns
  exact ⟨by first | rfl | exact ret_i W1, rfl⟩
/-- the shares among the first q -/
def shl (tr : Nat → Tr2) (q : Nat) : List Nat := (List.range q).filter (fun i => decide ((tr i).k = 3))
theorem shl_succ (tr : Nat → Tr2) (q : Nat) : shl tr (q + 1) = if (tr q).k = 3 then shl tr q ++ [q] else shl tr q := by
  unfold shl
  rw [List.range_succ, List.filter_append]
  by_cases h : (tr q).k = 3
  · simp [h]
  · simp [h]
theorem shl_mem {tr : Nat → Tr2} {q x : Nat} (h : x ∈ shl tr q) : x < q := List.mem_range.1 (List.mem_filter.1 h).1
/-- as many of these as q have got their size -/
def setQ (vals : Nat → Int) (op : List Nat) : Nat → (Nat → Int) → (Nat → Int)
  | 0, sz => sz
  | q + 1, sz => fun j => if j = op.getD q 0 then vals q else setQ vals op q sz j
theorem setQ_succ (vals : Nat → Int) (op : List Nat) (q : Nat) (sz : Nat → Int) (j : Nat) : setQ vals op (q + 1) sz j = if j = op.getD q 0 then vals q else setQ vals op q sz j := rfl
def leftD (n : Nat) (room gap : Int) (sz : Nat → Int) : Int := max (room - max ((n : Int) - 1) 0 * gap - smz sz 0 n) 0
/-- sizes when all is dealt out -/
def dealF (tr : Nat → Tr2) (n : Nat) (room gap : Int) (sz : Nat → Int) : Nat → Int :=
  setQ (shareG 1000 (leftD n room gap sz) ((shl tr n).map (fun i => (tr i).n))) (shl tr n) (shl tr n).length sz

theorem own_shapeI {w : World} {B n : Nat} {e : TypeId} {v : Value} {xs : List Value} (h : w.ownsRow B e 1 v n xs) : ∃ a c, v = .slice a n c ∧ n ≤ c ∧ c ≤ 9223372036854775807 := by
  obtain ⟨hl, ⟨rfl, hn⟩ | ⟨g, cap, cur, rfl, hg, hh, h1, h2, h3, h4⟩⟩ := h
  · exact ⟨none, 0, by rw [hn], by omega, by omega⟩
  · unfold maxLen at h2
    exact ⟨_, cap, rfl, h1, by omega⟩
/-- while the shares are gathered: which, and how much they weigh -/
structure DlAt (w6 wr : World) (ov fv : Value) (c : Nat) (op : List Nat) (fs : List Int) : Prop where
  below : Below w6.heap.size w6 wr
  o : wr.ownsRow w6.heap.size 3 1 ov c (op.map (fun (i : Nat) => Value.int .i64 (i : Int)))
  f : wr.ownsRow w6.heap.size 3 1 fv c (fs.map (Value.int .i64))
  ne : ov.ownBlock = none ∨ fv.ownBlock = none ∨ ov.ownBlock ≠ fv.ownBlock
theorem DlAt.held {w6 wr W : World} {ov fv : Value} {c : Nat} {op : List Nat} {fs : List Int} (h : DlAt w6 wr ov fv c op fs) (hb : Below wr.heap.size wr W) : DlAt w6 W ov fv c op fs :=
  ⟨h.below.trans (hb.mono h.below.size), h.o.kept (row := none) ⟨hb.os, hb.tape, hb.output, hb.size, fun k hk _ => hb.block k hk⟩ (by cases ov.ownBlock <;> simp), h.f.kept (row := none) ⟨hb.os, hb.tape, hb.output, hb.size, fun k hk _ => hb.block k hk⟩ (by cases fv.ownBlock <;> simp), h.ne⟩

set_option maxHeartbeats 8000000 in
set_option maxRecDepth 100000 in
theorem deal_any {w0 w : World} {bb sb n : Nat} {tv : Value} {gap room : Int} {sz : Nat → Int} {l : List Tr2} (hB : BdAt w0 w bb sb n tv gap sz) (hT : TkL w0 tv l) (hln : l.length = n) (hn : n ≤ 300) {M : Int} (hM : ∀ j, j < n → 0 ≤ sz j ∧ sz j ≤ M) (hM0 : 0 ≤ M) (hM2 : M ≤ 1000000000000) (g1 : -16777216 ≤ gap) (g2 : gap ≤ 16777216) (r1 : -16777216 ≤ room) (r2 : room ≤ 16777216) (hok : ∀ t ∈ l, TrOk room t) (hsh : (shl (atT l) n).length ≤ 200) :
    Calls Try.prog 55 #[.pointer (some ⟨bb, 0, none⟩), .int .i64 room] w fun e w' => e = .returned (.tuple #[]) ∧ BdAt w0 w' bb sb n tv gap (dealF (atT l) n room gap sz) := by
  obtain ⟨i0, hi, hz0, hz1, hz2⟩ := info_parts Try.infoIntT
  have HB := hidF hB
  have HT := hidF hT
  have HMB := hidF hM
  have HOK := hidF hok
  have HSH := hidF hsh
  have GP := hidF (fun W => gapsT_any (n : Int) gap (by omega) (by omega) g1 g2 W)
  obtain ⟨gp, hgp⟩ : ∃ g, max ((n : Int) - 1) 0 * gap = g := ⟨_, rfl⟩
  have gb : -5033164800 ≤ gp ∧ gp ≤ 5033164800 := by
    rw [← hgp]
    have a0 : 0 ≤ max ((n : Int) - 1) 0 := by omega
    have a1 : max ((n : Int) - 1) 0 * gap ≤ 300 * 16777216 := Int.le_trans (Int.mul_le_mul_of_nonneg_left g2 a0) (Int.mul_le_mul_of_nonneg_right (by omega) (by omega))
    have a2 : max ((n : Int) - 1) 0 * (-gap) ≤ 300 * 16777216 := Int.le_trans (Int.mul_le_mul_of_nonneg_left (show -gap ≤ 16777216 by omega) a0) (Int.mul_le_mul_of_nonneg_right (by omega) (by omega))
    rw [Int.mul_neg] at a2
    omega
  obtain ⟨gb1, gb2⟩ := gb
  have HLD : Hid (leftD n room gap sz = max (room - gp - smz sz 0 n) 0) := by show _ = _; unfold leftD; rw [hgp]
  rw [hgp] at GP
  have W3 : IntKind.i64.wrap (room - gp) = room - gp := wrapT (by omega) (by omega)
  obtain ⟨R, hR⟩ : ∃ R, dealF (atT l) n room gap sz = R := ⟨_, rfl⟩
  have HR := hidF hR
  rw [hR]
  obtain ⟨q0, q1, q2, q3⟩ := hB.cells
  obtain ⟨ta, tcap, rfl, tc1, tc2, _⟩ := hT
  rw [hln] at HT HB q1 tc1
  clear hB hM hok hsh hgp hR
  go_enter Try.func55, Try.ntmps55
  go_upto_region 0 with fail
  go_cut [4] (fun mv wx => mv = .int .i64 (room - gp) ∧ Hid (Below w.heap.size w wx))
  case first =>
    go_quiet ((go_at_call 38; exact Calls.quiet_of_same (GP.out _)))
    go_wp2_with fail
    go_meet
    case rel => go_light; exact ⟨rfl, rfl, rfl, rfl, Nat.le_refl _, fun _ _ => rfl⟩
  case rest =>
  obtain ⟨rfl, HC⟩ := hcut
  have HB6 := hidF (HB.out.held HC.out)
  obtain ⟨w6, hw6⟩ : ∃ w6, w6 = wc := ⟨_, rfl⟩
  subst hw6
  clear HC HB q0 q1 q2 q3 GP
  obtain ⟨q0, q1, q2, q3⟩ := HB6.out.cells
  go_wp2_with fail
  go_loopw [4, 5, 6, 28] (fun lv ov fv iv wr => ∃ (q c : Nat) (lf : Int), q ≤ n ∧ iv = .int .i64 q ∧ lv = .int .i64 lf ∧ c ≤ q ∧ Hid (lf = room - gp - smz sz 0 q ∧ (shl (atT l) q).length = c ∧ DlAt w6 wr ov fv c (shl (atT l) q) ((shl (atT l) q).map (fun i => (atT l i).n)))) (fun _ _ _ iv _ => n - (intV iv).toNat)
  case atStart => exact ⟨0, 0, room - gp, Nat.zero_le _, rfl, rfl, Nat.le_refl _, by simp [smz], by simp [shl], ⟨Below.refl _ _, World.ownsRow_nil _ _ _ _, World.ownsRow_nil _ _ _ _, .inl rfl⟩⟩
  case round =>
    obtain ⟨q, c, lf, hq, rfl, rfl, hcq, HZ⟩ := hrel
    obtain ⟨hlf, hsl, hdl⟩ := HZ.out
    have sb0 := smz_bd (M := M) HMB.out 0 q (by omega)
    have hqM : (q : Int) * M ≤ 300 * 1000000000000 := Int.le_trans (Int.mul_le_mul_of_nonneg_left hM2 (by omega)) (Int.mul_le_mul_of_nonneg_right (by omega) (by omega))
    have lf1 : -400000000000000 ≤ lf := by omega
    have lf2 : lf ≤ 6000000000 := by omega
    have HLF := hidF hlf
    have HDL := hidF (And.intro hsl hdl)
    have HSL := hidF hsl
    clear hlf hsl hdl HZ
    by_cases hlt : q < n
    · have i1 : (0 : Int) ≤ (q : Int) := by omega
      have i2 : (q : Int) < (n : Int) := by omega
      obtain ⟨b, o, cap, htv, e2, e3, e4⟩ := HT.out.at (k := q) (by rw [hln]; exact hlt)
      rw [hln] at htv
      cases htv
      have hbw := HB6.out.below.trans (HDL.out.2.below.mono HB6.out.below.size)
      have x1 := Nat.lt_of_lt_of_le e2 hbw.size
      have x2 := (hbw.cell (p := ⟨b, o + q * 2, none⟩) e2).trans e3
      have x3 := (hbw.cell (p := ⟨b, o + q * 2 + 1, none⟩) e2).trans e4
      have hxo := HOK.out (atT l q) (by
        have : l[q]? = some (atT l q) := by simp [atT, hln, hlt]
        exact List.mem_of_getElem? this)
      have s1 := hxo.n0; have s2 := hxo.n1
      have HSM := hidF (smz_succ sz 0 q)
      rw [Nat.zero_add] at HSM
      have HSS := hidF (shl_succ (atT l) q)
      have hszb := HMB.out q hlt
      obtain ⟨sa, hsa⟩ : ∃ s, sz q = s := ⟨_, rfl⟩
      have HSA := hidF hsa
      rw [hsa] at hszb HSM
      obtain ⟨h0, h1⟩ := hszb
      have W4 : IntKind.i64.wrap (lf - sa) = lf - sa := wrapT (by omega) (by omega)
      obtain ⟨⟨kd, kn⟩, hkd⟩ : ∃ x, atT l q = x := ⟨_, rfl⟩
      have HKD := hidF hkd
      rw [hkd] at x2 x3 HSS s1 s2
      simp only at x2 x3 HSS s1 s2
      clear e2 e3 e4 hbw hxo hsa hkd
      obtain ⟨w7, hw7⟩ : ∃ w7, w7 = wr := ⟨_, rfl⟩
      subst hw7
      have HAL := hidF (HDL.out.2.held (W := w7.alloc (.cells #[.int .i64 kd, .int .i64 kn] 54)) ((Below.refl _ _).alloc (Nat.le_refl _) _))
      have HXA : Hid (TxAt (w7.alloc (.cells #[.int .i64 kd, .int .i64 kn] 54)) w7.heap.size ⟨kd, kn⟩) := heap_alloc_new w7 _
      have HNO : Hid (u5.ownBlock ≠ some w7.heap.size ∧ u6.ownBlock ≠ some w7.heap.size) := ⟨fun e => by have := (HDL.out.2.o.lt _ e).2; omega, fun e => by have := (HDL.out.2.f.lt _ e).2; omega⟩
      go_upto_region 4 with fail
      go_cut [7, 8] (fun kv p wx => kv = .int .i64 q ∧ p = .pointer (some ⟨w7.heap.size, 0, none⟩) ∧ Hid (DlAt w6 wx u5 u6 c (shl (atT l) q) ((shl (atT l) q).map (fun i => (atT l i).n)) ∧ TxAt wx w7.heap.size ⟨kd, kn⟩))
      case first =>
        go_wp2_with fail
        go_meet
        case rel => go_light; exact ⟨rfl, rfl, HAL.out, HXA.out⟩
      case rest =>
      obtain ⟨rfl, rfl, HC⟩ := hcut
      obtain ⟨xb, hxb⟩ : ∃ x, w7.heap.size = x := ⟨_, rfl⟩
      rw [hxb] at HC HNO ⊢
      clear HAL HXA HDL hxb x1 x2 x3
      obtain ⟨w8, hw8⟩ : ∃ w8, w8 = wc := ⟨_, rfl⟩
      subst hw8
      obtain ⟨z0, z1, z2⟩ := HC.out.2.cells
      simp only at z1 z2
      have r0 := Nat.lt_of_lt_of_le q0 HC.out.1.below.size
      have r2 := (HC.out.1.below.cell (p := ⟨bb, 1, none⟩) q0).trans q2
      have r3 := Nat.lt_of_lt_of_le HB6.out.siz.lt HC.out.1.below.size
      have r4 := (HC.out.1.below.cell (p := ⟨sb, q, none⟩) HB6.out.siz.lt).trans (HB6.out.siz.cell hlt)
      rw [HSA.out] at r4
      by_cases hk3 : kd = 3
      · subst hk3
        rw [if_pos rfl] at HSS
        have hc300 : c ≤ 300 := by omega
        have HA8 := hidF (fun (o : Obj) => HC.out.1.held (W := w8.alloc o) ((Below.refl _ _).alloc (Nat.le_refl _) _))
        have HX8 := hidF (fun (o : Obj) => HC.out.2.held (w' := w8.alloc o) ((Below.refl _ _).alloc (Nat.le_refl _) _))
        go_upto_region 7 with fail
        go_cut [5] (fun ov wx => Hid (Below w6.heap.size w6 wx ∧ wx.ownsRow w6.heap.size 3 1 ov (c + 1) ((shl (atT l) q ++ [q]).map (fun (i : Nat) => Value.int .i64 (i : Int))) ∧ wx.ownsRow w6.heap.size 3 1 u6 c (((shl (atT l) q).map (fun i => (atT l i).n)).map (Value.int .i64)) ∧ TxAt wx xb ⟨3, kn⟩ ∧ (u6.ownBlock = none ∨ ov.ownBlock ≠ u6.ownBlock)))
        case first =>
          go_wp2_with (at_builtin; refine wpList_append_own_at _ rfl (.tmp 45) (.tmp 47) 23 rfl w6.heap.size 3 i0 _ 1 8 Try.underlying23 hi hz0 hz1 hz2 rfl (by decide) _ _ _ rfl ((HA8.out _).o) ⟨_, 0, none⟩ 1 1 [.int .i64 (q : Int)] rfl rfl (fun j u hj => news_six _ _ _ j u hj) (by simp [Value.oneCell']) (by unfold maxLen; omega) (by omega) (by have := HC.out.1.below.size; simp; omega) ?_; intro v1 w1 hv1 hg1 hx1 hx2; clear hx1; have hg2 : World.grownBy _ w1 u5.ownBlock := hg1; have hx3 : v1.ownBlock = u5.ownBlock ∨ v1.ownBlock = some _ := hx2; have H3 := hidF (And.intro ((HA8.out _).below.grown hg1 (by have := HC.out.1.below.size; simp; omega) (fun q hq => (HC.out.1.o.lt q hq).1)) (And.intro hv1 (And.intro hg2 hx3))); clear hv1 hg1 hx2 hg2 hx3)
          go_meet
          case rel =>
            go_light
            refine ⟨H3.out.1, ?_, ?_, ?_, ?_⟩
            · rw [List.map_append]; exact H3.out.2.1
            · refine (HA8.out _).f.kept H3.out.2.2.1 ?_
              rcases HC.out.1.ne with e | e | e
              · cases hf : u6.ownBlock with
                | none => exact .inl rfl
                | some z => right; rw [e]; simp
              · exact .inl e
              · exact .inr (Ne.symm e)
            · exact (H3.out.2.2.1.block xb (by simp; omega) (fun e => HNO.out.1 e.symm)).trans (HX8.out _)
            · cases hf : u6.ownBlock with
              | none => exact .inl rfl
              | some z =>
                right
                rcases H3.out.2.2.2 with e | e
                · rw [e]
                  rcases HC.out.1.ne with e2 | e2 | e2
                  · rw [e2]; simp
                  · rw [hf] at e2; cases e2
                  · rw [← hf]; exact e2
                · rw [e]
                  intro e2
                  have e3 := Option.some.inj e2
                  have := (HC.out.1.f.lt z hf).2
                  simp at e3
                  omega
        case rest =>
        have H5 := hidF hcut.out
        clear hcut HA8 HX8 z0 z1 z2 r0 r2 r3 r4
        obtain ⟨w9, hw9⟩ : ∃ w9, w9 = wc := ⟨_, rfl⟩
        subst hw9
        obtain ⟨z0, z1, z2⟩ := H5.out.2.2.2.1.cells
        simp only at z1 z2
        have HA9 := hidF (fun (o : Obj) => And.intro (H5.out.1.alloc H5.out.1.size o) (And.intro (H5.out.2.1.alloc o) (H5.out.2.2.1.alloc o)))
        go_wp2_with (at_builtin; refine wpList_append_own_at _ rfl (.tmp 49) (.tmp 52) 23 rfl w6.heap.size 3 i0 _ 1 8 Try.underlying23 hi hz0 hz1 hz2 rfl (by decide) _ _ _ rfl ((HA9.out _).2.2) ⟨_, 0, none⟩ 1 1 [.int .i64 kn] rfl rfl (fun j u hj => news_six _ _ _ j u hj) (by simp [Value.oneCell']) (by unfold maxLen; omega) (by omega) (by have := H5.out.1.size; simp; omega) ?_; intro v1 w1 hv1 hg1 hx1 hx2; clear hx1; have hg2 : World.grownBy _ w1 u6.ownBlock := hg1; have hx3 : v1.ownBlock = u6.ownBlock ∨ v1.ownBlock = some _ := hx2; have H3 := hidF (And.intro ((HA9.out _).1.grown hg1 (by have := H5.out.1.size; simp; omega) (fun q hq => (H5.out.2.2.1.lt q hq).1)) (And.intro hv1 (And.intro hg2 hx3))); clear hv1 hg1 hx2 hg2 hx3)
        go_roundw
        case rel =>
          go_light
          refine ⟨q + 1, c + 1, lf - sa, by omega, by go_num, rfl, by omega, by rw [HSM.out, HLF.out]; omega, by rw [HSS.out, List.length_append, HSL.out]; rfl, ?_⟩
          rw [HSS.out]
          refine ⟨H3.out.1, ?_, ?_, ?_⟩
          · refine (HA9.out _).2.1.kept H3.out.2.2.1 ?_
            rcases H5.out.2.2.2.2 with e | e
            · cases hf : u5.ownBlock with
              | none => exact .inl rfl
              | some z => right; rw [e]; simp
            · exact .inr e
          · rw [List.map_append, List.map_append]
            simp only [List.map_cons, List.map_nil, HKD.out]
            exact H3.out.2.1
          · cases hf : u5.ownBlock with
            | none => exact .inl rfl
            | some z =>
              right; right
              rcases H3.out.2.2.2 with e | e
              · rw [e]
                rcases H5.out.2.2.2.2 with e2 | e2
                · rw [e2]; simp
                · rw [← hf]; exact e2
              · rw [e]
                intro e2
                have e3 := Option.some.inj e2
                have := (H5.out.2.1.lt z hf).2
                simp at e3
                omega
        case measure => simp [intV]; omega
      · have hk3' : (kd == 3) = false := by simpa using hk3
        rw [if_neg hk3] at HSS
        clear hk3
        go_wp2_with fail
        go_roundw
        case rel =>
          go_light
          refine ⟨q + 1, c, lf - sa, by omega, by go_num, rfl, by omega, by rw [HSM.out, HLF.out]; omega, by rw [HSS.out]; exact HSL.out, by rw [HSS.out]; exact HC.out.1⟩
        case measure => simp [intV]; omega
    · obtain rfl : q = n := by omega
      have hlt' : ¬ (q : Int) < (q : Int) := by omega
      obtain ⟨op, hop⟩ : ∃ op, shl (atT l) q = op := ⟨_, rfl⟩
      obtain ⟨fs, hfs⟩ : ∃ fs, op.map (fun i => (atT l i).n) = fs := ⟨_, rfl⟩
      have HOM : Hid (∀ x ∈ op, x < q) := fun x hx => by rw [← hop] at hx; exact shl_mem hx
      have HRE : Hid (R = setQ (shareG 1000 (max lf 0) fs) op op.length sz) := by
        show _ = _
        rw [← HR.out]
        unfold dealF
        rw [HLD.out, hop, hfs, ← HLF.out]
      rw [hop] at HDL HSL HSH
      rw [hfs] at HDL
      have hc200 : c ≤ 200 := by rw [← HSL.out]; exact HSH.out
      have HFB : Hid (∀ x ∈ fs, 0 ≤ x ∧ x ≤ 16777216000000000) := fun x hx => by
        rw [← hfs] at hx
        obtain ⟨i, hi2, rfl⟩ := List.mem_map.1 hx
        have hil := HOM.out i hi2
        have hxo := HOK.out (atT l i) (by
          have : l[i]? = some (atT l i) := by simp [atT, hln, hil]
          exact List.mem_of_getElem? this)
        have := hxo.n0; have := hxo.n1
        omega
      have HFL : Hid (fs.length = c) := by show _ = _; rw [← hfs, List.length_map]; exact HSL.out
      clear hop hfs
      obtain ⟨w7, hw7⟩ : ∃ w7, w7 = wr := ⟨_, rfl⟩
      subst hw7
      have hfl : IntL w7 u6 fs := own_intL (B := w6.heap.size) (by rw [HFL.out]; exact HDL.out.2.f)
      have SG := hidF (sharesG_any hfl (max lf 0) 1000 (by omega) (by omega) (by omega) (by omega) (by rw [HFL.out]; exact hc200) HFB.out)
      obtain ⟨oa, oc, hov, o1, o2, hoc⟩ := own_open HSL.out HDL.out.2.o
      obtain ⟨fa, fc, hfv, _⟩ := own_shapeI HDL.out.2.f
      subst hov
      subst hfv
      have HOC := hidF hoc
      have HS6 : Hid (sb < w6.heap.size) := HB6.out.siz.lt
      have HBR := hidF (HB6.out.held HDL.out.2.below)
      clear hoc hfl
      go_wp2_with fail
      refine SG.out.mono ?_
      rintro e w8 ⟨v8, rfl, hil, hog, hb8⟩
      have HB8 := hidF (HBR.out.held hb8)
      have H8 := hidF (And.intro hil hb8)
      obtain ⟨va, vc, hv8, p1, p2, hvc⟩ := hil
      rw [List.length_map, List.length_range, HFL.out] at hv8 p1
      subst hv8
      have HVC := hidF hvc
      have hvs : ∀ g o, va = some ⟨g, o, none⟩ → g ≠ sb := fun g o e => by
        have h1 := hog g (by rw [e]; rfl)
        have h2 := HS6.out
        have h3 := HDL.out.2.below.size
        omega
      have HVS := hidF hvs
      clear hvc hog hb8 hvs
      go_wp2_with fail
      go_loopw [60] (fun iv wr => ∃ k : Nat, k ≤ c ∧ iv = .int .i64 k ∧ Hid (BdAt w0 wr bb sb q (.slice ta q tcap) gap (setQ (shareG 1000 (max lf 0) fs) op k sz) ∧ KeepM w8 sb wr)) (fun iv _ => c - (intV iv).toNat)
      case atStart => exact ⟨0, Nat.zero_le _, rfl, HB8.out, KeepM.refl _ _⟩
      case round =>
        obtain ⟨k, hk, rfl, HY⟩ := hrel
        by_cases hkc : k < c
        · have hkc' : (k : Int) < (c : Int) := by omega
          obtain ⟨x, hx⟩ : ∃ x, op[k]? = some x := ⟨_, List.getElem?_eq_getElem (by rw [HSL.out]; exact hkc)⟩
          obtain ⟨g, rfl, u1, u2, u3⟩ := HOC.out k x hx
          have hgs : g ≠ sb := by have := HS6.out; omega
          have u2' := Nat.lt_of_lt_of_le u2 H8.out.2.size
          have u3' := (H8.out.2.cell (p := ⟨g, k, none⟩) u2).trans u3
          have v1 := Nat.lt_of_lt_of_le u2' HY.out.2.size
          have v2 := (HY.out.2.cell (p := ⟨g, k, none⟩) u2' hgs).trans u3'
          obtain ⟨vb, vo, rfl, t1, t2⟩ := HVC.out k (shareG 1000 (max lf 0) fs k) (by rw [List.getElem?_map, List.getElem?_range (by rw [HFL.out]; exact hkc)]; rfl)
          have hvbs := HVS.out vb vo rfl
          have t3 := Nat.lt_of_lt_of_le t1 HY.out.2.size
          have t4 := (HY.out.2.cell (p := ⟨vb, vo + k, none⟩) t1 hvbs).trans t2
          have hxn := HOM.out x (List.mem_of_getElem? hx)
          obtain ⟨p0, p1', p2', p3⟩ := HY.out.1.cells
          have c0 := HY.out.1.siz.lt
          have c1 := HY.out.1.siz.cell hxn
          have c2 := HY.out.1.siz.frz x
          have HN2 : Hid (BdAt w0 (wr.setCell ⟨sb, x, none⟩ (.int .i64 (shareG 1000 (max lf 0) fs k))) bb sb q (.slice ta q tcap) gap (setQ (shareG 1000 (max lf 0) fs) op (k + 1) sz)) := by
            refine (HY.out.1.set x _).congr (fun j hj => ?_)
            have eg : op.getD k 0 = x := by rw [List.getD_eq_getElem?_getD, hx]; rfl
            rw [setQ_succ, eg]
          obtain ⟨y, hy⟩ : ∃ y, shareG 1000 (max lf 0) fs k = y := ⟨_, rfl⟩
          rw [hy] at t4 HN2
          have j1 : (0 : Int) ≤ (k : Int) := by omega
          have j2 : (0 : Int) ≤ (x : Int) := by omega
          have j3 : (x : Int) < (q : Int) := by omega
          have HKY := hidF HY.out.2
          obtain ⟨w9, hw9⟩ : ∃ w9, w9 = wr := ⟨_, rfl⟩
          subst hw9
          clear hx u1 u2 u3 u2' u3' t1 t2 hy
          go_upto_region 13 with fail
          go_region
          all_goals
            go_wp2_with fail
            go_roundw
            case rel => go_light; exact ⟨k + 1, by omega, by go_num, HN2.out.held (Below.refl _ _).drew, (HKY.out.setCell _ _).trans (KeepM.of_below (Below.refl _ _).drew)⟩
            case measure => simp [intV]; omega
        · obtain rfl : k = c := by omega
          have hkc' : ¬ (k : Int) < (k : Int) := by omega
          go_wp2_with fail
          go_returns
          refine ⟨rfl, ?_⟩
          rw [HRE.out, HSL.out]
          exact HY.out.1
end Go.Proofs.Ytjdndaeobiagcaa
