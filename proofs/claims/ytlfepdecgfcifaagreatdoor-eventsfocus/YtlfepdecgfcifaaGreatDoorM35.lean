/- EventsFocus, walked. -/
import Derived.Test.YtlfepdecgfcifaaGreatDoorM20
import Derived.Test.YtlfepdecgfcifaaGreatDoorM28
import Derived.Test.YtlfepdecgfcifaaGreatDoorM29
import Derived.Test.YtlfepdecgfcifaaGreatDoorM30
import Derived.Test.YtlfepdecgfcifaaGreatDoorM33
import Derived.Test.YtlfepdecgfcifaaGreatDoorM34
namespace Go.Proofs.YtlfepdecgfcifaaGreatDoor
open Go.RowKit
set_option linter.unusedVariables false
attribute [local go_sem] Oper.semAt_some

theorem belDn {B n : Nat} {a V : World} (h : Below B a V) : Below B a (V.drewN n) := belD h n

set_option maxHeartbeats 16000000 in
set_option maxRecDepth 100000 in
theorem eventsFocus_any {W : World} {cap : Nat} {ad : Option Addr} {ts : List Tw} (h : TwigsIn W W.heap.size ad ts) (hE : Errs W M0) (hx : ErrSx W) (root id : Int) :
    Calls Tryz.prog 3 #[.slice ad ts.length cap, .int .i64 root, .int .i64 id] W fun e w' => e = .returned (.bool true) ∧ Below W.heap.size W w' := by
  have H := hidF h
  have HE := hidF hE
  have HX := hidF hx
  have hmx : Tryz.prog.follows Departure.mixedOrders = true := by kernel_rfl
  clear h hE hx
  go_enter Tryz.func3, Tryz.ntmps3
  go_wp2_with fail
  refine (fewTwigsE_any H.out (Nat.le_refl _)).mono ?_
  rintro e W2 ⟨⟨⟨r, rfl, hr⟩, hr24⟩, hB2⟩
  have HB2 := hidF hB2
  have hs2 : W.heap.size ≤ W2.heap.size := hB2.size
  clear hB2
  cases r
  · clear hr hr24
    go_wp2_with fail
    all_goals go_ret
    all_goals exact ⟨rfl, HB2.out⟩
  have HFew := hidF (hr rfl)
  have HF : Hid (Fair ts) := ⟨by have := HFew.out.1; omega, fun j t ht => by have := HFew.out.2 j t ht; exact ⟨by have := this.2.2.1; omega, by have := this.2.2.2; omega⟩⟩
  have h24 := hr24 rfl
  clear hr hr24
  go_wp2_with fail
  refine (treeG_any ((H.out.same (w' := W2) (fun b hb => HB2.out.block b hb)).wideE (by omega)) (HE.out.below HB2.out) HF.out).mono ?_
  intro e W3 hq
  rcases hq with ⟨_, hnf, _⟩ | ⟨tb, M, nv, uv, ps, us, rfl, hL, hmv, hns, hlen, hsz⟩
  · exact absurd HFew.out hnf
  have hB3 : Below W2.heap.size W2 W3 := ⟨hmv.os, hmv.tape, hmv.output, hmv.size, fun b hb => hmv.far b hb rfl⟩
  have HB3 := hidF (HB2.out.trans (hB3.mono (by omega)))
  have hs3 : W2.heap.size ≤ W3.heap.size := hB3.size
  have HLs := hidF (And.intro hL hns)
  clear hL hmv hns hsz hB3
  go_wp2_with fail
  refine (fromTwigs_any ((H.out.same (w' := W3) (fun b hb => HB3.out.block b hb)).wideE (by omega)) HFew.out).mono ?_
  rintro e W4 ⟨na, nn, nc, M2, tb2, qs, rfl, hR, hq, hB4⟩
  have hs4 : W3.heap.size ≤ W4.heap.size := hB4.size
  have HB14 := hidF (HB3.out.trans (hB4.mono (by omega)))
  have HRs := hidF (And.intro hR (And.intro hq hB4))
  clear hR hq hB4
  have HXX : Hid (∃ w5, w5 = W4.alloc (.cells #[.slice na nn nc, .slice none 0 0] 29)) := ⟨_, rfl⟩
  obtain ⟨w5, hw5⟩ := HXX.out
  have hb5 : Below W4.heap.size W4 w5 := by rw [hw5]; exact (Below.refl _ W4).alloc (Nat.le_refl _) _
  have HB5 : Hid (Below W.heap.size W w5) := HB14.out.trans (hb5.mono (by omega))
  have hbox : w5.heap[W4.heap.size]? = some (.cells #[.slice na nn nc, .slice none 0 0] 29 (0, 0)) := by rw [hw5]; exact heap_alloc_new _ _
  obtain ⟨lo, hlo⟩ : ∃ l, orderP (treeS ts) (undZ (treeS ts) root) = l := ⟨_, rfl⟩
  obtain ⟨lh, hlh⟩ : ∃ l, hovP (treeS ts) id = l := ⟨_, rfl⟩
  have hN : (treeS ts).length = ts.length + 1 := lastS_length ts _
  have hsd : Sound (treeS ts) := lastS_sound ts _
  have hnt : Neat (treeS ts) := lastS_neat ts _
  have has : Asc (treeS ts) := treeS_asc ts
  have htg : ∀ n ∈ treeS ts, TagOk n := lastS_tag ts _
  obtain ⟨g1, g2⟩ := HLs.out
  obtain ⟨r1, r2, r3⟩ := HRs.out
  have hpl : ps.length = ts.length + 1 := by have := congrArg List.length g2; rw [hN] at this; simpa [nodesOf] using this
  have hql : qs.length = ts.length + 1 := by have := congrArg List.length r2; rw [hN] at this; simpa [nodesOf] using this
  have hL5 : Lies w5 M tb nv uv ps us := (g1.below r3).below hb5
  have hR5 : RLies w5 M2 tb2 (.slice na nn nc) (.slice none 0 0) qs [] := r1.below hb5
  have hE5 : ErrSx w5 := HX.out.held HB5.out
  have hnn : (.slice na nn nc : Value) = .slice na qs.length nc := by
    obtain ⟨a, c, e, _, _⟩ := r1.nodes.shape
    injection e with e1 e2 e3
    rw [e2]
  have hlol : lo.length ≤ 25 := by
    rw [← hlo]
    refine Nat.le_trans (orderP_len _ _) (Nat.le_trans (undZ_len hsd hnt root) (by omega))
  have hlhl : lh.length ≤ 30 := by
    rw [← hlh]
    unfold hovP
    split
    · exact Nat.le_trans (List.length_filter_le _ _) (Nat.le_trans (upA_len _ _) (by omega))
    · simp
  have hnd : lo.Nodup := by rw [← hlo]; exact orderP_nodup (undZ_nodup hsd hnt root)
  have OR : Hid (∀ V, Below w5.heap.size w5 V → Calls Tryz.prog 9 #[.pointer (some ⟨tb, 0, none⟩), .int .i64 root] V (UndPost V lo)) := fun V hV => by
    rw [← hlo, ← g2]
    exact order_any (hL5.below hV) (g2 ▸ hsd) (g2 ▸ hnt) (by omega) (hE5.held hV) root
  have FO : Hid (∀ V, Below w5.heap.size w5 V → Calls Tryz.prog 10 #[.agg #[.slice na nn nc, .slice none 0 0], .int .i64 root] V (UndPost V lo)) := fun V hV => by
    rw [← hlo, ← r2]
    exact focusO_any (hR5.below hV) (r2 ▸ hsd) (r2 ▸ hnt) (by omega) (by rw [r2]; exact htg) root
  have NX : Hid (∀ V, Below w5.heap.size w5 V → ∀ back, Calls Tryz.prog 11 #[.pointer (some ⟨tb, 0, none⟩), .int .i64 root, .int .i64 id, .bool back] V fun e w' => e = .returned (.int .i64 (nextP lo id back)) ∧ Below V.heap.size V w') := fun V hV back => next_any (by omega) (OR.out V hV) id back
  have FN : Hid (∀ V, Below w5.heap.size w5 V → ∀ back, Calls Tryz.prog 12 #[.agg #[.slice na nn nc, .slice none 0 0], .int .i64 root, .int .i64 id, .bool back] V fun e w' => e = .returned (.int .i64 (nextP lo id back)) ∧ Below V.heap.size V w') := fun V hV back => focusN_any (by omega) hnd (fun V' hV' => FO.out V' (hV.trans (hV'.mono hV.size))) id back
  have HV : Hid (∀ V, Below w5.heap.size w5 V → Calls Tryz.prog 13 #[.pointer (some ⟨tb, 0, none⟩), .int .i64 id] V (UndPost V lh)) := fun V hV => by
    rw [← hlh, ← g2]
    exact hover_any (hL5.below hV) (g2 ▸ has) (by omega) id
  have HQ : Hid (∀ V, Below w5.heap.size w5 V → Calls Tryz.prog 14 #[.agg #[.slice na nn nc, .slice none 0 0], .int .i64 id] V (UndPost V lh)) := fun V hV => by
    rw [← hlh, ← r2]
    exact hoverQ_any (hR5.below hV) (r2 ▸ has) (by omega) id
  have C0 : Hid (∀ V, Below w5.heap.size w5 V → V.cell? ⟨W4.heap.size, 0, none⟩ = some (.slice na nn nc)) := fun V hV => (hV.cell (p := ⟨W4.heap.size, 0, none⟩) (ltH hbox)).trans (by rw [cell_of_row _ _ _ _ _ _ hbox]; rfl)
  have C1 : Hid (∀ V, Below w5.heap.size w5 V → V.cell? ⟨W4.heap.size, 1, none⟩ = some (.slice none 0 0)) := fun V hV => (hV.cell (p := ⟨W4.heap.size, 1, none⟩) (ltH hbox)).trans (by rw [cell_of_row _ _ _ _ _ _ hbox]; rfl)
  obtain ⟨nf, hnf⟩ : ∃ n, nextP lo id false = n := ⟨_, rfl⟩
  obtain ⟨nb, hnb⟩ : ∃ n, nextP lo id true = n := ⟨_, rfl⟩
  have NXf := hidF (fun V hV => NX.out V hV false)
  have FNf := hidF (fun V hV => FN.out V hV false)
  have NXb := hidF (fun V hV => NX.out V hV true)
  have FNb := hidF (fun V hV => FN.out V hV true)
  rw [hnf] at NXf FNf
  rw [hnb] at NXb FNb
  have jf : (nf == nf) = true := by simp
  have jb : (nb == nb) = true := by simp
  clear g1 g2 r1 r2 r3 hL5 hR5 hE5 hnn hnd hsd hnt has htg hlo hlh hN hpl hql hbox hb5 NX FN hnf hnb HLs HRs HB14 HB3 HB2 HXX HFew HF HE H HX
  go_wp2_with fail
  rw [← hw5]
  clear hw5
  have D7 : Hid (Below w5.heap.size w5 w5) := Below.refl _ _
  have k80 := C0.out w5 D7.out
  have k81 := C1.out w5 D7.out
  go_cut [10] (fun s1 wx => s1 = .bool true ∧ Hid (Below w5.heap.size w5 wx))
  case first =>
    go_region_held3 (fun wx => wx.cell? ⟨W4.heap.size, 0, none⟩ = some (.slice na nn nc) ∧ wx.cell? ⟨W4.heap.size, 1, none⟩ = some (.slice none 0 0)) (go_keep)
      (first
        | (go_at_call 9
           refine (OR.out _ ?_).mono ?_
           · (first | exact Bb8.out | exact belDn D7.out)
           rintro e wa8 ⟨va8, rfl, pa81, pa82⟩
           have Ba8 : Hid (Below w5.heap.size w5 wa8) := by
             show Below _ _ _
             first | exact Below.trans (Bb8.out) (pa82.mono (Bb8.out).size) | exact Below.trans (belDn D7.out) (pa82.mono (belDn D7.out).size)
           have ma80 := C0.out wa8 Ba8.out
           have ma81 := C1.out wa8 Ba8.out
           have Va8 := hidF (own_monoF pa81 (Nat.zero_le _))
           have Pa8 := hidF pa82
           clear pa81 pa82)
        | (go_at_call 10
           refine (FO.out _ ?_).mono ?_
           · (first | exact Ba8.out | exact belDn D7.out)
           rintro e wb8 ⟨vb8, rfl, pb81, pb82⟩
           have Bb8 : Hid (Below w5.heap.size w5 wb8) := by
             show Below _ _ _
             first | exact Below.trans (Ba8.out) (pb82.mono (Ba8.out).size) | exact Below.trans (belDn D7.out) (pb82.mono (belDn D7.out).size)
           have mb80 := C0.out wb8 Bb8.out
           have mb81 := C1.out wb8 Bb8.out
           have Vb8 := hidF (own_monoF pb81 (Nat.zero_le _))
           have Pb8 := hidF pb82
           clear pb81 pb82)
        | (go_at_call 8
           refine (sameI5_any (l := lo) (B := 0) (C := 0) (by omega) ?_ ?_).mono ?_
           · first | exact Va8.out | exact own_same Va8.out (fun b hq => Pb8.out.block b (Va8.out.lt b hq).2)
           · first | exact Vb8.out | exact own_same Vb8.out (fun b hq => Pa8.out.block b (Vb8.out.lt b hq).2)
           rintro e wz8 ⟨rfl, pz82⟩
           have Bz8 : Hid (Below w5.heap.size w5 wz8) := by
             show Below _ _ _
             first | exact Below.trans Ba8.out (pz82.mono Ba8.out.size) | exact Below.trans Bb8.out (pz82.mono Bb8.out.size)
           have mz80 := C0.out wz8 Bz8.out
           have mz81 := C1.out wz8 Bz8.out
           clear pz82))
    all_goals
      go_wp2_with fail
      go_meet
      case rel => go_light; exact ⟨rfl, Bz8.out⟩
  case rest =>
  obtain ⟨rfl, D8⟩ := hcut
  rename World => x8
  clear k80 k81
  go_upto_region 9 with fail
  have k90 := C0.out x8 D8.out
  have k91 := C1.out x8 D8.out
  go_cut [11] (fun s1 wx => s1 = .bool true ∧ Hid (Below w5.heap.size w5 wx))
  case first =>
    go_region_held3 (fun wx => wx.cell? ⟨W4.heap.size, 0, none⟩ = some (.slice na nn nc) ∧ wx.cell? ⟨W4.heap.size, 1, none⟩ = some (.slice none 0 0)) (go_keep)
      (first
        | (go_at_call 11
           refine (NXf.out _ ?_).mono ?_
           · (first | exact Bb9.out | exact belDn D8.out)
           rintro e wa9 ⟨rfl, pa92⟩
           have Ba9 : Hid (Below w5.heap.size w5 wa9) := by
             show Below _ _ _
             first | exact Below.trans (Bb9.out) (pa92.mono (Bb9.out).size) | exact Below.trans (belDn D8.out) (pa92.mono (belDn D8.out).size)
           have ma90 := C0.out wa9 Ba9.out
           have ma91 := C1.out wa9 Ba9.out
           clear pa92)
        | (go_at_call 12
           refine (FNf.out _ ?_).mono ?_
           · (first | exact Ba9.out | exact belDn D8.out)
           rintro e wb9 ⟨rfl, pb92⟩
           have Bb9 : Hid (Below w5.heap.size w5 wb9) := by
             show Below _ _ _
             first | exact Below.trans (Ba9.out) (pb92.mono (Ba9.out).size) | exact Below.trans (belDn D8.out) (pb92.mono (belDn D8.out).size)
           have mb90 := C0.out wb9 Bb9.out
           have mb91 := C1.out wb9 Bb9.out
           clear pb92))
    all_goals
      go_wp2_with fail
      go_meet
      case rel => go_light; first | exact ⟨rfl, Ba9.out⟩ | exact ⟨rfl, Bb9.out⟩ | exact ⟨by simp, Ba9.out⟩ | exact ⟨by simp, Bb9.out⟩
  case rest =>
  obtain ⟨rfl, D9⟩ := hcut
  rename World => x9
  clear k90 k91
  go_upto_region 10 with fail
  have k100 := C0.out x9 D9.out
  have k101 := C1.out x9 D9.out
  go_cut [12] (fun s1 wx => s1 = .bool true ∧ Hid (Below w5.heap.size w5 wx))
  case first =>
    go_region_held3 (fun wx => wx.cell? ⟨W4.heap.size, 0, none⟩ = some (.slice na nn nc) ∧ wx.cell? ⟨W4.heap.size, 1, none⟩ = some (.slice none 0 0)) (go_keep)
      (first
        | (go_at_call 11
           refine (NXb.out _ ?_).mono ?_
           · (first | exact Bb10.out | exact belDn D9.out)
           rintro e wa10 ⟨rfl, pa102⟩
           have Ba10 : Hid (Below w5.heap.size w5 wa10) := by
             show Below _ _ _
             first | exact Below.trans (Bb10.out) (pa102.mono (Bb10.out).size) | exact Below.trans (belDn D9.out) (pa102.mono (belDn D9.out).size)
           have ma100 := C0.out wa10 Ba10.out
           have ma101 := C1.out wa10 Ba10.out
           clear pa102)
        | (go_at_call 12
           refine (FNb.out _ ?_).mono ?_
           · (first | exact Ba10.out | exact belDn D9.out)
           rintro e wb10 ⟨rfl, pb102⟩
           have Bb10 : Hid (Below w5.heap.size w5 wb10) := by
             show Below _ _ _
             first | exact Below.trans (Ba10.out) (pb102.mono (Ba10.out).size) | exact Below.trans (belDn D9.out) (pb102.mono (belDn D9.out).size)
           have mb100 := C0.out wb10 Bb10.out
           have mb101 := C1.out wb10 Bb10.out
           clear pb102))
    all_goals
      go_wp2_with fail
      go_meet
      case rel => go_light; first | exact ⟨rfl, Ba10.out⟩ | exact ⟨rfl, Bb10.out⟩ | exact ⟨by simp, Ba10.out⟩ | exact ⟨by simp, Bb10.out⟩
  case rest =>
  obtain ⟨rfl, D10⟩ := hcut
  rename World => x10
  clear k100 k101
  go_upto_region 11 with fail
  have k110 := C0.out x10 D10.out
  have k111 := C1.out x10 D10.out
  go_cut [13] (fun s1 wx => s1 = .bool true ∧ Hid (Below w5.heap.size w5 wx))
  case first =>
    go_region_held3 (fun wx => wx.cell? ⟨W4.heap.size, 0, none⟩ = some (.slice na nn nc) ∧ wx.cell? ⟨W4.heap.size, 1, none⟩ = some (.slice none 0 0)) (go_keep)
      (first
        | (go_at_call 13
           refine (HV.out _ ?_).mono ?_
           · (first | exact Bb11.out | exact belDn D10.out)
           rintro e wa11 ⟨va11, rfl, pa111, pa112⟩
           have Ba11 : Hid (Below w5.heap.size w5 wa11) := by
             show Below _ _ _
             first | exact Below.trans (Bb11.out) (pa112.mono (Bb11.out).size) | exact Below.trans (belDn D10.out) (pa112.mono (belDn D10.out).size)
           have ma110 := C0.out wa11 Ba11.out
           have ma111 := C1.out wa11 Ba11.out
           have Va11 := hidF (own_monoF pa111 (Nat.zero_le _))
           have Pa11 := hidF pa112
           clear pa111 pa112)
        | (go_at_call 14
           refine (HQ.out _ ?_).mono ?_
           · (first | exact Ba11.out | exact belDn D10.out)
           rintro e wb11 ⟨vb11, rfl, pb111, pb112⟩
           have Bb11 : Hid (Below w5.heap.size w5 wb11) := by
             show Below _ _ _
             first | exact Below.trans (Ba11.out) (pb112.mono (Ba11.out).size) | exact Below.trans (belDn D10.out) (pb112.mono (belDn D10.out).size)
           have mb110 := C0.out wb11 Bb11.out
           have mb111 := C1.out wb11 Bb11.out
           have Vb11 := hidF (own_monoF pb111 (Nat.zero_le _))
           have Pb11 := hidF pb112
           clear pb111 pb112)
        | (go_at_call 8
           refine (sameI5_any (l := lh) (B := 0) (C := 0) (by omega) ?_ ?_).mono ?_
           · first | exact Va11.out | exact own_same Va11.out (fun b hq => Pb11.out.block b (Va11.out.lt b hq).2)
           · first | exact Vb11.out | exact own_same Vb11.out (fun b hq => Pa11.out.block b (Vb11.out.lt b hq).2)
           rintro e wz11 ⟨rfl, pz112⟩
           have Bz11 : Hid (Below w5.heap.size w5 wz11) := by
             show Below _ _ _
             first | exact Below.trans Ba11.out (pz112.mono Ba11.out.size) | exact Below.trans Bb11.out (pz112.mono Bb11.out.size)
           have mz110 := C0.out wz11 Bz11.out
           have mz111 := C1.out wz11 Bz11.out
           clear pz112))
    all_goals
      go_wp2_with fail
      go_meet
      case rel => go_light; exact ⟨rfl, Bz11.out⟩
  case rest =>
  obtain ⟨rfl, D11⟩ := hcut
  rename World => x11
  clear k110 k111
  go_wp2_with fail
  go_returns
  exact ⟨rfl, HB5.out.trans (D11.out.mono HB5.out.size)⟩
end Go.Proofs.YtlfepdecgfcifaaGreatDoor
