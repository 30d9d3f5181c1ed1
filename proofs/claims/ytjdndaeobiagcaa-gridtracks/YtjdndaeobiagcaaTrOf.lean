/- tracksOf: the tracks that count, and as many more as needs reach to. -/
import Derived.Test.YtjdndaeobiagcaaTrLeaf
namespace Go.Proofs.Ytjdndaeobiagcaa
open Go.RowKit
set_option linter.unusedVariables false      -- bounds that are for the walk

def trC (x : Tr2) : List Value := [.int .i64 x.k, .int .i64 x.n]
def trsC (l : List Tr2) : List Value := l.flatMap trC
theorem trsC_snoc (l : List Tr2) (x : Tr2) : trsC (l ++ [x]) = trsC l ++ trC x := by simp [trsC]
/-- tracks that are read -/
def TkL (w : World) (v : Value) (l : List Tr2) : Prop := ∃ a cap, v = .slice a l.length cap ∧ l.length ≤ cap ∧ cap ≤ 9223372036854775807 ∧ ∀ (j : Nat) (x : Tr2), l[j]? = some x → ∃ b o, a = some ⟨b, o, none⟩ ∧ b < w.heap.size ∧ w.cell? ⟨b, o + j * 2, none⟩ = some (.int .i64 x.k) ∧ w.cell? ⟨b, o + j * 2 + 1, none⟩ = some (.int .i64 x.n)
theorem TkL.below {w w' : World} {v : Value} {l : List Tr2} (h : TkL w v l) (hb : Below w.heap.size w w') : TkL w' v l := by
  obtain ⟨a, cap, hv, h1, h2, hc⟩ := h
  refine ⟨a, cap, hv, h1, h2, fun j x hj => ?_⟩
  obtain ⟨b, o, e1, e2, e3, e4⟩ := hc j x hj
  have hk := hb.block b e2
  exact ⟨b, o, e1, Nat.lt_of_lt_of_le e2 hb.size, (World.cell?_of_block (a := ⟨b, o + j * 2, none⟩) hk).trans e3, (World.cell?_of_block (a := ⟨b, o + j * 2 + 1, none⟩) hk).trans e4⟩
/-- up to where needs reach -/
def reachN (l : List Nd3) : Nat := l.foldl (fun m x => max m (x.f + x.s - 1).toNat) 0
theorem reachN_take {l : List Nd3} {k : Nat} {x : Nd3} (h : l[k]? = some x) : reachN (l.take (k + 1)) = max (reachN (l.take k)) (x.f + x.s - 1).toNat := by
  unfold reachN
  rw [List.take_add_one, h]
  simp [List.foldl_append]
/-- as many tracks more -/
def padT (l : List Tr2) (m : Nat) : List Tr2 := l ++ List.replicate (m - l.length) ⟨0, 0⟩
theorem padT_len (l : List Tr2) (m : Nat) : (padT l m).length = max l.length m := by unfold padT; simp; omega
theorem padT_more (l : List Tr2) (m : Nat) (h : l.length ≤ m) : padT l (m + 1) = padT l m ++ [⟨0, 0⟩] := by
  unfold padT
  rw [show m + 1 - l.length = (m - l.length) + 1 by omega, List.replicate_succ', List.append_assoc]
theorem padT_same (l : List Tr2) {m m' : Nat} (h : max l.length m = max l.length m') : padT l m = padT l m' := by
  unfold padT
  rw [show m - l.length = m' - l.length by omega]
theorem Try.infoTr : (Try.prog.info? 54).map (fun i => (i.zero, i.size, i.bytes)) = some (some (.agg #[.int .i64 0, .int .i64 0]), 2, 16) := by kernel_rfl
/-- how long a slice is -/
def lenV : Value → Nat
  | .slice _ n _ => n
  | _ => 0
/-- tracks in a row of one's own -/
def w'own (w : World) (B : Nat) (v : Value) (l : List Tr2) : Prop := w.ownsRow B 54 2 v l.length (trsC l)
theorem own_shape2 {w : World} {B n : Nat} {e : TypeId} {v : Value} {xs : List Value} (h : w.ownsRow B e 2 v n xs) : ∃ a c, v = .slice a n c ∧ n ≤ c ∧ c ≤ 9223372036854775807 := by
  obtain ⟨hl, ⟨rfl, hn⟩ | ⟨g, cap, cur, rfl, hg, hh, h1, h2, h3, h4⟩⟩ := h
  · exact ⟨none, 0, by rw [hn], by omega, by omega⟩
  · unfold maxLen at h2
    exact ⟨_, cap, rfl, h1, by omega⟩
/-- needs that count -/
structure NdOk (x : Nd3) : Prop where
  f1 : 1 ≤ x.f
  f2 : x.f ≤ 200
  s1 : 1 ≤ x.s
  s2 : x.s ≤ 20
  z1 : -16777216 ≤ x.z
  z2 : x.z ≤ 16777216

set_option maxHeartbeats 4000000 in
set_option maxRecDepth 100000 in
theorem tracksOf_any {w : World} {v nv : Value} {l : List Tr2} {ns : List Nd3} (h : TkL w v l) (hn : NsL w nv ns) (hok : ∀ x ∈ ns, NdOk x) (hns : ns.length ≤ 60) (room : Int) :
    Calls Try.prog 53 #[v, nv, .int .i64 room] w fun e w' => ∃ v', e = .returned v' ∧ w'.ownsRow w.heap.size 54 2 v' (padT ((l.take 20).map (cntT room)) (reachN ns)).length (trsC (padT ((l.take 20).map (cntT room)) (reachN ns))) ∧ Below w.heap.size w w' := by
  obtain ⟨i0, hi, hz0, hz1, hz2⟩ := info_parts Try.infoTr
  obtain ⟨a, cap, rfl, hc1, hc2, hl⟩ := h
  obtain ⟨na, ncap, rfl, nc1, nc2, hnl⟩ := hn
  have HL := hidF hl
  have HNL := hidF hnl
  have HOK := hidF hok
  have FI := hidF (fun W => firstsTr_any a l.length cap hc1 hc2 W)
  have CT := hidF (fun (x : Tr2) (W : World) => countedT_any x room W)
  obtain ⟨n, hn⟩ : ∃ n, min l.length 20 = n := ⟨_, rfl⟩
  have hn2 : n ≤ 20 := by omega
  have hnl2 : n ≤ l.length := by omega
  have HN := hidF hn
  obtain ⟨nn, hnn⟩ : ∃ nn, ns.length = nn := ⟨_, rfl⟩
  have HNN := hidF hnn
  rw [hn] at FI
  rw [hnn] at nc1 hns ⊢
  have ET : Hid (l.take n = l.take 20) := by
    show _ = _
    rw [← hn]
    rcases Nat.le_total l.length 20 with e | e
    · rw [Nat.min_eq_left e, List.take_of_length_le (Nat.le_refl _), List.take_of_length_le e]
    · rw [Nat.min_eq_right e]
  obtain ⟨l0, hl0⟩ : ∃ l0, (l.take 20).map (cntT room) = l0 := ⟨_, rfl⟩
  have HL0 := hidF hl0
  rw [hl0]
  clear hl hnl hok hn hnn hl0
  unfold trV at CT
  go_enter Try.func53, Try.ntmps53
  go_wp2_with fail
  refine (FI.out _).mono ?_
  rintro e w1 ⟨rfl, hw1⟩
  rw [hw1]
  clear hw1 FI
  go_wp2_with fail
  go_loopw [7, 15] (fun pv i wr => ∃ k : Nat, k ≤ n ∧ i = .int .i64 k ∧ Hid (Below w.heap.size w wr ∧ wr.ownsRow w.heap.size 54 2 pv k (trsC ((l.take k).map (cntT room))))) (fun _ i _ => n - (intV i).toNat)
  case atStart => exact ⟨0, Nat.zero_le _, rfl, Below.refl _ _, World.ownsRow_nil _ _ _ _⟩
  case round =>
    obtain ⟨k, hk, rfl, H⟩ := hrel
    by_cases hlt : k < n
    · obtain ⟨x, hx⟩ : ∃ x, l[k]? = some x := ⟨_, List.getElem?_eq_getElem (by omega)⟩
      obtain ⟨b, o, rfl, e2, e3, e4⟩ := HL.out k x hx
      have hkb := H.out.1.block b e2
      have x1 := Nat.lt_of_lt_of_le e2 H.out.1.size
      have x2 := (World.cell?_of_block (a := ⟨b, o + k * 2, none⟩) hkb).trans e3
      have x3 := (World.cell?_of_block (a := ⟨b, o + k * 2 + 1, none⟩) hkb).trans e4
      have i1 : (0 : Int) ≤ (k : Int) := by omega
      have i2 : (k : Int) < (n : Int) := by omega
      have HT : Hid (trsC ((l.take (k + 1)).map (cntT room)) = trsC ((l.take k).map (cntT room)) ++ trC (cntT room x)) := by
        show _ = _
        rw [List.take_add_one, hx]
        simp only [Option.toList_some, List.map_append, List.map_cons, List.map_nil]
        exact trsC_snoc _ _
      have CX := hidF (CT.out x)
      obtain ⟨⟨yk, yn⟩, hy⟩ : ∃ y, cntT room x = y := ⟨_, rfl⟩
      rw [hy] at HT CX
      clear hx hkb e2 e3 e4 hy
      obtain ⟨xk, xn⟩ := x
      simp only at x2 x3 CX
      obtain ⟨w5, hw5⟩ : ∃ w5, w5 = wr := ⟨_, rfl⟩
      subst hw5
      have HAL := hidF (H.out.1.alloc H.out.1.size (.cells #[.int .i64 xk, .int .i64 xn] 54))
      have HRL := hidF (H.out.2.alloc (.cells #[.int .i64 xk, .int .i64 xn] 54))
      go_wp2_with fail
      refine (CX.out _).mono ?_
      rintro e w6 ⟨rfl, hb6⟩
      have H6 : Hid (Below w.heap.size w w6 ∧ w6.ownsRow w.heap.size 54 2 u7 k (trsC ((l.take k).map (cntT room)))) := ⟨HAL.out.trans (hb6.mono HAL.out.size), World.ownsRow.kept HRL.out (row := none) ⟨hb6.os, hb6.tape, hb6.output, hb6.size, fun k hk _ => hb6.block k hk⟩ (by cases u7.ownBlock <;> simp)⟩
      clear hb6 HAL HRL H CX
      go_wp2_with (at_builtin; refine wpList_append_own_at _ rfl (.tmp 19) (.tmp 23) 55 rfl w.heap.size 54 i0 _ 2 16 Try.underlying55 hi hz0 hz1 hz2 rfl (by decide) _ _ _ rfl (H6.out.2.alloc _) ⟨_, 0, none⟩ 1 1 [.int .i64 yk, .int .i64 yn] rfl rfl (fun j u hj => news_six _ _ _ j u hj) (by simp [Value.oneCell']) (by unfold maxLen; omega) (by omega) (by have := H6.out.1.size; simp; omega) ?_; intro v1 w1 hv1 hg1 hx1 hx2; clear hx1 hx2; have H3 := hidF (And.intro ((H6.out.1.alloc H6.out.1.size _).grown hg1 (by have := H6.out.1.size; simp; omega) (fun q hq => (H6.out.2.lt q hq).1)) hv1); clear hv1 hg1)
      go_roundw
      case rel =>
        go_light
        refine ⟨k + 1, by omega, by go_num, H3.out.1, ?_⟩
        rw [HT.out]
        exact H3.out.2
      case measure => simp [intV]; omega
    · obtain rfl : k = n := by omega
      have hlt' : ¬ (k : Int) < (k : Int) := by omega
      have hll : l0.length = k := by
        rw [← HL0.out, List.length_map, List.length_take]
        have := HN.out
        omega
      rw [ET.out, HL0.out] at H
      have HLL := hidF hll
      clear hll
      go_wp2_with fail
      go_loopw [7, 28] (fun pv i wr => ∃ (q c : Nat), q ≤ nn ∧ i = .int .i64 q ∧ c ≤ 300 ∧ Hid (Below w.heap.size w wr ∧ c = max l0.length (reachN (ns.take q)) ∧ wr.ownsRow w.heap.size 54 2 pv c (trsC (padT l0 c)))) (fun _ i _ => nn - (intV i).toNat)
      case atStart =>
        refine ⟨0, k, Nat.zero_le _, rfl, by omega, H.out.1, by rw [HLL.out]; simp [reachN], ?_⟩
        have e : padT l0 k = l0 := by unfold padT; rw [HLL.out]; simp
        rw [e]
        exact H.out.2
      case round =>
        obtain ⟨q, c, hq, rfl, hc3, HZ⟩ := hrel
        by_cases hql : q < nn
        · obtain ⟨x, hx⟩ : ∃ x, ns[q]? = some x := ⟨_, List.getElem?_eq_getElem (by rw [HNN.out]; exact hql)⟩
          obtain ⟨b, o, rfl, e2, e3, e4, e5⟩ := HNL.out q x hx
          have hkb := HZ.out.1.block b e2
          have x1 := Nat.lt_of_lt_of_le e2 HZ.out.1.size
          have x2 := (World.cell?_of_block (a := ⟨b, o + q * 3, none⟩) hkb).trans e3
          have x3 := (World.cell?_of_block (a := ⟨b, o + q * 3 + 1, none⟩) hkb).trans e4
          have x4 := (World.cell?_of_block (a := ⟨b, o + q * 3 + 2, none⟩) hkb).trans e5
          have i1 : (0 : Int) ≤ (q : Int) := by omega
          have i2 : (q : Int) < (nn : Int) := by omega
          have hxo := HOK.out x (List.mem_of_getElem? hx)
          have s1 := hxo.f1; have s2 := hxo.f2; have s3 := hxo.s1; have s4 := hxo.s2
          have HRT := hidF (reachN_take hx)
          clear hx hkb e2 e3 e4 e5 hxo
          obtain ⟨xf, xs, xz⟩ := x
          simp only at x2 x3 x4 s1 s2 s3 s4 HRT
          obtain ⟨tg, htg⟩ : ∃ tg : Nat, (xf + xs - 1).toNat = tg := ⟨_, rfl⟩
          have Y1 : IntKind.i64.wrap (xf + xs) = xf + xs := wrapT (by omega) (by omega)
          have Y2 : IntKind.i64.wrap (xf + xs - 1) = (tg : Int) := by rw [wrapT (by omega) (by omega)]; omega
          have Y3 : xf + xs - 1 = (tg : Int) := by omega
          have tg2 : tg ≤ 219 := by omega
          rw [htg] at HRT
          clear htg
          obtain ⟨w5, hw5⟩ : ∃ w5, w5 = wr := ⟨_, rfl⟩
          subst hw5
          have HAL : Hid (Below w.heap.size w (w5.alloc (.cells #[.int .i64 xf, .int .i64 xs, .int .i64 xz] 60)) ∧ (w5.alloc (.cells #[.int .i64 xf, .int .i64 xs, .int .i64 xz] 60)).ownsRow w.heap.size 54 2 u7 c (trsC (padT l0 c)) ∧ (w5.alloc (.cells #[.int .i64 xf, .int .i64 xs, .int .i64 xz] 60)).heap[w5.heap.size]? = some (.cells #[.int .i64 xf, .int .i64 xs, .int .i64 xz] 60 (0, 0)) ∧ u7.ownBlock ≠ some w5.heap.size) :=
            ⟨HZ.out.1.alloc HZ.out.1.size _, HZ.out.2.2.alloc _, heap_alloc_new w5 _, fun e => by have := (HZ.out.2.2.lt _ e).2; omega⟩
          have HC0 := hidF HZ.out.2.1
          have hlo : l0.length ≤ c := by have := HZ.out.2.1; omega
          have HLO := hidF hlo
          go_wp2_with fail
          obtain ⟨xb, hxb⟩ : ∃ xb, w5.heap.size = xb := ⟨_, rfl⟩
          rw [hxb] at HAL ⊢
          have HBL := hidF HZ.out.1.size
          rw [hxb] at HBL
          clear hxb HZ x2 x3 x4 hlo
          go_loopw [7] (fun pv wx => ∃ d : Nat, c ≤ d ∧ d ≤ max c tg ∧ Hid (Below w.heap.size w wx ∧ wx.ownsRow w.heap.size 54 2 pv d (trsC (padT l0 d)) ∧ wx.heap[xb]? = some (.cells #[.int .i64 xf, .int .i64 xs, .int .i64 xz] 60 (0, 0)) ∧ pv.ownBlock ≠ some xb)) (fun pv _ => 400 - lenV pv)
          case atStart => exact ⟨c, Nat.le_refl _, by omega, HAL.out.1, HAL.out.2.1, HAL.out.2.2.1, HAL.out.2.2.2⟩
          case round =>
            obtain ⟨d, d1, d2, HY⟩ := hrel
            have y0 := ltH HY.out.2.2.1
            have y1 : wr.cell? ⟨xb, 0, none⟩ = some (.int .i64 xf) := by rw [cell_of_row wr xb _ _ _ _ HY.out.2.2.1]; rfl
            have y2 : wr.cell? ⟨xb, 1, none⟩ = some (.int .i64 xs) := by rw [cell_of_row wr xb _ _ _ _ HY.out.2.2.1]; rfl
            obtain ⟨va, vc, rfl, v1, v2⟩ := own_shape2 HY.out.2.1
            by_cases hdt : d < tg
            · have hdt' : (d : Int) < (tg : Int) := by omega
              have HPM := hidF (padT_more l0 d (by have := HLO.out; omega))
              obtain ⟨w6, hw6⟩ : ∃ w6, w6 = wr := ⟨_, rfl⟩
              subst hw6
              have HA6 := hidF (fun (o : Obj) => And.intro (HY.out.1.alloc HY.out.1.size o) (HY.out.2.1.alloc o))
              go_wp2_with (at_builtin; refine wpList_append_own_at _ rfl (.tmp 41) (.tmp 43) 55 rfl w.heap.size 54 i0 _ 2 16 Try.underlying55 hi hz0 hz1 hz2 rfl (by decide) _ _ _ rfl ((HA6.out _).2) ⟨_, 0, none⟩ 1 1 [.int .i64 0, .int .i64 0] rfl rfl (fun j u hj => news_six _ _ _ j u hj) (by simp [Value.oneCell']) (by unfold maxLen; omega) (by omega) (by have := HY.out.1.size; simp; omega) ?_; intro v1 w1 hv1 hg1 hx1 hx2; clear hx1; have H3 := hidF (And.intro ((HA6.out _).1.grown hg1 (by have := HY.out.1.size; simp; omega) (fun q hq => (HY.out.2.1.lt q hq).1)) (And.intro hv1 (And.intro hg1 hx2))); clear hv1 hg1 hx2)
              go_roundw
              case rel =>
                go_light
                refine ⟨d + 1, by omega, by omega, H3.out.1, ?_, ?_, ?_⟩
                · rw [HPM.out, trsC_snoc]
                  exact H3.out.2.1
                · refine (H3.out.2.2.1.block xb (by simp; omega) (fun e => HY.out.2.2.2 e.symm)).trans ?_
                  exact (Below.heap_alloc w6 _ _ y0).trans HY.out.2.2.1
                · rcases H3.out.2.2.2 with e | e
                  · rw [e]; exact HY.out.2.2.2
                  · rw [e]
                    intro e2
                    have := Option.some.inj e2
                    simp at this
                    omega
              case measure =>
                obtain ⟨vb, vd, hvv, _⟩ := own_shape2 H3.out.2.1
                rw [hvv]
                simp [lenV]
                omega
            · have hdt' : ¬ (d : Int) < (tg : Int) := by omega
              have HCC : Hid (d = max l0.length (reachN (ns.take (q + 1)))) := by
                show _ = _
                rw [HRT.out]
                have := HC0.out
                omega
              go_wp2_with fail
              go_roundw
              case rel => go_light; exact ⟨q + 1, d, by omega, by go_num, by omega, HY.out.1, HCC.out, HY.out.2.1⟩
              case measure => simp [intV]; omega
        · obtain rfl : q = nn := by omega
          have hq' : ¬ (q : Int) < (q : Int) := by omega
          have e1 : ns.take q = ns := List.take_of_length_le (by rw [HNN.out]; exact Nat.le_refl _)
          have HFN : Hid (w'own wr w.heap.size u7 (padT l0 (reachN ns))) := by
            have e2 := HZ.out.2.1
            rw [e1] at e2
            have e3 : padT l0 c = padT l0 (reachN ns) := padT_same l0 (by omega)
            have e4 : (padT l0 (reachN ns)).length = c := by rw [padT_len]; omega
            show World.ownsRow _ _ _ _ _ _ _
            rw [e4, ← e3]
            exact HZ.out.2.2
          go_wp2_with fail
          go_returns
          exact ⟨_, rfl, HFN.out, HZ.out.1⟩
end Go.Proofs.Ytjdndaeobiagcaa
