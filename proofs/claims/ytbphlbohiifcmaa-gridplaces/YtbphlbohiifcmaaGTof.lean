/- tableOf: the items as they count, and how many columns. -/
import Derived.Test.YtbphlbohiifcmaaGInv
import Derived.Test.YtbphlbohiifcmaaSItem
import Derived.Test.YtbphlbohiifcmaaSStep
import Derived.Deep.RegionLaw
import Derived.OwnWalk
namespace Go.Proofs.Ytbphlbohiifcmaa
open Go.RowKit
set_option linter.unusedVariables false      -- bounds that are for the walk

/-- a list of items that is read -/
def GsL (w : World) (v : Value) (l : List Gi) : Prop := ∃ a cap, v = .slice a l.length cap ∧ l.length ≤ cap ∧ cap ≤ 9223372036854775807 ∧ ∀ (j : Nat) (x : Gi), l[j]? = some x → ∃ b o, a = some ⟨b, o, none⟩ ∧ b < w.heap.size ∧ w.cell? ⟨b, o + j * 4, none⟩ = some (.int .i64 x.c) ∧ w.cell? ⟨b, o + j * 4 + 1, none⟩ = some (.int .i64 x.cs) ∧ w.cell? ⟨b, o + j * 4 + 2, none⟩ = some (.int .i64 x.r) ∧ w.cell? ⟨b, o + j * 4 + 3, none⟩ = some (.int .i64 x.rs)
theorem GsL.below {w w' : World} {v : Value} {l : List Gi} (h : GsL w v l) (hb : Below w.heap.size w w') : GsL w' v l := by
  obtain ⟨a, cap, hv, h1, h2, hc⟩ := h
  refine ⟨a, cap, hv, h1, h2, fun j x hj => ?_⟩
  obtain ⟨b, o, e1, e2, e3, e4, e5, e6⟩ := hc j x hj
  have hk := hb.block b e2
  exact ⟨b, o, e1, Nat.lt_of_lt_of_le e2 hb.size, (World.cell?_of_block (a := ⟨b, o + j * 4, none⟩) hk).trans e3, (World.cell?_of_block (a := ⟨b, o + j * 4 + 1, none⟩) hk).trans e4, (World.cell?_of_block (a := ⟨b, o + j * 4 + 2, none⟩) hk).trans e5, (World.cell?_of_block (a := ⟨b, o + j * 4 + 3, none⟩) hk).trans e6⟩

/-- how many columns -/
def colS (m : Int) (i : Gi) : Int := if 0 < i.c then max (max m i.cs) i.lc else max m i.cs
def colsG (c : Int) (l : List Gi) : Int := (l.map cntN).foldl colS (min (max c 1) 20)
theorem colsG_take {l : List Gi} {k : Nat} {i : Gi} (c : Int) (h : l[k]? = some i) : colsG c (l.take (k + 1)) = colS (colsG c (l.take k)) (cntN i) := by
  unfold colsG
  rw [List.take_add_one, h]
  simp [List.foldl_append]
theorem colS_all : ∀ (l : List Gi), (∀ i ∈ l, GOk i) → ∀ m : Int, 1 ≤ m → m ≤ 220 → 1 ≤ l.foldl colS m ∧ l.foldl colS m ≤ 220 ∧ m ≤ l.foldl colS m ∧ ∀ i ∈ l, i.cs ≤ l.foldl colS m ∧ (0 < i.c → i.lc ≤ l.foldl colS m) := by
  intro l
  induction l with
  | nil => intro _ m h1 h2; exact ⟨h1, h2, Int.le_refl _, by simp⟩
  | cons a r ih =>
    intro hs m h1 h2
    rw [List.foldl_cons]
    have ha := hs a (List.mem_cons_self ..)
    have a1 := ha.cs1; have a2 := ha.cs2; have a3 := ha.c2
    have e : a.lc = a.c + a.cs - 1 := rfl
    have hm : m ≤ colS m a ∧ colS m a ≤ 220 ∧ a.cs ≤ colS m a ∧ (0 < a.c → a.lc ≤ colS m a) := by
      unfold colS
      split <;> refine ⟨?_, ?_, ?_, ?_⟩ <;> omega
    obtain ⟨q1, q2, q3, q4⟩ := ih (fun i hi => hs i (List.mem_cons_of_mem _ hi)) (colS m a) (by omega) (by omega)
    refine ⟨q1, q2, by omega, fun i hi => ?_⟩
    rcases List.mem_cons.1 hi with rfl | hi
    · exact ⟨by omega, fun h => by have := hm.2.2.2 h; omega⟩
    · exact q4 i hi
theorem colsG_all (c : Int) (l : List Gi) : 1 ≤ colsG c l ∧ colsG c l ≤ 220 ∧ ∀ i ∈ l.map cntN, i.cs ≤ colsG c l ∧ (0 < i.c → i.lc ≤ colsG c l) := by
  have := colS_all (l.map cntN) (fun i hi => by obtain ⟨q, _, rfl⟩ := List.mem_map.1 hi; exact cntN_ok q) (min (max c 1) 20) (by omega) (by omega)
  exact ⟨this.1, this.2.1, this.2.2.2⟩
theorem Try.infoG : (Try.prog.info? 47).map (fun i => (i.zero, i.size, i.bytes)) = some (some (.agg #[.int .i64 0, .int .i64 0, .int .i64 0, .int .i64 0]), 4, 32) := by kernel_rfl

/-- a table, and a box beside it -/
structure TofAt (w wx : World) (tb mb : Nat) (sv : Value) (m : Int) (its : List Gi) (g : Nat) (i : Gi) : Prop where
  box : BxAt wx g i
  tab : TbAt w wx tb mb sv (fun _ _ => none) m its
  lo : w.heap.size ≤ g
  ntb : g ≠ tb
  nmb : g ≠ mb
  nsv : sv.ownBlock ≠ some g
section
variable {w wx W : World} {tb mb g : Nat} {sv : Value} {m : Int} {its : List Gi} {i : Gi}
theorem TofAt.held (h : TofAt w wx tb mb sv m its g i) (hb : Below wx.heap.size wx W) : TofAt w W tb mb sv m its g i :=
  ⟨(hb.block g h.box.cells.1).trans h.box, h.tab.held hb, h.lo, h.ntb, h.nmb, h.nsv⟩
theorem TbAt.setFar {F : Tk} (h : TbAt w wx tb mb sv F m its) (lo : w.heap.size ≤ g) (ntb : g ≠ tb) (nmb : g ≠ mb) (nsv : sv.ownBlock ≠ some g) (j : Nat) (u : Value) : TbAt w (wx.setCell ⟨g, j, none⟩ u) tb mb sv F m its := by
  have hown : (wx.setCell ⟨g, j, none⟩ u).ownsRow w.heap.size 47 4 sv its.length (gsC its) := by
    obtain ⟨hl, h0 | ⟨g', cap, cur, hv, hg, hh, h1, h2, h3, h4⟩⟩ := h.row
    · exact ⟨hl, .inl h0⟩
    · exact ⟨hl, .inr ⟨g', cap, cur, hv, hg, (heap_setCell_other wx ⟨g, j, none⟩ g' _ (fun e => nsv (by rw [hv, show g' = g from e]; rfl))).trans hh, h1, h2, h3, h4⟩⟩
  exact ⟨h.below.setCell lo _, (heap_setCell_other wx ⟨g, j, none⟩ tb _ (Ne.symm ntb)).trans h.tab, h.lot, h.lom, hown, h.map.keep (heap_setCell_other wx ⟨g, j, none⟩ mb _ (Ne.symm nmb)), h.ntm, h.nst, h.nsm⟩
theorem TofAt.four (h : TofAt w wx tb mb sv m its g i) (a b c d : Int) : TofAt w ((((wx.setCell ⟨g, 0, none⟩ (.int .i64 a)).setCell ⟨g, 1, none⟩ (.int .i64 b)).setCell ⟨g, 2, none⟩ (.int .i64 c)).setCell ⟨g, 3, none⟩ (.int .i64 d)) tb mb sv m its g ⟨a, b, c, d⟩ :=
  ⟨four_set h.box a b c d, (((h.tab.setFar h.lo h.ntb h.nmb h.nsv _ _).setFar h.lo h.ntb h.nmb h.nsv _ _).setFar h.lo h.ntb h.nmb h.nsv _ _).setFar h.lo h.ntb h.nmb h.nsv _ _, h.lo, h.ntb, h.nmb, h.nsv⟩
theorem TofAt.setCols (h : TofAt w wx tb mb sv m its g i) (x : Int) : TofAt w (wx.setCell ⟨tb, 2, none⟩ (.int .i64 x)) tb mb sv x its g i :=
  ⟨(heap_setCell_other wx ⟨tb, 2, none⟩ g _ h.ntb).trans h.box, h.tab.setCols x, h.lo, h.ntb, h.nmb, h.nsv⟩
theorem TbAt.app {F : Tk} {w8 : World} {v' : Value} (h : TbAt w wx tb mb sv F m its) (hr : w8.ownsRow w.heap.size 47 4 v' (its.length + 1) (gsC its ++ gC i)) (hg : wx.grownBy w8 sv.ownBlock) (hx : v'.ownBlock = sv.ownBlock ∨ v'.ownBlock = some wx.heap.size) :
    (w8.cell? ⟨tb, 0, none⟩ = some sv ∧ w8.frozen? ⟨tb, 0, none⟩ = false) ∧ TbAt w (w8.setCell ⟨tb, 0, none⟩ v') tb mb v' F m (its ++ [i]) := by
  have hh := (hg.block tb (ltH h.tab) (fun e => h.nst (by first | exact e | exact e.symm))).trans h.tab
  have hm := hg.block mb h.map.lt (fun e => h.nsm (by first | exact e | exact e.symm))
  have n1 : v'.ownBlock ≠ some tb := by
    rcases hx with e | e
    · rw [e]; exact h.nst
    · rw [e]; intro e2; have := ltH h.tab; cases e2; omega
  have n2 : v'.ownBlock ≠ some mb := by
    rcases hx with e | e
    · rw [e]; exact h.nsm
    · rw [e]; intro e2; have := h.map.lt; cases e2; omega
  have hown : (w8.setCell ⟨tb, 0, none⟩ v').ownsRow w.heap.size 47 4 v' (its ++ [i]).length (gsC (its ++ [i])) := by
    rw [List.length_append, gsC_snoc]
    obtain ⟨hl, h0 | ⟨g, cap, cur, hv, hg, hh, h1, h2, h3, h4⟩⟩ := hr
    · exact ⟨hl, .inl h0⟩
    · exact ⟨hl, .inr ⟨g, cap, cur, hv, hg, (heap_setCell_other w8 ⟨tb, 0, none⟩ g _ (fun e => n1 (by rw [hv, show g = tb from e]; rfl))).trans hh, h1, h2, h3, h4⟩⟩
  refine ⟨⟨by rw [cell_of_row w8 tb _ _ _ _ hh]; rfl, by simp [World.frozen?, hh]⟩, ⟨(h.below.grown hg h.below.size (fun k hk => (h.row.lt k hk).1)).setCell h.lot _, ?_, h.lot, h.lom, hown, (h.map.keep hm).keep (heap_setCell_other w8 ⟨tb, 0, none⟩ mb _ (Ne.symm h.ntm)), h.ntm, n1, n2⟩⟩
  rw [heap_setCell_same w8 tb 0 _ 91 _ hh]
  rfl
end
theorem makeMapG (w : World) : (Instr.makeMap 89 none).run Try.prog w = .ok (.map (some w.heap.size)) (w.alloc (.map #[] 0)) := by
  simp [Instr.makeMap]

theorem TbAt.init (w : World) (m : Int) : TbAt w ((w.alloc (.map #[] 0)).alloc (.cells #[.slice none 0 0, .map (some w.heap.size), .int .i64 m] 91)) (w.heap.size + 1) w.heap.size (.slice none 0 0) (fun _ _ => none) m [] := by
  have hm := MapF.new w
  refine ⟨(((Below.refl w.heap.size w).alloc (Nat.le_refl _) _).alloc (by simp) _), ?_, by omega, Nat.le_refl _, ⟨rfl, .inl ⟨rfl, rfl⟩⟩, hm.keep (Below.heap_alloc _ _ _ (by simp)), by omega, by simp [Value.ownBlock], by simp [Value.ownBlock]⟩
  have := heap_alloc_new (w.alloc (.map #[] 0)) (.cells #[.slice none 0 0, .map (some w.heap.size), .int .i64 m] 91)
  simpa using this

set_option maxHeartbeats 4000000 in
set_option maxRecDepth 100000 in
theorem tableOf_any {w : World} {v : Value} {l : List Gi} (h : GsL w v l) (c : Int) :
    Calls Try.prog 42 #[v, .int .i64 c] w fun e w' => ∃ tb mb sv, e = .returned (.pointer (some ⟨tb, 0, none⟩)) ∧ TbAt w w' tb mb sv (fun _ _ => none) (colsG c (l.take 200)) ((l.take 200).map cntN) := by
  obtain ⟨i0, hi, hz0, hz1, hz2⟩ := info_parts Try.infoG
  obtain ⟨a, cap, rfl, hc1, hc2, hl⟩ := h
  have HL := hidF hl
  obtain ⟨n, hn⟩ : ∃ n, min l.length 200 = n := ⟨_, rfl⟩
  have FI := hidF (firstsG_any a l.length cap hc1 hc2)
  rw [hn] at FI
  have hn2 : n ≤ 200 := by omega
  have hnl : n ≤ l.length := by omega
  have HN := hidF hn
  clear hl hn
  obtain ⟨m0, hm0⟩ : ∃ m, min (max c 1) 20 = m := ⟨_, rfl⟩
  have HM := hidF hm0
  go_enter Try.func42, Try.ntmps42
  have hmm := makeMapG
  go_upto_region 1 with fail
  go_cut [5] (fun tv wx => ∃ tb mb, tv = .pointer (some ⟨tb, 0, none⟩) ∧ Hid (TbAt w wx tb mb (.slice none 0 0) (fun _ _ => none) m0 []))
  case first =>
    all_goals go_wp2_with fail
    all_goals
      go_meet
      case rel => go_light; exact ⟨_, _, rfl, by first | (rw [show m0 = 1 by omega]; exact TbAt.init w _) | (rw [show m0 = 20 by omega]; exact TbAt.init w _) | (rw [show m0 = c by omega]; exact TbAt.init w _)⟩
  case rest =>
  obtain ⟨tb, mb, rfl, H0⟩ := hcut
  clear hmm hm0
  go_wp2_with fail
  refine (FI.out _).mono ?_
  rintro e w5 ⟨rfl, rfl⟩
  go_wp2_with fail
  go_loopw [17] (fun iv wr => ∃ (k : Nat) (sv : Value) (m : Int), k ≤ n ∧ iv = .int .i64 k ∧ Hid (m = colsG c (l.take k)) ∧ Hid (TbAt w wr tb mb sv (fun _ _ => none) m ((l.take k).map cntN))) (fun iv _ => n - (intV iv).toNat)
  case atStart => exact ⟨0, _, m0, Nat.zero_le _, rfl, by rw [← HM.out]; rfl, H0.out⟩
  case round =>
    obtain ⟨k, sv, m, hk, rfl, HMk, HZ⟩ := hrel
    by_cases hlt : k < n
    · obtain ⟨x, hx⟩ : ∃ x, l[k]? = some x := ⟨_, List.getElem?_eq_getElem (by omega)⟩
      have HX := hidF hx
      obtain ⟨a9, cap9, e9, _, _, hcl⟩ := GsL.below (w := w) (w' := wr) (v := .slice a l.length cap) ⟨a, cap, rfl, hc1, hc2, HL.out⟩ HZ.out.below
      cases e9
      obtain ⟨b, o, rfl, gl, x1, x2, x3, x4⟩ := hcl k x hx
      have i1 : (0 : Int) ≤ (k : Int) := by omega
      have i2 : (k : Int) < (n : Int) := by omega
      have HCT := hidF (counted_any x)
      have HGO := hidF (cntN_ok x)
      obtain ⟨y, hy⟩ : ∃ y, cntN x = y := ⟨_, rfl⟩
      rw [hy] at HCT HGO
      have HY := hidF hy
      obtain ⟨xc, xcs, xr, xrs⟩ := x
      obtain ⟨yc, ycs, yr, yrs⟩ := y
      unfold gV at HCT
      simp only at x1 x2 x3 x4 HCT
      clear hcl hx hy
      obtain ⟨w9, hw9⟩ : ∃ w9, w9 = wr := ⟨_, rfl⟩
      subst hw9
      have HB : Hid (TofAt w (w9.alloc (.cells #[.int .i64 xc, .int .i64 xcs, .int .i64 xr, .int .i64 xrs] 47)) tb mb sv m ((l.take k).map cntN) w9.heap.size ⟨xc, xcs, xr, xrs⟩) := by
        refine ⟨heap_alloc_new w9 _, HZ.out.held ((Below.refl w9.heap.size w9).alloc (Nat.le_refl _) _), HZ.out.below.size, ?_, ?_, ?_⟩
        · have := ltH HZ.out.tab; omega
        · have := HZ.out.map.lt; omega
        · intro e; have := (HZ.out.row.lt _ e).2; omega
      go_upto_region 5 with fail
      go_cut [] (fun wx => Hid (TofAt w wx tb mb sv m ((l.take k).map cntN) w9.heap.size ⟨yc, ycs, yr, yrs⟩))
      case first =>
        go_wp2_with fail
        refine (HCT.out _).mono ?_
        rintro e w7 ⟨rfl, hb7⟩
        have H7 := hidF (HB.out.held hb7)
        obtain ⟨v0, v1, v2, v3, v4⟩ := H7.out.box.cells
        have f0 := H7.out.box.frz 0
        have f1 := H7.out.box.frz 1
        have f2 := H7.out.box.frz 2
        have f3 := H7.out.box.frz 3
        simp only at v1 v2 v3 v4
        clear hb7
        go_wp2_with fail
        go_meet
        case rel => go_light; exact H7.out.four yc ycs yr yrs
      case rest =>
      have H1 := hidF hcut.out
      obtain ⟨w1, hw1⟩ : ∃ w1, w1 = wc := ⟨_, rfl⟩
      subst hw1
      obtain ⟨v0, v1, v2, v3, v4⟩ := H1.out.box.cells
      obtain ⟨tl, t0, t1, t2⟩ := H1.out.tab.cells
      have tf := H1.out.tab.frz 2
      simp only at v1 v2 v3 v4
      have HD := hidF (H1.out.held (Below.refl w1.heap.size w1).drew)
      clear hcut HB x1 x2 x3 x4
      go_upto_region 6 with fail
      go_cut [] (fun wx => Hid (TofAt w wx tb mb sv (max m ycs) ((l.take k).map cntN) w9.heap.size ⟨yc, ycs, yr, yrs⟩))
      case first =>
        go_region
        all_goals go_wp2_with fail
        all_goals
          go_meet
          case rel => first | (rw [show max m ycs = m by omega]; exact HD.out.setCols _) | (rw [show max m ycs = ycs by omega]; exact HD.out.setCols _)
      case rest =>
      have H2 := hidF hcut.out
      obtain ⟨w2, hw2⟩ : ∃ w2, w2 = wc := ⟨_, rfl⟩
      subst hw2
      clear hcut v0 v1 v2 v3 v4 tl t0 t1 t2 tf HD H1
      obtain ⟨v0, v1, v2, v3, v4⟩ := H2.out.box.cells
      obtain ⟨tl, t0, t1, t2⟩ := H2.out.tab.cells
      have tf := H2.out.tab.frz 2
      simp only at v1 v2 v3 v4
      have HD := hidF (H2.out.held (Below.refl w2.heap.size w2).drew)
      obtain ⟨mm, hmm⟩ : ∃ mm, max m ycs = mm := ⟨_, rfl⟩
      rw [hmm] at t2 H2 HD
      have HMM := hidF hmm
      have s1 := HGO.out.cs1
      have s2 := HGO.out.cs2
      have s3 := HGO.out.c0
      have s4 := HGO.out.c2
      simp only at s1 s2 s3 s4
      have LW := hidF (fun W => lastCol_any (i := ⟨yc, ycs, yr, yrs⟩) (by show -1000000 ≤ yc; omega) (by show yc ≤ 1000000; omega) (by show -1000000 ≤ ycs; omega) (by show ycs ≤ 1000000; omega) W)
      unfold gV Gi.lc at LW
      simp only at LW
      obtain ⟨lc, hlc⟩ : ∃ t, yc + ycs - 1 = t := ⟨_, rfl⟩
      rw [hlc] at LW
      have HLC := hidF hlc
      clear hmm hlc
      go_upto_if 35 with fail
      go_cut [] (fun wx => Hid (TofAt w wx tb mb sv (if 0 < yc then max mm lc else mm) ((l.take k).map cntN) w9.heap.size ⟨yc, ycs, yr, yrs⟩))
      case first =>
        by_cases hc : 0 < yc
        · go_upto_region 8 with fail
          go_region_with ((go_at_call 69; refine (LW.out _).mono ?_; rintro e w7 ⟨rfl, hb7⟩
                           have HX2 := hidF (HD.out.held hb7)
                           obtain ⟨z0, z1, z2, z3⟩ := HX2.out.tab.cells
                           have zf := HX2.out.tab.frz 2
                           clear hb7))
          all_goals go_wp2_with fail
          all_goals
            go_meet
            case rel => rw [if_pos hc]; first | (rw [show max mm lc = lc by omega]; exact HX2.out.setCols _) | (rw [show max mm lc = mm by omega]; exact HX2.out.setCols _)
        · go_wp2_with fail
          go_meet
          case rel => go_light; rw [if_neg (by omega)]; exact H2.out
      case rest =>
      have H3 := hidF hcut.out
      obtain ⟨w3, hw3⟩ : ∃ w3, w3 = wc := ⟨_, rfl⟩
      subst hw3
      clear hcut v0 v1 v2 v3 v4 tl t0 t1 t2 tf HD H2 LW
      obtain ⟨m4, hm4⟩ : ∃ m4, (if 0 < yc then max mm lc else mm) = m4 := ⟨_, rfl⟩
      rw [hm4] at H3
      have HM4 : Hid (m4 = colsG c (l.take (k + 1))) := by
        show _ = _
        rw [colsG_take c HX.out, HY.out, ← HMk.out, ← hm4, ← HMM.out, ← HLC.out]
        rfl
      have HTK : Hid ((l.take (k + 1)).map cntN = (l.take k).map cntN ++ [⟨yc, ycs, yr, yrs⟩]) := by
        show _ = _
        rw [List.take_add_one, HX.out, List.map_append, ← HY.out]
        rfl
      have HLT : Hid (((l.take k).map cntN).length = k) := by
        show _ = _
        rw [List.length_map, List.length_take]
        omega
      obtain ⟨v0, v1, v2, v3, v4⟩ := H3.out.box.cells
      obtain ⟨tl, t0, t1, t2⟩ := H3.out.tab.cells
      simp only at v1 v2 v3 v4
      have HR : Hid (∀ o1, TbAt w (w3.drew.alloc o1) tb mb sv (fun _ _ => none) m4 ((l.take k).map cntN)) := fun o1 => H3.out.tab.held ((Below.refl w3.heap.size w3).drew.alloc (Nat.le_refl _) _)
      clear hm4
      go_upto_region 9 with fail
      go_region_law ((refine step_own _ (by rfl) (.tmp 50) (.tmp 52) 40 (by rfl) w.heap.size 47 i0 _ 4 32 Try.underlying40 hi hz0 hz1 hz2 rfl (by decide) sv k (gsC ((l.take k).map cntN)) (by simp [Act.eval]) (by have := (HR.out (.cells #[.int .i64 yc, .int .i64 ycs, .int .i64 yr, .int .i64 yrs] 47)).row; rw [HLT.out] at this; exact this) ⟨w3.heap.size, 0, none⟩ 1 1 (gC ⟨yc, ycs, yr, yrs⟩) (by simp [Act.eval]) rfl (fun j u hj => news_six w3.drew #[.int .i64 yc, .int .i64 ycs, .int .i64 yr, .int .i64 yrs] 47 j u hj) (by simp [Value.oneCell', gC]) (by unfold maxLen; omega) (by omega) (by have := (HR.out (.cells #[.int .i64 yc, .int .i64 ycs, .int .i64 yr, .int .i64 yrs] 47)).below.size; exact this) ?_; intro v9 w8 hv1 hg1 hx1
                      obtain ⟨⟨z0, z1⟩, hli⟩ := (HR.out _).app (by rw [HLT.out]; exact hv1) hg1 hx1
                      obtain ⟨sa, sc, hv9, q1, q2⟩ := hli.shape
                      obtain ⟨nl, hnl9⟩ : ∃ nl, ((l.take k).map cntN ++ [(⟨yc, ycs, yr, yrs⟩ : Gi)]).length = nl := ⟨_, rfl⟩
                      rw [hnl9] at hv9
                      subst hv9
                      clear hnl9 q1 q2
                      have HLI := hidF hli
                      clear hli hv1 hg1 hx1))
      all_goals
        go_wp2_with fail
        go_roundw
        case rel => go_light; exact ⟨k + 1, _, m4, by omega, by go_num, HM4.out, by rw [HTK.out]; exact HLI.out⟩
        case measure => simp [intV]; omega
    · obtain rfl : k = n := by omega
      have hl2 : ¬ (k : Int) < (k : Int) := by omega
      have e1 : l.take k = l.take 200 := by
        rw [← HN.out]
        rcases Nat.le_total l.length 200 with h | h
        · rw [Nat.min_eq_left h, List.take_of_length_le (Nat.le_refl _), List.take_of_length_le h]
        · rw [Nat.min_eq_right h]
      have HE := hidF HZ.out
      rw [HMk.out, e1] at HE
      clear e1
      go_wp2_with fail
      go_returns
      refine ⟨tb, rfl, mb, sv, ?_⟩
      rw [← List.map_take]
      exact HE.out
end Go.Proofs.Ytbphlbohiifcmaa
