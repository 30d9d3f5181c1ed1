/- Add: one more float. -/
import Derived.Test.YthpffpgbmgnkcaaFLFall
import Derived.Deep.Light
import Derived.Deep.RegionHeldLaw
import Derived.Deep.DeepCutAuto
namespace Go.Proofs.Ythpffpgbmgnkcaa
open Go.RowKit

/-- where it begins -/
def xOf (rt : Bool) (g : Gp) (W : Int) : Int := if rt then g.r - W else g.l

/-- while one more is placed -/
structure AdAt (w wr : World) (W H F : Int) : Prop where
  below : Below w.heap.size w wr
  wc : wr.heap[w.heap.size]? = some (.cells #[.int .i64 W] 3 (0, 0))
  hc : wr.heap[w.heap.size + 1]? = some (.cells #[.int .i64 H] 3 (0, 0))
  fc : wr.heap[w.heap.size + 1 + 1]? = some (.cells #[.int .i64 F] 3 (0, 0))
theorem AdAt.more {w wr wy : World} {W H F : Int} (h : AdAt w wr W H F) (hb : Below wr.heap.size wr wy) : AdAt w wy W H F :=
  ⟨h.below.trans (hb.mono h.below.size), (hb.block _ (lt_of_heap h.wc)).trans h.wc, (hb.block _ (lt_of_heap h.hc)).trans h.hc, (hb.block _ (lt_of_heap h.fc)).trans h.fc⟩
theorem AdAt.put {w wr : World} {W H F : Int} (h : AdAt w wr W H F) (F' : Int) : AdAt w (wr.setCell ⟨w.heap.size + 1 + 1, 0, none⟩ (.int .i64 F')) W H F' :=
  ⟨h.below.setCell (by show w.heap.size ≤ w.heap.size + 1 + 1; omega) _, (Below.heap_setCell wr _ _ _ (by show w.heap.size ≠ w.heap.size + 1 + 1; omega)).trans h.wc, (Below.heap_setCell wr _ _ _ (by show w.heap.size + 1 ≠ w.heap.size + 1 + 1; omega)).trans h.hc, by rw [heap_set _ _ 0 _ _ _ _ h.fc]; rfl⟩

theorem Try.infoFloat : (Try.prog.info? 43).map (fun i => (i.zero, i.size, i.bytes)) = some (some (.agg #[.bool false, .int .i64 0, .int .i64 0, .int .i64 0, .int .i64 0]), 5, 40) := by kernel_rfl

/-- the floats, ahead of one more -/
structure FlB (w wx : World) (M : Nat → Lab) (lb fb : Nat) (sv : Value) (fs : List Fl) : Prop extends FlAt wx M lb sv fs where
  below : Below w.heap.size w wx
  fl : M fb = .other
  old : ∀ b, w.heap.size ≤ b → M b = .other

/-- what stays as it was of what was there -/
structure Kept (w : World) (M : Nat → Lab) (w' : World) (M' : Nat → Lab) : Prop where
  size : w.heap.size ≤ w'.heap.size
  lab : ∀ b, b < w.heap.size → M' b = M b
  far : ∀ b, b < w.heap.size → M b = .other → w'.heap[b]? = w.heap[b]?
  os : w'.os = w.os
  tape : w'.tape = w.tape
  output : w'.output = w.output

theorem newsF (w : World) (o : Fl) (t : TypeId) : ∀ j u, (flv o)[j]? = some u → (w.alloc (.cells #[.bool o.r, .int .i64 o.x, .int .i64 o.y, .int .i64 o.w, .int .i64 o.h] t)).drew.cell? ((⟨w.heap.size, 0, none⟩ : Addr).add j) = some u := fun j u h => news_new w _ t w.heap.size rfl j u h

theorem FlB.grown {w wx w9 : World} {M M9 : Nat → Lab} {lb fb g9 cap9 : Nat} {sv : Value} {fs : List Fl} {o : Fl} (h : FlB w wx M lb fb sv fs) (hrw : Row w9 M9 .nodes 43 5 (.slice (some ⟨g9, 0, none⟩) (fs.length + 1) cap9) (fs.length + 1) (fcells fs ++ flv o)) (st : Step wx M w9 M9 .nodes)
    {W H : Int} {w6 : World} (k0 : w6.cell? ⟨fb, 0, none⟩ = some (.pointer (some ⟨lb, 0, none⟩))) (k2 : w6.cell? ⟨w.heap.size, 0, none⟩ = some (.int .i64 W)) (k3 : w6.cell? ⟨w.heap.size + 1, 0, none⟩ = some (.int .i64 H)) (lf0 : fb < w6.heap.size) (lf1 : w.heap.size < w6.heap.size) (lf2 : w.heap.size + 1 < w6.heap.size) (hn : lb ≠ fb)
    (hb6 : Below w6.heap.size w6 wx := by exact ((Below.refl _ _).alloc (Nat.le_refl _) _).drew) :
    w9.cell? ⟨fb, 0, none⟩ = some (.pointer (some ⟨lb, 0, none⟩)) ∧ w9.cell? ⟨w.heap.size, 0, none⟩ = some (.int .i64 W) ∧ w9.cell? ⟨w.heap.size + 1, 0, none⟩ = some (.int .i64 H) ∧ w9.cell? ⟨lb, 0, none⟩ = some sv ∧ w9.frozen? ⟨lb, 0, none⟩ = false ∧
      FlAt (w9.setCell ⟨lb, 0, none⟩ (.slice (some ⟨g9, 0, none⟩) (fs.length + 1) cap9)) M9 lb (.slice (some ⟨g9, 0, none⟩) (fs.length + 1) cap9) (fs ++ [o]) ∧
      Kept w M (w9.setCell ⟨lb, 0, none⟩ (.slice (some ⟨g9, 0, none⟩) (fs.length + 1) cap9)) M9 ∧
      ((w9.setCell ⟨lb, 0, none⟩ (.slice (some ⟨g9, 0, none⟩) (fs.length + 1) cap9)).cell? ⟨fb, 0, none⟩ = some (.pointer (some ⟨lb, 0, none⟩)) ∧ (w9.setCell ⟨lb, 0, none⟩ (.slice (some ⟨g9, 0, none⟩) (fs.length + 1) cap9)).cell? ⟨w.heap.size, 0, none⟩ = some (.int .i64 W) ∧ (w9.setCell ⟨lb, 0, none⟩ (.slice (some ⟨g9, 0, none⟩) (fs.length + 1) cap9)).cell? ⟨w.heap.size + 1, 0, none⟩ = some (.int .i64 H)) := by
  have hne : ∀ {l : Lab}, l = .other → l ≠ .nodes := fun e => by rw [e]; intro h; cases h
  have far : ∀ b, b < w6.heap.size → M b = .other → ∀ i, w9.cell? ⟨b, i, none⟩ = w6.cell? ⟨b, i, none⟩ := fun b hb hm i => by
    have e1 := st.far b (Nat.lt_of_lt_of_le hb hb6.size) (hne hm)
    exact (World.cell?_of_block (a := ⟨b, i, none⟩) e1).trans (hb6.cell (p := ⟨b, i, none⟩) hb)
  have hlb := lt_of_heap h.head
  have hlt : lb < w.heap.size := by
    rcases Nat.lt_or_ge lb w.heap.size with e | e
    · exact e
    · have := h.old lb e; rw [h.lab] at this; cases this
  have hh := (st.far lb hlb (by rw [h.lab]; intro e; cases e)).trans h.head
  have s0 := (far fb lf0 h.fl 0).trans k0
  have s1 := (far w.heap.size lf1 (h.old _ (Nat.le_refl _)) 0).trans k2
  have s2 := (far (w.heap.size + 1) lf2 (h.old _ (by omega)) 0).trans k3
  obtain ⟨v0, v1⟩ := one_c hh
  have hs : (w9.setCell ⟨lb, 0, none⟩ (.slice (some ⟨g9, 0, none⟩) (fs.length + 1) cap9)).heap.size = w9.heap.size := by simp [World.setCell]
  have fset : ∀ b, b ≠ lb → (w9.setCell ⟨lb, 0, none⟩ (.slice (some ⟨g9, 0, none⟩) (fs.length + 1) cap9)).heap[b]? = w9.heap[b]? := fun b hb => Below.heap_setCell w9 _ _ b hb
  have hl9 : M9 lb = .tree := (st.lab lb hlb).trans h.lab
  refine ⟨s0, s1, s2, v0, v1, ⟨by rw [heap_set w9 lb 0 _ _ _ _ hh]; rfl, hl9, ?_, fun b hb => st.fresh b (by rw [hs] at hb; exact hb)⟩, ⟨by rw [hs]; exact Nat.le_trans h.below.size st.size, fun b hb => st.lab b (Nat.lt_of_lt_of_le hb h.below.size), fun b hb hm => ?_, st.os.trans h.below.os, st.tape.trans h.below.tape, st.output.trans h.below.output⟩, ?_, ?_, ?_⟩
  · rw [List.length_append, List.length_singleton, fcells_snoc]
    refine hrw.keep (fun b hb hm => fset b (fun e => ?_)) (fun _ _ => rfl)
    rw [e, hl9] at hm; cases hm
  · rw [fset b (fun e => by rw [e, h.lab] at hm; cases hm)]
    exact (st.far b (Nat.lt_of_lt_of_le hb h.below.size) (hne hm)).trans (h.below.block b hb)
  · rw [World.cell?_of_block (w := w9) (a := ⟨fb, 0, none⟩) (fset fb (Ne.symm hn))]; exact s0
  · rw [World.cell?_of_block (w := w9) (a := ⟨w.heap.size, 0, none⟩) (fset w.heap.size (by omega))]; exact s1
  · rw [World.cell?_of_block (w := w9) (a := ⟨w.heap.size + 1, 0, none⟩) (fset (w.heap.size + 1) (by omega))]; exact s2

theorem four_heap (w : World) (a b c d : Obj) : ((((w.alloc a).alloc b).alloc c).alloc d).heap[w.heap.size]? = some a ∧ ((((w.alloc a).alloc b).alloc c).alloc d).heap[w.heap.size + 1]? = some b ∧ ((((w.alloc a).alloc b).alloc c).alloc d).heap[w.heap.size + 1 + 1]? = some c := by
  refine ⟨?_, ?_, ?_⟩
  · show ((((w.heap.push a).push b).push c).push d)[w.heap.size]? = some a
    rw [Array.getElem?_push, if_neg (by simp; omega), Array.getElem?_push, if_neg (by simp; omega), Array.getElem?_push, if_neg (by simp), Array.getElem?_push, if_pos rfl]
  · show ((((w.heap.push a).push b).push c).push d)[w.heap.size + 1]? = some b
    rw [Array.getElem?_push, if_neg (by simp), Array.getElem?_push, if_neg (by simp), Array.getElem?_push, if_pos (by simp)]
  · show ((((w.heap.push a).push b).push c).push d)[w.heap.size + 1 + 1]? = some c
    rw [Array.getElem?_push, if_neg (by simp), Array.getElem?_push, if_pos (by simp)]

set_option maxHeartbeats 2000000 in
set_option maxRecDepth 100000 in
theorem add_any {w : World} {M : Nat → Lab} {lb fb : Nat} {sv : Value} {fs : List Fl} {lo hi : Int} (h : FlAt w M lb sv fs) (hr : RmAt w M fb lb lo hi) (hl : fs.length < 200) (hb : Bd fs) (l1 : -16777216 ≤ lo) (l2 : lo ≤ hi) (l3 : hi ≤ 16777216) (rt : Bool) (wd ht fr : Int) :
    Calls Try.prog 10 #[.pointer (some ⟨fb, 0, none⟩), .bool rt, .int .i64 wd, .int .i64 ht, .int .i64 fr] w fun e w' => ∃ x y, FitAt lo hi fs (max (heldN wd) 0) (max (heldN ht) 0) (topN fs (heldN fr)) y ∧
      x = xOf rt (gapN lo hi fs y (max (heldN ht) 0)) (max (heldN wd) 0) ∧ e = .returned (.tuple #[.int .i64 x, .int .i64 y]) ∧
      ∃ M' sv', FlAt w' M' lb sv' (fs ++ [⟨rt, x, y, max (heldN wd) 0, max (heldN ht) 0⟩]) ∧ Kept w M w' M' := by
  obtain ⟨f0, f1, f2, _, _, _⟩ := three_c hr.head
  obtain ⟨l0, _⟩ := one_c h.head
  have hfb := lt_of_heap hr.head
  have hlb := lt_of_heap h.head
  obtain ⟨a, cap, rfl, hc, hm⟩ := h.row.shape
  unfold maxLen at hm
  obtain ⟨bw1, bw2⟩ := heldN_bd wd
  obtain ⟨bh1, bh2⟩ := heldN_bd ht
  obtain ⟨bf1, bf2⟩ := heldN_bd fr
  obtain ⟨wh, hwh⟩ : ∃ x, heldN wd = x := ⟨_, rfl⟩
  obtain ⟨hh, hhh⟩ : ∃ x, heldN ht = x := ⟨_, rfl⟩
  obtain ⟨F, hF⟩ : ∃ x, heldN fr = x := ⟨_, rfl⟩
  rw [hwh] at bw1 bw2
  rw [hhh] at bh1 bh2
  rw [hF] at bf1 bf2
  have EW : Hid (heldN wd = wh) := hwh
  have EH : Hid (heldN ht = hh) := hhh
  have EF : Hid (heldN fr = F) := hF
  rw [hwh, hhh, hF]
  clear hwh hhh hF
  have H0 := hidF h
  have HR := hidF hr
  have HB := hidF hb
  clear h hr hb
  obtain ⟨W, hW⟩ : ∃ x, x = max wh 0 := ⟨_, rfl⟩
  obtain ⟨H, hH⟩ : ∃ x, x = max hh 0 := ⟨_, rfl⟩
  rw [← hW, ← hH]
  have w1 : 0 ≤ W := by omega
  have w2 : W ≤ 16777216 := by omega
  have h1 : 0 ≤ H := by omega
  have h2 : H ≤ 16777216 := by omega
  have MW : Hid (max wh 0 = W) := hW.symm
  have MH : Hid (max hh 0 = H) := hH.symm
  clear hW hH
  have hl' : (fs.length : Int) < 200 := by omega
  have hfb1 : fb < w.heap.size + 1 := by omega
  have hfb2 : fb < w.heap.size + 1 + 1 := by omega
  have hfb3 : fb < w.heap.size + 1 + 1 + 1 := by omega
  have hfb4 : fb < w.heap.size + 1 + 1 + 1 + 1 := by omega
  have hlb1 : lb < w.heap.size + 1 := by omega
  have hlb2 : lb < w.heap.size + 1 + 1 := by omega
  have hlb3 : lb < w.heap.size + 1 + 1 + 1 := by omega
  have hlb4 : lb < w.heap.size + 1 + 1 + 1 + 1 := by omega
  go_enter Try.func10, Try.ntmps10
  go_wp2_with fail
  refine (hold_pre [(⟨w.heap.size, 0, none⟩, wd), (⟨w.heap.size + 1, 0, none⟩, ht), (⟨w.heap.size + 1 + 1, 0, none⟩, fr)] _ _ _ _ rfl (by simp) (by simp [HoldPre, go_sem]; omega)).mono ?_
  rintro e w' ⟨rfl, rfl⟩
  simp only [holdAll, EW.out, EH.out, EF.out]
  go_wp2_with fail
  simp only [MW.out, MH.out]
  have hbw : Below w.heap.size w ((((w.alloc (.cells #[.int .i64 W] 3)).alloc (.cells #[.int .i64 H] 3)).alloc (.cells #[.int .i64 F] 3)).alloc (.cells #[.pointer (some ⟨w.heap.size, 0, none⟩), .pointer (some ⟨w.heap.size + 1, 0, none⟩), .pointer (some ⟨w.heap.size + 1 + 1, 0, none⟩)] 53)) := by go_grown
  have D0 : Hid (AdAt w ((((w.alloc (.cells #[.int .i64 W] 3)).alloc (.cells #[.int .i64 H] 3)).alloc (.cells #[.int .i64 F] 3)).alloc (.cells #[.pointer (some ⟨w.heap.size, 0, none⟩), .pointer (some ⟨w.heap.size + 1, 0, none⟩), .pointer (some ⟨w.heap.size + 1 + 1, 0, none⟩)] 53)) W H F) := ⟨hbw, (four_heap w _ _ _ _).1, (four_heap w _ _ _ _).2.1, (four_heap w _ _ _ _).2.2⟩
  clear hbw
  go_loopw [36] (fun i wr => ∃ (k : Nat) (t : Int), k ≤ fs.length ∧ i = .int .i64 k ∧ Hid (t = topN (fs.take k) F ∧ AdAt w wr W H t)) (fun i _ => fs.length - (intV i).toNat)
  case atStart => exact ⟨0, F, Nat.zero_le _, rfl, rfl, D0.out⟩
  case round =>
    obtain ⟨k, t, hk, rfl, hrel⟩ := hrel
    have hA := hidF hrel.out.2
    obtain ⟨x4, x5⟩ := one_c hA.out.fc
    have z0 : w.heap.size < wr.heap.size := lt_of_heap hA.out.wc
    have z1 : w.heap.size + 1 < wr.heap.size := lt_of_heap hA.out.hc
    have z2 : w.heap.size + 1 + 1 < wr.heap.size := lt_of_heap hA.out.fc
    have z3 : w.heap.size + 1 + 1 < wr.heap.size + 1 := by omega
    by_cases hlt : k < fs.length
    · obtain ⟨gb, cap', hv, _, _, _, hgb⟩ := H0.out.row.form (by omega)
      obtain ⟨rfl, rfl⟩ : a = some ⟨gb, 0, none⟩ ∧ cap = cap' := by cases hv; exact ⟨rfl, rfl⟩
      obtain ⟨o, ho⟩ : ∃ o, fs[k]? = some o := ⟨_, List.getElem?_eq_getElem hlt⟩
      have HN : Hid (topN (fs.take (k + 1)) F = max t o.y) := by
        show _ = _
        rw [List.take_add_one, ho, hrel.out.1]
        exact topN_snoc _ o F
      obtain ⟨r0, r1, r2, r3, r4⟩ := (H0.out.below hA.out.below).at ho
      have i1 : (0 : Int) ≤ (k : Int) := by omega
      have i2 : (k : Int) < (fs.length : Int) := by omega
      clear hv ho
      obtain ⟨r, x, yy, wd2, hh2⟩ := o
      simp only at r0 r1 r2 r3 r4 HN
      obtain ⟨mx, hmx⟩ : ∃ m, max t yy = m := ⟨_, rfl⟩
      rw [hmx] at HN
      have HMX := hidF hmx
      have HA2 : Hid (∀ ob : Obj, AdAt w ((wr.alloc ob).setCell ⟨w.heap.size + 1 + 1, 0, none⟩ (.int .i64 mx)) W H mx) := fun ob => (hA.out.more ((Below.refl _ wr).alloc (Nat.le_refl _) ob)).put mx
      have HA3 : Hid (∀ ob : Obj, AdAt w ((wr.setCell ⟨w.heap.size + 1 + 1, 0, none⟩ (.int .i64 mx)).alloc ob) W H mx) := fun ob => (hA.out.put mx).more ((Below.refl _ _).alloc (Nat.le_refl _) ob)
      go_wp2_with fail
      all_goals
        go_roundw
        case rel =>
          go_light
          refine ⟨k + 1, mx, by omega, by go_num, HN.out.symm, ?_⟩
          first
            | exact HA2.out _
            | exact HA3.out _
            | (have e9 := HMX.out; simp only [e9]; first | exact HA2.out _ | exact HA3.out _)
            | (have e9 := HMX.out; rw [← e9]; have q2 := HA2.out; have q3 := HA3.out; rw [← e9] at q2 q3; first | exact q2 _ | exact q3 _)
        case measure => simp [intV]; omega
    · have e3 : fs.take k = fs := List.take_of_length_le (by omega)
      have HTP : Hid (t = topN fs F) := by have := hrel.out.1; rw [e3] at this; exact this
      have hcd : ∀ z ∈ cands fs t, -10000000000 ≤ z ∧ z ≤ 10000000000 := fun z hz => by
        have hz' : z ∈ cands fs (topN fs F) := by rw [← HTP.out]; exact hz
        have := cand_bd HB.out F bf1 bf2 z hz'; omega
      have FA := hidF (fall_any (H0.out.below hA.out.below) (HR.out.below hA.out.below) (by omega) HB.out l1 l2 l3 W H t w1 w2 h1 h2 hcd)
      obtain ⟨x0, x1⟩ := one_c hA.out.wc
      obtain ⟨x2, x3⟩ := one_c hA.out.hc
      obtain ⟨w5, hw5⟩ : ∃ w5, w5 = wr := ⟨_, rfl⟩
      subst hw5
      clear e3 hcd
      go_wp2_with fail
      refine FA.out.mono ?_
      rintro e w7 ⟨y, hfit, hyb, rfl, hb7⟩
      obtain ⟨g, hg⟩ : ∃ g, g = gapN lo hi fs y H := ⟨_, rfl⟩
      rw [← hg]
      have hgb := gapN_bd lo hi 20000000000 fs y H (by omega) (by omega) (by omega) (by omega) (fun o ho => by have := HB.out.at (by omega) ho; omega)
      rw [← hg] at hgb
      obtain ⟨gb1, gb2, gb3, gb4⟩ := hgb
      obtain ⟨x, hx⟩ : ∃ x, x = xOf rt g W := ⟨_, rfl⟩
      have HX := hidF hx
      have HXE : Hid (x = xOf rt (gapN lo hi fs y H) W) := by show _ = _; rw [hx, hg]
      have HFIT : Hid (FitAt lo hi fs W H (topN fs F) y) := by have := hfit; rw [HTP.out] at this; exact this
      have A7 := hidF (hA.out.more hb7)
      obtain ⟨q0, q1⟩ := one_c A7.out.wc
      obtain ⟨q2, q3⟩ := one_c A7.out.hc
      have s0 : w.heap.size < w7.heap.size := lt_of_heap A7.out.wc
      have s1 : w.heap.size + 1 < w7.heap.size := lt_of_heap A7.out.hc
      have s2 : w.heap.size < w7.heap.size + 1 := by omega
      have s3 : w.heap.size + 1 < w7.heap.size + 1 := by omega
      clear hx hg hfit hb7 FA x0 x1 x2 x3 x4 x5
      have hA6 : Hid (AdAt w (w7.alloc (.cells #[.int .i64 g.l, .int .i64 g.r, .bool g.whole] 55)) W H t) := A7.out.more ((Below.refl _ w7).alloc (Nat.le_refl _) _)
      go_upto_if 56 with fail
      go_cut [10] (fun s10 wx => s10 = .int .i64 x ∧ Hid (AdAt w wx W H t))
      case first =>
        cases rt
        · have E1 : Hid (x = g.l) := by show _ = _; rw [HX.out]; rfl
          go_wp2
          go_meet
          case rel => go_light; rw [E1.out]; exact ⟨rfl, hA6⟩
        · have E1 : Hid (x = g.r - W) := by show _ = _; rw [HX.out]; rfl
          go_wp2
          go_meet
          case rel => go_light; rw [E1.out]; exact ⟨rfl, hA6⟩
      case rest =>
      clear hA6
      obtain ⟨rfl, hA6⟩ := hcut
      obtain ⟨w6, e6⟩ : ∃ w6, w6 = wc := ⟨_, rfl⟩
      subst e6
      clear q0 q1 q2 q3 s0 s1 s2 s3 z0 z1 z2 z3 hA
      obtain ⟨k2, _⟩ := one_c hA6.out.wc
      obtain ⟨k3, _⟩ := one_c hA6.out.hc
      have k0 := (three_c (HR.out.below hA6.out.below).head).1
      obtain ⟨k1, k1f⟩ := one_c (H0.out.below hA6.out.below).head
      have lf0 : fb < w6.heap.size := lt_of_heap (HR.out.below hA6.out.below).head
      have lf1 : w.heap.size < w6.heap.size := lt_of_heap hA6.out.wc
      have lf2 : w.heap.size + 1 < w6.heap.size := lt_of_heap hA6.out.hc
      have lf3 : lb < w6.heap.size := lt_of_heap (H0.out.below hA6.out.below).head
      obtain ⟨i9, hi9, hz0, hz1, hz2⟩ := info_parts Try.infoFloat
      have HFL : Hid (∀ o, FlB w (w6.alloc o).drew M lb fb (.slice a fs.length cap) fs) := fun o => ⟨(H0.out.below (hA6.out.below.trans ((Below.refl w.heap.size w6).alloc (by omega) o).drew)), hA6.out.below.trans ((Below.refl w.heap.size w6).alloc (by omega) o).drew, HR.out.lab, H0.out.fresh⟩
      have hlne : lb ≠ fb := fun e => by have q1 := H0.out.lab; have q2 := HR.out.lab; rw [e, q2] at q1; cases q1
      go_upto_region 14 with fail
      refine wp_region_held_drew (S := (fun wx => wx.cell? ⟨fb, 0, none⟩ = some (.pointer (some ⟨lb, 0, none⟩)) ∧ wx.cell? ⟨w.heap.size, 0, none⟩ = some (.int .i64 W) ∧ wx.cell? ⟨w.heap.size + 1, 0, none⟩ = some (.int .i64 H))) (by kernel_rfl) ?_ (fun hHeld => ?_)
      · (try dsimp only)
        go_keep
      refine wpAnyH_take (i := 0) (v := ?_) rfl (by kernel_rfl) (by kernel_rfl) (by kernel_rfl) (fun _ _ _ h => h) (Or.inl ⟨by rfl, ?_⟩) (by assumption) ?_
      rotate_left
      · intro wy hSw
        (try dsimp only at hSw)
        go_simp
        with_reducible rfl
      simp only [Act.put]
      refine wpAnyH_take (i := 1) (v := ?_) rfl (by kernel_rfl) (by kernel_rfl) (by kernel_rfl) (fun _ _ _ h => h) (Or.inl ⟨by rfl, ?_⟩) (by assumption) ?_
      rotate_left
      · intro wy hSw
        (try dsimp only at hSw)
        go_simp
        with_reducible rfl
      simp only [Act.put]
      refine wpAnyH_take (i := 2) (v := ?_) rfl (by kernel_rfl) (by kernel_rfl) (by kernel_rfl) (fun _ _ _ h => h) (Or.inl ⟨by rfl, ?_⟩) (by assumption) ?_
      rotate_left
      · intro wy hSw
        (try dsimp only at hSw)
        go_simp
        with_reducible rfl
      simp only [Act.put]
      refine wpAnyH_take (i := 3) (v := ?_) rfl (by kernel_rfl) (by kernel_rfl) (by kernel_rfl) (fun _ _ _ h => h) (Or.inl ⟨by rfl, ?_⟩) (by assumption) ?_
      rotate_left
      · intro wy hSw
        (try dsimp only at hSw)
        go_simp
        with_reducible rfl
      simp only [Act.put]
      refine wpAnyH_take (i := 4) (v := ?_) rfl (by kernel_rfl) (by kernel_rfl) (by kernel_rfl) (fun _ _ _ h => h) (Or.inl ⟨by rfl, ?_⟩) (by assumption) ?_
      rotate_left
      · intro wy hSw
        (try dsimp only at hSw)
        go_simp
        with_reducible rfl
      simp only [Act.put]
      refine wpAnyH_take (i := 5) (v := ?_) rfl (by kernel_rfl) (by kernel_rfl) (by kernel_rfl) (fun _ _ _ h => h) (Or.inl ⟨by rfl, ?_⟩) (by assumption) ?_
      rotate_left
      · intro wy hSw
        (try dsimp only at hSw)
        go_simp
        with_reducible rfl
      simp only [Act.put]
      refine wpAnyH_take (i := 6) (v := ?_) rfl (by kernel_rfl) (by kernel_rfl) (by kernel_rfl) (fun _ _ _ h => h) (Or.inl ⟨by rfl, ?_⟩) (by assumption) ?_
      rotate_left
      · intro wy hSw
        (try dsimp only at hSw)
        go_simp
        with_reducible rfl
      simp only [Act.put]
      refine wpAnyH_take (i := 7) (v := ?_) rfl (by kernel_rfl) (by kernel_rfl) (by kernel_rfl) (fun _ _ _ h => h) (Or.inl ⟨by rfl, ?_⟩) (by assumption) ?_
      rotate_left
      · intro wy hSw
        (try dsimp only at hSw)
        go_simp
        with_reducible rfl
      simp only [Act.put]
      refine wpAnyH_take (i := 8) (v := ?_) rfl (by kernel_rfl) (by kernel_rfl) (by kernel_rfl) (fun _ _ _ h => h) (Or.inl ⟨by rfl, ?_⟩) (by assumption) ?_
      rotate_left
      · intro wy hSw
        (try dsimp only at hSw)
        go_simp
        with_reducible rfl
      simp only [Act.put]
      refine wpAnyH_take (i := 10) (v := ?_) rfl (by kernel_rfl) (by kernel_rfl) (by kernel_rfl) (fun _ _ _ h => h) (Or.inl ⟨by rfl, ?_⟩) (by assumption) ?_
      rotate_left
      · intro wy hSw
        (try dsimp only at hSw)
        go_simp
        with_reducible rfl
      simp only [Act.put]
      refine wpAnyH_take (i := 11) (v := ?_) rfl (by kernel_rfl) (by kernel_rfl) (by kernel_rfl) (fun _ _ _ h => h) (Or.inl ⟨by rfl, ?_⟩) (by assumption) ?_
      rotate_left
      · intro wy hSw
        (try dsimp only at hSw)
        go_simp
        with_reducible rfl
      simp only [Act.put]
      refine wpAnyH_take (i := 12) (v := ?_) rfl (by kernel_rfl) (by kernel_rfl) (by kernel_rfl) (fun _ _ _ h => h) (Or.inl ⟨by rfl, ?_⟩) (by assumption) ?_
      rotate_left
      · intro wy hSw
        (try dsimp only at hSw)
        go_simp
        with_reducible rfl
      simp only [Act.put]
      refine wpAnyH_take (i := 13) (v := ?_) rfl (by kernel_rfl) (by kernel_rfl) (by kernel_rfl) (fun _ _ _ h => h) (Or.inl ⟨by rfl, ?_⟩) (by assumption) ?_
      rotate_left
      · intro wy hSw
        (try dsimp only at hSw)
        go_simp
        with_reducible rfl
      simp only [Act.put]
      refine wpAnyH_take (i := 14) (v := ?_) rfl (by kernel_rfl) (by kernel_rfl) (by kernel_rfl) (fun _ _ _ h => h) (Or.inl ⟨by rfl, ?_⟩) (by assumption) ?_
      rotate_left
      · intro wy hSw
        (try dsimp only at hSw)
        go_simp
        with_reducible rfl
      simp only [Act.put]
      refine wpAnyH_take (i := 15) (v := ?_) rfl (by kernel_rfl) (by kernel_rfl) (by kernel_rfl) (fun _ _ _ h => h) (Or.inl ⟨by rfl, ?_⟩) (by assumption) ?_
      rotate_left
      · intro wy hSw
        (try dsimp only at hSw)
        go_simp
        with_reducible rfl
      simp only [Act.put]
      refine wpAnyH_take (i := 16) (v := ?_) rfl (by kernel_rfl) (by kernel_rfl) (by kernel_rfl) (fun _ _ _ h => h) (Or.inl ⟨by rfl, ?_⟩) (by assumption) ?_
      rotate_left
      · intro wy hSw
        (try dsimp only at hSw)
        go_simp
        with_reducible rfl
      simp only [Act.put]
      refine wpAnyH_ready (rs := [9, 17]) (by kernel_rfl) (by simp) ?_
      refine AllReadyH.cons rfl (fun K hK => ?_) (AllReadyH.cons rfl (fun K hK => ?_) AllReadyH.nil)
      · go_simp
        refine hK.out _ _ (by (try dsimp only); go_keep) (fun _ => ?_)
        clear hK K
        refine wpAnyH_ready (rs := [17]) (by kernel_rfl) (by simp) ?_
        refine AllReadyH.cons rfl (fun K hK => ?_) AllReadyH.nil
        go_simp
        refine hK.out _ _ (by (try dsimp only); go_keep) (fun _ => ?_)
        clear hK K
        refine wpAnyH_ready (rs := [18]) (by kernel_rfl) (by simp) ?_
        refine AllReadyH.cons rfl (fun K hK => ?_) AllReadyH.nil
        refine step_app_row _ (by rfl) (.tmp 70) (.tmp 78) 38 (by rfl) M .nodes 43 i9 _ 5 40 Try.underlying38 hi9 hz0 hz1 hz2 rfl (by decide) (.slice a fs.length cap) fs.length (fcells fs) (by simp [Act.eval]) (HFL.out _).row ⟨w6.heap.size, 0, none⟩ 1 1 (flv ⟨rt, x, y, W, H⟩) (by simp [Act.eval]) rfl (newsF _ _ _) (by simp [Value.oneCell', flv]) (by decide) (by unfold maxLen; omega) (by omega) (HFL.out _).fresh ?_
        intro g9 cap9 w9 M9 hrw st
        obtain ⟨s0, s1, s2, v0, v1, hfin⟩ := (HFL.out (.cells #[.bool rt, .int .i64 x, .int .i64 y, .int .i64 W, .int .i64 H] 43)).grown (o := ⟨rt, x, y, W, H⟩) hrw st k0 k2 k3 lf0 lf1 lf2 hlne
        have HFIN := hidF hfin
        clear hfin hrw st
        refine hK.out _ _ ⟨s0, s1, s2⟩ (fun _ => ?_)
        clear hK K
        refine wpAnyH_take (i := 19) (v := ?_) rfl (by kernel_rfl) (by kernel_rfl) (by kernel_rfl) (fun _ _ _ h => h) (Or.inl ⟨by rfl, ?_⟩) (by assumption) ?_
        rotate_left
        · intro wy hSw
          (try dsimp only at hSw)
          go_simp
          with_reducible rfl
        simp only [Act.put]
        refine wpAnyH_ready (rs := [20]) (by kernel_rfl) (by simp) ?_
        refine AllReadyH.cons rfl (fun K hK => ?_) AllReadyH.nil
        go_simp
        refine hK.out _ _ ?_ (fun _ => ?_)
        · (try dsimp only)
          exact HFIN.out.2.2
        clear hK K
        refine wpAnyH_done (by kernel_rfl) ?_ _
        go_wp2_with fail
        go_returns
        refine ⟨x, y, HFIT.out, HXE.out, rfl, M9, _, HFIN.out.1, HFIN.out.2.1⟩
      · go_simp
        refine hK.out _ _ (by (try dsimp only); go_keep) (fun _ => ?_)
        clear hK K
        refine wpAnyH_ready (rs := [9]) (by kernel_rfl) (by simp) ?_
        refine AllReadyH.cons rfl (fun K hK => ?_) AllReadyH.nil
        go_simp
        refine hK.out _ _ (by (try dsimp only); go_keep) (fun _ => ?_)
        clear hK K
        refine wpAnyH_ready (rs := [18]) (by kernel_rfl) (by simp) ?_
        refine AllReadyH.cons rfl (fun K hK => ?_) AllReadyH.nil
        refine step_app_row _ (by rfl) (.tmp 70) (.tmp 78) 38 (by rfl) M .nodes 43 i9 _ 5 40 Try.underlying38 hi9 hz0 hz1 hz2 rfl (by decide) (.slice a fs.length cap) fs.length (fcells fs) (by simp [Act.eval]) (HFL.out _).row ⟨w6.heap.size, 0, none⟩ 1 1 (flv ⟨rt, x, y, W, H⟩) (by simp [Act.eval]) rfl (newsF _ _ _) (by simp [Value.oneCell', flv]) (by decide) (by unfold maxLen; omega) (by omega) (HFL.out _).fresh ?_
        intro g9 cap9 w9 M9 hrw st
        obtain ⟨s0, s1, s2, v0, v1, hfin⟩ := (HFL.out (.cells #[.bool rt, .int .i64 x, .int .i64 y, .int .i64 W, .int .i64 H] 43)).grown (o := ⟨rt, x, y, W, H⟩) hrw st k0 k2 k3 lf0 lf1 lf2 hlne
        have HFIN := hidF hfin
        clear hfin hrw st
        refine hK.out _ _ ⟨s0, s1, s2⟩ (fun _ => ?_)
        clear hK K
        refine wpAnyH_take (i := 19) (v := ?_) rfl (by kernel_rfl) (by kernel_rfl) (by kernel_rfl) (fun _ _ _ h => h) (Or.inl ⟨by rfl, ?_⟩) (by assumption) ?_
        rotate_left
        · intro wy hSw
          (try dsimp only at hSw)
          go_simp
          with_reducible rfl
        simp only [Act.put]
        refine wpAnyH_ready (rs := [20]) (by kernel_rfl) (by simp) ?_
        refine AllReadyH.cons rfl (fun K hK => ?_) AllReadyH.nil
        go_simp
        refine hK.out _ _ ?_ (fun _ => ?_)
        · (try dsimp only)
          exact HFIN.out.2.2
        clear hK K
        refine wpAnyH_done (by kernel_rfl) ?_ _
        go_wp2_with fail
        go_returns
        refine ⟨x, y, HFIT.out, HXE.out, rfl, M9, _, HFIN.out.1, HFIN.out.2.1⟩
end Go.Proofs.Ythpffpgbmgnkcaa
