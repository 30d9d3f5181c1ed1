/- Add: one more float. -/
import Derived.Test.YtkohgnfdbjgbhaaFLGap
import Derived.Test.YtkohgnfdbjgbhaaFLHeights
import Derived.Test.YtkohgnfdbjgbhaaFLPure2
import Derived.Deep.Light
import Derived.Deep.RegionHeldLaw
import Derived.Deep.DeepCutAuto
namespace Go.Proofs.Ytkohgnfdbjgbhaa
open Go.RowKit

/-- where it begins -/
def xOf (rt : Bool) (g : Gp) (W : Int) : Int := if rt then g.r - W else g.l

/-- how many numbers are still to be told -/
def leftAt (w : World) (cb : Nat) : Nat := match w.cell? ⟨cb, 0, none⟩ with
  | some (.slice _ n _) => n
  | _ => 0

theorem HtAt.left {w : World} {base top cb : Nat} {zs : List Int} (h : HtAt w base top cb zs) : leftAt w cb = zs.length := by
  obtain ⟨g, off, cap, h1, _⟩ := h.ex
  unfold leftAt
  rw [(one_c h1).1]

/-- while the height is looked for -/
structure AdAt (w wr : World) (cb gb : Nat) (W H F : Int) (zs : List Int) (g : Gp) : Prop where
  below : Below w.heap.size w wr
  wc : wr.heap[w.heap.size]? = some (.cells #[.int .i64 W] 3 (0, 0))
  hc : wr.heap[w.heap.size + 1]? = some (.cells #[.int .i64 H] 3 (0, 0))
  ht : HtAt wr (w.heap.size + 4) gb cb zs
  gc : wr.heap[gb]? = some (.cells #[.int .i64 g.l, .int .i64 g.r, .bool g.whole] 53 (0, 0))
  gn : gb ≠ cb
  gh : w.heap.size + 4 ≤ gb

theorem HtAt.up {w : World} {base top top' cb : Nat} {zs : List Int} (h : HtAt w base top cb zs) (ht : top ≤ top') : HtAt w base top' cb zs := by
  obtain ⟨q, off, cap, h1, h2, h3, h3', h4⟩ := h.ex
  exact ⟨q, off, cap, h1, h2, h3, by omega, h4⟩
theorem AdAt.more {w wr wy : World} {cb gb : Nat} {W H F : Int} {zs : List Int} {g : Gp} (h : AdAt w wr cb gb W H F zs g) (hb : Below wr.heap.size wr wy) : AdAt w wy cb gb W H F zs g :=
  ⟨h.below.trans (hb.mono h.below.size), (hb.block _ (lt_of_heap h.wc)).trans h.wc, (hb.block _ (lt_of_heap h.hc)).trans h.hc, h.ht.below hb, (hb.block _ (lt_of_heap h.gc)).trans h.gc, h.gn, h.gh⟩
theorem AdAt.next {w wr wy : World} {cb gb : Nat} {W H F : Int} {zs zs' : List Int} {g : Gp} (h : AdAt w wr cb gb W H F zs g) (hh : HtAt wy (w.heap.size + 4) gb cb zs') (hb : Below (w.heap.size + 4) wr wy) (hf : ∀ b, b ≠ cb → wy.heap[b]? = wr.heap[b]?) : AdAt w wy cb gb W H F zs' g := by
  obtain ⟨_, _, _, _, hc, _⟩ := hh.ex
  exact ⟨h.below.trans (hb.mono (by omega)), (hf _ (by omega)).trans h.wc, (hf _ (by omega)).trans h.hc, hh, (hf _ h.gn).trans h.gc, h.gn, h.gh⟩
theorem AdAt.put {w wr : World} {cb gb : Nat} {W H F : Int} {zs : List Int} {g : Gp} (h : AdAt w wr cb gb W H F zs g) (g' : Gp) :
    AdAt w (((wr.setCell ⟨gb, 0, none⟩ (.int .i64 g'.l)).setCell ⟨gb, 1, none⟩ (.int .i64 g'.r)).setCell ⟨gb, 2, none⟩ (.bool g'.whole)) cb gb W H F zs g' := by
  have far : ∀ b, b ≠ gb → (((wr.setCell ⟨gb, 0, none⟩ (.int .i64 g'.l)).setCell ⟨gb, 1, none⟩ (.int .i64 g'.r)).setCell ⟨gb, 2, none⟩ (.bool g'.whole)).heap[b]? = wr.heap[b]? := fun b hb => by
    rw [Below.heap_setCell _ _ _ b hb, Below.heap_setCell _ _ _ b hb, Below.heap_setCell _ _ _ b hb]
  have hs : (((wr.setCell ⟨gb, 0, none⟩ (.int .i64 g'.l)).setCell ⟨gb, 1, none⟩ (.int .i64 g'.r)).setCell ⟨gb, 2, none⟩ (.bool g'.whole)).heap.size = wr.heap.size := by simp [World.setCell]
  have hgh := h.gh
  refine ⟨((h.below.setCell (by show w.heap.size ≤ gb; omega) _).setCell (by show w.heap.size ≤ gb; omega) _).setCell (by show w.heap.size ≤ gb; omega) _, (far _ (by omega)).trans h.wc, (far _ (by omega)).trans h.hc, ?_, ?_, h.gn, h.gh⟩
  · obtain ⟨q, off, cap, h1, h2, h3, ht, h4, h5, h6, h8⟩ := h.ht.ex
    exact ⟨q, off, cap, (far cb (Ne.symm h.gn)).trans h1, h2, h3, ht, by rw [hs]; exact h4, h5, h6, fun i z hz => (World.cell?_of_block (a := ⟨q, off + i, none⟩) (far q (by omega))).trans (h8 i z hz)⟩
  · exact heap_set _ _ 2 (.bool g'.whole) _ _ _ (heap_set _ _ 1 (.int .i64 g'.r) _ _ _ (heap_set _ _ 0 (.int .i64 g'.l) _ _ _ h.gc))

theorem Try.infoFloat : (Try.prog.info? 43).map (fun i => (i.zero, i.size, i.bytes)) = some (some (.agg #[.bool false, .int .i64 0, .int .i64 0, .int .i64 0, .int .i64 0]), 5, 40) := by kernel_rfl

/-- the floats, ahead of one more -/
structure FlB (w wx : World) (M : Nat → Lab) (lb fb : Nat) (sv : Value) (fs : List Fl) : Prop extends FlAt wx M lb sv fs where
  below : Below w.heap.size w wx
  fl : M fb = .other
  old : ∀ b, w.heap.size ≤ b → M b = .other

/-- what stays as it was of what was there -/
structure Kept (w : World) (M : Nat → Lab) (w' : World) (M' : Nat → Lab) : Prop where
  size : w.heap.size ≤ w'.heap.size
  lab : ∀ b, b < w.heap.size → M' b = M b
  far : ∀ b, b < w.heap.size → M b = .other → w'.heap[b]? = w.heap[b]?
  os : w'.os = w.os
  tape : w'.tape = w.tape
  output : w'.output = w.output

theorem newsF (w : World) (o : Fl) (t : TypeId) : ∀ j u, (flv o)[j]? = some u → (w.alloc (.cells #[.bool o.r, .int .i64 o.x, .int .i64 o.y, .int .i64 o.w, .int .i64 o.h] t)).drew.cell? ((⟨w.heap.size, 0, none⟩ : Addr).add j) = some u := fun j u h => news_new w _ t w.heap.size rfl j u h

theorem FlB.grown {w wx w9 : World} {M M9 : Nat → Lab} {lb fb g9 cap9 : Nat} {sv : Value} {fs : List Fl} {o : Fl} (h : FlB w wx M lb fb sv fs) (hrw : Row w9 M9 .nodes 43 5 (.slice (some ⟨g9, 0, none⟩) (fs.length + 1) cap9) (fs.length + 1) (fcells fs ++ flv o)) (st : Step wx M w9 M9 .nodes)
    {W H : Int} {w6 : World} (k0 : w6.cell? ⟨fb, 0, none⟩ = some (.pointer (some ⟨lb, 0, none⟩))) (k2 : w6.cell? ⟨w.heap.size, 0, none⟩ = some (.int .i64 W)) (k3 : w6.cell? ⟨w.heap.size + 1, 0, none⟩ = some (.int .i64 H)) (lf0 : fb < w6.heap.size) (lf1 : w.heap.size < w6.heap.size) (lf2 : w.heap.size + 1 < w6.heap.size) (hn : lb ≠ fb)
    (hb6 : Below w6.heap.size w6 wx := by exact ((Below.refl _ _).alloc (Nat.le_refl _) _).drew) :
    w9.cell? ⟨fb, 0, none⟩ = some (.pointer (some ⟨lb, 0, none⟩)) ∧ w9.cell? ⟨w.heap.size, 0, none⟩ = some (.int .i64 W) ∧ w9.cell? ⟨w.heap.size + 1, 0, none⟩ = some (.int .i64 H) ∧ w9.cell? ⟨lb, 0, none⟩ = some sv ∧ w9.frozen? ⟨lb, 0, none⟩ = false ∧
      FlAt (w9.setCell ⟨lb, 0, none⟩ (.slice (some ⟨g9, 0, none⟩) (fs.length + 1) cap9)) M9 lb (.slice (some ⟨g9, 0, none⟩) (fs.length + 1) cap9) (fs ++ [o]) ∧
      Kept w M (w9.setCell ⟨lb, 0, none⟩ (.slice (some ⟨g9, 0, none⟩) (fs.length + 1) cap9)) M9 ∧
      ((w9.setCell ⟨lb, 0, none⟩ (.slice (some ⟨g9, 0, none⟩) (fs.length + 1) cap9)).cell? ⟨fb, 0, none⟩ = some (.pointer (some ⟨lb, 0, none⟩)) ∧ (w9.setCell ⟨lb, 0, none⟩ (.slice (some ⟨g9, 0, none⟩) (fs.length + 1) cap9)).cell? ⟨w.heap.size, 0, none⟩ = some (.int .i64 W) ∧ (w9.setCell ⟨lb, 0, none⟩ (.slice (some ⟨g9, 0, none⟩) (fs.length + 1) cap9)).cell? ⟨w.heap.size + 1, 0, none⟩ = some (.int .i64 H)) := by
  have hne : ∀ {l : Lab}, l = .other → l ≠ .nodes := fun e => by rw [e]; intro h; cases h
  have far : ∀ b, b < w6.heap.size → M b = .other → ∀ i, w9.cell? ⟨b, i, none⟩ = w6.cell? ⟨b, i, none⟩ := fun b hb hm i => by
    have e1 := st.far b (Nat.lt_of_lt_of_le hb hb6.size) (hne hm)
    exact (World.cell?_of_block (a := ⟨b, i, none⟩) e1).trans (hb6.cell (p := ⟨b, i, none⟩) hb)
  have hlb := lt_of_heap h.head
  have hlt : lb < w.heap.size := by
    rcases Nat.lt_or_ge lb w.heap.size with e | e
    · exact e
    · have := h.old lb e; rw [h.lab] at this; cases this
  have hh := (st.far lb hlb (by rw [h.lab]; intro e; cases e)).trans h.head
  have s0 := (far fb lf0 h.fl 0).trans k0
  have s1 := (far w.heap.size lf1 (h.old _ (Nat.le_refl _)) 0).trans k2
  have s2 := (far (w.heap.size + 1) lf2 (h.old _ (by omega)) 0).trans k3
  obtain ⟨v0, v1⟩ := one_c hh
  have hs : (w9.setCell ⟨lb, 0, none⟩ (.slice (some ⟨g9, 0, none⟩) (fs.length + 1) cap9)).heap.size = w9.heap.size := by simp [World.setCell]
  have fset : ∀ b, b ≠ lb → (w9.setCell ⟨lb, 0, none⟩ (.slice (some ⟨g9, 0, none⟩) (fs.length + 1) cap9)).heap[b]? = w9.heap[b]? := fun b hb => Below.heap_setCell w9 _ _ b hb
  have hl9 : M9 lb = .tree := (st.lab lb hlb).trans h.lab
  refine ⟨s0, s1, s2, v0, v1, ⟨by rw [heap_set w9 lb 0 _ _ _ _ hh]; rfl, hl9, ?_, fun b hb => st.fresh b (by rw [hs] at hb; exact hb)⟩, ⟨by rw [hs]; exact Nat.le_trans h.below.size st.size, fun b hb => st.lab b (Nat.lt_of_lt_of_le hb h.below.size), fun b hb hm => ?_, st.os.trans h.below.os, st.tape.trans h.below.tape, st.output.trans h.below.output⟩, ?_, ?_, ?_⟩
  · rw [List.length_append, List.length_singleton, fcells_snoc]
    refine hrw.keep (fun b hb hm => fset b (fun e => ?_)) (fun _ _ => rfl)
    rw [e, hl9] at hm; cases hm
  · rw [fset b (fun e => by rw [e, h.lab] at hm; cases hm)]
    exact (st.far b (Nat.lt_of_lt_of_le hb h.below.size) (hne hm)).trans (h.below.block b hb)
  · rw [World.cell?_of_block (w := w9) (a := ⟨fb, 0, none⟩) (fset fb (Ne.symm hn))]; exact s0
  · rw [World.cell?_of_block (w := w9) (a := ⟨w.heap.size, 0, none⟩) (fset w.heap.size (by omega))]; exact s1
  · rw [World.cell?_of_block (w := w9) (a := ⟨w.heap.size + 1, 0, none⟩) (fset (w.heap.size + 1) (by omega))]; exact s2

theorem four_heap (w : World) (a b c d : Obj) : ((((w.alloc a).alloc b).alloc c).alloc d).heap[w.heap.size]? = some a ∧ ((((w.alloc a).alloc b).alloc c).alloc d).heap[w.heap.size + 1]? = some b := by
  constructor
  · show ((((w.heap.push a).push b).push c).push d)[w.heap.size]? = some a
    rw [Array.getElem?_push, if_neg (by simp; omega), Array.getElem?_push, if_neg (by simp; omega), Array.getElem?_push, if_neg (by simp), Array.getElem?_push, if_pos rfl]
  · show ((((w.heap.push a).push b).push c).push d)[w.heap.size + 1]? = some b
    rw [Array.getElem?_push, if_neg (by simp), Array.getElem?_push, if_neg (by simp), Array.getElem?_push, if_pos (by simp)]

set_option maxHeartbeats 2000000 in
set_option maxRecDepth 100000 in
theorem add_any {w : World} {M : Nat → Lab} {lb fb : Nat} {sv : Value} {fs : List Fl} {lo hi : Int} (h : FlAt w M lb sv fs) (hr : RmAt w M fb lb lo hi) (hl : fs.length < 200) (hb : Bd fs) (l1 : -16777216 ≤ lo) (l2 : lo ≤ hi) (l3 : hi ≤ 16777216) (rt : Bool) (wd ht fr : Int) :
    Calls Try.prog 9 #[.pointer (some ⟨fb, 0, none⟩), .bool rt, .int .i64 wd, .int .i64 ht, .int .i64 fr] w fun e w' => ∃ x y, FitAt lo hi fs (max (heldN wd) 0) (max (heldN ht) 0) (topN fs (heldN fr)) y ∧
      x = xOf rt (gapN lo hi fs y (max (heldN ht) 0)) (max (heldN wd) 0) ∧ e = .returned (.tuple #[.int .i64 x, .int .i64 y]) ∧
      ∃ M' sv', FlAt w' M' lb sv' (fs ++ [⟨rt, x, y, max (heldN wd) 0, max (heldN ht) 0⟩]) ∧ Kept w M w' M' := by
  obtain ⟨f0, f1, f2, _, _, _⟩ := three_c hr.head
  obtain ⟨l0, _⟩ := one_c h.head
  have hfb := lt_of_heap hr.head
  have hlb := lt_of_heap h.head
  obtain ⟨a, cap, rfl, hc, hm⟩ := h.row.shape
  unfold maxLen at hm
  obtain ⟨bw1, bw2⟩ := heldN_bd wd
  obtain ⟨bh1, bh2⟩ := heldN_bd ht
  obtain ⟨bf1, bf2⟩ := heldN_bd fr
  obtain ⟨wh, hwh⟩ : ∃ x, heldN wd = x := ⟨_, rfl⟩
  obtain ⟨hh, hhh⟩ : ∃ x, heldN ht = x := ⟨_, rfl⟩
  obtain ⟨F, hF⟩ : ∃ x, heldN fr = x := ⟨_, rfl⟩
  rw [hwh] at bw1 bw2
  rw [hhh] at bh1 bh2
  rw [hF] at bf1 bf2
  have EW : Hid (heldN wd = wh) := hwh
  have EH : Hid (heldN ht = hh) := hhh
  have EF : Hid (heldN fr = F) := hF
  rw [hwh, hhh, hF]
  clear hwh hhh hF
  have H0 := hidF h
  have HR := hidF hr
  have HB := hidF hb
  clear h hr hb
  obtain ⟨W, hW⟩ : ∃ x, x = max wh 0 := ⟨_, rfl⟩
  obtain ⟨H, hH⟩ : ∃ x, x = max hh 0 := ⟨_, rfl⟩
  rw [← hW, ← hH]
  have w1 : 0 ≤ W := by omega
  have w2 : W ≤ 16777216 := by omega
  have h1 : 0 ≤ H := by omega
  have h2 : H ≤ 16777216 := by omega
  have MW : Hid (max wh 0 = W) := hW.symm
  have MH : Hid (max hh 0 = H) := hH.symm
  clear hW hH
  have hl' : (fs.length : Int) < 200 := by omega
  have hfb1 : fb < w.heap.size + 1 := by omega
  have hfb2 : fb < w.heap.size + 1 + 1 := by omega
  have hfb3 : fb < w.heap.size + 1 + 1 + 1 := by omega
  have hfb4 : fb < w.heap.size + 1 + 1 + 1 + 1 := by omega
  have hlb1 : lb < w.heap.size + 1 := by omega
  have hlb2 : lb < w.heap.size + 1 + 1 := by omega
  have hlb3 : lb < w.heap.size + 1 + 1 + 1 := by omega
  have hlb4 : lb < w.heap.size + 1 + 1 + 1 + 1 := by omega
  go_enter Try.func9, Try.ntmps9
  go_wp2_with fail
  refine (hold_pre [(⟨w.heap.size, 0, none⟩, wd), (⟨w.heap.size + 1, 0, none⟩, ht), (⟨w.heap.size + 1 + 1, 0, none⟩, fr)] _ _ _ _ rfl (by simp) (by simp [HoldPre, go_sem]; omega)).mono ?_
  rintro e w' ⟨rfl, rfl⟩
  simp only [holdAll, EW.out, EH.out, EF.out]
  go_wp2_with fail
  simp only [MW.out, MH.out]
  have hbw : Below w.heap.size w ((((w.alloc (.cells #[.int .i64 W] 3)).alloc (.cells #[.int .i64 H] 3)).alloc (.cells #[.int .i64 F] 3)).alloc (.cells #[.pointer (some ⟨w.heap.size, 0, none⟩), .pointer (some ⟨w.heap.size + 1, 0, none⟩), .pointer (some ⟨w.heap.size + 1 + 1, 0, none⟩)] 51)) := by go_grown
  refine (heights_any (H0.out.below hbw) (HR.out.below hbw) (by omega) HB.out F bf1 bf2).mono ?_
  rintro e w3 ⟨cb, rfl, hht, hb3⟩
  obtain ⟨L, hL⟩ : ∃ L, L = (cands fs (topN fs F)).mergeSort fun x y => decide (x ≤ y) := ⟨_, rfl⟩
  rw [← hL] at hht
  have HLL := hidF hL
  have B3 : Below w.heap.size w w3 := hbw.trans (hb3.mono hbw.size)
  have a0 := (hb3.block w.heap.size (by simp; omega)).trans (four_heap w _ _ _ _).1
  have a1 := (hb3.block (w.heap.size + 1) (by simp)).trans (four_heap w _ _ _ _).2
  have hht4 : HtAt w3 (w.heap.size + 4) w3.heap.size cb L := by
    have e : w.heap.size + 4 = w.heap.size + 1 + 1 + 1 + 1 := by omega
    rw [e]; simpa using hht
  have hcd : ∀ z ∈ cands fs (topN fs F), -10000000000 ≤ z ∧ z ≤ 10000000000 := fun z hz => by
    have := cand_bd HB.out F bf1 bf2 z hz; omega
  have hLm : ∀ z ∈ L, -10000000000 ≤ z ∧ z ≤ 10000000000 := fun z hz => hcd z (by rw [hL] at hz; exact List.mem_mergeSort.1 hz)
  obtain ⟨y0, zs0, hy0⟩ : ∃ y zs, L = y :: zs := by
    cases L with
    | cons y zs => exact ⟨y, zs, rfl⟩
    | nil =>
      have := congrArg List.length hL
      simp [cands] at this
  have HY0 := hidF hy0
  rw [hy0] at hht4 hLm
  have hgb : ∀ y, -20000000000 ≤ (gapN lo hi fs y H).l ∧ (gapN lo hi fs y H).l ≤ 20000000000 ∧ -20000000000 ≤ (gapN lo hi fs y H).r ∧ (gapN lo hi fs y H).r ≤ 20000000000 := fun y =>
    gapN_bd lo hi 20000000000 fs y H (by omega) (by omega) (by omega) (by omega) (fun o ho => by have := HB.out.at (by omega) ho; omega)
  have HGB := hidF hgb
  have HT := hidF hht4
  have HLM := hidF hLm
  have A0 := hidF a0
  have A1 := hidF a1
  have B3' := hidF B3
  clear hL hy0 hht hht4 hb3 hbw hcd hLm hgb a0 a1 B3
  go_wp2_with fail
  refine (next_any HT.out).mono ?_
  rintro e w4 ⟨rfl, hh4, hb4, hs4, hf4⟩
  have hcb : w.heap.size + 4 ≤ cb := by obtain ⟨_, _, _, _, q, _⟩ := hh4.ex; exact q
  have B4 := hidF (B3'.out.trans (hb4.mono (by omega)))
  have A04 := hidF ((hf4 w.heap.size (by omega)).trans A0.out)
  have A14 := hidF ((hf4 (w.heap.size + 1) (by omega)).trans A1.out)
  have HT4 := hidF hh4
  have hs43 : w3.heap.size ≤ w4.heap.size := by omega
  obtain ⟨d0, _⟩ := one_c A04.out
  obtain ⟨d1, _⟩ := one_c A14.out
  obtain ⟨yb1, yb2⟩ := HLM.out y0 (by simp)
  clear hh4 hb4 hs4 hf4
  go_wp2_with fail
  refine (gap_any (H0.out.below B4.out) (HR.out.below B4.out) (by omega) HB.out y0 H yb1 yb2 (by omega) (by omega)).mono ?_
  rintro e w5 ⟨rfl, hb5⟩
  obtain ⟨g0, hg0⟩ : ∃ g, g = gapN lo hi fs y0 H := ⟨_, rfl⟩
  rw [← hg0]
  have HG0 := hidF hg0
  have hsz5 : w.heap.size + 4 ≤ w5.heap.size := by
    have h1 := hb5.size
    obtain ⟨_, _, _, q1, q2, _⟩ := HT4.out.ex
    have := lt_of_heap q1
    omega
  have D0 : Hid (AdAt w (w5.alloc (.cells #[.int .i64 g0.l, .int .i64 g0.r, .bool g0.whole] 53)) cb w5.heap.size W H F zs0 g0) := by
    have hb5a := ((Below.refl w4.heap.size w4).trans hb5).alloc hb5.size (.cells #[.int .i64 g0.l, .int .i64 g0.r, .bool g0.whole] 53)
    refine ⟨B4.out.trans (hb5a.mono B4.out.size), (hb5a.block _ (lt_of_heap A04.out)).trans A04.out, (hb5a.block _ (lt_of_heap A14.out)).trans A14.out, (HT4.out.below hb5a).up (by have := hb5.size; omega), heap_alloc_new w5 _, ?_, hsz5⟩
    obtain ⟨_, _, _, q1, _⟩ := HT4.out.ex
    have := lt_of_heap q1
    have := hb5.size
    omega
  clear hb5 hg0
  go_wp2_with fail
  go_loopw [11] (fun yv wr => ∃ (y : Int) (pre zs : List Int) (g : Gp), yv = .int .i64 y ∧ Hid (pre ++ y :: zs = L ∧ (∀ z ∈ pre, fits lo hi fs W H z = false) ∧ g = gapN lo hi fs y H ∧ AdAt w wr cb w5.heap.size W H F zs g)) (fun _ wr => leftAt wr cb)
  case atStart => exact ⟨y0, [], zs0, g0, rfl, HY0.out.symm, (fun z hz => by cases hz), HG0.out, D0.out⟩
  case round =>
    obtain ⟨y, pre, zs, g, rfl, hrel⟩ := hrel
    have hA := hidF hrel.out.2.2.2
    obtain ⟨c0, c1, c2, e0, e1, e2⟩ := three_c hA.out.gc
    obtain ⟨x0, x1⟩ := one_c hA.out.wc
    obtain ⟨x2, x3⟩ := one_c hA.out.hc
    obtain ⟨gb1, gb2, gb3, gb4⟩ := HGB.out y
    have hg := hrel.out.2.2.1
    rw [← hg] at gb1 gb2 gb3 gb4
    have hyL : y ∈ L := by rw [← hrel.out.1]; simp
    have HFI : Hid (fits lo hi fs W H y = (g.whole || decide (W ≤ g.r - g.l))) := by show _ = _; unfold fits; rw [← hg]
    have z5 : w5.heap.size < wr.heap.size := lt_of_heap hA.out.gc
    have z0 : w.heap.size < wr.heap.size := lt_of_heap hA.out.wc
    have z1 : w.heap.size + 1 < wr.heap.size := lt_of_heap hA.out.hc
    clear hg
    by_cases ct : (g.whole || decide (W ≤ g.r - g.l)) = true
    · have CT := hidF ct
      have T := hidF (takes_any g.l g.r W g.whole gb1 gb2 gb3 gb4)
      rw [ct] at T
      clear ct
      obtain ⟨x, hx⟩ : ∃ x, x = xOf rt g W := ⟨_, rfl⟩
      have HX := hidF hx
      have HXE : Hid (x = xOf rt (gapN lo hi fs y H) W) := by show _ = _; rw [hx, hrel.out.2.2.1]
      have HFIT := hidF (fit_first (hrel.out.1.trans HLL.out) hrel.out.2.1 (HFI.out.trans CT.out))
      clear hx hyL
      go_upto_if 49 with (go_at_call 20; refine (T.out _).mono ?_; rintro e w6 ⟨rfl, rfl⟩)
      go_cut [10] (fun s10 wx => s10 = .int .i64 x ∧ Hid (AdAt w wx cb w5.heap.size W H F zs g))
      case first =>
        have hA6 := hidF (hA.out.more ((Below.refl wr.heap.size wr).alloc (Nat.le_refl _) (.cells #[.int .i64 g.l, .int .i64 g.r, .bool g.whole] 53)))
        cases rt
        · have E1 : Hid (x = g.l) := by show _ = _; rw [HX.out]; rfl
          go_wp2
          go_meet
          case rel => go_light; rw [E1.out]; exact ⟨rfl, hA6⟩
        · have E1 : Hid (x = g.r - W) := by show _ = _; rw [HX.out]; rfl
          go_wp2
          go_meet
          case rel => go_light; rw [E1.out]; exact ⟨rfl, hA6⟩
      case rest =>
      obtain ⟨rfl, hA6⟩ := hcut
      obtain ⟨w6, e6⟩ : ∃ w6, w6 = wc := ⟨_, rfl⟩
      subst e6
      clear c0 c1 c2 e0 e1 e2 x0 x1 x2 x3 hA T z5 z0 z1
      obtain ⟨k2, _⟩ := one_c hA6.out.wc
      obtain ⟨k3, _⟩ := one_c hA6.out.hc
      have k0 := (three_c (HR.out.below hA6.out.below).head).1
      obtain ⟨k1, k1f⟩ := one_c (H0.out.below hA6.out.below).head
      have lf0 : fb < w6.heap.size := lt_of_heap (HR.out.below hA6.out.below).head
      have lf1 : w.heap.size < w6.heap.size := lt_of_heap hA6.out.wc
      have lf2 : w.heap.size + 1 < w6.heap.size := lt_of_heap hA6.out.hc
      have lf3 : lb < w6.heap.size := lt_of_heap (H0.out.below hA6.out.below).head
      obtain ⟨i9, hi9, hz0, hz1, hz2⟩ := info_parts Try.infoFloat
      have HFL : Hid (∀ o, FlB w (w6.alloc o).drew M lb fb (.slice a fs.length cap) fs) := fun o => ⟨(H0.out.below (hA6.out.below.trans ((Below.refl w.heap.size w6).alloc (by omega) o).drew)), hA6.out.below.trans ((Below.refl w.heap.size w6).alloc (by omega) o).drew, HR.out.lab, H0.out.fresh⟩
      have hlne : lb ≠ fb := fun e => by have q1 := H0.out.lab; have q2 := HR.out.lab; rw [e, q2] at q1; cases q1
      go_upto_region 14 with fail
      refine wp_region_held_drew (S := (fun wx => wx.cell? ⟨fb, 0, none⟩ = some (.pointer (some ⟨lb, 0, none⟩)) ∧ wx.cell? ⟨w.heap.size, 0, none⟩ = some (.int .i64 W) ∧ wx.cell? ⟨w.heap.size + 1, 0, none⟩ = some (.int .i64 H))) (by kernel_rfl) ?_ (fun hHeld => ?_)
      · (try dsimp only)
        go_keep
      refine wpAnyH_take (i := 0) (v := ?_) rfl (by kernel_rfl) (by kernel_rfl) (by kernel_rfl) (fun _ _ _ h => h) (Or.inl ⟨by rfl, ?_⟩) (by assumption) ?_
      rotate_left
      · intro wy hSw
        (try dsimp only at hSw)
        go_simp
        with_reducible rfl
      simp only [Act.put]
      refine wpAnyH_take (i := 1) (v := ?_) rfl (by kernel_rfl) (by kernel_rfl) (by kernel_rfl) (fun _ _ _ h => h) (Or.inl ⟨by rfl, ?_⟩) (by assumption) ?_
      rotate_left
      · intro wy hSw
        (try dsimp only at hSw)
        go_simp
        with_reducible rfl
      simp only [Act.put]
      refine wpAnyH_take (i := 2) (v := ?_) rfl (by kernel_rfl) (by kernel_rfl) (by kernel_rfl) (fun _ _ _ h => h) (Or.inl ⟨by rfl, ?_⟩) (by assumption) ?_
      rotate_left
      · intro wy hSw
        (try dsimp only at hSw)
        go_simp
        with_reducible rfl
      simp only [Act.put]
      refine wpAnyH_take (i := 3) (v := ?_) rfl (by kernel_rfl) (by kernel_rfl) (by kernel_rfl) (fun _ _ _ h => h) (Or.inl ⟨by rfl, ?_⟩) (by assumption) ?_
      rotate_left
      · intro wy hSw
        (try dsimp only at hSw)
        go_simp
        with_reducible rfl
      simp only [Act.put]
      refine wpAnyH_take (i := 4) (v := ?_) rfl (by kernel_rfl) (by kernel_rfl) (by kernel_rfl) (fun _ _ _ h => h) (Or.inl ⟨by rfl, ?_⟩) (by assumption) ?_
      rotate_left
      · intro wy hSw
        (try dsimp only at hSw)
        go_simp
        with_reducible rfl
      simp only [Act.put]
      refine wpAnyH_take (i := 5) (v := ?_) rfl (by kernel_rfl) (by kernel_rfl) (by kernel_rfl) (fun _ _ _ h => h) (Or.inl ⟨by rfl, ?_⟩) (by assumption) ?_
      rotate_left
      · intro wy hSw
        (try dsimp only at hSw)
        go_simp
        with_reducible rfl
      simp only [Act.put]
      refine wpAnyH_take (i := 6) (v := ?_) rfl (by kernel_rfl) (by kernel_rfl) (by kernel_rfl) (fun _ _ _ h => h) (Or.inl ⟨by rfl, ?_⟩) (by assumption) ?_
      rotate_left
      · intro wy hSw
        (try dsimp only at hSw)
        go_simp
        with_reducible rfl
      simp only [Act.put]
      refine wpAnyH_take (i := 7) (v := ?_) rfl (by kernel_rfl) (by kernel_rfl) (by kernel_rfl) (fun _ _ _ h => h) (Or.inl ⟨by rfl, ?_⟩) (by assumption) ?_
      rotate_left
      · intro wy hSw
        (try dsimp only at hSw)
        go_simp
        with_reducible rfl
      simp only [Act.put]
      refine wpAnyH_take (i := 8) (v := ?_) rfl (by kernel_rfl) (by kernel_rfl) (by kernel_rfl) (fun _ _ _ h => h) (Or.inl ⟨by rfl, ?_⟩) (by assumption) ?_
      rotate_left
      · intro wy hSw
        (try dsimp only at hSw)
        go_simp
        with_reducible rfl
      simp only [Act.put]
      refine wpAnyH_take (i := 10) (v := ?_) rfl (by kernel_rfl) (by kernel_rfl) (by kernel_rfl) (fun _ _ _ h => h) (Or.inl ⟨by rfl, ?_⟩) (by assumption) ?_
      rotate_left
      · intro wy hSw
        (try dsimp only at hSw)
        go_simp
        with_reducible rfl
      simp only [Act.put]
      refine wpAnyH_take (i := 11) (v := ?_) rfl (by kernel_rfl) (by kernel_rfl) (by kernel_rfl) (fun _ _ _ h => h) (Or.inl ⟨by rfl, ?_⟩) (by assumption) ?_
      rotate_left
      · intro wy hSw
        (try dsimp only at hSw)
        go_simp
        with_reducible rfl
      simp only [Act.put]
      refine wpAnyH_take (i := 12) (v := ?_) rfl (by kernel_rfl) (by kernel_rfl) (by kernel_rfl) (fun _ _ _ h => h) (Or.inl ⟨by rfl, ?_⟩) (by assumption) ?_
      rotate_left
      · intro wy hSw
        (try dsimp only at hSw)
        go_simp
        with_reducible rfl
      simp only [Act.put]
      refine wpAnyH_take (i := 13) (v := ?_) rfl (by kernel_rfl) (by kernel_rfl) (by kernel_rfl) (fun _ _ _ h => h) (Or.inl ⟨by rfl, ?_⟩) (by assumption) ?_
      rotate_left
      · intro wy hSw
        (try dsimp only at hSw)
        go_simp
        with_reducible rfl
      simp only [Act.put]
      refine wpAnyH_take (i := 14) (v := ?_) rfl (by kernel_rfl) (by kernel_rfl) (by kernel_rfl) (fun _ _ _ h => h) (Or.inl ⟨by rfl, ?_⟩) (by assumption) ?_
      rotate_left
      · intro wy hSw
        (try dsimp only at hSw)
        go_simp
        with_reducible rfl
      simp only [Act.put]
      refine wpAnyH_take (i := 15) (v := ?_) rfl (by kernel_rfl) (by kernel_rfl) (by kernel_rfl) (fun _ _ _ h => h) (Or.inl ⟨by rfl, ?_⟩) (by assumption) ?_
      rotate_left
      · intro wy hSw
        (try dsimp only at hSw)
        go_simp
        with_reducible rfl
      simp only [Act.put]
      refine wpAnyH_take (i := 16) (v := ?_) rfl (by kernel_rfl) (by kernel_rfl) (by kernel_rfl) (fun _ _ _ h => h) (Or.inl ⟨by rfl, ?_⟩) (by assumption) ?_
      rotate_left
      · intro wy hSw
        (try dsimp only at hSw)
        go_simp
        with_reducible rfl
      simp only [Act.put]
      refine wpAnyH_ready (rs := [9, 17]) (by kernel_rfl) (by simp) ?_
      refine AllReadyH.cons rfl (fun K hK => ?_) (AllReadyH.cons rfl (fun K hK => ?_) AllReadyH.nil)
      · go_simp
        refine hK.out _ _ (by (try dsimp only); go_keep) (fun _ => ?_)
        clear hK K
        refine wpAnyH_ready (rs := [17]) (by kernel_rfl) (by simp) ?_
        refine AllReadyH.cons rfl (fun K hK => ?_) AllReadyH.nil
        go_simp
        refine hK.out _ _ (by (try dsimp only); go_keep) (fun _ => ?_)
        clear hK K
        refine wpAnyH_ready (rs := [18]) (by kernel_rfl) (by simp) ?_
        refine AllReadyH.cons rfl (fun K hK => ?_) AllReadyH.nil
        refine step_app_row _ (by rfl) (.tmp 63) (.tmp 71) 38 (by rfl) M .nodes 43 i9 _ 5 40 Try.underlying38 hi9 hz0 hz1 hz2 rfl (by decide) (.slice a fs.length cap) fs.length (fcells fs) (by simp [Act.eval]) (HFL.out _).row ⟨w6.heap.size, 0, none⟩ 1 1 (flv ⟨rt, x, y, W, H⟩) (by simp [Act.eval]) rfl (newsF _ _ _) (by simp [Value.oneCell', flv]) (by decide) (by unfold maxLen; omega) (by omega) (HFL.out _).fresh ?_
        intro g9 cap9 w9 M9 hrw st
        obtain ⟨s0, s1, s2, v0, v1, hfin⟩ := (HFL.out (.cells #[.bool rt, .int .i64 x, .int .i64 y, .int .i64 W, .int .i64 H] 43)).grown (o := ⟨rt, x, y, W, H⟩) hrw st k0 k2 k3 lf0 lf1 lf2 hlne
        have HFIN := hidF hfin
        clear hfin hrw st
        refine hK.out _ _ ⟨s0, s1, s2⟩ (fun _ => ?_)
        clear hK K
        refine wpAnyH_take (i := 19) (v := ?_) rfl (by kernel_rfl) (by kernel_rfl) (by kernel_rfl) (fun _ _ _ h => h) (Or.inl ⟨by rfl, ?_⟩) (by assumption) ?_
        rotate_left
        · intro wy hSw
          (try dsimp only at hSw)
          go_simp
          with_reducible rfl
        simp only [Act.put]
        refine wpAnyH_ready (rs := [20]) (by kernel_rfl) (by simp) ?_
        refine AllReadyH.cons rfl (fun K hK => ?_) AllReadyH.nil
        go_simp
        refine hK.out _ _ ?_ (fun _ => ?_)
        · (try dsimp only)
          exact HFIN.out.2.2
        clear hK K
        refine wpAnyH_done (by kernel_rfl) ?_ _
        go_wp2_with fail
        go_returns
        refine ⟨x, y, HFIT.out, HXE.out, rfl, M9, _, HFIN.out.1, HFIN.out.2.1⟩
      · go_simp
        refine hK.out _ _ (by (try dsimp only); go_keep) (fun _ => ?_)
        clear hK K
        refine wpAnyH_ready (rs := [9]) (by kernel_rfl) (by simp) ?_
        refine AllReadyH.cons rfl (fun K hK => ?_) AllReadyH.nil
        go_simp
        refine hK.out _ _ (by (try dsimp only); go_keep) (fun _ => ?_)
        clear hK K
        refine wpAnyH_ready (rs := [18]) (by kernel_rfl) (by simp) ?_
        refine AllReadyH.cons rfl (fun K hK => ?_) AllReadyH.nil
        refine step_app_row _ (by rfl) (.tmp 63) (.tmp 71) 38 (by rfl) M .nodes 43 i9 _ 5 40 Try.underlying38 hi9 hz0 hz1 hz2 rfl (by decide) (.slice a fs.length cap) fs.length (fcells fs) (by simp [Act.eval]) (HFL.out _).row ⟨w6.heap.size, 0, none⟩ 1 1 (flv ⟨rt, x, y, W, H⟩) (by simp [Act.eval]) rfl (newsF _ _ _) (by simp [Value.oneCell', flv]) (by decide) (by unfold maxLen; omega) (by omega) (HFL.out _).fresh ?_
        intro g9 cap9 w9 M9 hrw st
        obtain ⟨s0, s1, s2, v0, v1, hfin⟩ := (HFL.out (.cells #[.bool rt, .int .i64 x, .int .i64 y, .int .i64 W, .int .i64 H] 43)).grown (o := ⟨rt, x, y, W, H⟩) hrw st k0 k2 k3 lf0 lf1 lf2 hlne
        have HFIN := hidF hfin
        clear hfin hrw st
        refine hK.out _ _ ⟨s0, s1, s2⟩ (fun _ => ?_)
        clear hK K
        refine wpAnyH_take (i := 19) (v := ?_) rfl (by kernel_rfl) (by kernel_rfl) (by kernel_rfl) (fun _ _ _ h => h) (Or.inl ⟨by rfl, ?_⟩) (by assumption) ?_
        rotate_left
        · intro wy hSw
          (try dsimp only at hSw)
          go_simp
          with_reducible rfl
        simp only [Act.put]
        refine wpAnyH_ready (rs := [20]) (by kernel_rfl) (by simp) ?_
        refine AllReadyH.cons rfl (fun K hK => ?_) AllReadyH.nil
        go_simp
        refine hK.out _ _ ?_ (fun _ => ?_)
        · (try dsimp only)
          exact HFIN.out.2.2
        clear hK K
        refine wpAnyH_done (by kernel_rfl) ?_ _
        go_wp2_with fail
        go_returns
        refine ⟨x, y, HFIT.out, HXE.out, rfl, M9, _, HFIN.out.1, HFIN.out.2.1⟩
    · have cf : (g.whole || decide (W ≤ g.r - g.l)) = false := by simpa using ct
      obtain ⟨z, zs', hz⟩ := fit_more (hrel.out.1.trans HLL.out) hrel.out.2.1 (HFI.out.trans cf)
      subst hz
      have T := hidF (takes_any g.l g.r W g.whole gb1 gb2 gb3 gb4)
      rw [cf] at T
      have hzL : z ∈ L := by rw [← hrel.out.1]; simp
      obtain ⟨zb1, zb2⟩ : -10000000000 ≤ z ∧ z ≤ 10000000000 := HLM.out z (by rw [← HY0.out]; exact hzL)
      have FY := hidF (HFI.out.trans cf)
      clear ct cf hzL hyL
      go_wp2_with (go_at_call 20; refine (T.out _).mono ?_; rintro e w6 ⟨rfl, rfl⟩)
      have hA6 := hidF (hA.out.more ((Below.refl wr.heap.size wr).alloc (Nat.le_refl _) (.cells #[.int .i64 g.l, .int .i64 g.r, .bool g.whole] 53)))
      refine (next_any hA6.out.ht).mono ?_
      rintro e w7 ⟨rfl, hh7, hb7, hs7, hf7⟩
      have D7 := hidF (hA6.out.next hh7 hb7 hf7)
      obtain ⟨m0, _⟩ := one_c D7.out.hc
      clear hh7 hb7 hs7 hf7
      go_wp2_with fail
      refine (gap_any (H0.out.below D7.out.below) (HR.out.below D7.out.below) (by omega) HB.out z H zb1 zb2 (by omega) (by omega)).mono ?_
      rintro e w8 ⟨rfl, hb8⟩
      obtain ⟨g8, hg8⟩ : ∃ g, g = gapN lo hi fs z H := ⟨_, rfl⟩
      rw [← hg8]
      have HG8 := hidF hg8
      have D8 := hidF (D7.out.more hb8)
      obtain ⟨n0, n1, n2, n3, n4, n5⟩ := three_c D8.out.gc
      clear hb8 hg8
      go_wp2_with fail
      go_roundw
      case rel =>
        go_light
        refine ⟨z, pre ++ [y], zs', g8, rfl, by rw [← hrel.out.1]; simp, ?_, HG8.out, D8.out.put g8⟩
        intro x hx
        rcases List.mem_append.1 hx with h1 | h1
        · exact hrel.out.2.1 x h1
        · rw [List.mem_singleton.1 h1]; exact FY.out
      case measure =>
        go_light
        rw [(D8.out.put g8).ht.left, hA.out.ht.left]
        simp
end Go.Proofs.Ytkohgnfdbjgbhaa
