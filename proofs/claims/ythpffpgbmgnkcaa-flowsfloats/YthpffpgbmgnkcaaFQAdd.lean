/- The document's Add: one float more. -/
import Derived.Test.YthpffpgbmgnkcaaFQFit2
import Derived.Maps.AppendAt
namespace Go.Proofs.Ythpffpgbmgnkcaa
open Go.RowKit
set_option linter.unusedVariables false      -- bounds that are for the walk

theorem Try.infoQF : (Try.prog.info? 44).map (fun i => (i.zero, i.size, i.bytes)) = some (some (.agg #[.bool false, .int .i64 0, .int .i64 0, .int .i64 0, .int .i64 0]), 5, 40) := by kernel_rfl
theorem news_five (w : World) (cs : Array Value) (t : TypeId) : ∀ j u, cs.toList[j]? = some u → (w.alloc (.cells cs t)).cell? ((⟨w.heap.size, 0, none⟩ : Addr).add j) = some u := by
  intro j u h
  have e : ((⟨w.heap.size, 0, none⟩ : Addr).add j) = ⟨w.heap.size, j, none⟩ := by
    unfold Addr.add
    split
    · simp_all
    · simp
  rw [e, cell_of_row _ w.heap.size _ _ _ _ (heap_alloc_new w _)]
  simpa using h

/-- what another keeps of a world: all but these two blocks -/
structure KeepQ (w : World) (rb : Nat) (lv : Value) (w' : World) : Prop where
  os : w'.os = w.os
  tape : w'.tape = w.tape
  output : w'.output = w.output
  size : w.heap.size ≤ w'.heap.size
  block : ∀ k, k < w.heap.size → k ≠ rb → some k ≠ lv.ownBlock → w'.heap[k]? = w.heap[k]?

theorem topN_take {fs : List Fl} {F : Int} {k : Nat} {o : Fl} (h : fs[k]? = some o) : topN (fs.take (k + 1)) F = max (topN (fs.take k) F) o.y := by
  rw [List.take_add_one, h]; exact topN_snoc _ o F

theorem QfAt.app {wx w9 : World} {B rb : Nat} {lv lv' : Value} {fs : List Fl} {o : Fl} {lo hi : Int} (h : QfAt wx B rb lv fs lo hi) (hg : wx.grownBy w9 lv.ownBlock) (hw : w9.ownsRow B 44 5 lv' (fs.length + 1) (fcells fs ++ flv o)) (hat : lv'.ownBlock = lv.ownBlock ∨ lv'.ownBlock = some wx.heap.size) :
    w9.cell? ⟨rb, 2, none⟩ = some lv ∧ w9.frozen? ⟨rb, 2, none⟩ = false ∧ rb < w9.heap.size ∧ QfAt (w9.setCell ⟨rb, 2, none⟩ lv') B rb lv' (fs ++ [o]) lo hi := by
  have hrl := ltH h.head
  have hh := (hg.block rb hrl (fun e => h.ne e.symm)).trans h.head
  have hne : lv'.ownBlock ≠ some rb := by
    rcases hat with e | e
    · rw [e]; exact h.ne
    · rw [e]; intro e2; cases e2; omega
  refine ⟨by rw [cell_of_row _ _ _ _ _ _ hh]; rfl, by simp [World.frozen?, hh], ltH hh, ⟨heap_setCell_same w9 rb 2 _ _ lv' hh, h.low, ?_, hne⟩⟩
  rw [List.length_append, fcells_snoc]
  exact ownsRow_setCell_other hw hne _

theorem ownE (a : Option Addr) (k n c : Nat) : (Value.slice a k c).ownBlock = (Value.slice a n c).ownBlock := by cases a <;> rfl
theorem keepQ_of {w w2 w3 : World} {rb : Nat} {lv lvx u : Value} {o : Obj} (hb : Below w.heap.size w w2) (hg : (w2.alloc o).grownBy w3 lvx.ownBlock) (he : lvx.ownBlock = lv.ownBlock) : KeepQ w rb lv (w3.setCell ⟨rb, 2, none⟩ u) := by
  refine ⟨hg.os.trans hb.os, hg.tape.trans hb.tape, hg.output.trans hb.output, ?_, fun k hk h1 h2 => ?_⟩
  · have := hg.size; have := hb.size; simp at *; omega
  · rw [Below.heap_setCell _ _ _ _ h1, hg.block k (by have := hb.size; simp; omega) (by rw [he]; exact h2), Below.heap_alloc _ _ _ (by have := hb.size; omega)]
    exact hb.block k hk

set_option maxHeartbeats 4000000 in
set_option maxRecDepth 100000 in
theorem qadd_any {w : World} {B rb : Nat} {lv : Value} {fs : List Fl} {lo hi : Int} (h : QfAt w B rb lv fs lo hi) (hBw : B ≤ w.heap.size) (hl : fs.length < 200) (hb : Bd fs) (l1 : -16777216 ≤ lo) (l2 : lo ≤ hi) (l3 : hi ≤ 16777216) (rt : Bool) (wd ht fr y0 : Int) (hy : FitAt lo hi fs (max (heldN wd) 0) (max (heldN ht) 0) (topN fs (heldN fr)) y0) :
    Calls Try.prog 11 #[.pointer (some ⟨rb, 0, none⟩), .bool rt, .int .i64 wd, .int .i64 ht, .int .i64 fr] w fun e w' => ∃ x lv', x = xOf rt (gapN lo hi fs y0 (max (heldN ht) 0)) (max (heldN wd) 0) ∧ e = .returned (.tuple #[.int .i64 x, .int .i64 y0]) ∧ QfAt w' B rb lv' (fs ++ [⟨rt, x, y0, max (heldN wd) 0, max (heldN ht) 0⟩]) lo hi ∧ KeepQ w rb lv w' ∧ (lv'.ownBlock = lv.ownBlock ∨ ∃ g, lv'.ownBlock = some g ∧ w.heap.size ≤ g) := by
  obtain ⟨i0, hi0, hz0, hz1, hz2⟩ := info_parts Try.infoQF
  obtain ⟨wb1, wb2⟩ := heldN_bd wd
  obtain ⟨hb1, hb2⟩ := heldN_bd ht
  obtain ⟨fb1, fb2⟩ := heldN_bd fr
  obtain ⟨rl, c0, c1, c2⟩ := h.cells
  have QH1 := hidF (fun W => qheld_any wd W)
  have QH2 := hidF (fun W => qheld_any ht W)
  have QH3 := hidF (fun W => qheld_any fr W)
  obtain ⟨hw, ew⟩ : ∃ z, heldN wd = z := ⟨_, rfl⟩
  obtain ⟨hh, eh⟩ : ∃ z, heldN ht = z := ⟨_, rfl⟩
  obtain ⟨hf, ef⟩ : ∃ z, heldN fr = z := ⟨_, rfl⟩
  rw [ew] at wb1 wb2 QH1 hy ⊢
  rw [eh] at hb1 hb2 QH2 hy ⊢
  rw [ef] at fb1 fb2 QH3 hy
  have M1 := hidF (fun W => most_any hw 0 W)
  have M2 := hidF (fun W => most_any hh 0 W)
  obtain ⟨W, eW⟩ : ∃ z, max hw 0 = z := ⟨_, rfl⟩
  obtain ⟨Hh, eH⟩ : ∃ z, max hh 0 = z := ⟨_, rfl⟩
  have W1 : 0 ≤ W := by omega
  have W2 : W ≤ 16777216 := by omega
  have H1 : 0 ≤ Hh := by omega
  have H2 : Hh ≤ 16777216 := by omega
  rw [eW] at M1 hy ⊢
  rw [eH] at M2 hy ⊢
  have hl2 : fs.length ≤ 200 := by omega
  have TB : Hid (∀ k, -10000000000 ≤ topN (fs.take k) hf ∧ topN (fs.take k) hf ≤ 10000000000) := by
    intro k
    rcases topN_is (fs.take k) hf with e | ⟨o, ho, e⟩
    · rw [e]; omega
    · have := hb.at hl2 (List.mem_of_mem_take ho); rw [e]; omega
  have tpb : -10000000000 ≤ topN fs hf ∧ topN fs hf ≤ 10000000000 := by
    have := TB.out fs.length
    rwa [List.take_of_length_le (Nat.le_refl _)] at this
  have FI := hidF (fun (X : World) (hbx : Below w.heap.size w X) => qfit_any (h.below hbx) hl2 hb l1 (by omega) (by omega) l3 W Hh (topN fs hf) y0 W1 W2 H1 H2 tpb.1 tpb.2 (topN_ge fs hf).2 hy)
  have gbd := gapN_bd lo hi 20000000000 fs y0 Hh (by omega) (by omega) (by omega) (by omega) (fun o ho => by have := hb.at hl2 ho; omega)
  obtain ⟨g0, hg0⟩ : ∃ g, gapN lo hi fs y0 Hh = g := ⟨_, rfl⟩
  rw [hg0] at FI gbd ⊢
  clear hg0 ew eh ef eW eH hy
  obtain ⟨gl, gr, gw⟩ := g0
  simp only at FI gbd
  obtain ⟨a, c, rfl, q1, q2⟩ := own_shapeQ h.row
  have HQ := hidF h
  have HB := hidF hb
  obtain ⟨n, hn⟩ : ∃ n, fs.length = n := ⟨_, rfl⟩
  have HN := hidF hn
  rw [hn] at q1 c2 HQ hl hl2
  clear h hb hn tpb
  have hl' : ¬ (200 : Int) ≤ (n : Int) := by omega
  go_enter Try.func11, Try.ntmps11
  go_wp2_with fail
  refine (QH1.out _).mono ?_
  rintro e w1 ⟨rfl, hw1⟩
  rw [hw1]
  clear hw1 w1
  go_wp2_with fail
  refine (M1.out _).mono ?_
  rintro e w1 ⟨rfl, hw1⟩
  rw [hw1]
  clear hw1 w1
  go_wp2_with fail
  refine (QH2.out _).mono ?_
  rintro e w1 ⟨rfl, hw1⟩
  rw [hw1]
  clear hw1 w1
  go_wp2_with fail
  refine (M2.out _).mono ?_
  rintro e w1 ⟨rfl, hw1⟩
  rw [hw1]
  clear hw1 w1
  go_wp2_with fail
  refine (QH3.out _).mono ?_
  rintro e w1 ⟨rfl, hw1⟩
  rw [hw1]
  clear hw1 w1
  go_wp2_with fail
  go_loopw [4, 12] (fun fv i wr => ∃ (k : Nat) (f : Int), k ≤ n ∧ i = .int .i64 k ∧ fv = .int .i64 f ∧ wr = w ∧ Hid (f = topN (fs.take k) hf)) (fun _ i _ => n - (intV i).toNat)
  case atStart => exact ⟨0, hf, Nat.zero_le _, rfl, rfl, rfl, rfl⟩
  case round =>
    obtain ⟨k, f, hk, rfl, rfl, hww, HZ⟩ := hrel
    have hww2 := hww.symm
    clear hww
    subst hww2
    by_cases hlt : k < n
    · obtain ⟨o, ho⟩ : ∃ o, fs[k]? = some o := ⟨_, List.getElem?_eq_getElem (by rw [HN.out]; exact hlt)⟩
      obtain ⟨b, c9, hv, bl, e0, e1, e2, e3, e4⟩ := HQ.out.at ho
      have hvv : a = some ⟨b, 0, none⟩ := by cases hv; rfl
      subst hvv
      clear hv
      have HS := hidF (topN_take (F := hf) ho)
      rw [← HZ.out] at HS
      have i1 : (0 : Int) ≤ (k : Int) := by omega
      have i2 : (k : Int) < (n : Int) := by omega
      have MS := hidF (fun W => most_any f o.y W)
      clear ho
      obtain ⟨orr, ox, oy, ow, oh⟩ := o
      simp only at e0 e1 e2 e3 e4 HS MS
      go_wp2_with fail
      refine (MS.out _).mono ?_
      rintro e w1 ⟨rfl, hw1⟩
      rw [hw1]
      clear hw1 w1
      go_wp2_with fail
      go_roundw
      case rel => go_light; exact ⟨k + 1, _, by omega, by go_num, rfl, by trivial, HS.out.symm⟩
      case measure => simp [intV]; omega
    · obtain rfl : k = n := by omega
      have ef : f = topN fs hf := by rw [HZ.out, List.take_of_length_le (by rw [HN.out]; exact Nat.le_refl _)]
      rw [← ef] at FI
      clear HZ ef hlt hk
      go_wp2_with fail
      refine (FI.out w (Below.refl _ _)).mono ?_
      rintro e w2 ⟨rfl, hb2⟩
      have Q2 := hidF (HQ.out.below hb2)
      obtain ⟨m0, m1, m2, m3⟩ := Q2.out.cells
      have HB2 := hidF hb2
      have hB2 : B ≤ w2.heap.size := Nat.le_trans hBw hb2.size
      clear hb2 FI
      have W9 : IntKind.i64.wrap (gr - W) = gr - W := by rw [IntKind.wrap_i64]; omega
      cases rt
      · go_wp2_with (at_builtin; refine wpList_append_own_at _ rfl (.tmp 69) (.tmp 77) 27 rfl B 44 i0 _ 5 40 Try.underlying27 hi0 hz0 hz1 hz2 rfl (by decide) _ _ _ rfl (Q2.out.row.alloc _) ⟨_, 0, none⟩ 1 1 (flv ⟨false, gl, y0, W, Hh⟩) rfl rfl (fun j u hj => news_five _ _ _ j u hj) (by simp [Value.oneCell', flv]) (by rw [HN.out]; unfold maxLen; omega) (by rw [HN.out]; omega) (by simp; omega) ?_; intro v1 w3 hv1 hg1 hx1 hx2; clear hx1; obtain ⟨va, vc, hv9, _, _⟩ := own_shapeQ hv1; subst hv9; obtain ⟨y1, y2, y3, y4⟩ := QfAt.app (Q2.out.below ((Below.refl _ _).alloc (Nat.le_refl _) _)) hg1 hv1 hx2; have HF := hidF y4; have HG := hidF (And.intro hg1 hx2); clear hv1 hg1 hx2 y4)
        refine bodyPost_ret (v := .tuple #[.int .i64 (gl), .int .i64 y0]) ?_ rfl ⟨gl, _, rfl, rfl, HF.out, keepQ_of HB2.out HG.out.1 (ownE a k _ c), ?_⟩
        · simp [results, Try.results11, go_sem]
        · rcases HG.out.2 with e | e
          · exact .inl (e.trans (ownE a k _ c))
          · exact .inr ⟨_, e, by have := HB2.out.size; simp; omega⟩
      · go_wp2_with (at_builtin; refine wpList_append_own_at _ rfl (.tmp 69) (.tmp 77) 27 rfl B 44 i0 _ 5 40 Try.underlying27 hi0 hz0 hz1 hz2 rfl (by decide) _ _ _ rfl (Q2.out.row.alloc _) ⟨_, 0, none⟩ 1 1 (flv ⟨true, gr - W, y0, W, Hh⟩) rfl rfl (fun j u hj => news_five _ _ _ j u hj) (by simp [Value.oneCell', flv]) (by rw [HN.out]; unfold maxLen; omega) (by rw [HN.out]; omega) (by simp; omega) ?_; intro v1 w3 hv1 hg1 hx1 hx2; clear hx1; obtain ⟨va, vc, hv9, _, _⟩ := own_shapeQ hv1; subst hv9; obtain ⟨y1, y2, y3, y4⟩ := QfAt.app (Q2.out.below ((Below.refl _ _).alloc (Nat.le_refl _) _)) hg1 hv1 hx2; have HF := hidF y4; have HG := hidF (And.intro hg1 hx2); clear hv1 hg1 hx2 y4)
        refine bodyPost_ret (v := .tuple #[.int .i64 (gr - W), .int .i64 y0]) ?_ rfl ⟨gr - W, _, rfl, rfl, HF.out, keepQ_of HB2.out HG.out.1 (ownE a k _ c), ?_⟩
        · simp [results, Try.results11, go_sem]
        · rcases HG.out.2 with e | e
          · exact .inl (e.trans (ownE a k _ c))
          · exact .inr ⟨_, e, by have := HB2.out.size; simp; omega⟩
end Go.Proofs.Ythpffpgbmgnkcaa
