/- heights: the heights at which one more may lie, in order. -/
import Derived.Test.YthpffpgbmgnkcaaFLNext
import Derived.Test.YthpffpgbmgnkcaaFSort
import Derived.Sort.OwnSortedInts
import Derived.Test.YthpffpgbmgnkcaaFStep
import Derived.Deep.RegionLaw
import Derived.OwnWalk
namespace Go.Proofs.Ythpffpgbmgnkcaa
open Go.RowKit
set_option linter.unusedVariables false      -- bounds that are for the walk

/-- the feet that lie below a height, of the first floats -/
def feet (fs : List Fl) (fr : Int) : List Int := (fs.map foot).filter (fun f => decide (fr < f))
theorem feet_snoc (fs : List Fl) (o : Fl) (fr : Int) : feet (fs ++ [o]) fr = feet fs fr ++ (if fr < foot o then [foot o] else []) := by
  unfold feet
  rw [List.map_append, List.filter_append]
  congr 1
  simp [List.filter_cons]

/-- the list while it grows -/
structure LiAt (w wr : World) (M : Nat → Lab) (cb : Nat) (sv : Value) (zs : List Int) : Prop where
  below : Below w.heap.size w wr
  head : wr.heap[cb]? = some (.cells #[sv] 68 (0, 0))
  lab : M cb = .other
  hi : w.heap.size ≤ cb
  row : Row wr M .nodes 3 1 sv zs.length (zs.map (Value.int .i64))
  old : ∀ b, b < w.heap.size → M b = .other
  fresh : ∀ b, wr.heap.size ≤ b → M b = .other

theorem Try.infoInt : (Try.prog.info? 3).map (fun i => (i.zero, i.size, i.bytes)) = some (some (.int .i64 0), 1, 8) := by kernel_rfl

theorem LiAt.alloc {w wr : World} {M : Nat → Lab} {cb : Nat} {sv : Value} {zs : List Int} (h : LiAt w wr M cb sv zs) (o : Obj) : LiAt w (wr.alloc o) M cb sv zs :=
  ⟨h.below.alloc h.below.size o, (Below.heap_alloc wr o cb (lt_of_heap h.head)).trans h.head, h.lab, h.hi, h.row.keep (fun b hb _ => Below.heap_alloc wr o b hb) (fun _ _ => rfl), h.old, fun b hb => h.fresh b (by simp at hb; omega)⟩
theorem LiAt.drew {w wr : World} {M : Nat → Lab} {cb : Nat} {sv : Value} {zs : List Int} (h : LiAt w wr M cb sv zs) : LiAt w wr.drew M cb sv zs :=
  ⟨h.below.drew, h.head, h.lab, h.hi, h.row.keep (fun _ _ _ => rfl) (fun _ _ => rfl), h.old, h.fresh⟩
/-- one more number -/
theorem LiAt.more {w wr w1 : World} {M M1 : Nat → Lab} {cb g cap : Nat} {sv : Value} {zs : List Int} {x : Int} (h : LiAt w wr M cb sv zs) (hr : Row w1 M1 .nodes 3 1 (.slice (some ⟨g, 0, none⟩) (zs.length + 1) cap) (zs.length + 1) (zs.map (Value.int .i64) ++ [.int .i64 x])) (st : Step wr M w1 M1 .nodes) :
    (w1.cell? ⟨cb, 0, none⟩ = some sv ∧ w1.frozen? ⟨cb, 0, none⟩ = false) ∧ LiAt w (w1.setCell ⟨cb, 0, none⟩ (.slice (some ⟨g, 0, none⟩) (zs.length + 1) cap)) M1 cb (.slice (some ⟨g, 0, none⟩) (zs.length + 1) cap) (zs ++ [x]) := by
  have hcb := lt_of_heap h.head
  have hh := (st.far cb hcb (by rw [h.lab]; intro e; cases e)).trans h.head
  have hl1 : M1 cb = .other := (st.lab cb hcb).trans h.lab
  have hs : (w1.setCell ⟨cb, 0, none⟩ (.slice (some ⟨g, 0, none⟩) (zs.length + 1) cap)).heap.size = w1.heap.size := by simp [World.setCell]
  refine ⟨one_c hh, ⟨?_, by rw [heap_set w1 cb 0 _ _ _ _ hh]; rfl, hl1, h.hi, ?_, fun b hb => (st.lab b (Nat.lt_of_lt_of_le hb h.below.size)).trans (h.old b hb), fun b hb => st.fresh b (by rw [hs] at hb; exact hb)⟩⟩
  · have b1 : Below w.heap.size w w1 := ⟨st.os.trans h.below.os, st.tape.trans h.below.tape, st.output.trans h.below.output, Nat.le_trans h.below.size st.size, fun b hb => (st.far b (Nat.lt_of_lt_of_le hb h.below.size) (by rw [h.old b hb]; intro e; cases e)).trans (h.below.block b hb)⟩
    exact b1.setCell h.hi _
  · rw [List.length_append, List.map_append]
    refine hr.keep (fun b hb hm => Below.heap_setCell w1 _ _ b (fun e => ?_)) (fun _ _ => rfl)
    rw [e] at hm
    rw [show M1 cb = Lab.nodes from hm] at hl1
    cases hl1
open Go.Sort in
/-- behind the sort -/
theorem LiAt.sorted {w wr : World} {M : Nat → Lab} {cb g cap n : Nat} {zs : List Int} (h : LiAt w wr M cb (.slice (some ⟨g, 0, none⟩) zs.length cap) zs) (hz : 0 < zs.length) :
    Holds (Value.int .i64) wr g 0 zs.toArray ∧ ∀ (os : Array Obj) (w9 : World), w9 = grow (putRow (Value.int .i64) (Sort.ahead wr n) g 0 (zs.mergeSort fun x y => decide (x ≤ y)).toArray) os →
      HtAt w9 w.heap.size w9.heap.size cb (zs.mergeSort fun x y => decide (x ≤ y)) ∧ Below w.heap.size w w9 := by
  obtain ⟨_, a', cap', hv, hn, hm, h3⟩ := h.row
  rcases h3 with ⟨rfl, _⟩ | ⟨g', cur, rfl, hM, hg, hcs, htake⟩
  · omega
  cases hv
  simp only [Nat.mul_one] at hcs htake
  refine ⟨holds_of_blockI hg htake, ?_⟩
  rintro os w9 rfl
  have hne : g ≠ cb := fun e => by
    rw [e, h.lab] at hM
    cases hM
  have hgb : w.heap.size ≤ g := by
    rcases Nat.lt_or_ge g w.heap.size with hl | hl
    · rw [h.old g hl] at hM; cases hM
    · exact hl
  have hlen : (zs.mergeSort fun x y => decide (x ≤ y)).length = zs.length := List.length_mergeSort ..
  have hgr := grownBy_sortedI (w := wr) (g := g) (n := n) (os := os) (zs.mergeSort fun x y => decide (x ≤ y)).toArray
  have hhp := heap_sortedI (n := n) (os := os) (zs.mergeSort fun x y => decide (x ≤ y)).toArray hg
  have htk := take_putCellsI cur (zs.mergeSort fun x y => decide (x ≤ y)) (by omega)
  refine ⟨⟨g, 0, cap, ?_, h.hi, hne, lt_of_heap hhp, lt_of_heap hhp, by omega, by unfold maxLen at hm; omega, fun i z hi => ?_⟩, h.below.grown hgr h.below.size (fun k hk => by cases hk; exact hgb)⟩
  · rw [hlen]
    have := hgr.block cb (lt_of_heap h.head) (fun e => hne (by cases e; rfl))
    exact this.trans h.head
  · have hil : i < (zs.mergeSort fun x y => decide (x ≤ y)).length := (List.getElem?_eq_some_iff.1 hi).1
    rw [cell_of_row _ g _ _ _ _ hhp, Nat.zero_add]
    have := congrArg (fun l => l[i]?) htk
    simp only [List.getElem?_take_of_lt hil, List.getElem?_map, hi] at this
    simpa using this

theorem cellNew (w : World) (v : Value) (t : TypeId) (B : Nat) (hB : w.heap.size = B) : ∀ j u, [v][j]? = some u → (w.alloc (.cells #[v] t)).drew.cell? ((⟨B, 0, none⟩ : Addr).add j) = some u := fun j u h => news_new w #[v] t B hB j u h

set_option maxHeartbeats 2000000 in
set_option maxRecDepth 100000 in
theorem heights_any {w : World} {M : Nat → Lab} {lb fb : Nat} {sv : Value} {fs : List Fl} {lo hi : Int} (h : FlAt w M lb sv fs) (hr : RmAt w M fb lb lo hi) (hl : fs.length ≤ 200) (hb : Bd fs) (tp : Int) (t1 : -10000000000 ≤ tp) (t2 : tp ≤ 10000000000) :
    Calls Try.prog 25 #[.pointer (some ⟨fb, 0, none⟩), .int .i64 tp] w fun e w' => ∃ cb, e = .returned (.func (.func 28) #[] #[.pointer (some ⟨cb, 0, none⟩)]) ∧ HtAt w' w.heap.size w'.heap.size cb ((cands fs tp).mergeSort fun x y => decide (x ≤ y)) ∧ Below w.heap.size w w' := by
  obtain ⟨f0, f1, f2, _, _, _⟩ := three_c hr.head
  obtain ⟨l0, _⟩ := one_c h.head
  have hfb := lt_of_heap hr.head
  have hlb := lt_of_heap h.head
  obtain ⟨a, cap, rfl, hc, hm⟩ := h.row.shape
  unfold maxLen at hm
  have H : Hid (FlAt w M lb (.slice a fs.length cap) fs) := h
  have HB : Hid (Bd fs) := hb
  have hB1 : Hid (Below w.heap.size w w) := Below.refl _ _
  have hsz : w.heap.size ≤ w.heap.size := Nat.le_refl _
  have u3 : fb < w.heap.size + 1 := by omega
  have u4 : lb < w.heap.size + 1 := by omega
  have u5 : fb < w.heap.size + 1 + 1 := by omega
  have u6 : lb < w.heap.size + 1 + 1 := by omega
  clear h hr hb
  go_enter Try.func25, Try.ntmps25
  go_wp2_with fail
  go_loopw [17] (fun i wr => ∃ (k : Nat) (M2 : Nat → Lab) (a2 : Option Addr) (n2 c2 : Nat) (zs : List Int), k ≤ fs.length ∧ i = .int .i64 k ∧ Hid (zs = tp :: feet (fs.take k) tp ∧ n2 = zs.length ∧ LiAt w wr M2 (w.heap.size + 1) (.slice a2 n2 c2) zs)) (fun i _ => fs.length - (intV i).toNat)
  case atStart =>
    refine ⟨0, fun b => if b = w.heap.size then .nodes else .other, some ⟨w.heap.size, 0, none⟩, 1, 1, [tp], Nat.zero_le _, rfl, rfl, rfl, ⟨(hB1.out.alloc hsz _).alloc (by simp) _, ?_, ?_, ?_, ?_, ?_, ?_⟩⟩
    · have := heap_alloc_new (w.alloc (.cells #[.int .i64 tp] 3)) (.cells #[.slice (some ⟨w.heap.size, 0, none⟩) 1 1] 68)
      simpa using this
    · simp
    · omega
    · refine ⟨rfl, _, _, rfl, Nat.le_refl _, by unfold maxLen; omega, .inr ⟨w.heap.size, #[.int .i64 tp], rfl, by simp, ?_, by simp, rfl⟩⟩
      rw [Below.heap_alloc _ _ _ (by simp)]
      exact heap_alloc_new w _
    · intro b hb
      have : b ≠ w.heap.size := by omega
      simp [this]
    · intro b hb
      have h1 : w.heap.size + 1 + 1 ≤ b := by simpa using hb
      have : b ≠ w.heap.size := by omega
      simp [this]
  case round =>
    obtain ⟨k2, M2, a2, n2, c2, zs, hk2, rfl, hg⟩ := hrel
    have hL := hg.out.2.2
    obtain ⟨q0, q1⟩ := one_c hL.head
    have hcb := lt_of_heap hL.head
    have hcb1 : w.heap.size < wr.heap.size := by omega
    have hcb2 : w.heap.size < wr.heap.size + 1 := by omega
    have hcb3 : w.heap.size < wr.heap.size + 1 + 1 := by omega
    obtain ⟨_, _, hsv, hn2, hc2⟩ := hL.row.shape
    by_cases hlt2 : k2 < fs.length
    · obtain ⟨gb, cap', hv, _, _, _, hgb⟩ := H.out.row.form (by omega)
      obtain ⟨rfl, rfl⟩ : a = some ⟨gb, 0, none⟩ ∧ cap = cap' := by cases hv; exact ⟨rfl, rfl⟩
      obtain ⟨o, ho⟩ : ∃ o, fs[k2]? = some o := ⟨_, List.getElem?_eq_getElem hlt2⟩
      have hmem : o ∈ fs := List.mem_of_getElem? ho
      have HN : Hid (feet (fs.take (k2 + 1)) tp = feet (fs.take k2) tp ++ (if tp < foot o then [foot o] else [])) := by
        show _ = _
        rw [List.take_add_one, ho]
        exact feet_snoc _ o tp
      obtain ⟨_, _, p3, p4, _, _, p7, p8⟩ := HB.out.at hl hmem
      obtain ⟨r0, r1, r2, r3, r4⟩ := (H.out.below hL.below).at ho
      have i1 : (0 : Int) ≤ (k2 : Int) := by omega
      have i2 : (k2 : Int) < (fs.length : Int) := by omega
      have HF := hidF (foot_any o p3 p4 p7 p8)
      obtain ⟨ft, hft2⟩ : ∃ f, f = foot o := ⟨_, rfl⟩
      have FT : Hid (ft = foot o) := hft2
      rw [← hft2] at HF
      have HL := hidF hL
      have hz := hg.out.1
      have hnz := hg.out.2.1
      have HZ : Hid (zs = tp :: feet (fs.take k2) tp ∧ n2 = zs.length) := ⟨hz, hnz⟩
      have hzl : zs.length ≤ 201 := by
        rw [hz, List.length_cons]
        have : (feet (fs.take k2) tp).length ≤ (fs.take k2).length := by
          unfold feet
          exact Nat.le_trans (List.length_filter_le _ _) (by simp)
        simp at this
        omega
      clear hft2 hv ho hmem hL hz hnz hsv
      by_cases c : tp < ft
      · obtain ⟨r, x, yy, wd, hh2⟩ := o
        obtain ⟨i9, hi9, hz0, hz1, hz2⟩ := info_parts Try.infoInt
        go_wp2_with (go_at_call 24; refine (HF.out _).mono ?_; rintro e w9 ⟨rfl, rfl⟩)
        have HR : Hid (∀ o1 o2 o3 o4, LiAt w ((((wr.alloc o1).alloc o2).alloc o3).alloc o4).drew M2 (w.heap.size + 1) (.slice a2 n2 c2) zs) := fun o1 o2 o3 o4 => ((((HL.out.alloc o1).alloc o2).alloc o3).alloc o4).drew
        go_region_law ((first
          | (refine step_call _ (by rfl) 24 [.tmp 26] #[43] (by rfl) Try.func24 (by kernel_rfl) (by rfl) [.agg #[.bool r, .int .i64 x, .int .i64 yy, .int .i64 wd, .int .i64 hh2]] (by simp [Act.eval]) (HF.out _) ?_
             rintro e w9 ⟨rfl, rfl⟩
             refine ⟨_, rfl, ?_⟩)
          | (refine step_app_row _ (by rfl) (.tmp 25) (.tmp 28) 68 (by rfl) M2 .nodes 3 i9 _ 1 8 Try.underlying68 hi9 hz0 hz1 hz2 rfl (by decide) (.slice a2 n2 c2) zs.length (zs.map (Value.int .i64)) (by simp [Act.eval]) (HR.out _ _ _ _).row ⟨wr.heap.size + 1 + 1 + 1, 0, none⟩ 1 1 [.int .i64 ft] (by simp [Act.eval]) rfl (cellNew _ _ _ _ (by simp)) (by simp [Value.oneCell']) (by decide) (by unfold maxLen; omega) (by omega) (HR.out _ _ _ _).fresh ?_
             intro g9 cap9 w9 M9 hrw st
             obtain ⟨⟨v0, v1⟩, hli⟩ := (HR.out _ _ _ _).more hrw st
             have HLI := hidF hli
             clear hli hrw st)))
        all_goals
          go_wp2_with fail
          go_roundw
          case rel =>
            go_light
            refine ⟨k2 + 1, M9, some ⟨g9, 0, none⟩, zs.length + 1, cap9, zs ++ [ft], by omega, by go_num, ?_, by simp, HLI.out⟩
            rw [HN.out, ← FT.out, if_pos c, HZ.out.1]
            rfl
          case measure => simp [intV]; omega
      · obtain ⟨r, x, yy, wd, hh2⟩ := o
        go_wp2_with (go_at_call 24; refine (HF.out _).mono ?_; rintro e w9 ⟨rfl, rfl⟩)
        go_roundw
        case rel =>
          go_light
          refine ⟨k2 + 1, M2, a2, n2, c2, zs, by omega, by go_num, ?_, HZ.out.2, (HL.out.alloc _).alloc _⟩
          rw [HN.out, ← FT.out, if_neg (by omega), List.append_nil]
          exact HZ.out.1
        case measure => simp [intV]; omega
    · have HL := hidF hL
      have hz := hg.out.1
      have hnz := hg.out.2.1
      rw [List.take_of_length_le (by omega)] at hz
      obtain ⟨gb2, cap2, hv2, _, _, hm2, hgb2⟩ := hL.row.form (by rw [hz]; simp)
      obtain ⟨rfl, rfl, rfl⟩ : a2 = some ⟨gb2, 0, none⟩ ∧ n2 = zs.length ∧ c2 = cap2 := by cases hv2; exact ⟨rfl, rfl, rfl⟩
      have HZ : Hid (zs = tp :: feet fs tp) := hz
      have hzl : zs.length ≤ 201 := by
        rw [hz, List.length_cons]
        have : (feet fs tp).length ≤ fs.length := by
          unfold feet
          exact Nat.le_trans (List.length_filter_le _ _) (by simp)
        omega
      clear hL hz hnz hsv hv2
      go_wp2_with fail
      refine (Try.slices_Sort_int gb2 0 c2 zs wr (HL.out.sorted (n := 0) (by rw [HZ.out]; simp)).1 hgb2 (by omega)).mono ?_
      rintro e w9 ⟨rfl, n9, os9, hw9⟩
      obtain ⟨z1, z2⟩ := (HL.out.sorted (n := n9) (by rw [HZ.out]; simp)).2 os9 w9 hw9
      have Z1 := hidF z1
      have Z2 := hidF z2
      clear hw9 z1 z2
      go_wp2_with fail
      go_returns
      refine ⟨_, rfl, ?_, Z2.out⟩
      have := Z1.out
      rw [HZ.out] at this
      exact this
end Go.Proofs.Ythpffpgbmgnkcaa
