/- slices.Insert of one attribute. -/
import Derived.Test.YtoanbjdifddcoaaGreatDoorM13
import Derived.Test.YtoanbjdifddcoaaGreatDoorM20
import Derived.Test.YtoanbjdifddcoaaGreatDoorPut
namespace Go.Proofs.YtoanbjdifddcoaaGreatDoor
open Go.RowKit

theorem Row.longer2 {w : World} {M : Nat → Lab} {l : Lab} {e : TypeId} {g n cap : Nat} {xs : List Value} (h : Row w M l e 2 (.slice (some ⟨g, 0, none⟩) n cap) n xs) (hc : n + 1 ≤ cap) :
    ∃ y z, Row w M l e 2 (.slice (some ⟨g, 0, none⟩) (n + 1) cap) (n + 1) (xs ++ [y, z]) ∧ ∃ cur, w.heap[g]? = some (.cells cur e (0, 0)) ∧ cap * 2 ≤ cur.size ∧ M g = l := by
  obtain ⟨hl, a, cap', hv, h1, h2, h3⟩ := h
  cases hv
  rcases h3 with ⟨h3, _⟩ | ⟨g', cur, ha, hM, hg, h4, h5⟩
  · omega
  · cases ha
    have hlt : n * 2 < cur.toList.length := by simp; omega
    have hlt2 : n * 2 + 1 < cur.toList.length := by simp; omega
    refine ⟨cur.toList[n * 2], cur.toList[n * 2 + 1], ⟨by simp [hl]; omega, _, _, rfl, hc, h2, .inr ⟨_, cur, rfl, hM, hg, h4, ?_⟩⟩, cur, hg, by omega, hM⟩
    rw [show (n + 1) * 2 = n * 2 + 1 + 1 by omega, List.take_succ_eq_append_getElem hlt2, List.take_succ_eq_append_getElem hlt, h5, List.append_assoc]
    rfl

theorem ins_attrs (xs : List (ByteArray × ByteArray)) (k : Nat) (x : ByteArray × ByteArray) : attrCells (xs.take k ++ x :: xs.drop k) = (attrCells xs).take (k * 2) ++ [.string x.1, .string x.2] ++ (attrCells xs).drop (k * 2) := by
  have e : ∀ l', attrCells (x :: l') = [.string x.1, .string x.2] ++ attrCells l' := fun _ => rfl
  rw [attrCells_append, e, attrCells_take, attrCells_drop, List.append_assoc]

set_option maxHeartbeats 4000000 in
set_option maxRecDepth 100000 in
theorem insertA_end {w : World} {M : Nat → Lab} {l : Lab} {v : Value} {n : Nat} {xs : List (ByteArray × ByteArray)} (h : Row w M l 79 2 v n (attrCells xs)) (hn : n ≤ 1099511627776) (hf : ∀ b, w.heap.size ≤ b → M b = .other) (b : Nat) (x : ByteArray × ByteArray) (hb : w.heap[b]? = some (.cells #[.string x.1, .string x.2] 79 (0, 0))) :
    Calls Tryz.prog 66 #[v, .int .i64 n, .slice (some ⟨b, 0, none⟩) 1 1] w fun e w' => ∃ g cap, e = .returned (.slice (some ⟨g, 0, none⟩) (n + 1) cap) ∧ ∃ M', Row w' M' l 79 2 (.slice (some ⟨g, 0, none⟩) (n + 1) cap) (n + 1) (attrCells (xs ++ [x])) ∧ Step w M w' M' l := by
  obtain ⟨i0, hi, hz0, hz1, hz2⟩ := info_parts Tryz.infoAttr
  obtain ⟨a, cap, rfl, h1, h2⟩ := h.shape
  have H : Hid (Row w M l 79 2 (.slice a n cap) n (attrCells xs)) := h
  have HF : Hid (∀ b, w.heap.size ≤ b → M b = .other) := hf
  have HX : Hid (∀ j u, [Value.string x.1, Value.string x.2][j]? = some u → w.cell? ((⟨b, 0, none⟩ : Addr).add j) = some u) := news_block hb
  have i1 : (n : Int) ≤ (cap : Int) := by omega
  unfold maxLen at h2
  clear h hf hb
  rw [attrCells_append]
  go_enter Tryz.func66, Tryz.ntmps66
  go_wp2_with (at_builtin; refine wpList_app_row _ (by rfl) (.tmp 23) (.tmp 24) 37 (by rfl) M l 79 i0 _ 2 32 Tryz.underlying37 hi hz0 hz1 hz2 rfl (by decide) (.slice a n cap) n (attrCells xs) (by rfl) H.out ⟨b, 0, none⟩ 1 1 [.string x.1, .string x.2] (by rfl) rfl HX.out (by simp [Value.oneCell']) (by decide) (by unfold maxLen; omega) (by omega) HF.out ?_; intro g cap1 w2 M2 hr st; have HR : Hid _ := And.intro hr st; clear hr st)
  all_goals go_ret
  all_goals exact ⟨g, cap1, rfl, M2, HR.out.1, HR.out.2⟩

set_option maxHeartbeats 4000000 in
set_option maxRecDepth 100000 in
theorem insertA_grow {w : World} {M : Nat → Lab} {l : Lab} {g n cap : Nat} {xs : List (ByteArray × ByteArray)} (h : Row w M l 79 2 (.slice (some ⟨g, 0, none⟩) n cap) n (attrCells xs)) (hn : n ≤ 1099511627776) (hf : ∀ b, w.heap.size ≤ b → M b = .other) (k : Nat) (hk : k < n) (hcap : cap < n + 1) (b : Nat) (x : ByteArray × ByteArray) (hb : w.heap[b]? = some (.cells #[.string x.1, .string x.2] 79 (0, 0))) :
    Calls Tryz.prog 66 #[.slice (some ⟨g, 0, none⟩) n cap, .int .i64 k, .slice (some ⟨b, 0, none⟩) 1 1] w fun e w' => ∃ g' cap', e = .returned (.slice (some ⟨g', 0, none⟩) (n + 1) cap') ∧ ∃ M', Row w' M' l 79 2 (.slice (some ⟨g', 0, none⟩) (n + 1) cap') (n + 1) (attrCells (xs.take k ++ x :: xs.drop k)) ∧ Step w M w' M' l := by
  obtain ⟨i0, hi, hz0, hz1, hz2⟩ := info_parts Tryz.infoAttr
  have hxl : xs.length = n := by have := h.1; rw [attrCells_length] at this; omega
  have hcl : (attrCells xs).length = n * 2 := by rw [attrCells_length, hxl]
  obtain ⟨a, cap2, hv, hc, hm⟩ := h.shape
  cases hv
  obtain ⟨gg, cc, hv, _, _, hgM, hgl⟩ := h.form (by omega)
  cases hv
  have hbl : b < w.heap.size := lt_of_heap hb
  obtain ⟨cap', w1, M1, hr1, hrow1, st1, hM1, hs1⟩ := app_zeros (P := Tryz.prog) w M l 37 3 79 i0 _ 2 32 .i64 Tryz.underlying37 Tryz.underlying3 hi hz0 hz1 hz2 rfl (by decide) g n cap k _ h (by omega) hcap (by unfold maxLen; omega) (by omega) hf
  have hb1 := (hs1 b hbl).trans hb
  obtain ⟨w2, hr2, hrow2, st2, hs2⟩ := copy_row (P := Tryz.prog) w1 M1 l 37 37 79 i0 2 Tryz.underlying37 hi hz1 w.heap.size (n + 1) cap' k 1 (cap' - k) 1 1 _ hrow1 ⟨b, 0, none⟩ [.string x.1, .string x.2] rfl (by simp [Nat.min_def]; omega) (by omega) (by omega) (news_block hb1) (by simp [Value.oneCell']) st1.fresh
  obtain ⟨_, _, hvx, hcap1, hcm1⟩ := hrow1.shape
  cases hvx
  have hgne : g ≠ w.heap.size := by omega
  have hsrc : ∀ j u, ((attrCells xs).drop (k * 2))[j]? = some u → w2.drew.cell? ((⟨g, k * 2, none⟩ : Addr).add j) = some u := by
    intro j u hu
    have hadd : (⟨g, k * 2, none⟩ : Addr).add j = ⟨g, k * 2 + j, none⟩ := by unfold Addr.add; split <;> simp_all
    rw [hadd]
    rw [List.getElem?_drop] at hu
    have e1 : w2.drew.heap[g]? = w.heap[g]? := (hs2 g hgne).trans (hs1 g hgl)
    exact (World.cell?_of_block (w := w) (w' := w2.drew) (a := ⟨g, k * 2 + j, none⟩) e1).trans (h.cell rfl hu).1
  have hrow2d : Row w2.drew M1 l 79 2 (.slice (some ⟨w.heap.size, 0, none⟩) (n + 1) cap') (n + 1) _ := hrow2
  obtain ⟨w3, hr3, hrow3, st3, _⟩ := copy_row (P := Tryz.prog) w2.drew M1 l 37 37 79 i0 2 Tryz.underlying37 hi hz1 w.heap.size (n + 1) cap' (k + 1) (n - k) (cap' - (k + 1)) (n - k) (cap - k) _ hrow2d ⟨g, k * 2, none⟩ ((attrCells xs).drop (k * 2)) (by rw [List.length_drop, hcl]; omega) (by simp) (by omega) (by omega) hsrc (fun u hu => attrs_one xs u (List.mem_of_mem_drop hu)) st2.fresh
  have hlen1 : ((attrCells xs).take (k * 2) ++ (Builtin.zeroCells (Value.agg #[.string ⟨#[]⟩, .string ⟨#[]⟩]).cells (n + 1 - k)).toList).length = (n + 1) * 2 := hrow1.1
  have hfin : ((((attrCells xs).take (k * 2) ++ (Builtin.zeroCells (Value.agg #[.string ⟨#[]⟩, .string ⟨#[]⟩]).cells (n + 1 - k)).toList).take (k * 2) ++ [Value.string x.1, Value.string x.2] ++ ((attrCells xs).take (k * 2) ++ (Builtin.zeroCells (Value.agg #[.string ⟨#[]⟩, .string ⟨#[]⟩]).cells (n + 1 - k)).toList).drop ((k + 1) * 2)).take ((k + 1) * 2) ++ (attrCells xs).drop (k * 2) ++ (((attrCells xs).take (k * 2) ++ (Builtin.zeroCells (Value.agg #[.string ⟨#[]⟩, .string ⟨#[]⟩]).cells (n + 1 - k)).toList).take (k * 2) ++ [Value.string x.1, Value.string x.2] ++ ((attrCells xs).take (k * 2) ++ (Builtin.zeroCells (Value.agg #[.string ⟨#[]⟩, .string ⟨#[]⟩]).cells (n + 1 - k)).toList).drop ((k + 1) * 2)).drop ((k + 1 + (n - k)) * 2)) = attrCells (xs.take k ++ x :: xs.drop k) := by
    have hLk : ((attrCells xs).take (k * 2) ++ (Builtin.zeroCells (Value.agg #[.string ⟨#[]⟩, .string ⟨#[]⟩]).cells (n + 1 - k)).toList).take (k * 2) = (attrCells xs).take (k * 2) := by
      rw [List.take_append_of_le_length (by simp [hcl]; omega), List.take_take, Nat.min_self]
    generalize ((attrCells xs).take (k * 2) ++ (Builtin.zeroCells (Value.agg #[.string ⟨#[]⟩, .string ⟨#[]⟩]).cells (n + 1 - k)).toList) = L at hlen1 hLk ⊢
    rw [hLk, ins_attrs xs k x]
    have hA : ((attrCells xs).take (k * 2) ++ [Value.string x.1, Value.string x.2]).length = (k + 1) * 2 := by simp [hcl]; omega
    rw [← hA, List.take_left, hA]
    have hB : ((attrCells xs).take (k * 2) ++ [Value.string x.1, Value.string x.2] ++ L.drop ((k + 1) * 2)).drop ((k + 1 + (n - k)) * 2) = [] := by
      apply List.drop_of_length_le
      simp [hlen1, hcl]
      omega
    rw [hB, List.append_nil]
  rw [hfin] at hrow3
  have e1 : ((n + 1 - k : Nat) : Int) = (n : Int) + 1 - k := by omega
  rw [e1] at hr1
  have HA : Hid (∀ ty, (Builtin.append_ #[37, 3] ty #[.slice (some ⟨g, 0, none⟩) k cap, .int .i64 ((n : Int) + 1 - k)]).run Tryz.prog w = .ok (.slice (some ⟨w.heap.size, 0, none⟩) (n + 1) cap') w1) := hr1
  have HB : Hid (∀ ty, (Builtin.copy_ #[37, 37] ty #[.slice (some ⟨w.heap.size, k * 2, none⟩) (n + 1 - k) (cap' - k), .slice (some ⟨b, 0, none⟩) 1 1]).run Tryz.prog w1 = .ok (goInt 1) w2) := hr2
  have HC : Hid (∀ ty, (Builtin.copy_ #[37, 37] ty #[.slice (some ⟨w.heap.size, (k + 1) * 2, none⟩) (n - k) (cap' - (k + 1)), .slice (some ⟨g, k * 2, none⟩) (n - k) (cap - k)]).run Tryz.prog w2.drew = .ok (goInt ((n - k : Nat) : Int)) w3) := by
    intro ty
    have := hr3 ty
    rw [show n + 1 - (k + 1) = n - k by omega] at this
    exact this
  have HR : Hid (Row w3 M1 l 79 2 (.slice (some ⟨w.heap.size, 0, none⟩) (n + 1) cap') (n + 1) (attrCells (xs.take k ++ x :: xs.drop k)) ∧ Step w M w3 M1 l) := ⟨hrow3, st1.then (st2.then ⟨st3.os, st3.tape, st3.output, st3.size, st3.lab, st3.fresh, st3.far⟩)⟩
  unfold maxLen at hm hcm1
  have n1 : ((k : Int) == (n : Int)) = false := by simp; omega
  have n2 : ¬ ((k : Int) = (n : Int)) := by omega
  have n3 : ¬ cap' = k := by omega
  have n4 : ¬ cap' = k + 1 := by omega
  have n5 : ¬ cap = k := by omega
  have i1 : (k : Int) ≤ (n : Int) := by omega
  have i2 : (n : Int) ≤ (cap : Int) := by omega
  have i3 : (cap : Int) < (n : Int) + 1 := by omega
  have i4 : (n : Int) + 1 ≤ (cap' : Int) := by omega
  have i5 : (k : Int) + 1 ≤ (n : Int) + 1 := by omega
  have i6 : (0 : Int) ≤ (k : Int) := by omega
  have hwr : IntKind.i64.wrap ((k : Int) + 1) = (k : Int) + 1 := by
    rw [IntKind.wrap_i64]
    omega
  clear h hf hr1 hr2 hr3 hrow1 hrow2 hrow2d hrow3 st1 st2 st3 hs1 hs2 hfin hlen1 hsrc hb1 hb
  go_enter Tryz.func66, Tryz.ntmps66
  have hB := HB.out
  have hC := HC.out
  go_wp2_with (at_builtin; refine wpList_append_run _ (by rfl) (.tmp 34) (.tmp 39) 37 3 (by rfl) (.slice (some ⟨g, 0, none⟩) k cap) (.int .i64 ((n : Int) + 1 - k)) (by rfl) (by rfl) _ w1 HA.out ?_)
  go_region
  all_goals go_wp2
  all_goals go_ret
  all_goals exact ⟨_, _, rfl, M1, HR.out.1, HR.out.2⟩

theorem sizeAttr (w : World) : (Go.sizeOf 79).run Tryz.prog w = .ok 2 w := by kernel_rfl

set_option maxHeartbeats 4000000 in
set_option maxRecDepth 100000 in
theorem insertA_room {w : World} {M : Nat → Lab} {l : Lab} {g n cap : Nat} {xs : List (ByteArray × ByteArray)} (h : Row w M l 79 2 (.slice (some ⟨g, 0, none⟩) n cap) n (attrCells xs)) (hf : ∀ b, w.heap.size ≤ b → M b = .other) (k : Nat) (hk : k < n) (hcap : n + 1 ≤ cap) (b : Nat) (x : ByteArray × ByteArray) (hb : w.heap[b]? = some (.cells #[.string x.1, .string x.2] 79 (0, 0))) (hbg : b ≠ g) :
    Calls Tryz.prog 66 #[.slice (some ⟨g, 0, none⟩) n cap, .int .i64 k, .slice (some ⟨b, 0, none⟩) 1 1] w fun e w' => e = .returned (.slice (some ⟨g, 0, none⟩) (n + 1) cap) ∧ Row w' M l 79 2 (.slice (some ⟨g, 0, none⟩) (n + 1) cap) (n + 1) (attrCells (xs.take k ++ x :: xs.drop k)) ∧ Step w M w' M l := by
  obtain ⟨i0, hi, hz0, hz1, hz2⟩ := info_parts Tryz.infoAttr
  have hxl : xs.length = n := by have := h.1; rw [attrCells_length] at this; omega
  have hcl : (attrCells xs).length = n * 2 := by rw [attrCells_length, hxl]
  obtain ⟨_, _, hvx, _, hm⟩ := h.shape
  cases hvx
  obtain ⟨y, z, hrow, cur, hg, hcs, hgM⟩ := h.longer2 hcap
  have hov := Lib.run_overlaps_apart (P := Tryz.prog) w 37 4 79 Tryz.underlying37 2 sizeAttr ⟨b, 0, none⟩ ⟨g, (k + 1) * 2, none⟩ 1 1 (n - k) (cap - (k + 1)) hbg 79 79 2 cur.size (by simp [World.shape?, hb]) (by simp [World.shape?, hg]) (by omega) (by simp [World.frozen?, hb]) (by simp [World.frozen?, hb])
  have hov2 : (callFunc 85 #[.slice (some ⟨b, 0, none⟩) 1 1, .slice (some ⟨g, (k + 1) * 2, none⟩) (n - k) (cap - (k + 1))]).run Tryz.prog w = .ok (.value (.bool false)) w := by
    rw [run_callFunc_extern Tryz.func85 (by kernel_rfl) (by kernel_rfl) (by kernel_rfl) (e := Extern.SlicesOverlaps.overlaps #[37, 37] #[4]) (by kernel_rfl), hov]
    rfl
  have hsrc : ∀ j u, ((attrCells xs).drop (k * 2))[j]? = some u → w.drew.cell? ((⟨g, k * 2, none⟩ : Addr).add j) = some u := by
    intro j u hu
    have hadd : (⟨g, k * 2, none⟩ : Addr).add j = ⟨g, k * 2 + j, none⟩ := by unfold Addr.add; split <;> simp_all
    rw [hadd]
    rw [List.getElem?_drop] at hu
    exact (h.cell rfl hu).1
  have hrowd : Row w.drew M l 79 2 (.slice (some ⟨g, 0, none⟩) (n + 1) cap) (n + 1) (attrCells xs ++ [y, z]) := hrow
  obtain ⟨w1, hr1, hrow1, st1, hs1⟩ := copy_row (P := Tryz.prog) w.drew M l 37 37 79 i0 2 Tryz.underlying37 hi hz1 g (n + 1) cap (k + 1) (n - k) (cap - (k + 1)) (n + 1 - k) (cap - k) _ hrowd ⟨g, k * 2, none⟩ ((attrCells xs).drop (k * 2)) (by rw [List.length_drop, hcl]; omega) (by simp [Nat.min_def]; omega) (by omega) (by omega) hsrc (fun u hu => attrs_one xs u (List.mem_of_mem_drop hu)) hf
  have hb1 := (hs1 b hbg).trans hb
  obtain ⟨w2, hr2, hrow2, st2, _⟩ := copy_row (P := Tryz.prog) w1 M l 37 37 79 i0 2 Tryz.underlying37 hi hz1 g (n + 1) cap k 1 (cap - k) 1 1 _ hrow1 ⟨b, 0, none⟩ [.string x.1, .string x.2] rfl (by simp [Nat.min_def]; omega) (by omega) (by omega) (news_block hb1) (by simp [Value.oneCell']) st1.fresh
  have hfin : (((attrCells xs ++ [y, z]).take ((k + 1) * 2) ++ (attrCells xs).drop (k * 2) ++ (attrCells xs ++ [y, z]).drop ((k + 1 + (n - k)) * 2)).take (k * 2) ++ [Value.string x.1, Value.string x.2] ++ ((attrCells xs ++ [y, z]).take ((k + 1) * 2) ++ (attrCells xs).drop (k * 2) ++ (attrCells xs ++ [y, z]).drop ((k + 1 + (n - k)) * 2)).drop ((k + 1) * 2)) = attrCells (xs.take k ++ x :: xs.drop k) := by
    rw [ins_attrs xs k x]
    have e0 : (attrCells xs ++ [y, z]).drop ((k + 1 + (n - k)) * 2) = [] := by
      apply List.drop_of_length_le
      simp [hcl]
      omega
    have eA : ((attrCells xs ++ [y, z]).take ((k + 1) * 2)).length = (k + 1) * 2 := by simp [hcl]; omega
    rw [e0, List.append_nil]
    have e1 : ((attrCells xs ++ [y, z]).take ((k + 1) * 2) ++ (attrCells xs).drop (k * 2)).drop ((k + 1) * 2) = (attrCells xs).drop (k * 2) := by
      have := List.drop_left (l₁ := (attrCells xs ++ [y, z]).take ((k + 1) * 2)) (l₂ := (attrCells xs).drop (k * 2))
      rw [eA] at this
      exact this
    have e2 : ((attrCells xs ++ [y, z]).take ((k + 1) * 2) ++ (attrCells xs).drop (k * 2)).take (k * 2) = (attrCells xs).take (k * 2) := by
      rw [List.take_append_of_le_length (by rw [eA]; omega), List.take_take, List.take_append_of_le_length (by simp [hcl]; omega)]
      congr 1
      omega
    rw [e1, e2]
  rw [hfin] at hrow2
  have HB : Hid (∀ ty, (Builtin.copy_ #[37, 37] ty #[.slice (some ⟨g, (k + 1) * 2, none⟩) (n - k) (cap - (k + 1)), .slice (some ⟨g, k * 2, none⟩) (n + 1 - k) (cap - k)]).run Tryz.prog w.drew = .ok (goInt ((n - k : Nat) : Int)) w1) := by
    intro ty
    have := hr1 ty
    rw [show n + 1 - (k + 1) = n - k by omega] at this
    exact this
  have HC : Hid (∀ ty, (Builtin.copy_ #[37, 37] ty #[.slice (some ⟨g, k * 2, none⟩) (n + 1 - k) (cap - k), .slice (some ⟨b, 0, none⟩) 1 1]).run Tryz.prog w1 = .ok (goInt 1) w2) := hr2
  have HR : Hid (Row w2 M l 79 2 (.slice (some ⟨g, 0, none⟩) (n + 1) cap) (n + 1) (attrCells (xs.take k ++ x :: xs.drop k)) ∧ Step w M w2 M l) := ⟨hrow2, (show Step w M w1 M l from ⟨st1.os, st1.tape, st1.output, st1.size, st1.lab, st1.fresh, st1.far⟩).then st2⟩
  unfold maxLen at hm
  have n1 : ((k : Int) == (n : Int)) = false := by simp; omega
  have n2 : ¬ ((k : Int) = (n : Int)) := by omega
  have n4 : ¬ cap = k + 1 := by omega
  have n5 : ¬ cap = k := by omega
  have i1 : (k : Int) ≤ (n : Int) := by omega
  have i2 : (n : Int) ≤ (cap : Int) := by omega
  have i3 : ¬ (cap : Int) < (n : Int) + 1 := by omega
  have i4 : (n : Int) + 1 ≤ (cap : Int) := by omega
  have i5 : (k : Int) + 1 ≤ (n : Int) + 1 := by omega
  have i6 : (0 : Int) ≤ (k : Int) := by omega
  have i7 : (k : Int) ≤ (n : Int) + 1 := by omega
  have hwr : IntKind.i64.wrap ((k : Int) + 1) = (k : Int) + 1 := by
    rw [IntKind.wrap_i64]
    omega
  clear h hf hr1 hr2 hrow hrowd hrow1 hrow2 st1 st2 hs1 hfin hsrc hb1 hov hg hb hcs
  go_enter Tryz.func66, Tryz.ntmps66
  have hB := HB.out
  have hC := HC.out
  go_wp2
  go_region
  all_goals go_wp2
  all_goals go_ret
  all_goals exact ⟨rfl, HR.out.1, HR.out.2⟩

theorem insertA_any {w : World} {M : Nat → Lab} {l : Lab} {v : Value} {n : Nat} {xs : List (ByteArray × ByteArray)} (h : Row w M l 79 2 v n (attrCells xs)) (hn : n ≤ 1099511627776) (hf : ∀ b, w.heap.size ≤ b → M b = .other) (k : Nat) (hk : k ≤ n) (b : Nat) (x : ByteArray × ByteArray) (hb : w.heap[b]? = some (.cells #[.string x.1, .string x.2] 79 (0, 0))) (hbl : M b ≠ l) :
    Calls Tryz.prog 66 #[v, .int .i64 k, .slice (some ⟨b, 0, none⟩) 1 1] w fun e w' => ∃ g' cap', e = .returned (.slice (some ⟨g', 0, none⟩) (n + 1) cap') ∧ ∃ M', Row w' M' l 79 2 (.slice (some ⟨g', 0, none⟩) (n + 1) cap') (n + 1) (attrCells (xs.take k ++ x :: xs.drop k)) ∧ Step w M w' M' l := by
  have hxl : xs.length = n := by have := h.1; rw [attrCells_length] at this; omega
  by_cases hkn : k = n
  · subst hkn
    have e : xs.take k ++ x :: xs.drop k = xs ++ [x] := by rw [List.take_of_length_le (by omega), List.drop_of_length_le (by omega)]
    rw [e]
    exact insertA_end h hn hf b x hb
  · obtain ⟨g, cap, rfl, h1, h2, hM, hgl⟩ := h.form (by omega)
    by_cases hcap : n + 1 ≤ cap
    · refine (insertA_room h hf k (by omega) hcap b x hb (fun e => hbl (by rw [e]; exact hM))).mono ?_
      rintro e w' ⟨rfl, g1, g2⟩
      exact ⟨g, cap, rfl, M, g1, g2⟩
    · exact insertA_grow h hn hf k (by omega) (by omega) b x hb
end Go.Proofs.YtoanbjdifddcoaaGreatDoor
