/- slices.Insert of one number in the midst, where the row must grow. -/
import Derived.Test.YtnoaojjljcbflaaGreatDoorM07
import Derived.Test.YtnoaojjljcbflaaGreatDoorM05
import Derived.Deep.RegionLaw
import Derived.Lib.Overlaps
import Derived.Laws.Externs
import Derived.Test.YtnoaojjljcbflaaGreatDoorM06
namespace Go.Proofs.YtnoaojjljcbflaaGreatDoor
open Go.RowKit

theorem Step.then {a b c : World} {M N L : Nat → Lab} {l : Lab} (h : Step a M b N l) (k : Step b N c L l) : Step a M c L l :=
  ⟨k.os.trans h.os, k.tape.trans h.tape, k.output.trans h.output, Nat.le_trans h.size k.size, fun x hx => (k.lab x (Nat.lt_of_lt_of_le hx h.size)).trans (h.lab x hx), k.fresh, fun x hx hne => (k.far x (Nat.lt_of_lt_of_le hx h.size) (by rw [h.lab x hx]; exact hne)).trans (h.far x hx hne)⟩

theorem ins_ints (xs : List Int) (k : Nat) (x : Int) : ((xs.take k ++ x :: xs.drop k).map intV) = (xs.map intV).take k ++ [intV x] ++ (xs.map intV).drop k := by
  simp [List.map_take, List.map_drop]

set_option maxHeartbeats 4000000 in
set_option maxRecDepth 100000 in
theorem insert_grow {w : World} {M : Nat → Lab} {l : Lab} {g n cap : Nat} {xs : List Int} (h : Row w M l 3 1 (.slice (some ⟨g, 0, none⟩) n cap) n (xs.map intV)) (hn : n ≤ 1099511627776) (hf : ∀ b, w.heap.size ≤ b → M b = .other) (k : Nat) (hk : k < n) (hcap : cap < n + 1) (b : Nat) (x : Int) (hx : w.cell? ⟨b, 0, none⟩ = some (.int .i64 x)) :
    Calls Tryz.prog 153 #[.slice (some ⟨g, 0, none⟩) n cap, .int .i64 k, .slice (some ⟨b, 0, none⟩) 1 1] w fun e w' => ∃ g' cap', e = .returned (.slice (some ⟨g', 0, none⟩) (n + 1) cap') ∧ ∃ M', Row w' M' l 3 1 (.slice (some ⟨g', 0, none⟩) (n + 1) cap') (n + 1) ((xs.take k ++ x :: xs.drop k).map intV) ∧ Step w M w' M' l := by
  obtain ⟨i0, hi, hz0, hz1, hz2⟩ := info_parts Tryz.infoInt
  have hxl : xs.length = n := by have := h.1; simpa using this
  obtain ⟨a, cap2, hv, hc, hm⟩ := h.shape
  cases hv
  obtain ⟨gg, cc, hv, _, _, hgM, hgl⟩ := h.form (by omega)
  cases hv
  have hbl : b < w.heap.size := World.block_lt_of_cell? w _ hx
  obtain ⟨cap', w1, M1, hr1, hrow1, st1, hM1, hs1⟩ := app_zeros (P := Tryz.prog) w M l 48 3 3 i0 _ 1 8 .i64 Tryz.underlying48 Tryz.underlying3 hi hz0 hz1 hz2 rfl (by decide) g n cap k _ h (by omega) hcap (by unfold maxLen; omega) (by omega) hf
  have hx1 : w1.cell? ⟨b, 0, none⟩ = some (.int .i64 x) := (World.cell?_of_block (a := ⟨b, 0, none⟩) (hs1 b hbl)).trans hx
  obtain ⟨w2, hr2, hrow2, st2, hs2⟩ := copy_row (P := Tryz.prog) w1 M1 l 48 48 3 i0 1 Tryz.underlying48 hi hz1 w.heap.size (n + 1) cap' k 1 (cap' - k) 1 1 _ hrow1 ⟨b, 0, none⟩ [.int .i64 x] rfl (by simp [Nat.min_def]; omega) (by omega) (by omega) (by
    intro j u hu
    cases j with
    | zero => simp at hu; subst hu; simpa [Addr.add] using hx1
    | succ j => simp at hu) (by simp [Value.oneCell']) st1.fresh
  obtain ⟨_, _, hvx, hcap1, hcm1⟩ := hrow1.shape
  cases hvx
  have hgne : g ≠ w.heap.size := by omega
  have hsrc : ∀ j u, ((xs.map intV).drop k)[j]? = some u → w2.drew.cell? ((⟨g, k, none⟩ : Addr).add j) = some u := by
    intro j u hu
    have hadd : (⟨g, k, none⟩ : Addr).add j = ⟨g, k + j, none⟩ := by unfold Addr.add; split <;> simp_all
    rw [hadd]
    rw [List.getElem?_drop] at hu
    have e1 : w2.drew.heap[g]? = w.heap[g]? := (hs2 g hgne).trans (hs1 g hgl)
    exact (World.cell?_of_block (w := w) (w' := w2.drew) (a := ⟨g, k + j, none⟩) e1).trans (h.cell rfl hu).1
  have hrow2d : Row w2.drew M1 l 3 1 (.slice (some ⟨w.heap.size, 0, none⟩) (n + 1) cap') (n + 1) _ := hrow2
  obtain ⟨w3, hr3, hrow3, st3, _⟩ := copy_row (P := Tryz.prog) w2.drew M1 l 48 48 3 i0 1 Tryz.underlying48 hi hz1 w.heap.size (n + 1) cap' (k + 1) (n - k) (cap' - (k + 1)) (n - k) (cap - k) _ hrow2d ⟨g, k, none⟩ ((xs.map intV).drop k) (by simp [hxl]) (by simp) (by omega) (by omega) hsrc (by
    intro u hu
    obtain ⟨y, _, rfl⟩ := List.mem_map.1 (List.mem_of_mem_drop hu)
    rfl) st2.fresh
  have hlen1 : ((xs.map intV).take (k * 1) ++ (Builtin.zeroCells (Value.int .i64 0).cells (n + 1 - k)).toList).length = n + 1 := by have := hrow1.1; simpa using this
  have hfin : ((((xs.map intV).take (k * 1) ++ (Builtin.zeroCells (Value.int .i64 0).cells (n + 1 - k)).toList).take (k * 1) ++ [Value.int .i64 x] ++ ((xs.map intV).take (k * 1) ++ (Builtin.zeroCells (Value.int .i64 0).cells (n + 1 - k)).toList).drop ((k + 1) * 1)).take ((k + 1) * 1) ++ (xs.map intV).drop k ++ (((xs.map intV).take (k * 1) ++ (Builtin.zeroCells (Value.int .i64 0).cells (n + 1 - k)).toList).take (k * 1) ++ [Value.int .i64 x] ++ ((xs.map intV).take (k * 1) ++ (Builtin.zeroCells (Value.int .i64 0).cells (n + 1 - k)).toList).drop ((k + 1) * 1)).drop ((k + 1 + (n - k)) * 1)) = (xs.take k ++ x :: xs.drop k).map intV := by
    have hLk : ((xs.map intV).take (k * 1) ++ (Builtin.zeroCells (Value.int .i64 0).cells (n + 1 - k)).toList).take (k * 1) = (xs.map intV).take k := by
      rw [List.take_append_of_le_length (by simp [hxl]; omega), Nat.mul_one, List.take_take, Nat.min_self]
    generalize ((xs.map intV).take (k * 1) ++ (Builtin.zeroCells (Value.int .i64 0).cells (n + 1 - k)).toList) = L at hlen1 hLk ⊢
    rw [hLk, ins_ints xs k x]
    have hA : ((xs.map intV).take k ++ [Value.int .i64 x]).length = (k + 1) * 1 := by simp [hxl]; omega
    rw [← hA, List.take_left, hA]
    have hB : ((xs.map intV).take k ++ [Value.int .i64 x] ++ L.drop ((k + 1) * 1)).drop ((k + 1 + (n - k)) * 1) = [] := by
      apply List.drop_of_length_le
      simp [hlen1, hxl]
      omega
    rw [hB, List.append_nil]
    rfl
  rw [hfin] at hrow3
  have e1 : ((n + 1 - k : Nat) : Int) = (n : Int) + 1 - k := by omega
  rw [e1] at hr1
  have HA : Hid (∀ ty, (Builtin.append_ #[48, 3] ty #[.slice (some ⟨g, 0, none⟩) k cap, .int .i64 ((n : Int) + 1 - k)]).run Tryz.prog w = .ok (.slice (some ⟨w.heap.size, 0, none⟩) (n + 1) cap') w1) := hr1
  have HB : Hid (∀ ty, (Builtin.copy_ #[48, 48] ty #[.slice (some ⟨w.heap.size, k, none⟩) (n + 1 - k) (cap' - k), .slice (some ⟨b, 0, none⟩) 1 1]).run Tryz.prog w1 = .ok (goInt 1) w2) := by
    intro ty
    have := hr2 ty
    rw [Nat.mul_one] at this
    exact this
  have HC : Hid (∀ ty, (Builtin.copy_ #[48, 48] ty #[.slice (some ⟨w.heap.size, k + 1, none⟩) (n - k) (cap' - (k + 1)), .slice (some ⟨g, k, none⟩) (n - k) (cap - k)]).run Tryz.prog w2.drew = .ok (goInt ((n - k : Nat) : Int)) w3) := by
    intro ty
    have := hr3 ty
    rw [Nat.mul_one, show n + 1 - (k + 1) = n - k by omega] at this
    exact this
  have HR : Hid (Row w3 M1 l 3 1 (.slice (some ⟨w.heap.size, 0, none⟩) (n + 1) cap') (n + 1) ((xs.take k ++ x :: xs.drop k).map intV) ∧ Step w M w3 M1 l) := ⟨hrow3, st1.then (st2.then ⟨st3.os, st3.tape, st3.output, st3.size, st3.lab, st3.fresh, st3.far⟩)⟩
  unfold maxLen at hm hcm1
  have n1 : ((k : Int) == (n : Int)) = false := by simp; omega
  have n2 : ¬ ((k : Int) = (n : Int)) := by omega
  have n3 : ¬ cap' = k := by omega
  have n4 : ¬ cap' = k + 1 := by omega
  have n5 : ¬ cap = k := by omega
  have i1 : (k : Int) ≤ (n : Int) := by omega
  have i2 : (n : Int) ≤ (cap : Int) := by omega
  have i3 : (cap : Int) < (n : Int) + 1 := by omega
  have i4 : (n : Int) + 1 ≤ (cap' : Int) := by omega
  have i5 : (k : Int) + 1 ≤ (n : Int) + 1 := by omega
  have i6 : (0 : Int) ≤ (k : Int) := by omega
  have hwr : IntKind.i64.wrap ((k : Int) + 1) = (k : Int) + 1 := by
    rw [IntKind.wrap_i64]
    omega
  clear h hf hr1 hr2 hr3 hrow1 hrow2 hrow2d hrow3 st1 st2 st3 hs1 hs2 hfin hlen1 hsrc hx1
  go_enter Tryz.func153, Tryz.ntmps153
  have hB := HB.out
  have hC := HC.out
  go_wp2_with (at_builtin; refine wpList_append_run _ (by rfl) (.tmp 34) (.tmp 39) 48 3 (by rfl) (.slice (some ⟨g, 0, none⟩) k cap) (.int .i64 ((n : Int) + 1 - k)) (by rfl) (by rfl) _ w1 HA.out ?_)
  go_region
  all_goals go_wp2
  all_goals go_ret
  all_goals exact ⟨_, _, rfl, M1, HR.out.1, HR.out.2⟩
end Go.Proofs.YtnoaojjljcbflaaGreatDoor

/- slices.Insert of one number in the midst, where there is room. -/
namespace Go.Proofs.YtnoaojjljcbflaaGreatDoor
open Go.RowKit

theorem Row.longer {w : World} {M : Nat → Lab} {l : Lab} {e : TypeId} {g n cap : Nat} {xs : List Value} (h : Row w M l e 1 (.slice (some ⟨g, 0, none⟩) n cap) n xs) (hn : 0 < n) (hc : n + 1 ≤ cap) :
    ∃ y, Row w M l e 1 (.slice (some ⟨g, 0, none⟩) (n + 1) cap) (n + 1) (xs ++ [y]) ∧ ∃ cur, w.heap[g]? = some (.cells cur e (0, 0)) ∧ cap ≤ cur.size ∧ M g = l := by
  obtain ⟨hl, a, cap', hv, h1, h2, h3⟩ := h
  cases hv
  rcases h3 with ⟨h3, _⟩ | ⟨g', cur, ha, hM, hg, h4, h5⟩
  · omega
  · cases ha
    have hlt : n < cur.toList.length := by simp; omega
    refine ⟨cur.toList[n], ⟨by simp [hl], _, _, rfl, hc, h2, .inr ⟨_, cur, rfl, hM, hg, h4, ?_⟩⟩, cur, hg, by omega, hM⟩
    rw [Nat.mul_one] at h5 ⊢
    rw [List.take_succ_eq_append_getElem hlt, h5]

theorem sizeInt (w : World) : (Go.sizeOf 3).run Tryz.prog w = .ok 1 w := by kernel_rfl

set_option maxHeartbeats 4000000 in
set_option maxRecDepth 100000 in
theorem insert_room {w : World} {M : Nat → Lab} {l : Lab} {g n cap : Nat} {xs : List Int} (h : Row w M l 3 1 (.slice (some ⟨g, 0, none⟩) n cap) n (xs.map intV)) (hf : ∀ b, w.heap.size ≤ b → M b = .other) (k : Nat) (hk : k < n) (hcap : n + 1 ≤ cap) (b : Nat) (x : Int) (hb : w.heap[b]? = some (.cells #[.int .i64 x] 3 (0, 0))) (hbg : b ≠ g) :
    Calls Tryz.prog 153 #[.slice (some ⟨g, 0, none⟩) n cap, .int .i64 k, .slice (some ⟨b, 0, none⟩) 1 1] w fun e w' => e = .returned (.slice (some ⟨g, 0, none⟩) (n + 1) cap) ∧ Row w' M l 3 1 (.slice (some ⟨g, 0, none⟩) (n + 1) cap) (n + 1) ((xs.take k ++ x :: xs.drop k).map intV) ∧ Step w M w' M l := by
  obtain ⟨i0, hi, hz0, hz1, hz2⟩ := info_parts Tryz.infoInt
  have hxl : xs.length = n := by have := h.1; simpa using this
  obtain ⟨_, _, hvx, _, hm⟩ := h.shape
  cases hvx
  obtain ⟨y, hrow, cur, hg, hcs, hgM⟩ := h.longer (by omega) hcap
  have hx : w.cell? ⟨b, 0, none⟩ = some (.int .i64 x) := by rw [cell_of_row w b 0 _ _ _ hb]; rfl
  have hov := Lib.run_overlaps_apart (P := Tryz.prog) w 48 4 3 Tryz.underlying48 1 sizeInt ⟨b, 0, none⟩ ⟨g, k + 1, none⟩ 1 1 (n - k) (cap - (k + 1)) hbg 3 3 1 cur.size (by simp [World.shape?, hb]) (by simp [World.shape?, hg]) (by omega) (by simp [World.frozen?, hb]) (by simp [World.frozen?, hb])
  have hov2 : (callFunc 171 #[.slice (some ⟨b, 0, none⟩) 1 1, .slice (some ⟨g, k + 1, none⟩) (n - k) (cap - (k + 1))]).run Tryz.prog w = .ok (.value (.bool false)) w := by
    rw [run_callFunc_extern Tryz.func171 (by kernel_rfl) (by kernel_rfl) (by kernel_rfl) (e := Extern.SlicesOverlaps.overlaps #[48, 48] #[4]) (by kernel_rfl), hov]
    rfl
  have hsrc : ∀ j u, ((xs.map intV).drop k)[j]? = some u → w.drew.cell? ((⟨g, k, none⟩ : Addr).add j) = some u := by
    intro j u hu
    have hadd : (⟨g, k, none⟩ : Addr).add j = ⟨g, k + j, none⟩ := by unfold Addr.add; split <;> simp_all
    rw [hadd]
    rw [List.getElem?_drop] at hu
    exact (h.cell rfl hu).1
  have hrowd : Row w.drew M l 3 1 (.slice (some ⟨g, 0, none⟩) (n + 1) cap) (n + 1) (xs.map intV ++ [y]) := hrow
  obtain ⟨w1, hr1, hrow1, st1, hs1⟩ := copy_row (P := Tryz.prog) w.drew M l 48 48 3 i0 1 Tryz.underlying48 hi hz1 g (n + 1) cap (k + 1) (n - k) (cap - (k + 1)) (n + 1 - k) (cap - k) _ hrowd ⟨g, k, none⟩ ((xs.map intV).drop k) (by simp [hxl]) (by simp [Nat.min_def]; omega) (by omega) (by omega) hsrc (by
    intro u hu
    obtain ⟨z, _, rfl⟩ := List.mem_map.1 (List.mem_of_mem_drop hu)
    rfl) hf
  have hx1 : w1.cell? ⟨b, 0, none⟩ = some (.int .i64 x) := (World.cell?_of_block (a := ⟨b, 0, none⟩) (hs1 b hbg)).trans hx
  obtain ⟨w2, hr2, hrow2, st2, _⟩ := copy_row (P := Tryz.prog) w1 M l 48 48 3 i0 1 Tryz.underlying48 hi hz1 g (n + 1) cap k 1 (cap - k) 1 1 _ hrow1 ⟨b, 0, none⟩ [.int .i64 x] rfl (by simp [Nat.min_def]; omega) (by omega) (by omega) (by
    intro j u hu
    cases j with
    | zero => simp at hu; subst hu; simpa [Addr.add] using hx1
    | succ j => simp at hu) (by simp [Value.oneCell']) st1.fresh
  have hfin : (((xs.map intV ++ [y]).take ((k + 1) * 1) ++ (xs.map intV).drop k ++ (xs.map intV ++ [y]).drop ((k + 1 + (n - k)) * 1)).take (k * 1) ++ [Value.int .i64 x] ++ ((xs.map intV ++ [y]).take ((k + 1) * 1) ++ (xs.map intV).drop k ++ (xs.map intV ++ [y]).drop ((k + 1 + (n - k)) * 1)).drop ((k + 1) * 1)) = (xs.take k ++ x :: xs.drop k).map intV := by
    rw [ins_ints xs k x]
    have e0 : (xs.map intV ++ [y]).drop ((k + 1 + (n - k)) * 1) = [] := by
      apply List.drop_of_length_le
      simp [hxl]
      omega
    have eA : ((xs.map intV ++ [y]).take ((k + 1) * 1)).length = (k + 1) * 1 := by simp [hxl]; omega
    rw [e0, List.append_nil]
    have e1 : ((xs.map intV ++ [y]).take ((k + 1) * 1) ++ (xs.map intV).drop k).drop ((k + 1) * 1) = (xs.map intV).drop k := by
      have := List.drop_left (l₁ := (xs.map intV ++ [y]).take ((k + 1) * 1)) (l₂ := (xs.map intV).drop k)
      rw [eA] at this
      exact this
    have e2 : ((xs.map intV ++ [y]).take ((k + 1) * 1) ++ (xs.map intV).drop k).take (k * 1) = (xs.map intV).take k := by
      rw [List.take_append_of_le_length (by rw [eA]; omega), List.take_take, List.take_append_of_le_length (by simp [hxl]; omega)]
      congr 1
      omega
    rw [e1, e2]
    rfl
  rw [hfin] at hrow2
  have HB : Hid (∀ ty, (Builtin.copy_ #[48, 48] ty #[.slice (some ⟨g, k + 1, none⟩) (n - k) (cap - (k + 1)), .slice (some ⟨g, k, none⟩) (n + 1 - k) (cap - k)]).run Tryz.prog w.drew = .ok (goInt ((n - k : Nat) : Int)) w1) := by
    intro ty
    have := hr1 ty
    rw [Nat.mul_one, show n + 1 - (k + 1) = n - k by omega] at this
    exact this
  have HC : Hid (∀ ty, (Builtin.copy_ #[48, 48] ty #[.slice (some ⟨g, k, none⟩) (n + 1 - k) (cap - k), .slice (some ⟨b, 0, none⟩) 1 1]).run Tryz.prog w1 = .ok (goInt 1) w2) := by
    intro ty
    have := hr2 ty
    rw [Nat.mul_one] at this
    exact this
  have HR : Hid (Row w2 M l 3 1 (.slice (some ⟨g, 0, none⟩) (n + 1) cap) (n + 1) ((xs.take k ++ x :: xs.drop k).map intV) ∧ Step w M w2 M l) := ⟨hrow2, (show Step w M w1 M l from ⟨st1.os, st1.tape, st1.output, st1.size, st1.lab, st1.fresh, st1.far⟩).then st2⟩
  unfold maxLen at hm
  have n1 : ((k : Int) == (n : Int)) = false := by simp; omega
  have n2 : ¬ ((k : Int) = (n : Int)) := by omega
  have n4 : ¬ cap = k + 1 := by omega
  have n5 : ¬ cap = k := by omega
  have i1 : (k : Int) ≤ (n : Int) := by omega
  have i2 : (n : Int) ≤ (cap : Int) := by omega
  have i3 : ¬ (cap : Int) < (n : Int) + 1 := by omega
  have i4 : (n : Int) + 1 ≤ (cap : Int) := by omega
  have i5 : (k : Int) + 1 ≤ (n : Int) + 1 := by omega
  have i6 : (0 : Int) ≤ (k : Int) := by omega
  have i7 : (k : Int) ≤ (n : Int) + 1 := by omega
  have hwr : IntKind.i64.wrap ((k : Int) + 1) = (k : Int) + 1 := by
    rw [IntKind.wrap_i64]
    omega
  clear h hf hr1 hr2 hrow hrowd hrow1 hrow2 st1 st2 hs1 hfin hsrc hx1 hov hg hb hx hcs
  go_enter Tryz.func153, Tryz.ntmps153
  have hB := HB.out
  have hC := HC.out
  go_wp2
  go_region
  all_goals go_wp2
  all_goals go_ret
  all_goals exact ⟨rfl, HR.out.1, HR.out.2⟩
end Go.Proofs.YtnoaojjljcbflaaGreatDoor

/- slices.Insert of one number anywhere, and a root pushed among the kids of another node. -/
namespace Go.Proofs.YtnoaojjljcbflaaGreatDoor
open Go.RowKit

theorem insert_any {w : World} {M : Nat → Lab} {l : Lab} {v : Value} {n : Nat} {xs : List Int} (h : Row w M l 3 1 v n (xs.map intV)) (hn : n ≤ 1099511627776) (hf : ∀ b, w.heap.size ≤ b → M b = .other) (k : Nat) (hk : k ≤ n) (b : Nat) (x : Int) (hb : w.heap[b]? = some (.cells #[.int .i64 x] 3 (0, 0))) (hbl : M b ≠ l) :
    Calls Tryz.prog 153 #[v, .int .i64 k, .slice (some ⟨b, 0, none⟩) 1 1] w fun e w' => ∃ g' cap', e = .returned (.slice (some ⟨g', 0, none⟩) (n + 1) cap') ∧ ∃ M', Row w' M' l 3 1 (.slice (some ⟨g', 0, none⟩) (n + 1) cap') (n + 1) ((xs.take k ++ x :: xs.drop k).map intV) ∧ Step w M w' M' l := by
  have hx : w.cell? ⟨b, 0, none⟩ = some (.int .i64 x) := by rw [cell_of_row w b 0 _ _ _ hb]; rfl
  have hxl : xs.length = n := by have := h.1; simpa using this
  by_cases hkn : k = n
  · subst hkn
    have e : xs.take k ++ x :: xs.drop k = xs ++ [x] := by rw [List.take_of_length_le (by omega), List.drop_of_length_le (by omega)]
    rw [e]
    have := insert_end h hn hf b x hx
    simpa using this
  · obtain ⟨g, cap, rfl, h1, h2, hM, hgl⟩ := h.form (by omega)
    by_cases hcap : n + 1 ≤ cap
    · refine (insert_room h hf k (by omega) hcap b x hb (fun e => hbl (by rw [e]; exact hM))).mono ?_
      rintro e w' ⟨rfl, g1, g2⟩
      exact ⟨g, cap, rfl, M, g1, g2⟩
    · exact insert_grow h hn hf k (by omega) (by omega) b x hx

set_option maxHeartbeats 4000000 in
set_option maxRecDepth 100000 in
theorem push_all {w : World} {M : Nat → Lab} {tb : Nat} {nv uv : Value} {ps : List Pn} {us : List Value} (h : Lies w M tb nv uv ps us) {a b k : Nat} {pa pb : Pn} (ha : ps[a]? = some pa) (hb : ps[b]? = some pb) (hab : a ≠ b) (hk : pa.n.kids.length ≤ 1099511627776) (hkl : k ≤ pa.n.kids.length) :
    Calls Tryz.prog 126 #[.pointer (some ⟨tb, 0, none⟩), .int .i64 a, .int .i64 b, .int .i64 k] w fun e w' => e = .returned (.tuple #[]) ∧ ∃ M' kv', Lies w' M' tb nv uv ((ps.set a ⟨{ pa.n with kids := pa.n.kids.take k ++ (b : Int) :: pa.n.kids.drop k }, pa.av, kv'⟩).set b ⟨{ pb.n with parent := a }, pb.av, pb.kv⟩) us ∧ Moved w M w' M' := by
  obtain ⟨nb, cap, rfl, hc, hm, hnM, hnl, hal⟩ := h.form ha
  have hbl : b < ps.length := (List.getElem?_eq_some_iff.1 hb).1
  have c0 := h.cell0
  have c5 := (h.cellN rfl (f := 5) ha (by omega) rfl).1
  have hr := (h.node a pa ha).2
  obtain ⟨ka, kc, hkv, _, _⟩ := hr.shape
  rw [hkv] at c5
  have hlt : tb < w.heap.size := lt_of_heap h.head
  have HA : Hid (ps[a]? = some pa) := ha
  have HB : Hid (ps[b]? = some pb) := hb
  have H : Hid (Lies w M tb (.slice (some ⟨nb, 0, none⟩) ps.length cap) uv ps us) := h
  have HK : Hid (pa.kv = .slice ka pa.n.kids.length kc) := hkv
  have HKR : Hid (∀ o, Row (w.alloc o).drew M (.kids a) 3 1 (.slice ka pa.n.kids.length kc) pa.n.kids.length (pa.n.kids.map intV)) := fun o => hkv ▸ ((h.alloc o).drew.node a pa ha).2
  have hM0 : M w.heap.size = .other := h.fresh _ (Nat.le_refl _)
  have HM : Hid (M w.heap.size ≠ .kids a) := fun e => by rw [hM0] at e; cases e
  clear hM0
  have hn1 : ¬ ((a : Int) = -1) := by omega
  have hn1b : ((a : Int) == -1) = false := by simp
  have i1 : (0 : Int) ≤ (a : Int) := by omega
  have i2 : (a : Int) < (ps.length : Int) := by omega
  have i3 : (0 : Int) ≤ (b : Int) := by omega
  have i4 : (b : Int) < (ps.length : Int) := by omega
  have hlen : (pa.n.kids.take k ++ (b : Int) :: pa.n.kids.drop k).length = pa.n.kids.length + 1 := by simp; omega
  unfold maxLen at hm
  clear h hr hkv ha hb
  go_enter Tryz.func126, Tryz.ntmps126
  go_wp2
  go_region_with
    ((go_at_call 153; refine (insert_any (HKR.out _) hk (H.out.alloc _).drew.fresh k hkl w.heap.size (b : Int) (heap_alloc_new w _) HM.out).mono ?_; rintro e w2 ⟨g, cap1, rfl, M2, hr, st⟩
      obtain ⟨q1, q2, q3, q4, q5⟩ := (H.out.alloc _).drew.setKids rfl HA.out st (ks' := pa.n.kids.take k ++ (b : Int) :: pa.n.kids.drop k) (by rw [hlen]; exact hr)
      rw [HK.out] at q3
      have hb2 : (ps.set a ⟨{ pa.n with kids := pa.n.kids.take k ++ (b : Int) :: pa.n.kids.drop k }, pa.av, .slice (some ⟨g, 0, none⟩) (pa.n.kids.length + 1) cap1⟩)[b]? = some pb := by (rw [List.getElem?_set_ne hab]; exact HB.out)
      have d0 := q1.cell0
      obtain ⟨d4, d4f⟩ := q1.cellN rfl (f := 4) hb2 (by omega) rfl
      have HQ : Hid _ := And.intro (q1.setNode rfl (f := 4) (c := .int .i64 a) hb2 (by omega) (p' := ⟨{ pb.n with parent := a }, pb.av, pb.kv⟩) rfl (q1.node b pb hb2).1 (q1.node b pb hb2).2) (((Moved.refl w M).alloc _).drew.trans q2)
      clear q1 q2 hr st hb2))
  all_goals go_wp2
  all_goals go_end0
  all_goals exact ⟨rfl, M2, _, HQ.out.1.1, HQ.out.2.trans (HQ.out.1.2.moved (by intro e; cases e))⟩
end Go.Proofs.YtnoaojjljcbflaaGreatDoor

/- Whether a node is another one, or lies in it. -/
namespace Go.Proofs.YtnoaojjljcbflaaGreatDoor
open Go.RowKit

/-- a node and all in which it lies, up to its root -/
inductive Up (ns : List Nd) : Nat → List Nat → Prop where
  | root {i : Nat} {n : Nd} (h : ns[i]? = some n) (hp : n.parent = -1) : Up ns i [i]
  | up {i p : Nat} {l : List Nat} {n : Nd} (h : ns[i]? = some n) (hp : n.parent = p) (hu : Up ns p l) : Up ns i (i :: l)

set_option maxHeartbeats 4000000 in
set_option maxRecDepth 100000 in
theorem within_any {w : World} {M : Nat → Lab} {tb : Nat} {nv uv : Value} {ps : List Pn} {us : List Value} (h : Lies w M tb nv uv ps us) {i : Nat} {l : List Nat} (hu : Up (nodesOf ps) i l) (j : Nat) :
    Calls Tryz.prog 89 #[.pointer (some ⟨tb, 0, none⟩), .int .i64 i, .int .i64 j] w fun e w' => e = .returned (.bool (decide (j ∈ l))) ∧ w' = w := by
  have H : Hid (Lies w M tb nv uv ps us) := h
  have HU : Hid (Up (nodesOf ps) i l) := hu
  clear h hu
  go_enter Tryz.func89, Tryz.ntmps89
  go_wp2
  go_loopg [1] (l.length + 1) (fun k id wr => wr = w ∧ ((∃ (x : Nat) (l' : List Nat), id = .int .i64 x ∧ l'.length + 1 = k ∧ Hid (Up (nodesOf ps) x l') ∧ Hid (j ∈ l' ↔ j ∈ l)) ∨ (id = .int .i64 (-1) ∧ k = 0 ∧ Hid (¬ j ∈ l))))
  case atStart => exact ⟨rfl, .inl ⟨i, l, rfl, rfl, HU, (Iff.rfl : j ∈ l ↔ j ∈ l)⟩⟩
  case round =>
    obtain ⟨rfl, hrel⟩ := hrel
    rcases hrel with ⟨x, l', rfl, hk, hup, hiff⟩ | ⟨rfl, hk, hno⟩
    · by_cases hxj : x = j
      · subst hxj
        have HD : Hid (decide (x ∈ l) = true) := by
          show decide _ = true
          rw [decide_eq_true_eq]
          refine hiff.out.1 ?_
          have := hup.out
          cases this <;> simp
        go_wp2
        go_ret
        exact ⟨ret_bool HD.out.symm, rfl⟩
      · have hne : ¬ ((x : Int) = (j : Int)) := by omega
        have hb1 : ((x : Int) != (j : Int)) = true := by simp [hne]
        have hneb : ((x : Int) == (j : Int)) = false := by simpa using hne
        have hn1 : ¬ ((x : Int) = -1) := by omega
        have hb2 : ((x : Int) != -1) = true := by simp
        have hupo := hup.out
        cases hupo with
        | root hn hp =>
          obtain ⟨p, hp1, rfl⟩ := nodesOf_get hn
          obtain ⟨nb, cap, hnv, hc, hm, _, _, hxl⟩ := H.out.form hp1
          have hL := H.out
          rw [hnv] at hL
          have c0 := hL.cell0
          have c4 := (hL.cellN rfl (f := 4) hp1 (by omega) rfl).1
          rw [hp] at c4
          unfold maxLen at hm
          have HN : Hid (¬ j ∈ l) := by
            intro hj
            have := hiff.out.2 hj
            simp at this
            omega
          clear hL hn hp hp1 hnv
          go_wp2
          go_roundg 0
          case measure => omega
          case rel => exact ⟨rfl, .inr ⟨rfl, rfl, HN⟩⟩
        | @up _ q l2 n hn hp hu2 =>
          obtain ⟨p, hp1, rfl⟩ := nodesOf_get hn
          obtain ⟨nb, cap, hnv, hc, hm, _, _, hxl⟩ := H.out.form hp1
          have hL := H.out
          rw [hnv] at hL
          have c0 := hL.cell0
          have c4 := (hL.cellN rfl (f := 4) hp1 (by omega) rfl).1
          rw [hp] at c4
          unfold maxLen at hm
          have HN : Hid (j ∈ l2 ↔ j ∈ l) := by
            show _ ↔ _
            rw [← hiff.out, List.mem_cons]
            constructor
            · exact .inr
            · rintro (h | h)
              · omega
              · exact h
          have HU2 : Hid (Up (nodesOf ps) q l2) := hu2
          clear hL hn hp hp1 hnv hu2
          go_wp2
          go_roundg (l2.length + 1)
          case measure => simp at hk; omega
          case rel => exact ⟨rfl, .inl ⟨q, l2, rfl, rfl, HU2, HN⟩⟩
    · have hn2 : ¬ ((-1 : Int) = (j : Int)) := by omega
      have hn2b : ((-1 : Int) == (j : Int)) = false := by simp
      have HD : Hid (decide (j ∈ l) = false) := by
        show decide _ = false
        rw [decide_eq_false_iff_not]
        exact hno.out
      go_wp2
      go_ret
      exact ⟨ret_bool HD.out.symm, rfl⟩
end Go.Proofs.YtnoaojjljcbflaaGreatDoor
