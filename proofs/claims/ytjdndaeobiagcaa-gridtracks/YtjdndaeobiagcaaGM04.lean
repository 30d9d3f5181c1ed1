/- Cells that are taken, as plain mathematics; items that tell where they end. -/
import Derived.Test.YtjdndaeobiagcaaGMap
import Derived.Deep.Light
import Derived.Deep.DeepCutAuto
import Derived.Deep.RegionHeld3
import Derived.Test.YtjdndaeobiagcaaTsMerge
import Derived.BigRegion
namespace Go.Proofs.Ytjdndaeobiagcaa
open Go.RowKit
set_option linter.unusedVariables false      -- bounds that are for the walk

/-- an item of a grid -/
structure Gi where
  c : Int
  cs : Int
  r : Int
  rs : Int
def Gi.lc (i : Gi) : Int := i.c + i.cs - 1
def Gi.lr (i : Gi) : Int := i.r + i.rs - 1
def gV (i : Gi) : Value := .agg #[.int .i64 i.c, .int .i64 i.cs, .int .i64 i.r, .int .i64 i.rs]
/-- has it this cell? -/
def Gi.has (i : Gi) (x y : Int) : Prop := i.c ≤ x ∧ x ≤ i.lc ∧ i.r ≤ y ∧ y ≤ i.lr
instance (i : Gi) (x y : Int) : Decidable (i.has x y) := by unfold Gi.has; infer_instance
abbrev Tk := Int → Int → Option Int
/-- none of its cells is taken -/
def FreeAt (F : Tk) (i : Gi) : Prop := ∀ x y, i.has x y → F x y = none
/-- each cell that is taken is worth a column up to which all are taken -/
structure TkOk (F : Tk) (B : Int) : Prop where
  pos : ∀ x y v, F x y = some v → 1 ≤ x ∧ x ≤ v ∧ v ≤ B ∧ 1 ≤ y ∧ y ≤ B
  full : ∀ x y v, F x y = some v → ∀ z, x ≤ z → z ≤ v → F z y ≠ none
def takeF (F : Tk) (i : Gi) : Tk := fun x y => if i.has x y then some i.lc else F x y
structure Gi.Ok (i : Gi) : Prop where
  c1 : 1 ≤ i.c
  c2 : i.c ≤ 100000
  cs1 : 1 ≤ i.cs
  cs2 : i.cs ≤ 20
  r1 : 1 ≤ i.r
  r2 : i.r ≤ 100000
  rs1 : 1 ≤ i.rs
  rs2 : i.rs ≤ 20
theorem TkOk.take {F : Tk} {B B' : Int} {i : Gi} (h : TkOk F B) (hi : i.Ok) (h1 : i.lc ≤ B') (h2 : i.lr ≤ B') (hB : B ≤ B') : TkOk (takeF F i) B' := by
  refine ⟨fun x y v e => ?_, fun x y v e z hz1 hz2 => ?_⟩
  · unfold takeF at e
    split at e
    · rename_i hh
      cases e
      obtain ⟨a1, a2, a3, a4⟩ := hh
      have := hi.c1; have := hi.r1
      omega
    · have := h.pos x y v e
      omega
  · unfold takeF at e ⊢
    split at e
    · rename_i hh
      cases e
      obtain ⟨a1, a2, a3, a4⟩ := hh
      rw [if_pos ⟨by omega, hz2, a3, a4⟩]
      simp
    · split
      · simp
      · exact h.full x y v e z hz1 hz2
/-- where something is in the way, it is so from there up to its last column -/
theorem way_full {F : Tk} {B : Int} {i : Gi} (h : TkOk F B) {x y v : Int} (hh : i.has x y) (hv : F x y = some v) (hcs : 1 ≤ i.cs) {z : Int} (h1 : i.c ≤ z) (h2 : z ≤ v) : ¬ FreeAt F { i with c := z } := by
  intro hf
  obtain ⟨a1, a2, a3, a4⟩ := hh
  by_cases hx : z ≤ x
  · have := hf x y ⟨hx, by unfold Gi.lc at *; simp only; omega, a3, a4⟩
    rw [hv] at this
    cases this
  · have := hf z y ⟨Int.le_refl _, by unfold Gi.lc; simp only; omega, a3, a4⟩
    exact h.full x y v hv z (by omega) h2 this

/-- all but a map stays -/
structure KeepM (w : World) (b : Nat) (w' : World) : Prop where
  os : w'.os = w.os
  tape : w'.tape = w.tape
  output : w'.output = w.output
  size : w.heap.size ≤ w'.heap.size
  block : ∀ k, k < w.heap.size → k ≠ b → w'.heap[k]? = w.heap[k]?
theorem KeepM.refl (w : World) (b : Nat) : KeepM w b w := ⟨rfl, rfl, rfl, Nat.le_refl _, fun _ _ _ => rfl⟩
theorem KeepM.trans {w1 w2 w3 : World} {b : Nat} (h : KeepM w1 b w2) (h2 : KeepM w2 b w3) : KeepM w1 b w3 :=
  ⟨h2.os.trans h.os, h2.tape.trans h.tape, h2.output.trans h.output, Nat.le_trans h.size h2.size, fun k hk hb => (h2.block k (Nat.lt_of_lt_of_le hk h.size) hb).trans (h.block k hk hb)⟩
theorem KeepM.of_below {w w' : World} {b : Nat} (h : Below w.heap.size w w') : KeepM w b w' := ⟨h.os, h.tape, h.output, h.size, fun k hk _ => h.block k hk⟩
theorem KeepM.putO (w : World) (b : Nat) (o : Obj) : KeepM w b (putO w b o) := ⟨rfl, rfl, rfl, by simp [Go.Proofs.Ytjdndaeobiagcaa.putO], fun k _ hb => putO_other o hb⟩
theorem KeepM.cell {w w' : World} {b : Nat} (h : KeepM w b w') {p : Addr} (hp : p.block < w.heap.size) (hb : p.block ≠ b) : w'.cell? p = w.cell? p := World.cell?_of_block (h.block p.block hp hb)
/-- an item in a block of its own -/
def BxAt (w : World) (g : Nat) (i : Gi) : Prop := w.heap[g]? = some (.cells #[.int .i64 i.c, .int .i64 i.cs, .int .i64 i.r, .int .i64 i.rs] 47 (0, 0))
theorem BxAt.cells {w : World} {g : Nat} {i : Gi} (h : BxAt w g i) : g < w.heap.size ∧ w.cell? ⟨g, 0, none⟩ = some (.int .i64 i.c) ∧ w.cell? ⟨g, 1, none⟩ = some (.int .i64 i.cs) ∧ w.cell? ⟨g, 2, none⟩ = some (.int .i64 i.r) ∧ w.cell? ⟨g, 3, none⟩ = some (.int .i64 i.rs) := by
  have hh : w.heap[g]? = _ := h
  refine ⟨ltH hh, ?_, ?_, ?_, ?_⟩ <;> rw [cell_of_row w g _ _ _ _ hh] <;> rfl
theorem BxAt.keep {w w' : World} {g b : Nat} {i : Gi} (h : BxAt w g i) (hk : KeepM w b w') (hg : g ≠ b) : BxAt w' g i := (hk.block g h.cells.1 hg).trans h

set_option maxHeartbeats 1000000 in
set_option maxRecDepth 100000 in
theorem lastCol_any {i : Gi} (c1 : -1000000 ≤ i.c) (c2 : i.c ≤ 1000000) (s1 : -1000000 ≤ i.cs) (s2 : i.cs ≤ 1000000) (w : World) : Calls Try.prog 69 #[gV i] w fun e w' => e = .returned (.int .i64 i.lc) ∧ Below w.heap.size w w' := by
  obtain ⟨c, cs, r, rs⟩ := i
  unfold gV Gi.lc
  simp only at c1 c2 s1 s2 ⊢
  go_enter Try.func69, Try.ntmps69
  go_wp2_with fail
  go_returns
  exact ⟨rfl, by go_grown⟩
set_option maxHeartbeats 1000000 in
set_option maxRecDepth 100000 in
theorem lastRow_any {i : Gi} (c1 : -1000000 ≤ i.r) (c2 : i.r ≤ 1000000) (s1 : -1000000 ≤ i.rs) (s2 : i.rs ≤ 1000000) (w : World) : Calls Try.prog 74 #[gV i] w fun e w' => e = .returned (.int .i64 i.lr) ∧ Below w.heap.size w w' := by
  obtain ⟨c, cs, r, rs⟩ := i
  unfold gV Gi.lr
  simp only at c1 c2 s1 s2 ⊢
  go_enter Try.func74, Try.ntmps74
  go_wp2_with fail
  go_returns
  exact ⟨rfl, by go_grown⟩
end Go.Proofs.Ytjdndaeobiagcaa

/- Needs in a row of memory, as they are sorted; how two are held against each other. -/
namespace Go.Proofs.Ytjdndaeobiagcaa
open Go.RowKit
set_option linter.unusedVariables false      -- bounds that are for the walk

structure Nd3 where
  f : Int
  s : Int
  z : Int
def ndV (x : Nd3) : Value := .agg #[.int .i64 x.f, .int .i64 x.s, .int .i64 x.z]
/-- needs by places -/
def NdB (w : World) (g n : Nat) (D : Nat → Nd3) : Prop := ∃ arr, w.heap[g]? = some (.cells arr 60 (0, 0)) ∧ ∀ j : Nat, j < n → arr[j * 3]? = some (.int .i64 (D j).f) ∧ arr[j * 3 + 1]? = some (.int .i64 (D j).s) ∧ arr[j * 3 + 2]? = some (.int .i64 (D j).z)
section
variable {w w' : World} {g n : Nat} {D D' : Nat → Nd3}
theorem NdB.lt (h : NdB w g n D) : g < w.heap.size := by
  obtain ⟨arr, h, _⟩ := h
  exact ltH h
theorem NdB.at (h : NdB w g n D) {k : Nat} (hk : k < n) : w.cell? ⟨g, k * 3, none⟩ = some (.int .i64 (D k).f) ∧ w.cell? ⟨g, k * 3 + 1, none⟩ = some (.int .i64 (D k).s) ∧ w.cell? ⟨g, k * 3 + 2, none⟩ = some (.int .i64 (D k).z) := by
  obtain ⟨arr, h, h2⟩ := h
  obtain ⟨a1, a2, a3⟩ := h2 k hk
  refine ⟨?_, ?_, ?_⟩ <;> rw [cell_of_row w g _ _ _ _ h] <;> assumption
theorem NdB.frz (h : NdB w g n D) (k : Nat) : w.frozen? ⟨g, k, none⟩ = false := by
  obtain ⟨arr, h, _⟩ := h
  simp [World.frozen?, h]
theorem NdB.congr (h : NdB w g n D) (e : ∀ j, j < n → D j = D' j) : NdB w g n D' := by
  obtain ⟨arr, h, h2⟩ := h
  exact ⟨arr, h, fun j hj => by rw [← e j hj]; exact h2 j hj⟩
theorem NdB.keep (h : NdB w g n D) (e : w'.heap[g]? = w.heap[g]?) : NdB w' g n D := by
  obtain ⟨arr, h, h2⟩ := h
  exact ⟨arr, e.trans h, h2⟩
theorem NdB.held (h : NdB w g n D) (hb : Below w.heap.size w w') : NdB w' g n D := h.keep (hb.block g h.lt)
theorem NdB.put (h : NdB w g n D) (x : Nat) (hx : x < n) (v : Nd3) : NdB (((w.setCell ⟨g, x * 3, none⟩ (.int .i64 v.f)).setCell ⟨g, x * 3 + 1, none⟩ (.int .i64 v.s)).setCell ⟨g, x * 3 + 2, none⟩ (.int .i64 v.z)) g n (fun k => if k = x then v else D k) := by
  obtain ⟨arr, h, h2⟩ := h
  have e0 := heap_setCell_same w g (x * 3) arr 60 (.int .i64 v.f) h
  have e1 := heap_setCell_same _ g (x * 3 + 1) _ 60 (.int .i64 v.s) e0
  have e2 := heap_setCell_same _ g (x * 3 + 2) _ 60 (.int .i64 v.z) e1
  refine ⟨_, e2, fun j hj => ?_⟩
  obtain ⟨b1, b2, b3⟩ := h2 x hx
  have hs : x * 3 + 2 < arr.size := by
    rcases Nat.lt_or_ge (x * 3 + 2) arr.size with h | h
    · exact h
    · rw [Array.getElem?_eq_none h] at b3; cases b3
  obtain ⟨a1, a2, a3⟩ := h2 j hj
  by_cases e : j = x
  · subst e
    simp only [if_pos]
    refine ⟨?_, ?_, ?_⟩
    · rw [Array.getElem?_setIfInBounds_ne (by omega), Array.getElem?_setIfInBounds_ne (by omega), Array.getElem?_setIfInBounds_self_of_lt (by omega)]
    · rw [Array.getElem?_setIfInBounds_ne (by omega), Array.getElem?_setIfInBounds_self_of_lt (by rw [Array.size_setIfInBounds]; omega)]
    · rw [Array.getElem?_setIfInBounds_self_of_lt (by rw [Array.size_setIfInBounds, Array.size_setIfInBounds]; omega)]
  · simp only [if_neg e]
    refine ⟨?_, ?_, ?_⟩
    · rw [Array.getElem?_setIfInBounds_ne (by omega), Array.getElem?_setIfInBounds_ne (by omega), Array.getElem?_setIfInBounds_ne (by omega)]; exact a1
    · rw [Array.getElem?_setIfInBounds_ne (by omega), Array.getElem?_setIfInBounds_ne (by omega), Array.getElem?_setIfInBounds_ne (by omega)]; exact a2
    · rw [Array.getElem?_setIfInBounds_ne (by omega), Array.getElem?_setIfInBounds_ne (by omega), Array.getElem?_setIfInBounds_ne (by omega)]; exact a3
end
theorem KeepM.setCell {w wr : World} {g : Nat} (h : KeepM w g wr) (k : Nat) (v : Value) : KeepM w g (wr.setCell ⟨g, k, none⟩ v) := by
  refine ⟨?_, ?_, ?_, ?_, fun q hq hg => (heap_setCell_other wr ⟨g, k, none⟩ q v hg).trans (h.block q hq hg)⟩
  · rw [← h.os]; rfl
  · rw [← h.tape]; rfl
  · rw [← h.output]; rfl
  · have := h.size
    simpa using this
/-- while needs are sorted: those that were there, as tags tell -/
structure SoAt (w wr : World) (g n : Nat) (D : Nat → Nd3) (t : Tg) : Prop where
  row : NdB wr g n (fun k => D (t k))
  keep : KeepM w g wr
section
variable {w wr W : World} {g n : Nat} {D : Nat → Nd3} {t : Tg}
theorem SoAt.held (h : SoAt w wr g n D t) (hb : Below wr.heap.size wr W) : SoAt w W g n D t := ⟨h.row.held hb, h.keep.trans (KeepM.of_below hb)⟩
theorem SoAt.trans {w1 : World} {t' : Tg} (h : SoAt w w1 g n D t) (h2 : SoAt w1 W g n D t') : SoAt w W g n D t' := ⟨h2.row, h.keep.trans h2.keep⟩
theorem SoAt.refl (h : SoAt w wr g n D t) : SoAt wr wr g n D t := ⟨h.row, KeepM.refl _ _⟩
theorem SoAt.swap (h : SoAt w wr g n D t) {x y : Nat} (hx : x < n) (hy : y < n) : SoAt w ((((((wr.setCell ⟨g, x * 3, none⟩ (.int .i64 (D (t y)).f)).setCell ⟨g, x * 3 + 1, none⟩ (.int .i64 (D (t y)).s)).setCell ⟨g, x * 3 + 2, none⟩ (.int .i64 (D (t y)).z)).setCell ⟨g, y * 3, none⟩ (.int .i64 (D (t x)).f)).setCell ⟨g, y * 3 + 1, none⟩ (.int .i64 (D (t x)).s)).setCell ⟨g, y * 3 + 2, none⟩ (.int .i64 (D (t x)).z)) g n D (swapT t x y) := by
  refine ⟨((h.row.put x hx (D (t y))).put y hy (D (t x))).congr (fun j hj => ?_), (((((h.keep.setCell _ _).setCell _ _).setCell _ _).setCell _ _).setCell _ _).setCell _ _⟩
  unfold swapT
  by_cases e1 : j = y
  · subst e1
    by_cases e2 : j = x
    · subst e2; simp
    · simp [e2]
  · by_cases e2 : j = x
    · subst e2; simp [e1]
    · simp [e1, e2]
end
/-- by spans -/
def cmpI (a b : Int) : Int := if a < b then -1 else if b < a then 1 else 0
theorem cmpI_neg {a b : Int} : cmpI a b < 0 ↔ a < b := by
  unfold cmpI
  split
  · simp; assumption
  · split <;> omega
def needF : Value := .func (.func 78) #[] #[]

set_option maxHeartbeats 400000 in
theorem isNaN_any (a : Int) (w : World) : Calls Try.prog 84 #[.int .i64 a] w fun e w' => e = .returned (.bool false) ∧ w' = w := by
  go_enter Try.func84, Try.ntmps84
  go_wp2_with fail
  go_returns
  exact ⟨rfl, rfl⟩

set_option maxHeartbeats 1000000 in
theorem compare_any (a b : Int) (w : World) : Calls Try.prog 66 #[.int .i64 a, .int .i64 b] w fun e w' => e = .returned (.int .i64 (cmpI a b)) ∧ w' = w := by
  have N := hidF (fun (x : Int) (W : World) => isNaN_any x W)
  unfold cmpI
  by_cases h1 : a < b
  · rw [if_pos h1]
    go_enter Try.func66, Try.ntmps66
    go_wp2_with fail
    refine (N.out _ _).mono ?_
    rintro e w1 ⟨rfl, hw1⟩
    rw [hw1]
    go_wp2_with fail
    refine (N.out _ _).mono ?_
    rintro e w2 ⟨rfl, hw2⟩
    rw [hw2]
    go_wp2_with fail
    go_returns
    exact ⟨rfl, rfl⟩
  · rw [if_neg h1]
    by_cases h2 : b < a
    · rw [if_pos h2]
      go_enter Try.func66, Try.ntmps66
      go_wp2_with fail
      refine (N.out _ _).mono ?_
      rintro e w1 ⟨rfl, hw1⟩
      rw [hw1]
      go_wp2_with fail
      refine (N.out _ _).mono ?_
      rintro e w2 ⟨rfl, hw2⟩
      rw [hw2]
      go_wp2_with fail
      go_returns
      exact ⟨rfl, rfl⟩
    · rw [if_neg h2]
      go_enter Try.func66, Try.ntmps66
      go_wp2_with fail
      refine (N.out _ _).mono ?_
      rintro e w1 ⟨rfl, hw1⟩
      rw [hw1]
      go_wp2_with fail
      refine (N.out _ _).mono ?_
      rintro e w2 ⟨rfl, hw2⟩
      rw [hw2]
      go_wp2_with fail
      go_returns
      exact ⟨rfl, rfl⟩

set_option maxHeartbeats 1000000 in
theorem needF_any (x y : Nd3) (w : World) : Calls Try.prog 78 #[ndV x, ndV y] w fun e w' => e = .returned (.int .i64 (cmpI x.s y.s)) ∧ Below w.heap.size w w' := by
  have C := hidF (fun W => compare_any x.s y.s W)
  obtain ⟨xf, xs, xz⟩ := x
  obtain ⟨yf, ys, yz⟩ := y
  unfold ndV
  simp only at C ⊢
  go_enter Try.func78, Try.ntmps78
  go_wp2_with fail
  refine (C.out _).mono ?_
  rintro e w1 ⟨rfl, hw1⟩
  rw [hw1]
  go_wp2_with fail
  go_returns
  exact ⟨rfl, by go_grown⟩
end Go.Proofs.Ytjdndaeobiagcaa
