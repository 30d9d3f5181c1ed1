/- Cells that are taken, as plain mathematics; items that tell where they end. -/
import Derived.Test.YtbphlbohiifcmaaGMap
import Derived.Deep.Light
import Derived.Deep.DeepCutAuto
import Derived.Deep.RegionHeld3
namespace Go.Proofs.Ytbphlbohiifcmaa
open Go.RowKit
set_option linter.unusedVariables false      -- bounds that are for the walk

/-- an item of a grid -/
structure Gi where
  c : Int
  cs : Int
  r : Int
  rs : Int
def Gi.lc (i : Gi) : Int := i.c + i.cs - 1
def Gi.lr (i : Gi) : Int := i.r + i.rs - 1
def gV (i : Gi) : Value := .agg #[.int .i64 i.c, .int .i64 i.cs, .int .i64 i.r, .int .i64 i.rs]
/-- has it this cell? -/
def Gi.has (i : Gi) (x y : Int) : Prop := i.c ≤ x ∧ x ≤ i.lc ∧ i.r ≤ y ∧ y ≤ i.lr
instance (i : Gi) (x y : Int) : Decidable (i.has x y) := by unfold Gi.has; infer_instance
abbrev Tk := Int → Int → Option Int
/-- none of its cells is taken -/
def FreeAt (F : Tk) (i : Gi) : Prop := ∀ x y, i.has x y → F x y = none
/-- each cell that is taken is worth a column up to which all are taken -/
structure TkOk (F : Tk) (B : Int) : Prop where
  pos : ∀ x y v, F x y = some v → 1 ≤ x ∧ x ≤ v ∧ v ≤ B ∧ 1 ≤ y ∧ y ≤ B
  full : ∀ x y v, F x y = some v → ∀ z, x ≤ z → z ≤ v → F z y ≠ none
def takeF (F : Tk) (i : Gi) : Tk := fun x y => if i.has x y then some i.lc else F x y
structure Gi.Ok (i : Gi) : Prop where
  c1 : 1 ≤ i.c
  c2 : i.c ≤ 100000
  cs1 : 1 ≤ i.cs
  cs2 : i.cs ≤ 20
  r1 : 1 ≤ i.r
  r2 : i.r ≤ 100000
  rs1 : 1 ≤ i.rs
  rs2 : i.rs ≤ 20
theorem TkOk.take {F : Tk} {B B' : Int} {i : Gi} (h : TkOk F B) (hi : i.Ok) (h1 : i.lc ≤ B') (h2 : i.lr ≤ B') (hB : B ≤ B') : TkOk (takeF F i) B' := by
  refine ⟨fun x y v e => ?_, fun x y v e z hz1 hz2 => ?_⟩
  · unfold takeF at e
    split at e
    · rename_i hh
      cases e
      obtain ⟨a1, a2, a3, a4⟩ := hh
      have := hi.c1; have := hi.r1
      omega
    · have := h.pos x y v e
      omega
  · unfold takeF at e ⊢
    split at e
    · rename_i hh
      cases e
      obtain ⟨a1, a2, a3, a4⟩ := hh
      rw [if_pos ⟨by omega, hz2, a3, a4⟩]
      simp
    · split
      · simp
      · exact h.full x y v e z hz1 hz2
/-- where something is in the way, it is so from there up to its last column -/
theorem way_full {F : Tk} {B : Int} {i : Gi} (h : TkOk F B) {x y v : Int} (hh : i.has x y) (hv : F x y = some v) (hcs : 1 ≤ i.cs) {z : Int} (h1 : i.c ≤ z) (h2 : z ≤ v) : ¬ FreeAt F { i with c := z } := by
  intro hf
  obtain ⟨a1, a2, a3, a4⟩ := hh
  by_cases hx : z ≤ x
  · have := hf x y ⟨hx, by unfold Gi.lc at *; simp only; omega, a3, a4⟩
    rw [hv] at this
    cases this
  · have := hf z y ⟨Int.le_refl _, by unfold Gi.lc; simp only; omega, a3, a4⟩
    exact h.full x y v hv z (by omega) h2 this

/-- all but a map stays -/
structure KeepM (w : World) (b : Nat) (w' : World) : Prop where
  os : w'.os = w.os
  tape : w'.tape = w.tape
  output : w'.output = w.output
  size : w.heap.size ≤ w'.heap.size
  block : ∀ k, k < w.heap.size → k ≠ b → w'.heap[k]? = w.heap[k]?
theorem KeepM.refl (w : World) (b : Nat) : KeepM w b w := ⟨rfl, rfl, rfl, Nat.le_refl _, fun _ _ _ => rfl⟩
theorem KeepM.trans {w1 w2 w3 : World} {b : Nat} (h : KeepM w1 b w2) (h2 : KeepM w2 b w3) : KeepM w1 b w3 :=
  ⟨h2.os.trans h.os, h2.tape.trans h.tape, h2.output.trans h.output, Nat.le_trans h.size h2.size, fun k hk hb => (h2.block k (Nat.lt_of_lt_of_le hk h.size) hb).trans (h.block k hk hb)⟩
theorem KeepM.of_below {w w' : World} {b : Nat} (h : Below w.heap.size w w') : KeepM w b w' := ⟨h.os, h.tape, h.output, h.size, fun k hk _ => h.block k hk⟩
theorem KeepM.putO (w : World) (b : Nat) (o : Obj) : KeepM w b (putO w b o) := ⟨rfl, rfl, rfl, by simp [Go.Proofs.Ytbphlbohiifcmaa.putO], fun k _ hb => putO_other o hb⟩
theorem KeepM.cell {w w' : World} {b : Nat} (h : KeepM w b w') {p : Addr} (hp : p.block < w.heap.size) (hb : p.block ≠ b) : w'.cell? p = w.cell? p := World.cell?_of_block (h.block p.block hp hb)
/-- an item in a block of its own -/
def BxAt (w : World) (g : Nat) (i : Gi) : Prop := w.heap[g]? = some (.cells #[.int .i64 i.c, .int .i64 i.cs, .int .i64 i.r, .int .i64 i.rs] 47 (0, 0))
theorem BxAt.cells {w : World} {g : Nat} {i : Gi} (h : BxAt w g i) : g < w.heap.size ∧ w.cell? ⟨g, 0, none⟩ = some (.int .i64 i.c) ∧ w.cell? ⟨g, 1, none⟩ = some (.int .i64 i.cs) ∧ w.cell? ⟨g, 2, none⟩ = some (.int .i64 i.r) ∧ w.cell? ⟨g, 3, none⟩ = some (.int .i64 i.rs) := by
  have hh : w.heap[g]? = _ := h
  refine ⟨ltH hh, ?_, ?_, ?_, ?_⟩ <;> rw [cell_of_row w g _ _ _ _ hh] <;> rfl
theorem BxAt.keep {w w' : World} {g b : Nat} {i : Gi} (h : BxAt w g i) (hk : KeepM w b w') (hg : g ≠ b) : BxAt w' g i := (hk.block g h.cells.1 hg).trans h

set_option maxHeartbeats 1000000 in
set_option maxRecDepth 100000 in
theorem lastCol_any {i : Gi} (c1 : -1000000 ≤ i.c) (c2 : i.c ≤ 1000000) (s1 : -1000000 ≤ i.cs) (s2 : i.cs ≤ 1000000) (w : World) : Calls Try.prog 69 #[gV i] w fun e w' => e = .returned (.int .i64 i.lc) ∧ Below w.heap.size w w' := by
  obtain ⟨c, cs, r, rs⟩ := i
  unfold gV Gi.lc
  simp only at c1 c2 s1 s2 ⊢
  go_enter Try.func69, Try.ntmps69
  go_wp2_with fail
  go_returns
  exact ⟨rfl, by go_grown⟩
set_option maxHeartbeats 1000000 in
set_option maxRecDepth 100000 in
theorem lastRow_any {i : Gi} (c1 : -1000000 ≤ i.r) (c2 : i.r ≤ 1000000) (s1 : -1000000 ≤ i.rs) (s2 : i.rs ≤ 1000000) (w : World) : Calls Try.prog 74 #[gV i] w fun e w' => e = .returned (.int .i64 i.lr) ∧ Below w.heap.size w w' := by
  obtain ⟨c, cs, r, rs⟩ := i
  unfold gV Gi.lr
  simp only at c1 c2 s1 s2 ⊢
  go_enter Try.func74, Try.ntmps74
  go_wp2_with fail
  go_returns
  exact ⟨rfl, by go_grown⟩
end Go.Proofs.Ytbphlbohiifcmaa
