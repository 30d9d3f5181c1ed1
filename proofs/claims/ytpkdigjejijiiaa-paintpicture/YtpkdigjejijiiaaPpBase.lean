/- Pictures: marks and pixels as plain mathematics, and in memory. -/
import Derived.Test.YtpkdigjejijiiaaProg
import Derived.Handy
import Derived.WalkSmall
import Derived.WalkKit
import Derived.Below
import Derived.RegionTactic
import Derived.Deep.QuietTactic
import Derived.BigQuiet
import Derived.BigRegion
import Derived.OneCell
import Derived.OwnWalk
import Derived.Maps.AppendAt
import Derived.Deep.Light
import Derived.Deep.RegionLaw
import Derived.Deep.DeepCutAuto
namespace Go.Proofs.Ytpkdigjejijiiaa
open Go.RowKit
set_option linter.unusedVariables false      -- bounds that are for the walk

def intV : Value → Int | .int _ q => q | _ => 0
theorem Try.infoInt : (Try.prog.info? 3).map (fun i => (i.zero, i.size, i.bytes)) = some (some (.int .i64 0), 1, 8) := by kernel_rfl
theorem Try.infoInts : (Try.prog.info? 34).map (fun i => (i.zero, i.size, i.bytes)) = some (some (.slice none 0 0), 1, 24) := by kernel_rfl
theorem Try.infoMark : (Try.prog.info? 28).map (fun i => (i.zero, i.size, i.bytes)) = some (some (.agg #[.int .i64 0, .int .i64 0, .int .i64 0, .int .i64 0, .int .i64 0, .int .i64 0, .string ⟨#[]⟩]), 7, 64) := by kernel_rfl
theorem hidF {p : Prop} (h : p) : Hid p := h
theorem ltH {w : World} {b : Nat} {o : Obj} (h : w.heap[b]? = some o) : b < w.heap.size := (Array.getElem?_eq_some_iff.1 h).1
theorem belD {B : Nat} {a w : World} (h : Below B a w) (n : Nat) : Below B a (w.drewN n) := ⟨h.os, h.tape, h.output, h.size, h.block⟩

/-- a list of numbers that is read -/
def IntL (w : World) (v : Value) (l : List Int) : Prop := ∃ a cap, v = .slice a l.length cap ∧ l.length ≤ cap ∧ cap ≤ 9223372036854775807 ∧ ∀ (j : Nat) (x : Int), l[j]? = some x → ∃ b o, a = some ⟨b, o, none⟩ ∧ b < w.heap.size ∧ w.cell? ⟨b, o + j, none⟩ = some (.int .i64 x)
theorem IntL.below {w w' : World} {v : Value} {l : List Int} (h : IntL w v l) (hb : Below w.heap.size w w') : IntL w' v l := by
  obtain ⟨a, cap, hv, h1, h2, hc⟩ := h
  refine ⟨a, cap, hv, h1, h2, fun j x hj => ?_⟩
  obtain ⟨b, o, e1, e2, e3⟩ := hc j x hj
  exact ⟨b, o, e1, Nat.lt_of_lt_of_le e2 hb.size, (hb.cell (p := ⟨b, o + j, none⟩) e2).trans e3⟩
theorem own_intL {w : World} {B : Nat} {v : Value} {xs : List Int} (h : w.ownsRow B 3 1 v xs.length (xs.map (Value.int .i64))) : IntL w v xs := by
  obtain ⟨hl, h | ⟨g, cap, cur, rfl, hg, hh, h1, h2, h3, h4⟩⟩ := h
  · obtain ⟨rfl, hn⟩ := h
    refine ⟨none, 0, by rw [hn], by omega, by omega, fun j x hj => ?_⟩
    have := (List.getElem?_eq_some_iff.1 hj).1
    omega
  · unfold maxLen at h2
    refine ⟨_, cap, rfl, h1, by omega, fun j x hj => ⟨g, 0, rfl, ltH hh, ?_⟩⟩
    have hjl := (List.getElem?_eq_some_iff.1 hj).1
    have e : (xs.map (Value.int .i64))[j]? = some (.int .i64 x) := by rw [List.getElem?_map, hj]; rfl
    rw [← h4, List.getElem?_take] at e
    rw [cell_of_row w g _ _ _ _ hh, Nat.zero_add]
    split at e
    · simpa using e
    · cases e
/-- rows of numbers that are read -/
def RowsL (w : World) (v : Value) (ls : List (List Int)) : Prop := ∃ a cap, v = .slice a ls.length cap ∧ ls.length ≤ cap ∧ cap ≤ 9223372036854775807 ∧ ∀ (j : Nat) (l : List Int), ls[j]? = some l → ∃ b o u, a = some ⟨b, o, none⟩ ∧ b < w.heap.size ∧ w.cell? ⟨b, o + j, none⟩ = some u ∧ IntL w u l
theorem RowsL.below {w w' : World} {v : Value} {ls : List (List Int)} (h : RowsL w v ls) (hb : Below w.heap.size w w') : RowsL w' v ls := by
  obtain ⟨a, cap, hv, h1, h2, hc⟩ := h
  refine ⟨a, cap, hv, h1, h2, fun j x hj => ?_⟩
  obtain ⟨b, o, u, e1, e2, e3, e4⟩ := hc j x hj
  exact ⟨b, o, u, e1, Nat.lt_of_lt_of_le e2 hb.size, (hb.cell (p := ⟨b, o + j, none⟩) e2).trans e3, e4.below hb⟩

/-- a mark -/
structure Mk where
  nd : Int
  c : Int
  x : Int
  y : Int
  wd : Int
  h : Int
  s : ByteArray
/-- its lengths are lengths -/
structure MkOk (m : Mk) : Prop where
  x1 : -16777216 ≤ m.x
  x2 : m.x ≤ 16777216
  y1 : -16777216 ≤ m.y
  y2 : m.y ≤ 16777216
  w1 : -16777216 ≤ m.wd
  w2 : m.wd ≤ 16777216
  h1 : -16777216 ≤ m.h
  h2 : m.h ≤ 16777216
def mkC (m : Mk) : List Value := [.int .i64 m.nd, .int .i64 m.c, .int .i64 m.x, .int .i64 m.y, .int .i64 m.wd, .int .i64 m.h, .string m.s]
def mksC (l : List Mk) : List Value := l.flatMap mkC
theorem mksC_snoc (l : List Mk) (x : Mk) : mksC (l ++ [x]) = mksC l ++ mkC x := by simp [mksC]
theorem mksC_get : ∀ (l : List Mk) (j f : Nat) (x : Mk), l[j]? = some x → f < 7 → (mksC l)[j * 7 + f]? = (mkC x)[f]?
  | [], j, f, x, h, _ => by simp at h
  | a :: r, 0, f, x, h, hf => by
    obtain rfl : a = x := by simpa using h
    unfold mksC
    rw [List.flatMap_cons, Nat.zero_mul, Nat.zero_add, List.getElem?_append_left (by simp [mkC]; omega)]
  | a :: r, j + 1, f, x, h, hf => by
    have ih := mksC_get r j f x (by simpa using h) hf
    unfold mksC at ih ⊢
    rw [List.flatMap_cons, List.getElem?_append_right (by simp [mkC]; omega), show (j + 1) * 7 + f - (mkC a).length = j * 7 + f by simp [mkC]; omega]
    exact ih
/-- a mark at a place -/
structure MkAt (w : World) (b o : Nat) (m : Mk) : Prop where
  lt : b < w.heap.size
  c0 : w.cell? ⟨b, o, none⟩ = some (.int .i64 m.nd)
  c1 : w.cell? ⟨b, o + 1, none⟩ = some (.int .i64 m.c)
  c2 : w.cell? ⟨b, o + 2, none⟩ = some (.int .i64 m.x)
  c3 : w.cell? ⟨b, o + 3, none⟩ = some (.int .i64 m.y)
  c4 : w.cell? ⟨b, o + 4, none⟩ = some (.int .i64 m.wd)
  c5 : w.cell? ⟨b, o + 5, none⟩ = some (.int .i64 m.h)
  c6 : w.cell? ⟨b, o + 6, none⟩ = some (.string m.s)
theorem MkAt.held {w w' : World} {b o : Nat} {m : Mk} (h : MkAt w b o m) {B : Nat} (hb : Below B w w') (hB : b < B) : MkAt w' b o m := by
  have hk := hb.block b hB
  exact ⟨Nat.lt_of_lt_of_le h.lt hb.size, (World.cell?_of_block (a := ⟨b, o, none⟩) hk).trans h.c0, (World.cell?_of_block (a := ⟨b, o + 1, none⟩) hk).trans h.c1, (World.cell?_of_block (a := ⟨b, o + 2, none⟩) hk).trans h.c2, (World.cell?_of_block (a := ⟨b, o + 3, none⟩) hk).trans h.c3, (World.cell?_of_block (a := ⟨b, o + 4, none⟩) hk).trans h.c4, (World.cell?_of_block (a := ⟨b, o + 5, none⟩) hk).trans h.c5, (World.cell?_of_block (a := ⟨b, o + 6, none⟩) hk).trans h.c6⟩
/-- marks that are read -/
def MksL (w : World) (v : Value) (l : List Mk) : Prop := ∃ a cap, v = .slice a l.length cap ∧ l.length ≤ cap ∧ cap ≤ 9223372036854775807 ∧ ∀ (j : Nat) (m : Mk), l[j]? = some m → m.s.size ≤ 9223372036854775807 ∧ ∃ b o, a = some ⟨b, o, none⟩ ∧ MkAt w b (o + j * 7) m
theorem MksL.below {w w' : World} {v : Value} {l : List Mk} (h : MksL w v l) (hb : Below w.heap.size w w') : MksL w' v l := by
  obtain ⟨a, cap, hv, h1, h2, hc⟩ := h
  refine ⟨a, cap, hv, h1, h2, fun j x hj => ?_⟩
  obtain ⟨e0, b, o, e1, e2⟩ := hc j x hj
  exact ⟨e0, b, o, e1, e2.held hb e2.lt⟩
theorem own_mks {w : World} {B : Nat} {v : Value} {xs : List Mk} (h : w.ownsRow B 28 7 v xs.length (mksC xs)) (hs : ∀ m ∈ xs, m.s.size ≤ 9223372036854775807) : MksL w v xs := by
  obtain ⟨hl, h | ⟨g, cap, cur, rfl, hg, hh, h1, h2, h3, h4⟩⟩ := h
  · obtain ⟨rfl, hn⟩ := h
    refine ⟨none, 0, by rw [hn], by omega, by omega, fun j x hj => ?_⟩
    have := (List.getElem?_eq_some_iff.1 hj).1
    omega
  · unfold maxLen at h2
    refine ⟨_, cap, rfl, h1, by omega, fun j x hj => ⟨hs x (List.mem_of_getElem? hj), g, 0, rfl, ?_⟩⟩
    have hc : ∀ (i : Nat) u, i < 7 → (mkC x)[i]? = some u → w.cell? ⟨g, 0 + j * 7 + i, none⟩ = some u := fun i u hi hu => by
      have hjl := (List.getElem?_eq_some_iff.1 hj).1
      have e := mksC_get xs j i x hj hi
      rw [hu] at e
      rw [cell_of_row w g _ _ _ _ hh, Nat.zero_add]
      have := congrArg (fun l => l[j * 7 + i]?) h4
      simp only [e] at this
      rw [List.getElem?_take_of_lt (by omega)] at this
      simpa using this
    exact ⟨ltH hh, hc 0 _ (by omega) rfl, hc 1 _ (by omega) rfl, hc 2 _ (by omega) rfl, hc 3 _ (by omega) rfl, hc 4 _ (by omega) rfl, hc 5 _ (by omega) rfl, hc 6 _ (by omega) rfl⟩

/-- whether a pixel's middle lies that far behind a place -/
def rchP (p place first size : Int) : Prop := place ≤ p * 64 + 32 ∧ 0 < size ∧ first ≤ p * 64 + 32 - place ∧ p * 64 + 32 - place < size
instance (p a b c : Int) : Decidable (rchP p a b c) := by unfold rchP; exact inferInstance
/-- how far down letters begin -/
def topN (m : Mk) : Int := if m.s.toList.isEmpty = true then 0 else m.h / 2
def inP (m : Mk) (x y : Nat) : Prop := rchP y m.y (topN m) m.h ∧ rchP x m.x 0 m.wd
instance (m : Mk) (x y : Nat) : Decidable (inP m x y) := by unfold inP; exact inferInstance
def pixS (x y : Nat) (c : Int) (m : Mk) : Int := if inP m x y then m.c else c
/-- the color of a pixel -/
def pixP (ms : List Mk) (x y : Nat) : Int := ms.foldl (pixS x y) (-1)
def picP (ms : List Mk) (W H : Nat) : List (List Int) := (List.range H).map fun y => (List.range W).map fun x => pixP ms x y
theorem pixP_take {ms : List Mk} {k x y : Nat} {m : Mk} (h : ms[k]? = some m) : pixP (ms.take (k + 1)) x y = pixS x y (pixP (ms.take k) x y) m := by
  unfold pixP
  rw [List.take_add_one, h]
  simp [List.foldl_append]
def sideN (n : Int) : Nat := (min (max n 0) 64).toNat
theorem sideN_le (n : Int) : sideN n ≤ 64 := by unfold sideN; omega
theorem sideN_eq (n : Int) : (sideN n : Int) = min (max n 0) 64 := by unfold sideN; omega
/-- the same, by a rect whose upper part is left out -/
theorem inP_rect {m : Mk} {x y : Nat} : inP m x y ↔ m.x ≤ (x : Int) * 64 + 32 ∧ (x : Int) * 64 + 32 < m.x + m.wd ∧ m.y + topN m ≤ (y : Int) * 64 + 32 ∧ (y : Int) * 64 + 32 < m.y + topN m + (m.h - topN m) := by
  unfold inP rchP topN
  split <;> omega

/-- a block by places -/
def BlkF (w : World) (g : Nat) (t : TypeId) (n : Nat) (F : Nat → Value) : Prop := w.heap[g]? = some (.cells ((List.range n).map F).toArray t (0, 0))
section
variable {w w' : World} {g n : Nat} {t : TypeId} {F G : Nat → Value}
theorem BlkF.lt (h : BlkF w g t n F) : g < w.heap.size := ltH h
theorem BlkF.cell (h : BlkF w g t n F) {k : Nat} (hk : k < n) : w.cell? ⟨g, k, none⟩ = some (F k) := by
  rw [cell_of_row _ _ _ _ _ _ h]
  simp [hk]
theorem BlkF.frz (h : BlkF w g t n F) (k : Nat) : w.frozen? ⟨g, k, none⟩ = false := by
  have h' : w.heap[g]? = _ := h
  simp [World.frozen?, h']
theorem BlkF.congr (h : BlkF w g t n F) (e : ∀ j, j < n → F j = G j) : BlkF w g t n G := by
  unfold BlkF at h ⊢
  rw [h]
  congr 3
  apply List.map_congr_left
  intro j hj
  exact e j (List.mem_range.1 hj)
theorem BlkF.set (h : BlkF w g t n F) (k : Nat) (v : Value) : BlkF (w.setCell ⟨g, k, none⟩ v) g t n (fun j => if j = k then v else F j) := by
  unfold BlkF
  rw [heap_setCell_same w g k _ t v h]
  congr 2
  apply Array.ext'
  rw [Array.toList_setIfInBounds]
  apply List.ext_getElem?
  intro j
  rw [List.getElem?_set]
  by_cases hj : j < n
  · by_cases e : k = j
    · subst e; simp [hj]
    · simp [e, hj, Ne.symm e]
  · by_cases e : k = j
    · subst e
      rw [if_pos rfl, if_neg (by simp; omega), List.getElem?_eq_none (by simp; omega)]
    · rw [if_neg e, List.getElem?_eq_none (by simp; omega), List.getElem?_eq_none (by simp; omega)]
theorem BlkF.other (h : BlkF w g t n F) {g2 : Nat} (hg : g ≠ g2) (k : Nat) (v : Value) : BlkF (w.setCell ⟨g2, k, none⟩ v) g t n F := by
  unfold BlkF
  rw [heap_setCell_other w ⟨g2, k, none⟩ g v hg]
  exact h
theorem BlkF.below {B : Nat} (h : BlkF w g t n F) (hb : Below B w w') (hg : g < B) : BlkF w' g t n F := (hb.block g hg).trans h
theorem BlkF.ints {f : Nat → Int} (h : BlkF w g 3 n (fun j => .int .i64 (f j))) (hn : n ≤ 9223372036854775807) {l : List Int} (hl : l = (List.range n).map f) : IntL w (.slice (some ⟨g, 0, none⟩) n n) l := by
  subst hl
  refine ⟨_, n, by simp, by simp, hn, fun j x hj => ⟨g, 0, rfl, h.lt, ?_⟩⟩
  have hjl : j < n := by have := (List.getElem?_eq_some_iff.1 hj).1; simpa using this
  rw [Nat.zero_add, h.cell hjl]
  rw [List.getElem?_map, List.getElem?_range hjl] at hj
  cases hj; rfl
end
theorem own_blk {w : World} {B g n : Nat} {t : TypeId} {z : Value} (h : w.ownsRow B t 1 (.slice (some ⟨g, 0, none⟩) n n) n (List.replicate n z)) : BlkF w g t n (fun _ => z) := by
  obtain ⟨hl, ⟨h, _⟩ | ⟨g', cap', cur, hv, hg, hh, h1, h2, h3, h4⟩⟩ := h
  · cases h
  · cases hv
    unfold BlkF
    rw [hh]
    congr 2
    apply Array.ext'
    rw [List.take_of_length_le (by rw [Array.length_toList]; omega)] at h4
    rw [h4]
    apply List.ext_getElem?
    intro j
    by_cases hj : j < n
    · simp [hj]
    · rw [List.getElem?_eq_none (by simp; omega), List.getElem?_eq_none (by simp; omega)]
theorem make_row (w : World) (n : Nat) (hn : n ≤ 64) : ∃ w1, (Instr.makeSlice 34 (.int .i64 (n : Int)) (.int .i64 (n : Int))).run Try.prog w = .ok (.slice (some ⟨w.heap.size, 0, none⟩) n n) w1 ∧ BlkF w1 w.heap.size 3 n (fun _ => .int .i64 0) ∧ Below w.heap.size w w1 := by
  obtain ⟨i0, hi, hz0, hz1, hz2⟩ := info_parts Try.infoInt
  obtain ⟨w1, h1, h2, h3⟩ := run_make_full (P := Try.prog) w w.heap.size 34 3 i0 (.int .i64 0) 1 Try.underlying34 hi hz0 hz1 .i64 .i64 n (by rw [hz2]; omega) (by unfold maxLen; omega) (Nat.le_refl _)
  refine ⟨w1, h1, own_blk (B := w.heap.size) ?_, ⟨h3.os, h3.tape, h3.output, h3.size, fun k hk => h3.block k hk (by simp)⟩⟩
  rw [show (Value.int .i64 0).cells = #[.int .i64 0] from rfl, toList_madeCells_one, Nat.mul_one] at h2
  exact h2
theorem make_rows (w : World) (n : Nat) (hn : n ≤ 64) : ∃ w1, (Instr.makeSlice 30 (.int .i64 (n : Int)) (.int .i64 (n : Int))).run Try.prog w = .ok (.slice (some ⟨w.heap.size, 0, none⟩) n n) w1 ∧ BlkF w1 w.heap.size 34 n (fun _ => .slice none 0 0) ∧ Below w.heap.size w w1 := by
  obtain ⟨i0, hi, hz0, hz1, hz2⟩ := info_parts Try.infoInts
  obtain ⟨w1, h1, h2, h3⟩ := run_make_full (P := Try.prog) w w.heap.size 30 34 i0 (.slice none 0 0) 1 Try.underlying30 hi hz0 hz1 .i64 .i64 n (by rw [hz2]; omega) (by unfold maxLen; omega) (Nat.le_refl _)
  refine ⟨w1, h1, own_blk (B := w.heap.size) ?_, ⟨h3.os, h3.tape, h3.output, h3.size, fun k hk => h3.block k hk (by simp)⟩⟩
  rw [show (Value.slice none 0 0).cells = #[.slice none 0 0] from rfl, toList_madeCells_one, Nat.mul_one] at h2
  exact h2

/-- a picture in memory -/
structure Pic (w : World) (B r H W : Nat) (rb : Nat → Nat) (F : Nat → Nat → Int) : Prop where
  top : BlkF w r 34 H (fun y => .slice (some ⟨rb y, 0, none⟩) W W)
  row : ∀ y, y < H → BlkF w (rb y) 3 W (fun x => .int .i64 (F y x))
  lo : B ≤ r
  los : ∀ y, y < H → B ≤ rb y
  ne : ∀ y, y < H → rb y ≠ r
  inj : ∀ y y', y < H → y' < H → rb y = rb y' → y = y'
section
variable {w w' : World} {B r H W : Nat} {rb : Nat → Nat} {F G : Nat → Nat → Int}
theorem Pic.held (h : Pic w B r H W rb F) (hb : Below w.heap.size w w') : Pic w' B r H W rb F :=
  ⟨h.top.below hb h.top.lt, fun y hy => (h.row y hy).below hb (h.row y hy).lt, h.lo, h.los, h.ne, h.inj⟩
theorem Pic.congr (h : Pic w B r H W rb F) (e : ∀ y x, y < H → x < W → F y x = G y x) : Pic w B r H W rb G :=
  ⟨h.top, fun y hy => (h.row y hy).congr (fun x hx => by rw [e y x hy hx]), h.lo, h.los, h.ne, h.inj⟩
theorem Pic.set (h : Pic w B r H W rb F) {y x : Nat} (hy : y < H) (c : Int) : Pic (w.setCell ⟨rb y, x, none⟩ (.int .i64 c)) B r H W rb (fun a b => if a = y ∧ b = x then c else F a b) := by
  refine ⟨h.top.other (Ne.symm (h.ne y hy)) _ _, fun a ha => ?_, h.lo, h.los, h.ne, h.inj⟩
  by_cases e : a = y
  · subst e
    refine ((h.row a ha).set x (.int .i64 c)).congr fun j _ => ?_
    by_cases ej : j = x <;> simp [ej]
  · exact ((h.row a ha).other (fun e2 => e (h.inj a y ha hy e2)) _ _).congr (fun j _ => by simp [e])
theorem Pic.rows (h : Pic w B r H W rb F) (hH : H ≤ 64) (hW : W ≤ 64) {ls : List (List Int)} (hl : ls = (List.range H).map fun y => (List.range W).map fun x => F y x) : RowsL w (.slice (some ⟨r, 0, none⟩) H H) ls := by
  subst hl
  refine ⟨some ⟨r, 0, none⟩, H, by simp, by simp, by omega, fun j l hj => ?_⟩
  have hjl : j < H := by have := (List.getElem?_eq_some_iff.1 hj).1; simpa using this
  rw [List.getElem?_map, List.getElem?_range hjl] at hj
  cases hj
  exact ⟨r, 0, _, rfl, h.top.lt, by rw [Nat.zero_add]; exact h.top.cell hjl, (h.row j hjl).ints (by omega) rfl⟩
end
end Go.Proofs.Ytpkdigjejijiiaa
