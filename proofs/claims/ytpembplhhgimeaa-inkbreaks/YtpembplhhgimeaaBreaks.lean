/- What ink.Breaks and the document's Breaks answer of texts of at most 3000 bytes: the same places, in a slice of their own; and what sameInts answers of two equal lists. -/
import Derived.Test.YtpembplhhgimeaaMay
import Derived.Test.YtpembplhhgimeaaWidth
import Derived.WalkSmall
import Derived.OneCell
import Derived.Deep.QuietTactic
import Derived.BigQuiet
namespace Go.Proofs.Ytpembplhhgimeaa
open Go.RowKit

/-- the last two runes, and the places at which a line may end -/
def brkStep (t : (Int × Int) × List Nat) (x : Nat × Nat) : (Int × Int) × List Nat := ((t.1.2, (x.2 : Int)), if may t.1.1 t.1.2 x.2 = true then t.2 ++ [x.1] else t.2)
def brkOf (l : List (Nat × Nat)) : (Int × Int) × List Nat := l.foldl brkStep ((-1, -1), [])
theorem brk_snoc (l : List (Nat × Nat)) (x : Nat × Nat) : brkOf (l ++ [x]) = brkStep (brkOf l) x := by simp [brkOf]
theorem brk_len : ∀ l : List (Nat × Nat), (brkOf l).2.length ≤ l.length := by
  intro l
  have : ∀ (l : List (Nat × Nat)) t, (l.foldl brkStep t).2.length ≤ t.2.length + l.length := by
    intro l
    induction l with
    | nil => intro t; simp
    | cons x l ih =>
      intro t
      have := ih (brkStep t x)
      have h2 : (brkStep t x).2.length ≤ t.2.length + 1 := by simp only [brkStep]; split <;> simp
      rw [List.foldl_cons, List.length_cons]; omega
  simpa [brkOf] using this l ((-1, -1), [])

def natV (n : Nat) : Value := .int .i64 (n : Int)

/-- the cells of a block of two -/
theorem two_cells {X : World} {B : Nat} {c a : Value} {t : TypeId} (h : X.heap[B]? = some (.cells #[c, a] t (0, 0))) : X.cell? ⟨B, 0, none⟩ = some c ∧ X.cell? ⟨B, 1, none⟩ = some a ∧ X.frozen? ⟨B, 0, none⟩ = false ∧ X.frozen? ⟨B, 1, none⟩ = false := by
  refine ⟨?_, ?_, ?_, ?_⟩
  · rw [cell_of_row X B 0 _ t (0, 0) h]; rfl
  · rw [cell_of_row X B 1 _ t (0, 0) h]; rfl
  · simp [World.frozen?, h]
  · simp [World.frozen?, h]

theorem below_grownBy {w w' : World} (h : Below w.heap.size w w') (row : Option Nat) : w.grownBy w' row := ⟨h.os, h.tape, h.output, h.size, fun k hk _ => h.block k hk⟩
theorem own_below {w w' : World} {base : Nat} {e : TypeId} {size : Nat} {v : Value} {n : Nat} {xs : List Value} (h : w.ownsRow base e size v n xs) (hb : Below w.heap.size w w') : w'.ownsRow base e size v n xs :=
  h.kept (below_grownBy hb none) (by cases v.ownBlock <;> simp)
theorem heap_below {w w' : World} {k : Nat} {o : Obj} (h : w.heap[k]? = some o) (hb : Below w.heap.size w w') : w'.heap[k]? = some o :=
  (hb.block k (Array.getElem?_eq_some_iff.1 h).1).trans h

theorem set_two {X : World} {B : Nat} {c a x y : Value} {t : TypeId} (h : X.heap[B]? = some (.cells #[c, a] t (0, 0))) : ((X.setCell ⟨B, 0, none⟩ x).setCell ⟨B, 1, none⟩ y).heap[B]? = some (.cells #[x, y] t (0, 0)) := by
  have h1 : (X.setCell ⟨B, 0, none⟩ x).heap[B]? = some (.cells #[x, a] t (0, 0)) := by
    rw [heap_setCell_same X B 0 _ t x h]; rfl
  rw [heap_setCell_same _ B 1 _ t y h1]; rfl

/-- what a round leaves: the last two runes are set, all else of the round's own stays -/
theorem round_end {w X : World} {v : Value} {n pos : Nat} {s : ByteArray} {xs : List Value} {c a x y : Value} (hlast : X.heap[w.heap.size]? = some (.cells #[c, a] 33 (0, 0))) (hit : X.heap[w.heap.size + 1]? = some (.stringIter s pos)) (hown : X.ownsRow (w.heap.size + 2) 3 1 v n xs) (hb : Below w.heap.size w X) :
    ((X.setCell ⟨w.heap.size, 0, none⟩ x).setCell ⟨w.heap.size, 1, none⟩ y).heap[w.heap.size]? = some (.cells #[x, y] 33 (0, 0)) ∧
    ((X.setCell ⟨w.heap.size, 0, none⟩ x).setCell ⟨w.heap.size, 1, none⟩ y).heap[w.heap.size + 1]? = some (.stringIter s pos) ∧
    ((X.setCell ⟨w.heap.size, 0, none⟩ x).setCell ⟨w.heap.size, 1, none⟩ y).ownsRow (w.heap.size + 2) 3 1 v n xs ∧
    Below w.heap.size w ((X.setCell ⟨w.heap.size, 0, none⟩ x).setCell ⟨w.heap.size, 1, none⟩ y) := by
  have hne : ∀ i, v.ownBlock ≠ some (⟨w.heap.size, i, none⟩ : Addr).block := by
    intro i e
    have := (hown.lt _ e).1
    simp at this
    omega
  refine ⟨set_two hlast, ?_, ownsRow_setCell_other (ownsRow_setCell_other hown (hne 0) _) (hne 1) _, (hb.setCell (Nat.le_refl _) _).setCell (Nat.le_refl _) _⟩
  rw [Below.heap_setCell _ _ _ _ (by simp), Below.heap_setCell _ _ _ _ (by simp)]
  exact hit

set_option maxHeartbeats 2000000 in
set_option maxRecDepth 100000 in
theorem inkBreaks_any (s : ByteArray) (hs : s.size ≤ 3000) (w : World) :
    Calls Try.prog 13 #[.string s] w fun e w' => ∃ v, e = .returned v ∧ w'.ownsRow w.heap.size 3 1 v (brkOf (runes s)).2.length ((brkOf (runes s)).2.map natV) ∧ Below w.heap.size w w' := by
  obtain ⟨i0, hi, hz0, hz1, hz2⟩ := info_parts Try.info3
  go_enter Try.func13, Try.ntmps13
  go_wp2
  go_loopw [3] (fun v wr => ∃ (pos fuel : Nat) (acc : List (Nat × Nat)) (c a : Int), wr.heap[w.heap.size]? = some (.cells #[.int .i32 c, .int .i32 a] 33 (0, 0)) ∧ wr.heap[w.heap.size + 1]? = some (.stringIter s pos) ∧ wr.ownsRow (w.heap.size + 2) 3 1 v (brkOf acc).2.length ((brkOf acc).2.map natV) ∧ Below w.heap.size w wr ∧ Hid ((brkOf acc).1 = (c, a)) ∧ Hid (acc ++ runesFrom s fuel pos = runes s) ∧ s.size ≤ pos + fuel) (fun _ wr => s.size - wr.iterPos (w.heap.size + 1))
  case atStart =>
    refine ⟨0, s.size, [], -1, -1, ?_, ?_, World.ownsRow_nil _ _ _ _, ((Below.refl _ w).alloc (Nat.le_refl _) _).alloc (by simp) _, rfl, rfl, by omega⟩
    · exact (Below.heap_alloc _ _ _ (by simp)).trans (heap_alloc_new w _)
    · have := World.iter_heap (w.alloc (.cells #[.int .i32 (-1), .int .i32 (-1)] 33)) s 0
      simpa using this
  case round =>
    obtain ⟨pos, fuel, acc, c, a, hlast, hit, hown, hbw, hst, hacc, hfu⟩ := hrel
    have hsz : w.heap.size + 1 < wr.heap.size := (Array.getElem?_eq_some_iff.1 hit).1
    have hle := runes_of s acc fuel pos hacc
    have hbl := brk_len acc
    by_cases hp : pos < s.size
    · have hnx : ∀ ty, (Instr.next (.pointer (some ⟨w.heap.size + 1, 0, none⟩)) true ty).run Try.prog wr = _ := fun ty => Lib.run_next_any_at wr (w.heap.size + 1) s pos ty hit hp
      have hwd := decode_pos s pos hp
      have hd1 := decode_le s pos
      have hit1 := Lib.iterAt_heap wr (w.heap.size + 1) s pos (pos + (Utf8.decode s pos).2) hit
      have hlast1 := (Lib.iterAt_other wr (w.heap.size + 1) w.heap.size s (pos + (Utf8.decode s pos).2) (by omega)).trans hlast
      have hown1 := ownsRow_iterAt hown (k := w.heap.size + 1) (by omega) s (pos + (Utf8.decode s pos).2)
      have hbw1 := Lib.below_iterAt hbw (k := w.heap.size + 1) (by omega) s (pos + (Utf8.decode s pos).2)
      have hzz := Lib.iterAt_size wr (w.heap.size + 1) s (pos + (Utf8.decode s pos).2)
      obtain ⟨k0, k1, _, _⟩ := two_cells hlast1
      obtain ⟨f, rfl⟩ : ∃ f, fuel = f + 1 := ⟨fuel - 1, by omega⟩
      go_wp2_with fail
      refine (mayEnd_any _ _ _ _).mono ?_
      rintro e W2 ⟨rfl, hb2⟩
      have hit2 := heap_below hit1 hb2
      have hlast2 := heap_below hlast1 hb2
      have hown2 := own_below hown1 hb2
      have hbw2 := hbw1.trans (hb2.mono (by rw [hzz]; omega))
      have hz2' : w.heap.size + 2 ≤ W2.heap.size := by have := hb2.size; rw [hzz] at this; omega
      obtain ⟨j0, j1, f0, f1⟩ := two_cells hlast2
      clear hit1 hlast1 hown1 hbw1 hb2 hzz hnx k0 k1 hlast hown hbw
      by_cases hm : may c a ((Utf8.decode s pos).1 : Int) = true
      · go_wp2_with (at_builtin; refine wpList_append_own_at _ rfl (.tmp 17) (.tmp 19) 26 rfl (w.heap.size + 2) 3 i0 (.int .i64 0) 1 8 Try.underlying26 hi hz0 hz1 hz2 rfl (by decide) _ _ _ rfl (hown2.alloc _) ⟨_, 0, none⟩ 1 1 [.int .i64 pos] rfl rfl (cell_one_new _ _ _) (by simp [Value.oneCell']) (by unfold maxLen; omega) (by omega) (by simp; omega) ?_; intro v1 w1 hv1 hg1 _ _; have hneq : ∀ k, k < w.heap.size + 2 → some k ≠ u3.ownBlock := fun k hk e => (by have := (hown2.lt k e.symm).1; omega); have hit3 := (hg1.block (w.heap.size + 1) (by simp; omega) (hneq _ (by omega))).trans ((Below.heap_alloc _ _ _ (by omega)).trans hit2); have hlast3 := (hg1.block w.heap.size (by simp; omega) (hneq _ (by omega))).trans ((Below.heap_alloc _ _ _ (by omega)).trans hlast2); have hbw3 := (hbw2.alloc (by omega) _).grown hg1 (by simp; omega) (fun k hk => (by have := (hown2.lt k hk).1; omega)); obtain ⟨q0, q1, fq0, fq1⟩ := two_cells hlast3; clear hg1 hneq hit2 hlast2 hown2 hbw2 j0 j1 f0 f1)
        obtain ⟨r1, r2, r3, r4⟩ := round_end (x := .int .i32 a) (y := .int .i32 ((Utf8.decode s pos).1 : Int)) hlast3 hit3 hv1 hbw3
        go_roundw
        case rel =>
          go_light
          refine ⟨pos + (Utf8.decode s pos).2, f, acc ++ [(pos, (Utf8.decode s pos).1)], a, _, r1, r2, ?_, r4, ?_, ?_, by omega⟩
          · rw [brk_snoc]
            simp only [brkStep, hst.out, hm, if_true, List.length_append, List.map_append]
            exact r3
          · show _ = _
            rw [brk_snoc]
            simp only [brkStep, hst.out]
          · have := hacc.out
            rw [runesFrom_step s f pos hp] at this
            show _ = _
            rw [List.append_assoc]; exact this
        case measure =>
          go_light
          simp only [World.iterPos, r2, hit]
          omega
      · have hm' : may c a ((Utf8.decode s pos).1 : Int) = false := by simpa using hm
        go_wp2
        obtain ⟨r1, r2, r3, r4⟩ := round_end (x := .int .i32 a) (y := .int .i32 ((Utf8.decode s pos).1 : Int)) hlast2 hit2 hown2 hbw2
        go_roundw
        case rel =>
          go_light
          refine ⟨pos + (Utf8.decode s pos).2, f, acc ++ [(pos, (Utf8.decode s pos).1)], a, _, r1, r2, ?_, r4, ?_, ?_, by omega⟩
          · rw [brk_snoc]
            simp only [brkStep, hst.out, hm]
            exact r3
          · show _ = _
            rw [brk_snoc]
            simp only [brkStep, hst.out]
          · have := hacc.out
            rw [runesFrom_step s f pos hp] at this
            show _ = _
            rw [List.append_assoc]; exact this
        case measure =>
          go_light
          simp only [World.iterPos, r2, hit]
          omega
    · have hnx : ∀ ty, (Instr.next (.pointer (some ⟨w.heap.size + 1, 0, none⟩)) true ty).run Try.prog wr = _ := fun ty => Lib.run_next_end_at wr (w.heap.size + 1) s pos ty hit hp
      have e : acc = runes s := by have := hacc.out; rw [runesFrom_end s fuel pos hp, List.append_nil] at this; exact this
      have E : Hid (acc = runes s) := e
      clear e
      go_wp2
      go_ret
      exact ⟨_, rfl, E.out ▸ ⟨hown.1, hown.2.imp id fun ⟨g, cap, cur, h1, h2, h3⟩ => ⟨g, cap, cur, h1, by omega, h3⟩⟩, hbw⟩

/-- the last two runes of a list's head -/
theorem brk_last (l : List (Nat × Nat)) (k : Nat) (h1 : 1 ≤ k) (h2 : k ≤ l.length) : (brkOf (l.take k)).1 = ((if h : 2 ≤ k then ((l[k - 2]'(by omega)).2 : Int) else -1), ((l[k - 1]'(by omega)).2 : Int)) := by
  obtain ⟨j, rfl⟩ : ∃ j, k = j + 1 := ⟨k - 1, by omega⟩
  rw [List.take_succ_eq_append_getElem (by omega), brk_snoc]
  simp only [brkStep, Nat.add_sub_cancel]
  refine Prod.ext ?_ rfl
  simp only []
  by_cases hj : 2 ≤ j + 1
  · obtain ⟨i, rfl⟩ : ∃ i, j = i + 1 := ⟨j - 1, by omega⟩
    rw [dif_pos hj, List.take_succ_eq_append_getElem (by omega), brk_snoc]
    simp only [brkStep]
    rfl
  · have : j = 0 := by omega
    subst this
    rw [dif_neg hj]
    rfl

theorem own_base {w : World} {B B' n : Nat} {v : Value} {xs : List Value} (h : w.ownsRow B 3 1 v n xs) (hb : B' ≤ B) : w.ownsRow B' 3 1 v n xs :=
  ⟨h.1, h.2.imp id fun ⟨g, cap, cur, h1, h2, h3⟩ => ⟨g, cap, cur, h1, Nat.le_trans hb h2, h3⟩⟩

set_option maxHeartbeats 2000000 in
set_option maxRecDepth 100000 in
theorem refBreaks_any (s : ByteArray) (hs : s.size ≤ 3000) (w : World) :
    Calls Try.prog 14 #[.string s] w fun e w' => ∃ v, e = .returned v ∧ w'.ownsRow w.heap.size 3 1 v (brkOf (runes s)).2.length ((brkOf (runes s)).2.map natV) ∧ Below w.heap.size w w' := by
  obtain ⟨i0, hi, hz0, hz1, hz2⟩ := info_parts Try.info3
  have hl := runes_length s
  go_enter Try.func14, Try.ntmps14
  go_wp2_with (go_at_call 15; refine (runes_any s (by omega) _).mono ?_; rintro e w1 ⟨v, u, rfl, hv, hu, hb⟩)
  have hb1 := hb.size
  rcases row_open hv with ⟨rfl, h0⟩ | ⟨g, cap, rfl, hBg, hg, hcap, hcv⟩
  · clear hv hu
    have e0 : runes s = [] := List.eq_nil_of_length_eq_zero h0
    have E : Hid (runes s = []) := e0
    clear e0 h0
    go_loop [5, 6] (fun t i => t = .slice none 0 0 ∧ i = .int .i64 1) (fun _ _ => 0)
    case atStart => exact ⟨rfl, rfl⟩
    case round =>
      obtain ⟨rfl, rfl⟩ := hrel
      go_wp2
      go_ret
      refine ⟨_, rfl, ?_, hb⟩
      rw [E.out]
      exact World.ownsRow_nil _ _ _ _
  rcases row_open hu with ⟨rfl, h0⟩ | ⟨g2, cap2, rfl, hBg2, hg2, hcap2, hcu⟩
  · clear hv hu
    have e0 : runes s = [] := List.eq_nil_of_length_eq_zero h0
    have E : Hid (runes s = []) := e0
    have h0' : ((runes s).length : Int) = 0 := by omega
    clear e0 h0 hcv
    go_loop [5, 6] (fun t i => t = .slice none 0 0 ∧ i = .int .i64 1) (fun _ _ => 0)
    case atStart => exact ⟨rfl, rfl⟩
    case round =>
      obtain ⟨rfl, rfl⟩ := hrel
      go_wp2
      go_ret
      refine ⟨_, rfl, ?_, hb⟩
      rw [E.out]
      exact World.ownsRow_nil _ _ _ _
  clear hv hu
  have hr : ∀ k (h : k < (runes s).length), (runes s)[k].2 ≤ 2147483647 := fun k h => rune_le s _ _ _ (List.getElem_mem h)
  have hc1 : ∀ k (h : k < (runes s).length), w1.cell? ⟨g, k, none⟩ = some (.int .i64 ((runes s)[k].2 : Int)) := fun k h => hcv k _ (by simp [runeV, List.getElem?_eq_getElem h])
  have hc2 : ∀ k (h : k < (runes s).length), w1.cell? ⟨g2, k, none⟩ = some (.int .i64 ((runes s)[k].1 : Int)) := fun k h => hcu k _ (by simp [placeV, List.getElem?_eq_getElem h])
  clear hcv hcu
  have brk1 : (brkOf ((runes s).take 1)).2 = [] := by
    cases runes s with
    | nil => rfl
    | cons x l =>
      have hm : may (-1) (-1) (x.2 : Int) = false := by simp [may, wideB]
      simp [brkOf, brkStep, hm]
  go_loopw [5, 6] (fun o i wr => ∃ k : Nat, 1 ≤ k ∧ (k = 1 ∨ k ≤ (runes s).length) ∧ i = .int .i64 k ∧ wr.ownsRow w1.heap.size 3 1 o (brkOf ((runes s).take k)).2.length ((brkOf ((runes s).take k)).2.map natV) ∧ Below w1.heap.size w1 wr) (fun _ i _ => (runes s).length - (intOf i).toNat)
  case atStart => exact ⟨1, Nat.le_refl _, .inl rfl, rfl, by rw [brk1]; exact World.ownsRow_nil _ _ _ _, Below.refl _ _⟩
  case round =>
    obtain ⟨k, hk1, hk, rfl, hown, hbr⟩ := hrel
    clear brk1
    have hbs := hbr.size
    have hbl := brk_len ((runes s).take k)
    have hlk : ((runes s).take k).length ≤ k := List.length_take_le _ _
    by_cases hlt : k < (runes s).length
    · have hk2 : k ≤ (runes s).length := by omega
      have hlast := brk_last (runes s) k hk1 hk2
      have ca : wr.cell? ⟨g, k - 1, none⟩ = some (.int .i64 ((runes s)[k - 1].2 : Int)) := (hbr.cell (p := ⟨g, k - 1, none⟩) hg).trans (hc1 (k - 1) (by omega))
      have cb : wr.cell? ⟨g, k, none⟩ = some (.int .i64 ((runes s)[k].2 : Int)) := (hbr.cell (p := ⟨g, k, none⟩) hg).trans (hc1 k hlt)
      have cp : wr.cell? ⟨g2, k, none⟩ = some (.int .i64 ((runes s)[k].1 : Int)) := (hbr.cell (p := ⟨g2, k, none⟩) hg2).trans (hc2 k hlt)
      have cc : 2 ≤ k → wr.cell? ⟨g, k - 2, none⟩ = some (.int .i64 (if h : 2 ≤ k then ((runes s)[k - 2].2 : Int) else -1)) := fun h => by rw [dif_pos h]; exact (hbr.cell (p := ⟨g, k - 2, none⟩) hg).trans (hc1 (k - 2) (by omega))
      have cn : ¬ 2 ≤ k → (if h : 2 ≤ k then ((runes s)[k - 2].2 : Int) else -1) = -1 := fun h => by rw [dif_neg h]
      have ra := hr (k - 1) (by omega)
      have rb := hr k hlt
      have htk : (runes s).take (k + 1) = (runes s).take k ++ [(runes s)[k]] := List.take_succ_eq_append_getElem hlt
      generalize (if h : 2 ≤ k then ((runes s)[k - 2].2 : Int) else -1) = c at *
      generalize (runes s)[k - 1].2 = a at *
      obtain ⟨x, hx⟩ : ∃ x, (runes s)[k] = x := ⟨_, rfl⟩
      rw [hx] at cb cp rb htk
      clear hx hc1 hc2 hr
      obtain ⟨p, b⟩ := x
      simp only [] at cb cp rb
      have HK : Hid ((runes s).take (k + 1) = (runes s).take k ++ [(p, b)]) := htk
      have HL : Hid ((brkOf ((runes s).take k)).1 = (c, (a : Int))) := hlast
      clear htk hlast
      have hbt := between_any g (runes s).length cap k a b c wr hk1 hlt (by omega) (by omega) ca cb cc cn (by omega) (by omega)
      have HB : Hid (Calls Try.prog 20 #[.slice (some ⟨g, 0, none⟩) (runes s).length cap, .int .i64 k] wr fun e w' => e = .returned (.bool (may c a b)) ∧ Below wr.heap.size wr w') := hbt
      clear hbt ca cb cc cn
      go_wp2_with fail
      refine HB.out.mono ?_
      rintro e W2 ⟨rfl, hb2⟩
      have hown2 := own_below hown hb2
      have hbr2 := hbr.trans (hb2.mono hbs)
      have cp2 : W2.cell? ⟨g2, k, none⟩ = some (.int .i64 (p : Int)) := (hb2.cell (p := ⟨g2, k, none⟩) (Nat.lt_of_lt_of_le hg2 hbs)).trans cp
      have hsz2 : w1.heap.size ≤ W2.heap.size := hbr2.size
      clear hown hbr hb2 cp HB
      by_cases hm : may c a b = true
      · go_wp2_with (at_builtin; refine wpList_append_own_at _ rfl (.tmp 23) (.tmp 28) 26 rfl w1.heap.size 3 i0 (.int .i64 0) 1 8 Try.underlying26 hi hz0 hz1 hz2 rfl (by decide) _ _ _ rfl (hown2.alloc _) ⟨_, 0, none⟩ 1 1 [.int .i64 p] rfl rfl (cell_one_new _ _ _) (by simp [Value.oneCell']) (by unfold maxLen; omega) (by omega) (by simp; omega) ?_; intro v1 W3 hv1 hg1 _ _; have hbr3 := (hbr2.alloc hsz2 _).grown hg1 (by simp; omega) (fun k hk => (hown2.lt k hk).1); clear hg1 hown2 hbr2)
        go_roundw
        case rel =>
          go_light
          refine ⟨k + 1, by omega, .inr (by omega), by go_num, ?_, hbr3⟩
          rw [HK.out, brk_snoc]
          simp only [brkStep, HL.out, hm, if_true, List.length_append, List.map_append]
          exact hv1
        case measure => go_light; simp [intOf]; omega
      · have hm' : may c a b = false := by simpa using hm
        go_wp2
        go_roundw
        case rel =>
          go_light
          refine ⟨k + 1, by omega, .inr (by omega), by go_num, ?_, hbr2⟩
          rw [HK.out, brk_snoc]
          simp only [brkStep, HL.out, hm]
          exact hown2
        case measure => go_light; simp [intOf]; omega
    · have E : Hid ((runes s).take k = runes s) := by show _ = _; exact List.take_of_length_le (by omega)
      go_wp2
      go_ret
      refine ⟨_, rfl, ?_, hb.trans (hbr.mono hb1)⟩
      rw [E.out] at hown
      exact own_base hown hb1
end Go.Proofs.Ytpembplhhgimeaa
