/- Numbers in a block, as they are sorted by turns. -/
import Derived.Test.YtlfepdecgfcifaaGreatDoorM18
import Derived.BigQuiet
import Derived.Deep.RegionLaw
import Derived.Deep.RegionHeld3
import Derived.Deep.RegionHeldLaw
namespace Go.Proofs.YtlfepdecgfcifaaGreatDoor
open Go.RowKit
set_option linter.unusedVariables false      -- bounds that are for the walk
variable [OX : OrdX]

/-- numbers by places -/
def NdB (w : World) (g n : Nat) (D : Nat → Int) : Prop := ∃ arr, w.heap[g]? = some (.cells arr 3 (0, 0)) ∧ arr.size = OX.sz ∧ ∀ j : Nat, j < n → arr[j]? = some (.int .i64 (D j))
section
variable {w w' : World} {g n : Nat} {D D' : Nat → Int}
theorem NdB.lt (h : NdB w g n D) : g < w.heap.size := by
  obtain ⟨arr, h, _⟩ := h
  exact ltH h
theorem NdB.at (h : NdB w g n D) {k : Nat} (hk : k < n) : w.cell? ⟨g, k, none⟩ = some (.int .i64 (D k)) := by
  obtain ⟨arr, h, hz, h2⟩ := h
  rw [cell_of_row w g _ _ _ _ h]
  exact h2 k hk
theorem NdB.frz (h : NdB w g n D) (k : Nat) : w.frozen? ⟨g, k, none⟩ = false := by
  obtain ⟨arr, h, _⟩ := h
  simp [World.frozen?, h]
theorem NdB.congr (h : NdB w g n D) (e : ∀ j, j < n → D j = D' j) : NdB w g n D' := by
  obtain ⟨arr, h, hz, h2⟩ := h
  exact ⟨arr, h, hz, fun j hj => by rw [← e j hj]; exact h2 j hj⟩
theorem NdB.keep (h : NdB w g n D) (e : w'.heap[g]? = w.heap[g]?) : NdB w' g n D := by
  obtain ⟨arr, h, h2⟩ := h
  exact ⟨arr, e.trans h, h2⟩
theorem NdB.held (h : NdB w g n D) (hb : Below w.heap.size w w') : NdB w' g n D := h.keep (hb.block g h.lt)
theorem NdB.put (h : NdB w g n D) (x : Nat) (hx : x < n) (v : Int) : NdB (w.setCell ⟨g, x, none⟩ (.int .i64 v)) g n (fun k => if k = x then v else D k) := by
  obtain ⟨arr, h, hz, h2⟩ := h
  have e0 := heap_setCell_same w g x arr 3 (.int .i64 v) h
  refine ⟨_, e0, by simpa using hz, fun j hj => ?_⟩
  have b1 := h2 x hx
  have hs : x < arr.size := by
    rcases Nat.lt_or_ge x arr.size with h | h
    · exact h
    · rw [Array.getElem?_eq_none h] at b1; cases b1
  have a1 := h2 j hj
  by_cases e : j = x
  · subst e
    simp only [if_pos]
    rw [Array.getElem?_setIfInBounds_self_of_lt (by omega)]
  · simp only [if_neg e]
    rw [Array.getElem?_setIfInBounds_ne (by omega)]; exact a1
end
/-- while numbers are sorted: those that were there, as tags tell; the map of turns -/
structure SoAt (w wr : World) (g n : Nat) (D : Nat → Int) (t : Tg) : Prop where
  row : NdB wr g n (fun k => D (t k))
  keep : KeepM w g wr
  mp : MapK wr
  ne1 : OX.mb ≠ g
  ne2 : OX.mo ≠ g
  dm : ∀ k, 0 ≤ D k ∧ D k ≤ 1000000
section
variable {w wr W : World} {g n : Nat} {D : Nat → Int} {t : Tg}
theorem SoAt.held (h : SoAt w wr g n D t) (hb : Below wr.heap.size wr W) : SoAt w W g n D t := ⟨h.row.held hb, h.keep.trans (KeepM.of_below hb), h.mp.held hb, h.ne1, h.ne2, h.dm⟩
theorem SoAt.trans {w1 : World} {t' : Tg} (h : SoAt w w1 g n D t) (h2 : SoAt w1 W g n D t') : SoAt w W g n D t' := ⟨h2.row, h.keep.trans h2.keep, h2.mp, h2.ne1, h2.ne2, h2.dm⟩
theorem SoAt.refl (h : SoAt w wr g n D t) : SoAt wr wr g n D t := ⟨h.row, KeepM.refl _ _, h.mp, h.ne1, h.ne2, h.dm⟩
theorem SoAt.swap (h : SoAt w wr g n D t) {x y : Nat} (hx : x < n) (hy : y < n) : SoAt w ((wr.setCell ⟨g, x, none⟩ (.int .i64 (D (t y)))).setCell ⟨g, y, none⟩ (.int .i64 (D (t x)))) g n D (swapT t x y) := by
  have e1 := h.ne1
  have e2 := h.ne2
  refine ⟨((h.row.put x hx (D (t y))).put y hy (D (t x))).congr (fun j hj => ?_), (h.keep.setCell _ _).setCell _ _, h.mp.keep (by simp [World.setCell]) ((heap_setCell_other _ _ _ _ e1).trans (heap_setCell_other _ _ _ _ e1)) ((heap_setCell_other _ _ _ _ e2).trans (heap_setCell_other _ _ _ _ e2)), e1, e2, h.dm⟩
  unfold swapT
  by_cases e1 : j = y
  · subst e1
    by_cases e2 : j = x
    · subst e2; simp
    · simp [e2]
  · by_cases e2 : j = x
    · subst e2; simp [e1]
    · simp [e1, e2]
end
/-- how nodes are held against each other -/
def ordF : Value := .func (.func 34) #[] #[.pointer (some ⟨OX.mb, 0, none⟩)]
end Go.Proofs.YtlfepdecgfcifaaGreatDoor

/- slices' swapRange and rotate, at numbers. -/
namespace Go.Proofs.YtlfepdecgfcifaaGreatDoor
open Go.RowKit
set_option linter.unusedVariables false      -- bounds that are for the walk
set_option linter.unusedSectionVars false
variable [OX : OrdX]

theorem wrapT {x : Int} (h1 : -9000000000000000000 ≤ x) (h2 : x ≤ 9000000000000000000) : IntKind.i64.wrap x = x := by rw [IntKind.wrap_i64]; omega

set_option maxHeartbeats 4000000 in
set_option maxRecDepth 100000 in
theorem swapRange_any {w : World} {g n cap : Nat} {D : Nat → Int} {t : Tg} (h : SoAt w w g n D t) (hn : n ≤ 100000) {x y c : Nat} (h1 : x + c ≤ y) (h2 : y + c ≤ n) (fv : Value) :
    Calls Tryz.prog 117 #[.slice (some ⟨g, 0, none⟩) n cap, .int .i64 (x : Int), .int .i64 (y : Int), .int .i64 (c : Int), fv] w fun e w' => e = .returned (.tuple #[]) ∧ SoAt w w' g n D (swapR t x y c) := by
  have H0 := hidF h
  clear h
  go_enter Tryz.func117, Tryz.ntmps117
  go_wp2_with fail
  go_loopw [10] (fun iv wr => ∃ k : Nat, k ≤ c ∧ iv = .int .i64 k ∧ Hid (SoAt w wr g n D (swapR t x y k))) (fun iv _ => c - (intOf iv).toNat)
  case atStart => exact ⟨0, Nat.zero_le _, rfl, by show SoAt _ _ _ _ _ _; rw [swapR_zero]; exact H0.out⟩
  case round =>
    obtain ⟨k, hk, rfl, HZ⟩ := hrel
    by_cases hlt : k < c
    · have hlt' : (k : Int) < (c : Int) := by omega
      have gl := HZ.out.row.lt
      have a1 := HZ.out.row.at (k := x + k) (by omega)
      have b1 := HZ.out.row.at (k := y + k) (by omega)
      have f1 := HZ.out.row.frz (x + k)
      have f4 := HZ.out.row.frz (y + k)
      have HN := hidF (HZ.out.swap (x := x + k) (y := y + k) (by omega) (by omega))
      rw [swapR_succ t x y k (by omega)] at HN
      obtain ⟨ds, hd⟩ : ∃ d, D (swapR t x y k (x + k)) = d := ⟨_, rfl⟩
      obtain ⟨es, he⟩ : ∃ d, D (swapR t x y k (y + k)) = d := ⟨_, rfl⟩
      rw [hd] at a1 HN
      rw [he] at b1 HN
      obtain ⟨p, hp⟩ : ∃ p, x + k = p := ⟨_, rfl⟩
      obtain ⟨q, hq⟩ : ∃ q, y + k = q := ⟨_, rfl⟩
      have W1 : IntKind.i64.wrap ((x : Int) + (k : Int)) = (p : Int) := by rw [wrapT (by omega) (by omega)]; omega
      have W2 : IntKind.i64.wrap ((y : Int) + (k : Int)) = (q : Int) := by rw [wrapT (by omega) (by omega)]; omega
      rw [hp] at a1 f1 HN
      rw [hq] at b1 f4 HN
      have i1 : (0 : Int) ≤ (p : Int) := by omega
      have i2 : (p : Int) < (n : Int) := by omega
      have i3 : (0 : Int) ≤ (q : Int) := by omega
      have i4 : (q : Int) < (n : Int) := by omega
      have n1 : ¬ q = p := by omega
      have n2 : ¬ p = q := by omega
      clear hp hq hd he
      obtain ⟨w5, hw5⟩ : ∃ w5, w5 = wr := ⟨_, rfl⟩
      subst hw5
      go_upto_region 3 with fail
      go_region
      all_goals
        go_wp2_with fail
        go_roundw
        case rel => go_light; exact ⟨k + 1, by omega, by go_num, HN.out.held (Below.refl _ _).drew⟩
        case measure => simp [intOf]; omega
    · obtain rfl : k = c := by omega
      have hl2 : ¬ (k : Int) < (k : Int) := by omega
      go_wp2_with fail
      go_returns
      exact ⟨rfl, HZ.out⟩

set_option maxHeartbeats 4000000 in
set_option maxRecDepth 100000 in
theorem rotate_any {w : World} {g n cap : Nat} {D : Nat → Int} {t : Tg} (h : SoAt w w g n D t) (hn : n ≤ 100000) {a m b : Nat} (h1 : a < m) (h2 : m < b) (h3 : b ≤ n) (fv : Value) :
    Calls Tryz.prog 104 #[.slice (some ⟨g, 0, none⟩) n cap, .int .i64 (a : Int), .int .i64 (m : Int), .int .i64 (b : Int), fv] w fun e w' => e = .returned (.tuple #[]) ∧ SoAt w w' g n D (rotF t a m b) := by
  have H0 := hidF h
  have SR := hidF (fun (W : World) (s : Tg) (hs : SoAt W W g n D s) (x y c : Nat) (e1 : x + c ≤ y) (e2 : y + c ≤ n) => swapRange_any (cap := cap) hs hn e1 e2 fv)
  have W1 : IntKind.i64.wrap ((m : Int) - (a : Int)) = ((m - a : Nat) : Int) := by rw [wrapT (by omega) (by omega)]; omega
  have W2 : IntKind.i64.wrap ((b : Int) - (m : Int)) = ((b - m : Nat) : Int) := by rw [wrapT (by omega) (by omega)]; omega
  obtain ⟨i0, hi0⟩ : ∃ i, m - a = i := ⟨_, rfl⟩
  obtain ⟨j0, hj0⟩ : ∃ j, b - m = j := ⟨_, rfl⟩
  rw [hi0] at W1
  rw [hj0] at W2
  have HR : Hid (rotF t (m - i0) m (m + j0) = rotF t a m b) := by show _ = _; rw [← hi0, ← hj0, show m - (m - a) = a by omega, show m + (b - m) = b by omega]
  have i01 : 1 ≤ i0 := by omega
  have i02 : i0 ≤ m := by omega
  have j01 : 1 ≤ j0 := by omega
  have j02 : m + j0 ≤ n := by omega
  clear h hi0 hj0
  go_enter Tryz.func104, Tryz.ntmps104
  go_wp2_with fail
  go_loopw [10, 11] (fun iv jv wr => ∃ (i j : Nat) (s : Tg), 1 ≤ i ∧ i ≤ m ∧ 1 ≤ j ∧ m + j ≤ n ∧ iv = .int .i64 i ∧ jv = .int .i64 j ∧ Hid (SoAt w wr g n D s ∧ rotF s (m - i) m (m + j) = rotF t a m b)) (fun iv jv _ => (intOf iv).toNat + (intOf jv).toNat)
  case atStart => exact ⟨i0, j0, t, i01, i02, j01, j02, rfl, rfl, H0.out, HR.out⟩
  case round =>
    obtain ⟨i, j, s, a1, a2, a3, a4, rfl, rfl, HZ⟩ := hrel
    have W3 : IntKind.i64.wrap ((m : Int) - (i : Int)) = ((m - i : Nat) : Int) := by rw [wrapT (by omega) (by omega)]; omega
    by_cases hij : i = j
    · subst hij
      have SC := hidF (SR.out wr s HZ.out.1.refl (m - i) m i (by omega) a4)
      rw [rot_same s m i a2, HZ.out.2] at SC
      go_wp2_with fail
      refine SC.out.mono ?_
      rintro e w1 ⟨rfl, hw1⟩
      have H1 := hidF (HZ.out.1.trans hw1)
      clear hw1
      go_wp2_with fail
      go_returns
      exact ⟨rfl, H1.out⟩
    · have hne : ((i : Int) == (j : Int)) = false := by simp; omega
      by_cases hlt : j < i
      · have hlt' : (j : Int) < (i : Int) := by omega
        have SC := hidF (SR.out wr s HZ.out.1.refl (m - i) m j (by omega) a4)
        have W4 : IntKind.i64.wrap ((i : Int) - (j : Int)) = ((i - j : Nat) : Int) := by rw [wrapT (by omega) (by omega)]; omega
        have HE := hidF (rot_left s m i j a2 hlt)
        go_wp2_with fail
        refine SC.out.mono ?_
        rintro e w1 ⟨rfl, hw1⟩
        have H1 := hidF (HZ.out.1.trans hw1)
        clear hw1
        go_wp2_with fail
        go_roundw
        case rel =>
          go_light
          refine ⟨i - j, j, _, by omega, by omega, by omega, by omega, by first | rfl | go_num, rfl, H1.out, ?_⟩
          rw [HE.out, HZ.out.2]
        case measure => simp [intOf]; omega
      · have hlt' : ¬ (j : Int) < (i : Int) := by omega
        have W5 : IntKind.i64.wrap ((m : Int) + (j : Int)) = ((m + j : Nat) : Int) := by rw [wrapT (by omega) (by omega)]; omega
        have W6 : IntKind.i64.wrap ((m : Int) + (j : Int) - (i : Int)) = ((m + j - i : Nat) : Int) := by rw [wrapT (by omega) (by omega)]; omega
        have SC := hidF (SR.out wr s HZ.out.1.refl (m - i) (m + j - i) i (by omega) (by omega))
        have W4 : IntKind.i64.wrap ((j : Int) - (i : Int)) = ((j - i : Nat) : Int) := by rw [wrapT (by omega) (by omega)]; omega
        have HE := hidF (rot_right s m i j a2 (by omega))
        go_wp2_with fail
        refine SC.out.mono ?_
        rintro e w1 ⟨rfl, hw1⟩
        have H1 := hidF (HZ.out.1.trans hw1)
        clear hw1
        go_wp2_with fail
        go_roundw
        case rel =>
          go_light
          refine ⟨i, j - i, _, by omega, by omega, by omega, by omega, rfl, by first | rfl | go_num, H1.out, ?_⟩
          rw [HE.out, HZ.out.2]
        case measure => simp [intOf]; omega
end Go.Proofs.YtlfepdecgfcifaaGreatDoor

/- slices' insertionSort, at numbers. -/
namespace Go.Proofs.YtlfepdecgfcifaaGreatDoor
open Go.RowKit
set_option linter.unusedVariables false      -- bounds that are for the walk
set_option linter.unusedSectionVars false
variable [OX : OrdX]

section
variable {P : Program}
theorem run_enterF {f : FuncId} {fn : Func} {c : Code} (hf : P.funcs[f]? = some fn) (hname : (fn.name == "runtime.NumGoroutine") = false) (hb : fn.body = some c) (args : Array Value) (w : World) :
    (callFunc f args).run P w = .ok (.enter f args) w := by
  have h1 : fn.name ≠ "runtime.NumGoroutine" := by simpa using hname
  simp [callFunc, Sem.run_bind, hf, h1, hb]
/-- a call of a function that is kept, perhaps guarded, at a step of a region that draws its order -/
theorem step_callFc (w : World) {ops : Array Oper} {o : Oper} {a : Act} {K : Act → World → Prop} {Q : Exit → Act → World → Prop} {E : Prop} (hw : Region.wanted o (yielded ops a.tmps) = true) (k : Operand) (xs : List Operand) (ts : Array TypeId)
    (ho : o.op = .call { callee := .value k, args := xs.toArray, argTypes := ts }) (f : FuncId) (caps : Array Value) (hk : a.eval k = .func (.func f) #[] caps) {fn : Func} {c : Code} (hf : P.funcs[f]? = some fn) (hname : (fn.name == "runtime.NumGoroutine") = false) (hb : fn.body = some c)
    (xv : List Value) (hx : xs.map a.eval = xv) (v : Value) {B : Nat} (h : Calls P f (xv.toArray ++ caps) w fun e w' => e = .returned v ∧ Below B w w')
    (hK : ∀ w', Below B w w' → K (a.put o.dst v) w') :
    if Region.wanted o (yielded ops a.tmps) = true then Oper.wp P o a w K Q else E := by
  rw [if_pos hw]
  unfold Oper.wp execOp
  have hr : ∀ w, (Deferred.ofValue (a.eval k) xv.toArray).run P w = .ok ⟨.fn (.func f) caps, xv.toArray⟩ w := fun w => by
    rw [hk]
    simp [go_sem, Deferred.ofValue]
  simp only [ho, resolve, invoke, Sem.run_bind, List.map_toArray, hx, hr, Result.andThen_ok, run_enterF hf hname hb]
  rw [Oper.upon_enter]
  refine h.mono fun e w' hRe => ?_
  obtain ⟨rfl, hb⟩ := hRe
  exact hK w' hb
end
/-- by spans -/
def keyD [OX : OrdX] (D : Nat → Int) (i : Nat) : Int := OX.key (D i)

set_option maxHeartbeats 4000000 in
set_option maxRecDepth 100000 in
theorem insertion_any {w : World} {g n cap : Nat} {D : Nat → Int} {t : Tg} (h : SoAt w w g n D t) (hn : n ≤ 100000) {a b : Nat} (h1 : a ≤ b) (h2 : b ≤ n) (hasc : ∀ p q, a ≤ p → p < q → q < b → t p < t q) :
    Calls Tryz.prog 88 #[.slice (some ⟨g, 0, none⟩) n cap, .int .i64 (a : Int), .int .i64 (b : Int), ordF] w fun e w' => e = .returned (.tuple #[]) ∧ ∃ t', SoAt w w' g n D t' ∧ Srt (keyD D) t' a b ∧ Prm a b t t' := by
  have H0 := hidF h
  have HA := hidF hasc
  have DM := hidF h.dm
  have NF := hidF (fun (x y : Int) (x0 : 0 ≤ x) (x1 : x ≤ 1000000) (y0 : 0 ≤ y) (y1 : y ≤ 1000000) (W : World) (hm : MapK W) => ordF_any x0 x1 y0 y1 hm)
  have HK : Hid (∀ i, keyD D i = OX.key (D i)) := fun _ => rfl
  have W1 : IntKind.i64.wrap ((a : Int) + 1) = ((a + 1 : Nat) : Int) := by rw [wrapT (by omega) (by omega)]; omega
  obtain ⟨a', ha'⟩ : ∃ x, a + 1 = x := ⟨_, rfl⟩
  rw [ha'] at W1
  clear h hasc
  unfold ordF
  go_enter Tryz.func88, Tryz.ntmps88
  go_wp2_with fail
  go_loopw [8] (fun iv wr => ∃ (i : Nat) (s : Tg), a' ≤ i ∧ iv = .int .i64 i ∧ (i ≤ b ∨ i = a') ∧ Hid (SoAt w wr g n D s ∧ Srt (keyD D) s a i ∧ Prm a i t s ∧ (i = a' → s = t))) (fun iv _ => b + 1 - (intOf iv).toNat)
  case atStart => exact ⟨a', t, Nat.le_refl _, rfl, .inr rfl, H0.out, (fun p q e1 e2 e3 => by omega), Prm.refl _ _ _, fun _ => rfl⟩
  case round =>
    obtain ⟨i, s, i1, rfl, i2, HZ⟩ := hrel
    by_cases hlt : i < b
    · have hlt' : (i : Int) < (b : Int) := by omega
      have HI : Hid (Ins (keyD D) t s a i i) := Ins.start HZ.out.2.1 HZ.out.2.2.1 (by omega) (fun p q e1 e2 e3 => HA.out p q e1 e2 (by omega))
      have HS := hidF HZ.out.1
      clear HZ i2
      go_wp2_with fail
      go_loopw [9] (fun jv wr => ∃ (j : Nat) (s : Tg), jv = .int .i64 j ∧ a ≤ j ∧ j ≤ i ∧ Hid (SoAt w wr g n D s ∧ Ins (keyD D) t s a i j)) (fun jv _ => (intOf jv).toNat)
      case atStart => exact ⟨i, s, rfl, by omega, Nat.le_refl _, HS.out, HI.out⟩
      case round =>
        obtain ⟨j, s, rfl, j1, j2, HZ⟩ := hrel
        by_cases hj : a < j
        · have hj' : (a : Int) < (j : Int) := by omega
          obtain ⟨q, hq⟩ : ∃ q, j - 1 = q := ⟨_, rfl⟩
          have W2 : IntKind.i64.wrap ((j : Int) - 1) = (q : Int) := by rw [wrapT (by omega) (by omega)]; omega
          have gl := HZ.out.1.row.lt
          have a1 := HZ.out.1.row.at (k := j) (by omega)
          have b1 := HZ.out.1.row.at (k := q) (by omega)
          have HN := hidF (fun (wx : World) (hx : SoAt w wx g n D s) => hx.swap (x := j) (y := q) (by omega) (by omega))
          have HST : Hid (keyD D (s j) < keyD D (s q) → Ins (keyD D) t (swapT s j q) a i q) := fun e => by
            rw [← hq] at e ⊢
            exact HZ.out.2.step hj e
          have HDN : Hid (¬ keyD D (s j) < keyD D (s q) → Srt (keyD D) s a (i + 1)) := fun e => by
            rw [← hq] at e
            exact HZ.out.2.done (.inr e)
          rw [HK.out, HK.out] at HST HDN
          obtain ⟨ds, hd⟩ : ∃ d, D (s j) = d := ⟨_, rfl⟩
          obtain ⟨es, he⟩ : ∃ d, D (s q) = d := ⟨_, rfl⟩
          rw [hd] at a1 HN HST HDN
          rw [he] at b1 HN HST HDN
          have NC := hidF (NF.out ds es (by rw [← hd]; exact (DM.out _).1) (by rw [← hd]; exact (DM.out _).2) (by rw [← he]; exact (DM.out _).1) (by rw [← he]; exact (DM.out _).2))
          have HDE := hidF (And.intro hd he)
          have k1 : (0 : Int) ≤ (j : Int) := by omega
          have k2 : (j : Int) < (n : Int) := by omega
          have k3 : (0 : Int) ≤ (q : Int) := by omega
          have k4 : (q : Int) < (n : Int) := by omega
          have n1 : ¬ q = j := by omega
          have n2 : ¬ j = q := by omega
          have q1 : a ≤ q := by omega
          have q2 : q ≤ i := by omega
          have HQ := hidF hq
          obtain ⟨cv, hcv⟩ : ∃ c, cmpN (OX.key ds) (OX.key es) = c := ⟨_, rfl⟩
          rw [hcv] at NC
          obtain ⟨w5, hw5⟩ : ∃ w5, w5 = wr := ⟨_, rfl⟩
          subst hw5
          by_cases hc : OX.key ds < OX.key es
          · have hc' : cv < 0 := by rw [← hcv]; exact cmpN_neg.2 hc
            have HS2 := hidF (HST.out hc)
            clear hd he hq hcv hc HST HDN
            go_upto_region 4 with fail
            go_cut [34] (fun v wx => v = .bool true ∧ Hid (SoAt w wx g n D s))
            case first =>
              go_region_held3 (fun wx => wx.cell? ⟨g, j, none⟩ = some (.int .i64 ds) ∧ wx.cell? ⟨g, q, none⟩ = some (.int .i64 es)) (go_keep)
                ((refine step_callFc _ (by kernel_rfl) (.tmp 22) [.tmp 26, .tmp 31] #[3, 3] (by rfl) 34 #[.pointer (some ⟨OX.mb, 0, none⟩)] (by simp [Act.eval]) Tryz.func34 (by kernel_rfl) rfl [.int .i64 ds, .int .i64 es] (by simp [Act.eval]) (.int .i64 cv) (NC.out _ (HZ.out.1.held (W := w5.drew) (Below.refl _ _).drew).mp) ?_; intro w7 hb7; have HX := hidF ((HZ.out.1.held (W := w5.drew) (Below.refl _ _).drew).held hb7); have m1 := HX.out.row.at (k := j) (by omega); have m4 := HX.out.row.at (k := q) (by omega); rw [HDE.out.1] at m1; rw [HDE.out.2] at m4; clear hb7))
              all_goals
                go_wp2_with fail
                go_meet
                case rel => go_light; exact ⟨rfl, HX.out⟩
            case rest =>
            obtain ⟨rfl, HX⟩ := hcut
            have HD := HDE.out
            have gl2 := HX.out.row.lt
            have a1' := HX.out.row.at (k := j) (by omega)
            have b1' := HX.out.row.at (k := q) (by omega)
            rw [HD.1] at a1'
            rw [HD.2] at b1'
            have f1 := HX.out.row.frz j
            have f4 := HX.out.row.frz q
            have HN2 := hidF (HN.out wc HX.out)
            obtain ⟨w6, hw6⟩ : ∃ w6, w6 = wc := ⟨_, rfl⟩
            subst hw6
            clear HD a1 b1 NC HN gl
            go_upto_region 6 with fail
            go_region
            all_goals
              go_wp2_with fail
              go_roundw
              case rel => go_light; exact ⟨q, _, rfl, by omega, by omega, HN2.out.held (Below.refl _ _).drew, HS2.out⟩
              case measure => simp [intOf]; have := HQ.out; omega
          · have hc' : ¬ cv < 0 := by rw [← hcv]; exact fun e => hc (cmpN_neg.1 e)
            have HS2 := hidF (HDN.out hc)
            clear hd he hq hcv hc HST HDN
            go_upto_region 4 with fail
            go_cut [34] (fun v wx => v = .bool false ∧ Hid (SoAt w wx g n D s))
            case first =>
              go_region_held3 (fun wx => wx.cell? ⟨g, j, none⟩ = some (.int .i64 ds) ∧ wx.cell? ⟨g, q, none⟩ = some (.int .i64 es)) (go_keep)
                ((refine step_callFc _ (by kernel_rfl) (.tmp 22) [.tmp 26, .tmp 31] #[3, 3] (by rfl) 34 #[.pointer (some ⟨OX.mb, 0, none⟩)] (by simp [Act.eval]) Tryz.func34 (by kernel_rfl) rfl [.int .i64 ds, .int .i64 es] (by simp [Act.eval]) (.int .i64 cv) (NC.out _ (HZ.out.1.held (W := w5.drew) (Below.refl _ _).drew).mp) ?_; intro w7 hb7; have HX := hidF ((HZ.out.1.held (W := w5.drew) (Below.refl _ _).drew).held hb7); have m1 := HX.out.row.at (k := j) (by omega); have m4 := HX.out.row.at (k := q) (by omega); rw [HDE.out.1] at m1; rw [HDE.out.2] at m4; clear hb7))
              all_goals
                go_wp2_with fail
                go_meet
                case rel => go_light; exact ⟨rfl, HX.out⟩
            case rest =>
            obtain ⟨rfl, HX⟩ := hcut
            go_wp2_with fail
            go_roundw
            case rel => go_light; exact ⟨i + 1, s, by omega, by go_num, .inl (by omega), HX.out, HS2.out, HZ.out.2.prm, fun e => by omega⟩
            case measure => simp [intOf]; omega
        · obtain rfl : a = j := by omega
          have hd : decide ((a : Int) < (a : Int)) = false := decide_eq_false (by omega)
          have HS2 := hidF (HZ.out.2.done (.inl rfl))
          go_wp2_with fail
          go_quiet (fail)
          go_wp2_with fail
          go_roundw
          case rel => go_light; exact ⟨i + 1, s, by omega, by go_num, .inl (by omega), HZ.out.1.held ⟨rfl, rfl, rfl, Nat.le_refl _, fun _ _ => rfl⟩, HS2.out, HZ.out.2.prm, fun e => by omega⟩
          case measure => simp [intOf]; omega
    · have hlt' : ¬ (i : Int) < (b : Int) := by omega
      have HFIN : Hid (Srt (keyD D) s a b ∧ Prm a b t s) := by
        rcases i2 with e | e
        · obtain rfl : i = b := by omega
          exact ⟨HZ.out.2.1, HZ.out.2.2.1⟩
        · have es := HZ.out.2.2.2 e
          subst es
          exact ⟨fun p q e1 e2 e3 => by omega, Prm.refl _ _ _⟩
      go_wp2_with fail
      go_returns
      exact ⟨rfl, s, HZ.out.1, HFIN.out.1, HFIN.out.2⟩
end Go.Proofs.YtlfepdecgfcifaaGreatDoor
