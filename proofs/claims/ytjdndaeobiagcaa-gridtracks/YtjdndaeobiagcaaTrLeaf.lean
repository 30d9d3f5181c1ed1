/- Tracks: those that count, as they count. -/
import Derived.Test.YtjdndaeobiagcaaTsNeedW
namespace Go.Proofs.Ytjdndaeobiagcaa
open Go.RowKit
set_option linter.unusedVariables false      -- bounds that are for the walk

structure Tr2 where
  k : Int
  n : Int
def trV (t : Tr2) : Value := .agg #[.int .i64 t.k, .int .i64 t.n]
/-- as it counts -/
def cntT (room : Int) (t : Tr2) : Tr2 := if t.k = 1 then ⟨1, max (heldN t.n) 0⟩ else if (t.k = 2 ∨ t.k = 3) ∧ 0 ≤ room then ⟨t.k, facN t.n⟩ else ⟨0, 0⟩

set_option maxHeartbeats 400000 in
theorem firstsTr_any (a : Option Addr) (n cap : Nat) (h1 : n ≤ cap) (h2 : cap ≤ 9223372036854775807) (w : World) :
    Calls Try.prog 79 #[.slice a n cap, .int .i64 20] w fun e w' => e = .returned (.slice a (min n 20) cap) ∧ w' = w := by
  by_cases hc : n ≤ 20
  · have hc' : ¬ (20 : Int) < (n : Int) := by omega
    have hn : min n 20 = n := by omega
    rw [hn]
    go_enter Try.func79, Try.ntmps79
    go_wp2_with fail
    all_goals
      go_returns
      first | exact ⟨rfl, rfl⟩ | (refine ⟨?_, rfl⟩; congr 2; omega)
  · have hc' : (20 : Int) < (n : Int) := by omega
    have hn : min n 20 = 20 := by omega
    rw [hn]
    go_enter Try.func79, Try.ntmps79
    go_wp2_with fail
    all_goals
      go_returns
      first | exact ⟨rfl, rfl⟩ | (refine ⟨?_, rfl⟩; congr 2; omega)

/-- a track in a block of its own -/
def TxAt (w : World) (g : Nat) (t : Tr2) : Prop := w.heap[g]? = some (.cells #[.int .i64 t.k, .int .i64 t.n] 54 (0, 0))
theorem TxAt.cells {w : World} {g : Nat} {t : Tr2} (h : TxAt w g t) : g < w.heap.size ∧ w.cell? ⟨g, 0, none⟩ = some (.int .i64 t.k) ∧ w.cell? ⟨g, 1, none⟩ = some (.int .i64 t.n) := by
  have hh : w.heap[g]? = _ := h
  refine ⟨ltH hh, ?_, ?_⟩ <;> rw [cell_of_row w g _ _ _ _ hh] <;> rfl
theorem TxAt.frz {w : World} {g : Nat} {t : Tr2} (h : TxAt w g t) (k : Nat) : w.frozen? ⟨g, k, none⟩ = false := by
  have hh : w.heap[g]? = _ := h
  simp [World.frozen?, hh]
theorem TxAt.set2 {w : World} {g : Nat} {t : Tr2} (h : TxAt w g t) (a b : Int) : TxAt ((w.setCell ⟨g, 0, none⟩ (.int .i64 a)).setCell ⟨g, 1, none⟩ (.int .i64 b)) g ⟨a, b⟩ := by
  unfold TxAt
  rw [heap_setCell_same _ g 1 _ 54 _ (heap_setCell_same w g 0 _ 54 _ h)]
  rfl
theorem TxAt.set1 {w : World} {g : Nat} {t : Tr2} (h : TxAt w g t) (b : Int) : TxAt (w.setCell ⟨g, 1, none⟩ (.int .i64 b)) g ⟨t.k, b⟩ := by
  unfold TxAt
  rw [heap_setCell_same w g 1 _ 54 _ h]
  rfl
theorem TxAt.held {w w' : World} {g : Nat} {t : Tr2} (h : TxAt w g t) (hb : Below w.heap.size w w') : TxAt w' g t := (hb.block g h.cells.1).trans h
theorem TxAt.other {w : World} {g g2 k : Nat} {t : Tr2} {v : Value} (h : TxAt w g t) (hg : g ≠ g2) : TxAt (w.setCell ⟨g2, k, none⟩ v) g t := (heap_setCell_other w ⟨g2, k, none⟩ g v hg).trans h
/-- within counted: the track, the answer -/
structure TcBx (w wr : World) (g g2 : Nat) (t : Tr2) : Prop where
  below : Below w.heap.size w wr
  lo : w.heap.size ≤ g
  lo2 : w.heap.size ≤ g2
  ne : g ≠ g2
  box : TxAt wr g t
  res : TxAt wr g2 ⟨0, 0⟩
theorem TcBx.held {w wr W : World} {g g2 : Nat} {t : Tr2} (h : TcBx w wr g g2 t) (hb : Below wr.heap.size wr W) : TcBx w W g g2 t :=
  ⟨h.below.trans (hb.mono h.below.size), h.lo, h.lo2, h.ne, h.box.held hb, h.res.held hb⟩

theorem counted_end {w wr : World} {g g2 : Nat} {t : Tr2} (h : TcBx w wr g g2 t) (a b : Int) : ((wr.setCell ⟨g2, 0, none⟩ (.int .i64 a)).setCell ⟨g2, 1, none⟩ (.int .i64 b)).cell? ⟨g2, 0, none⟩ = some (.int .i64 a) ∧ ((wr.setCell ⟨g2, 0, none⟩ (.int .i64 a)).setCell ⟨g2, 1, none⟩ (.int .i64 b)).cell? ⟨g2, 1, none⟩ = some (.int .i64 b) ∧ Below w.heap.size w ((wr.setCell ⟨g2, 0, none⟩ (.int .i64 a)).setCell ⟨g2, 1, none⟩ (.int .i64 b)) :=
  ⟨(h.res.set2 a b).cells.2.1, (h.res.set2 a b).cells.2.2, (h.below.setCell h.lo2 _).setCell h.lo2 _⟩

set_option maxHeartbeats 4000000 in
set_option maxRecDepth 100000 in
theorem countedT_any (t : Tr2) (room : Int) (w : World) :
    Calls Try.prog 80 #[trV t, .int .i64 room] w fun e w' => e = .returned (trV (cntT room t)) ∧ Below w.heap.size w w' := by
  obtain ⟨tk, tn⟩ := t
  have HT : Hid (TcBx w ((w.alloc (.cells #[.int .i64 tk, .int .i64 tn] 54)).alloc (.cells #[.int .i64 0, .int .i64 0] 54)) w.heap.size (w.heap.size + 1) ⟨tk, tn⟩) := by
    have e1 : ((w.alloc (.cells #[.int .i64 tk, .int .i64 tn] 54)).alloc (.cells #[.int .i64 0, .int .i64 0] 54)).heap[w.heap.size]? = some (.cells #[.int .i64 tk, .int .i64 tn] 54 (0, 0)) := (Below.heap_alloc (w.alloc _) _ _ (by simp)).trans (heap_alloc_new w _)
    have e2 : ((w.alloc (.cells #[.int .i64 tk, .int .i64 tn] 54)).alloc (.cells #[.int .i64 0, .int .i64 0] 54)).heap[w.heap.size + 1]? = some (.cells #[.int .i64 0, .int .i64 0] 54 (0, 0)) := by
      have := heap_alloc_new (w.alloc (.cells #[.int .i64 tk, .int .i64 tn] 54)) (.cells #[.int .i64 0, .int .i64 0] 54)
      simpa using this
    exact ⟨by go_grown, Nat.le_refl _, by omega, by omega, e1, e2⟩
  have FA := hidF (fun W => factor_any tn W)
  obtain ⟨⟨ak, an⟩, ha⟩ : ∃ a, cntT room ⟨tk, tn⟩ = a := ⟨_, rfl⟩
  have HA := hidF ha
  rw [ha]
  clear ha
  unfold trV
  simp only
  go_enter Try.func80, Try.ntmps80
  go_upto_region 1 with fail
  go_cut [6] (fun kv wx => kv = .int .i64 tk ∧ Hid (TcBx w wx w.heap.size (w.heap.size + 1) ⟨tk, tn⟩))
  case first =>
    go_wp2_with fail
    go_meet
    case rel => go_light; exact ⟨rfl, HT.out⟩
  case rest =>
  obtain ⟨rfl, HC⟩ := hcut
  clear HT
  obtain ⟨g, hg⟩ : ∃ g, w.heap.size = g := ⟨_, rfl⟩
  obtain ⟨g2, hg2⟩ : ∃ g2, g + 1 = g2 := ⟨_, rfl⟩
  rw [hg, hg2] at HC ⊢
  clear hg hg2
  obtain ⟨z0, z1, z2⟩ := HC.out.box.cells
  obtain ⟨y0, y1, y2⟩ := HC.out.res.cells
  have f0 := HC.out.res.frz 0
  have f1 := HC.out.res.frz 1
  have bf1 := HC.out.box.frz 1
  have ne := HC.out.ne
  simp only at z1 z2 y1 y2
  obtain ⟨w5, hw5⟩ : ∃ w5, w5 = wc := ⟨_, rfl⟩
  subst hw5
  by_cases h1 : tk = 1
  · subst h1
    have ea : (1 : Int) = ak ∧ max (heldN tn) 0 = an := by
      have := HA.out
      unfold cntT at this
      rw [if_pos rfl] at this
      cases this
      exact ⟨rfl, rfl⟩
    obtain ⟨rfl, rfl⟩ := ea
    clear HA
    obtain ⟨yn, hyn⟩ : ∃ y, heldN tn = y := ⟨_, rfl⟩
    have ne' : ¬ w5.heap.size = g := by omega
    have ne2 : ¬ g = w5.heap.size := by omega
    have HP : Hid (HoldPre (w5.alloc (.cells #[.pointer (some ⟨g, 1, none⟩)] 64)) w5.heap.size 0 [(⟨g, 1, none⟩, tn)]) := by
      show HoldPre _ _ _ _
      have q1 : (w5.alloc (.cells #[.pointer (some ⟨g, 1, none⟩)] 64)).cell? ⟨g, 1, none⟩ = some (.int .i64 tn) := (World.cell?_of_block (a := ⟨g, 1, none⟩) (Below.heap_alloc w5 _ _ z0)).trans z2
      have q2 : (w5.alloc (.cells #[.pointer (some ⟨g, 1, none⟩)] 64)).frozen? ⟨g, 1, none⟩ = false := (HC.out.box.held ((Below.refl _ _).alloc (Nat.le_refl _) _)).frz 1
      simp [HoldPre, go_sem, q1, q2, ne2]
    have HW : Hid (TcBx w ((w5.alloc (.cells #[.pointer (some ⟨g, 1, none⟩)] 64)).setCell ⟨g, 1, none⟩ (.int .i64 yn)) g g2 ⟨1, yn⟩) := by
      have hb := HC.out.held (W := w5.alloc (.cells #[.pointer (some ⟨g, 1, none⟩)] 64)) ((Below.refl _ _).alloc (Nat.le_refl _) _)
      exact ⟨hb.below.setCell hb.lo _, hb.lo, hb.lo2, hb.ne, hb.box.set1 yn, hb.res.other (Ne.symm hb.ne)⟩
    go_wp2_with fail
    refine (hold_pre [(⟨g, 1, none⟩, tn)] _ _ _ _ rfl (by simp) HP.out).mono ?_
    rintro e W ⟨rfl, rfl⟩
    simp only [holdAll]
    rw [hyn]
    generalize hw9 : ((w5.alloc (.cells #[.pointer (some ⟨g, 1, none⟩)] 64)).setCell ⟨g, 1, none⟩ (.int .i64 yn)) = w9 at HW ⊢
    have HYN := hidF hyn
    clear hw9 HP z0 z1 z2 y0 y1 y2 f0 f1 bf1 HC hyn
    obtain ⟨z0, z1, z2⟩ := HW.out.box.cells
    obtain ⟨y0, y1, y2⟩ := HW.out.res.cells
    have f0 := HW.out.res.frz 0
    have f1 := HW.out.res.frz 1
    simp only at z1 z2 y1 y2
    by_cases hy : yn < 0
    · obtain ⟨k1, k2, k3⟩ := counted_end HW.out 1 0
      go_wp2_with fail
      refine bodyPost_ret (v := .agg #[.int .i64 1, .int .i64 0]) ?_ rfl ⟨by rw [HYN.out, show max yn 0 = 0 by omega], k3⟩
      simp [results, Try.results80, go_sem, k1, k2]
    · obtain ⟨k1, k2, k3⟩ := counted_end HW.out 1 yn
      go_wp2_with fail
      refine bodyPost_ret (v := .agg #[.int .i64 1, .int .i64 yn]) ?_ rfl ⟨by rw [HYN.out, show max yn 0 = yn by omega], k3⟩
      simp [results, Try.results80, go_sem, k1, k2]
  · have h1' : (tk == 1) = false := by simpa using h1
    by_cases h2 : (tk = 2 ∨ tk = 3) ∧ 0 ≤ room
    · have ea : tk = ak ∧ facN tn = an := by
        have := HA.out
        unfold cntT at this
        rw [if_neg h1, if_pos h2] at this
        cases this
        exact ⟨rfl, rfl⟩
      obtain ⟨rfl, rfl⟩ := ea
      clear HA
      have hr : (0 : Int) ≤ room := h2.2
      have HD := hidF (HC.out.held (W := w5.drew) (Below.refl _ _).drew)
      obtain ⟨k1, k2, k3⟩ := counted_end HC.out tk (facN tn)
      have K3 : Hid (Below w.heap.size w (((w5.setCell ⟨g2, 0, none⟩ (.int .i64 tk)).setCell ⟨g2, 1, none⟩ (.int .i64 (facN tn))).drew)) := k3.drew
      rcases h2.1 with e | e
      · subst e
        clear h1 h2
        go_upto_region 8 with fail
        go_region_with ((go_at_call 62; refine (FA.out _).mono ?_; rintro e w7 ⟨rfl, rfl⟩))
        all_goals
          go_wp2_with fail
          refine bodyPost_ret (v := .agg #[.int .i64 2, .int .i64 (facN tn)]) ?_ rfl ⟨rfl, ?_⟩
          · simp [results, Try.results80, go_sem, k1, k2]
          · first | exact K3.out | exact k3
      · subst e
        clear h1 h2
        go_upto_region 8 with fail
        go_region_with ((go_at_call 62; refine (FA.out _).mono ?_; rintro e w7 ⟨rfl, rfl⟩))
        all_goals
          go_wp2_with fail
          refine bodyPost_ret (v := .agg #[.int .i64 3, .int .i64 (facN tn)]) ?_ rfl ⟨rfl, ?_⟩
          · simp [results, Try.results80, go_sem, k1, k2]
          · first | exact K3.out | exact k3
    · have ea : (0 : Int) = ak ∧ (0 : Int) = an := by
        have := HA.out
        unfold cntT at this
        rw [if_neg h1, if_neg h2] at this
        cases this
        exact ⟨rfl, rfl⟩
      obtain ⟨rfl, rfl⟩ := ea
      clear HA
      obtain ⟨k1, k2, k3⟩ := counted_end HC.out 0 0
      by_cases e2 : tk = 2
      · subst e2
        have hr : ¬ (0 : Int) ≤ room := fun e => h2 ⟨.inl rfl, e⟩
        clear h1 h2
        go_wp2_with fail
        refine bodyPost_ret (v := .agg #[.int .i64 0, .int .i64 0]) ?_ rfl ⟨rfl, k3⟩
        simp [results, Try.results80, go_sem, k1, k2]
      · have e2' : (tk == 2) = false := by simpa using e2
        by_cases e3 : tk = 3
        · subst e3
          have hr : ¬ (0 : Int) ≤ room := fun e => h2 ⟨.inr rfl, e⟩
          clear h1 h2 e2
          go_wp2_with fail
          refine bodyPost_ret (v := .agg #[.int .i64 0, .int .i64 0]) ?_ rfl ⟨rfl, k3⟩
          simp [results, Try.results80, go_sem, k1, k2]
        · have e3' : (tk == 3) = false := by simpa using e3
          clear h1 h2 e2 e3
          go_wp2_with fail
          refine bodyPost_ret (v := .agg #[.int .i64 0, .int .i64 0]) ?_ rfl ⟨rfl, k3⟩
          simp [results, Try.results80, go_sem, k1, k2]
end Go.Proofs.Ytjdndaeobiagcaa
