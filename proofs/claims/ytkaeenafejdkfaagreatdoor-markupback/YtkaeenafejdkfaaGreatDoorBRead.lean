/- The document's answer: the tree of a text. -/
import Derived.Test.YtkaeenafejdkfaaGreatDoorM36
import Derived.BigRegion
namespace Go.Proofs.YtkaeenafejdkfaaGreatDoor
open Go.RowKit

theorem nameB_le {s : ByteArray} (h : nameB s = true) : s.size ≤ 100000 := by
  unfold nameB at h
  simp only [Bool.and_eq_true, decide_eq_true_eq] at h
  omega
/-- what reading answers -/
def RReadPost (w0 : World) (R : Res) (e : Ending) (w' : World) : Prop := match R with
  | .ok ns => ∃ M bb nv ps p a, e = .returned (.tuple #[.agg #[nv, .slice none 0 0], .agg #[.int .i64 0, .int .i64 (-1)]]) ∧ RLies (EX := bExt p 0 a) w' M bb nv (.slice none 0 0) ps [] ∧ nodesOf ps = ns ∧ Moved w0 (fun _ => .other) w' M ∧ WF ns ∧ Few ns 20000
  | .bad i => e = .returned (.tuple #[.agg #[.slice none 0 0, .slice none 0 0], .agg #[.int .i64 2, .int .i64 i]]) ∧ Below w0.heap.size w0 w'
def docCellsB : Array Value := #[.int .i64 1, .string ⟨#[]⟩, .string ⟨#[]⟩, .slice none 0 0, .int .i64 (-1), .slice none 0 0]
theorem bat_doc {W w : World} {bb nb : Nat} (hb : Below W.heap.size W w) (ht : w.heap[bb]? = some (.cells #[.slice (some ⟨nb, 0, none⟩) 1 1, .slice none 0 0, .int .i64 0, .int .i64 0, .int .i64 0] 60 (0, 0))) (hn : w.heap[nb]? = some (.cells docCellsB 50 (0, 0))) (hne : bb ≠ nb) (h1 : W.heap.size ≤ bb) (h2 : W.heap.size ≤ nb) :
    ∃ M, BAt W bb [docN] 0 0 0 0 w M := by
  have lt := lt_of_heap ht
  have ln := lt_of_heap hn
  refine ⟨fun b => if b = nb then .nodes else if b = bb then .tree else .other, .slice (some ⟨nb, 0, none⟩) 1 1, .slice none 0 0, [docP], [], RLies.mk (EX := bExt 0 0 0) ?_ ?_ ht ?_ (Row.nil _ _ _ _ _) ?_, rfl, Nat.le_refl _, ⟨hb.os, hb.tape, hb.output, hb.size, ?_, fun b hb' _ => hb.block b hb'⟩⟩
  · intro b hb'
    simp [show b ≠ nb by omega, show b ≠ bb by omega]
  · simp [hne]
  · exact ⟨rfl, some ⟨nb, 0, none⟩, 1, rfl, by decide, by unfold maxLen; omega, .inr ⟨nb, docCellsB, rfl, by simp, hn, by decide, rfl⟩⟩
  · intro i p hp
    have : i = 0 := by
      rcases Nat.eq_zero_or_pos i with e | e
      · exact e
      · rw [List.getElem?_eq_none (by simp; omega)] at hp; cases hp
    subst this
    cases hp
    exact ⟨Row.nil _ _ _ _ _, Row.nil _ _ _ _ _⟩
  · intro b hb'
    simp [show b ≠ nb by omega, show b ≠ bb by omega]
set_option maxHeartbeats 1000000 in
theorem newTreeB (w : World) : Calls Tryz.prog 21 #[] w fun e w' => ∃ nb, e = .returned (.agg #[.slice (some ⟨nb, 0, none⟩) 1 1, .slice none 0 0]) ∧ w'.heap[nb]? = some (.cells docCellsB 50 (0, 0)) ∧ w.heap.size ≤ nb ∧ nb < w'.heap.size ∧ Below w.heap.size w w' := by
  go_enter Tryz.func21, Tryz.ntmps21
  go_wp2
  refine bodyPost_ret (v := .agg #[.slice (some ⟨w.heap.size + 1, 0, none⟩) 1 1, .slice none 0 0]) ?_ rfl ⟨w.heap.size + 1, rfl, ?_, by omega, by simp, ((Below.refl _ _).alloc (Nat.le_refl _) _).alloc (by simp) _⟩
  · simp [results, Tryz.results21, go_sem]
  · have := heap_alloc_new (w.alloc (.cells #[.slice (some ⟨w.heap.size + 1, 0, none⟩) 1 1, .slice none 0 0] 26)) (.cells docCellsB 50)
    simpa [docCellsB] using this

/-- the results' own blocks, and what was there ahead of them -/
structure RW (w0 W : World) : Prop where
  bel : Below w0.heap.size w0 W
  size : W.heap.size = w0.heap.size + 1 + 1
  r2 : W.heap[w0.heap.size]? = some (.cells #[.slice none 0 0, .slice none 0 0] 26 (0, 0))
  r3 : W.heap[w0.heap.size + 1]? = some (.cells #[.int .i64 0, .int .i64 0] 28 (0, 0))
theorem RW.new (w0 : World) : RW w0 ((w0.alloc (.cells #[.slice none 0 0, .slice none 0 0] 26 (0, 0))).alloc (.cells #[.int .i64 0, .int .i64 0] 28 (0, 0))) := by
  refine ⟨((Below.refl _ _).alloc (Nat.le_refl _) _).alloc (by simp) _, by simp, ?_, ?_⟩
  · rw [Below.heap_alloc _ _ _ (by simp)]; exact heap_alloc_new w0 _
  · have := heap_alloc_new (w0.alloc (.cells #[.slice none 0 0, .slice none 0 0] 26 (0, 0))) (.cells #[.int .i64 0, .int .i64 0] 28 (0, 0))
    rw [World.size_alloc] at this
    exact this
theorem two_cellsR {w : World} {b : Nat} {t : TypeId} {a0 a1 : Value} (h : w.heap[b]? = some (.cells #[a0, a1] t (0, 0))) : w.cell? ⟨b, 0, none⟩ = some a0 ∧ w.cell? ⟨b, 1, none⟩ = some a1 ∧ ∀ o, w.frozen? ⟨b, o, none⟩ = false := by
  refine ⟨?_, ?_, fun o => by simp [World.frozen?, h]⟩ <;> (rw [cell_of_row w b _ _ _ _ h]; rfl)

theorem moved_below {W w : World} {M : Nat → Lab} (m : Moved W (fun _ => .other) w M) : Below W.heap.size W w :=
  ⟨m.os, m.tape, m.output, m.size, fun b hb => m.far b hb rfl⟩
theorem readF_end {f : Nat} {s : ByteArray} {i : Nat} {ns : List Nd} {op : List Nat} (h : ¬ i < s.size) : readF f s i ns op = .ok ns := by
  cases f with
  | zero => rfl
  | succ f => rw [readF, if_neg h]
theorem BR.low {W w : World} {bb : Nat} {s : ByteArray} {R : Res} {i : Nat} {c a : Int} (h : BR W bb s R i c a w) : Below W.heap.size W w := by
  obtain ⟨ns, op, U, M, ⟨nv, uv, ps, us, _, _, _, h4⟩, _⟩ := h
  exact moved_below h4
/-- a builder's tree is handed out -/
theorem BAt.done {w0 W w : World} {bb p U : Nat} {ns : List Nd} {a : Int} {M : Nat → Lab} (h : BAt W bb ns p 0 a U w M) (hrw : RW w0 W) : ∃ nv uv, w.cell? ⟨bb, 0, none⟩ = some nv ∧ w.cell? ⟨bb, 1, none⟩ = some uv ∧ (∃ na nn nc, nv = .slice na nn nc) ∧ ∀ v1 v2 v3 v4, ∃ ps, RLies (EX := bExt p 0 a) (((((w.setCell ⟨bb, 1, none⟩ (.slice none 0 0)).setCell ⟨w0.heap.size, 0, none⟩ v1).setCell ⟨w0.heap.size, 1, none⟩ v2).setCell ⟨w0.heap.size + 1, 0, none⟩ v3).setCell ⟨w0.heap.size + 1, 1, none⟩ v4) M bb nv (.slice none 0 0) ps [] ∧ nodesOf ps = ns ∧ Moved w0 (fun _ => .other) (((((w.setCell ⟨bb, 1, none⟩ (.slice none 0 0)).setCell ⟨w0.heap.size, 0, none⟩ v1).setCell ⟨w0.heap.size, 1, none⟩ v2).setCell ⟨w0.heap.size + 1, 0, none⟩ v3).setCell ⟨w0.heap.size + 1, 1, none⟩ v4) M := by
  obtain ⟨nv, uv, ps, us, h1, h2, h3, h4⟩ := h
  refine ⟨nv, uv, RLies.cell0 (EX := bExt p 0 a) h1, RLies.cell1 (EX := bExt p 0 a) h1, ?_, fun v1 v2 v3 v4 => ⟨ps, ?_⟩⟩
  · obtain ⟨na, nc, e, _⟩ := (RLies.nodes (EX := bExt p 0 a) h1).shape
    exact ⟨na, _, nc, e⟩
  obtain ⟨q1, q2⟩ := RLies.headUndos (EX := bExt p 0 a) h1 (Step.refl (RLies.fresh (EX := bExt p 0 a) h1) .undos) (uv' := .slice none 0 0) (us' := []) (Row.nil _ _ _ _ _)
  have hs := hrw.size
  have hsz : W.heap.size ≤ w.heap.size := h4.size
  have o2 : M w0.heap.size = .other := (h4.lab _ (by omega))
  have o3 : M (w0.heap.size + 1) = .other := (h4.lab _ (by omega))
  have keep : ∀ b, M b ≠ .other → (((((w.setCell ⟨bb, 1, none⟩ (.slice none 0 0)).setCell ⟨w0.heap.size, 0, none⟩ v1).setCell ⟨w0.heap.size, 1, none⟩ v2).setCell ⟨w0.heap.size + 1, 0, none⟩ v3).setCell ⟨w0.heap.size + 1, 1, none⟩ v4).heap[b]? = (w.setCell ⟨bb, 1, none⟩ (.slice none 0 0)).heap[b]? := by
    intro b hb
    have n2 : b ≠ w0.heap.size := fun e => hb (by rw [e]; exact o2)
    have n3 : b ≠ w0.heap.size + 1 := fun e => hb (by rw [e]; exact o3)
    rw [Below.heap_setCell _ _ _ _ n3, Below.heap_setCell _ _ _ _ n3, Below.heap_setCell _ _ _ _ n2, Below.heap_setCell _ _ _ _ n2]
  refine ⟨RLies.far (EX := bExt p 0 a) q1 (by simp [World.setCell]) (fun b _ hb => keep b hb), h2, ?_⟩
  have mm : Moved w0 (fun _ => .other) (w.setCell ⟨bb, 1, none⟩ (.slice none 0 0)) M := by
    have hb := hrw.bel
    have m1 : Moved w0 (fun _ => .other) W (fun _ => .other) := ⟨hb.os, hb.tape, hb.output, hb.size, fun _ _ => rfl, fun b hb' _ => hb.block b hb'⟩
    exact (m1.trans h4).trans q2
  refine ⟨mm.os, mm.tape, mm.output, by have := mm.size; simp [World.setCell] at this ⊢; exact this, mm.lab, fun b hb hM => ?_⟩
  have n2 : b ≠ w0.heap.size := by omega
  have n3 : b ≠ w0.heap.size + 1 := by omega
  rw [Below.heap_setCell _ _ _ _ n3, Below.heap_setCell _ _ _ _ n3, Below.heap_setCell _ _ _ _ n2, Below.heap_setCell _ _ _ _ n2]
  exact mm.far b hb hM

set_option maxHeartbeats 8000000 in
set_option maxRecDepth 100000 in
theorem rreadMarkup_any (s : ByteArray) (hs : s.size ≤ 20000) (w : World) : Calls Tryz.prog 7 #[.string s] w (RReadPost w (readS s)) := by
  obtain ⟨R, hR⟩ : ∃ R, R = readS s := ⟨_, rfl⟩
  rw [← hR]
  have HR := hid hR
  clear hR
  have HNT := hid newTreeB
  have hsI : ¬ ((20000 : Int) < (s.size : Int)) := by omega
  have HRW := hid (RW.new w)
  go_enter Tryz.func7, Tryz.ntmps7
  go_wp2_with fail
  generalize (w.alloc _).alloc _ = W at HRW ⊢
  refine (HNT.out W).mono ?_
  rintro e w2 ⟨nb, rfl, hn, hn1, hn2, hb2⟩
  have hW2 : W.heap.size ≤ w2.heap.size := hb2.size
  have HBR : Hid (BR W w2.heap.size s R 0 0 0 (w2.alloc (.cells #[.slice (some ⟨nb, 0, none⟩) 1 1, .slice none 0 0, .int .i64 0, .int .i64 0, .int .i64 0] 60 (0, 0)))) := by
    obtain ⟨M, hB⟩ := bat_doc (hb2.trans (((Below.refl _ _).alloc (Nat.le_refl _) (.cells #[.slice (some ⟨nb, 0, none⟩) 1 1, .slice none 0 0, .int .i64 0, .int .i64 0, .int .i64 0] 60 (0, 0))).mono hW2)) (heap_alloc_new w2 _) ((Below.heap_alloc _ _ _ hn2).trans hn) (by omega) hW2 hn1
    exact hid ⟨[docN], [], 0, M, hB, inv0, by omega, .inl ⟨rfl, s.size, HR.out, by omega⟩⟩
  have HLT : Hid (w2.heap.size < (w2.alloc (.cells #[.slice (some ⟨nb, 0, none⟩) 1 1, .slice none 0 0, .int .i64 0, .int .i64 0, .int .i64 0] 60 (0, 0))).heap.size) := hid (by simp)
  clear hn hn1 hn2 hb2 HR HNT
  go_wp2_with fail
  generalize w2.alloc _ = w3 at HBR HLT ⊢
  obtain ⟨bb, hbb⟩ : ∃ bb, bb = w2.heap.size := ⟨_, rfl⟩
  rw [← hbb] at HBR HLT hW2 ⊢
  clear hbb w2
  go_loopg [5] s.size (fun g v wr => ∃ (i : Nat) (c a : Int), g = s.size - i ∧ i ≤ s.size ∧ v = .int .i64 i ∧ Hid (BR W bb s R i c a wr))
  case atStart => exact ⟨0, 0, 0, by omega, by omega, rfl, HBR⟩
  case round =>
    obtain ⟨i, c, a, hg, hi, rfl, hbr⟩ := hrel
    clear HBR
    have hlow := hbr.out.low
    have hs2 := hlow.size
    have hWs := HRW.out.size
    have b2l : w.heap.size < W.heap.size := by omega
    have b3l : w.heap.size + 1 < W.heap.size := by omega
    have z2 : w.heap.size < wr.heap.size := by omega
    have z3 : w.heap.size + 1 < wr.heap.size := by omega
    obtain ⟨r20, r21, r2f⟩ := two_cellsR ((hlow.block _ b2l).trans HRW.out.r2)
    obtain ⟨r30, r31, r3f⟩ := two_cellsR ((hlow.block _ b3l).trans HRW.out.r3)
    have n2 : bb ≠ w.heap.size := by omega
    have n2' : w.heap.size ≠ bb := by omega
    have n3 : bb ≠ w.heap.size + 1 := by omega
    have n3' : w.heap.size + 1 ≠ bb := by omega
    have HB0 : Hid (Below w.heap.size w wr) := hid (HRW.out.bel.trans (hlow.mono (by omega)))
    obtain ⟨ns, op, U, M, hB, hI, hU, hcase⟩ := hbr.out
    obtain ⟨nb', cap, hS⟩ := hB.see hI.wf
    have c3 := hS.c3
    have c4 := hS.c4
    have cf := hS.fr 1
    have hbl := hS.lt
    rcases hcase with ⟨rfl, f, hRf, hff⟩ | ⟨rfl, z, rfl, hRz⟩
    · by_cases hlt : i < s.size
      · have hnx := rnext_any s i (by omega) hlt wr
        have HP := hid hRf
        have HI := hid hI
        have HBA := hid hB
        have hlt' : (i : Int) < (s.size : Int) := by omega
        have hfact := piece_fact hlt
        have hone := com_fact hlt
        have HPC := hid (And.intro hfact hone)
        cases hpc : pieceP nameB s i with
        | text t k =>
          rw [hpc] at hnx hfact
          obtain ⟨k1, k2, k3⟩ := hfact
          have k1 : i < k := k1
          have k2 : k ≤ s.size := k2
          have k3 : t.size ≤ k - i := k3
          obtain ⟨q1, q2, q3, q4⟩ := kq_of kq_text
          have HNX := hid hnx
          have HQ := hid hpc
          have HWB : Hid (∀ w4, Below wr.heap.size wr w4 → ∀ o, BAt W bb ns (inn op) 0 a U (w4.alloc o) M) := hid (fun w4 hb o => hB.below (hb.trans (((Below.refl _ _).alloc (Nat.le_refl _) _).mono hb.size)))
          clear hnx hpc hone hRf hI hB hS hlow hbr r20 r21 r30 r31 r2f r3f n2 n2' n3 n3' c4 cf HBA HPC HB0
          go_wp2_with (go_at_call 22; refine HNX.out.mono ?_; rintro e w4 ⟨hB4, rfl⟩; have HB4 := hid (HWB.out w4 hB4); clear hB4; unfold rpv)
          refine (btext_all (k := k) (HB4.out _) HI.out (by omega) (by omega) (by omega) t k3 i).mono ?_
          rintro e w5 ⟨rfl, hsaid⟩
          obtain ⟨c', a', hbr⟩ := br_text hlt HP.out hff HI.out HQ.out hU hsaid
          have HBR := hid hbr
          clear hsaid hbr HB4 HNX HWB q1 q2 q3 q4 c3
          go_wp2_with fail
          go_roundg (s.size - k)
          case measure => omega
          case rel => exact ⟨k, c', a', rfl, k2, by go_num, HBR⟩
        | com t k =>
          rw [hpc] at hnx hfact
          obtain ⟨k1, k2, k3⟩ := hfact
          have k1 : i < k := k1
          have k2 : k ≤ s.size := k2
          have k3 : t.size ≤ s.size := k3
          obtain ⟨q1, q2, q3, q4⟩ := kq_of kq_com
          have HNX := hid hnx
          have HQ := hid hpc
          have HWB : Hid (∀ w4, Below wr.heap.size wr w4 → ∀ o, BAt W bb ns (inn op) 0 a U (w4.alloc o) M) := hid (fun w4 hb o => hB.below (hb.trans (((Below.refl _ _).alloc (Nat.le_refl _) _).mono hb.size)))
          clear hnx hpc hone hRf hI hB hS hlow hbr r20 r21 r30 r31 r2f r3f n2 n2' n3 n3' c4 cf HBA HPC HB0
          go_wp2_with (go_at_call 22; refine HNX.out.mono ?_; rintro e w4 ⟨hB4, rfl⟩; have HB4 := hid (HWB.out w4 hB4); clear hB4; unfold rpv)
          refine (bput_any (HB4.out _) HI.out (by omega) (by omega) 4 t (by decide) (by omega) i).mono ?_
          rintro e w5 ⟨⟨z, rfl⟩, hsaid⟩
          obtain ⟨c', a', hbr⟩ := br_com hlt HP.out hff HI.out HQ.out hU hsaid
          have HBR := hid hbr
          clear hsaid hbr HB4 HNX HWB q1 q2 q3 q4 c3
          go_wp2_with fail
          go_roundg (s.size - k)
          case measure => omega
          case rel => exact ⟨k, c', a', rfl, k2, by go_num, HBR⟩
        | none k =>
          rw [hpc] at hnx hfact
          obtain ⟨k1, k2, k3⟩ := hfact
          have k1 : i < k := k1
          have k2 : k ≤ s.size := k2
          obtain ⟨q1, q2, q3, q4⟩ := kq_of kq_nothing
          have HNX := hid hnx
          have HQ := hid hpc
          have HWB : Hid (∀ w4, Below wr.heap.size wr w4 → ∀ o, BAt W bb ns (inn op) 0 a U (w4.alloc o) M) := hid (fun w4 hb o => hB.below (hb.trans (((Below.refl _ _).alloc (Nat.le_refl _) _).mono hb.size)))
          clear hnx hpc hone hRf hI hB hS hlow hbr r20 r21 r30 r31 r2f r3f n2 n2' n3 n3' c4 cf HBA HPC HB0
          go_wp2_with (go_at_call 22; refine HNX.out.mono ?_; rintro e w4 ⟨hB4, rfl⟩; have HB4 := hid (HWB.out w4 hB4); clear hB4; unfold rpv)
          obtain ⟨c', a', hbr⟩ : ∃ c' a', BR W bb s R k c' a' (w4.alloc (rpObj kNothing i k noS noS (.slice none 0 0))) := br_none hlt HP.out hff HI.out HQ.out hU (HB4.out _)
          have HBR := hid hbr
          clear hbr HB4 HNX HWB q1 q2 q3 q4 c3
          go_roundg (s.size - k)
          case measure => omega
          case rel => exact ⟨k, c', a', rfl, k2, by go_num, HBR⟩
        | fin name k =>
          rw [hpc] at hnx hfact
          obtain ⟨k1, k2, k3⟩ := hfact
          have k1 : i < k := k1
          have k2 : k ≤ s.size := k2
          obtain ⟨q1, q2, q3, q4⟩ := kq_of kq_end
          have HNX := hid hnx
          have HQ := hid hpc
          have HWB : Hid (∀ w4, Below wr.heap.size wr w4 → ∀ o, BAt W bb ns (inn op) 0 a U (w4.alloc o) M) := hid (fun w4 hb o => hB.below (hb.trans (((Below.refl _ _).alloc (Nat.le_refl _) _).mono hb.size)))
          clear hnx hpc hone hRf hI hB hS hlow hbr r20 r21 r30 r31 r2f r3f n2 n2' n3 n3' c4 cf HBA HPC HB0
          go_wp2_with (go_at_call 22; refine HNX.out.mono ?_; rintro e w4 ⟨hB4, rfl⟩; have HB4 := hid (HWB.out w4 hB4); clear hB4; unfold rpv)
          refine (bend_any (HB4.out _) HI.out.wf HI.out.chain name).mono ?_
          rintro e w5 ⟨rfl, hB5, hV5⟩
          obtain ⟨c', a', hbr⟩ := br_fin hlt HP.out hff HI.out HQ.out hU hB5
          have HBR := hid hbr
          clear hB5 hV5 hbr HB4 HNX HWB q1 q2 q3 q4 c3
          go_wp2_with fail
          go_roundg (s.size - k)
          case measure => omega
          case rel => exact ⟨k, c', a', rfl, k2, by go_num, HBR⟩
        | start name l k =>
          rw [hpc] at hnx hfact
          obtain ⟨k1, k2, k3, k4⟩ := hfact
          have k1 : i < k := k1
          have k2 : k ≤ s.size := k2
          have k3 : l.length ≤ k - i := k3
          obtain ⟨q1, q2, q3, q4⟩ := kq_of kq_start
          have HNX := hid hnx
          have HQ := hid hpc
          have HWB : Hid (∀ w4, Below wr.heap.size wr w4 → ∀ av, AttrsR w4 wr.heap.size av (firsts l) → BAt W bb ns (inn op) 0 a U (w4.alloc (rpObj kStart i k name noS av)) M ∧ AttrsV W (w4.alloc (rpObj kStart i k name noS av)) M av (firsts l) ∧ M w4.heap.size = .other ∧ ∃ aa ac, av = .slice aa (firsts l).length ac) := hid (fun w4 hb av hA => by
            refine ⟨hB.below (hb.trans (((Below.refl _ _).alloc (Nat.le_refl _) _).mono hb.size)), ?_, hB.fresh _ hb.size, ?_⟩
            · exact (hA.keep (fun g _ hg => Below.heap_alloc w4 _ g hg)).free hs2 hB.fresh
            · obtain ⟨aa, ac, e, _⟩ := hA
              exact ⟨aa, ac, e⟩)
          clear hnx hpc hone hRf hI hB hS hlow hbr r20 r21 r30 r31 r2f r3f n2 n2' n3 n3' c4 cf HBA HPC HB0 k4
          cases hn : nameB name with
          | false =>
            go_wp2_with (first
              | (go_at_call 22; refine HNX.out.mono ?_; rintro e w4 ⟨hB4, av, rfl, hA4⟩; obtain ⟨hb4, _, _, aa, ac, rfl⟩ := HWB.out w4 hB4 av hA4; have HB4 := hid hb4; clear hB4 hA4 hb4; unfold rpv)
              | (go_at_call 26; refine (isName_any _ _).mono ?_; rintro e w' ⟨rfl, rfl⟩; rw [hn]))
            obtain ⟨c', a', hbr⟩ := br_noname hlt HP.out hff HI.out HQ.out hn hU HB4.out
            have HBR := hid hbr
            clear hbr HB4 HNX HWB q1 q2 q3 q4 c3
            go_roundg (s.size - k)
            case measure => omega
            case rel => exact ⟨k, c', a', rfl, k2, by go_num, HBR⟩
          | true =>
            go_wp2_with (first
              | (go_at_call 22; refine HNX.out.mono ?_; rintro e w4 ⟨hB4, av, rfl, hA4⟩; obtain ⟨hb4, ha4, hm4, aa, ac, rfl⟩ := HWB.out w4 hB4 av hA4; have HB4 := hid (And.intro hb4 (And.intro ha4 hm4)); clear hB4 hA4 hb4 ha4 hm4; unfold rpv)
              | (go_at_call 26; refine (isName_any _ _).mono ?_; rintro e w' ⟨rfl, rfl⟩; rw [hn]))
            have hst := bstart_any HB4.out.1 HI.out (by omega) name hn (nameB_le hn) l _ HB4.out.2.1 (show i ≤ k by omega) (show k ≤ 20000 by omega) (show l.length ≤ k by omega) i
            refine hst.mono ?_
            rintro e w6 ⟨rfl, hstd⟩
            have hpb := (hstd.1.2 w4.heap.size (by simp) HB4.out.2.2).trans (heap_alloc_new w4 _)
            obtain ⟨_, _, _, p3, _, _, _⟩ := six_cellsR hpb
            have hpl := lt_of_heap hpb
            have HSD := hid hstd
            clear hst hstd hpb HB4 HNX HWB q1 q2 q3 q4 c3
            cases hr : rawB name with
            | false =>
              have hr2 := hr
              unfold rawB at hr2
              rw [Bool.or_eq_false_iff] at hr2
              obtain ⟨y1, y2⟩ := hr2
              go_wp2_with fail
              obtain ⟨c', a', hbr⟩ := br_start hlt HP.out hff HI.out HQ.out hn hr hU HSD.out
              have HBR := hid hbr
              clear hbr HSD
              go_roundg (s.size - k)
              case measure => omega
              case rel => exact ⟨k, c', a', rfl, k2, by go_num, HBR⟩
            | true =>
              obtain ⟨_, M1, ns1, op1, c1, a1, hB1, hI1, hc1⟩ := HSD.out
              obtain ⟨t2, ht2, t3, t4, _⟩ := rawE_is s name k k2
              have hre := fun w => rawEnd_any s name k (by omega) k2 (rawB_size hr).1 w
              rw [ht2] at hre
              have HRE := hid hre
              have HT2 := hid ht2
              have HB1 := hid hB1
              have HI1 := hid hI1
              have HC1 := hid hc1
              have g1 : (k : Int) ≤ (t2 : Int) := by omega
              have g2 : (t2 : Int) ≤ (s.size : Int) := by omega
              have g3 : (s.extract k t2).size ≤ t2 - k := by rw [ByteArray.size_extract]; omega
              have hr2 := hr
              unfold rawB at hr2
              clear hre ht2 hB1 hI1 hc1 HSD
              cases y1 : (name.toList == [115, 116, 121, 108, 101]) with
              | true =>
                clear hr2
                go_wp2_with (go_at_call 28; refine (HRE.out _).mono ?_; rintro e w7 ⟨rfl, hb7⟩; have HB7 := hid (HB1.out.below hb7); clear hb7)
                refine (btext_all (k := t2) HB7.out HI1.out (by omega) t3 (by omega) (s.extract k t2) g3 k).mono ?_
                rintro e w8 ⟨rfl, hsaid⟩
                rw [← HT2.out] at hsaid
                obtain ⟨c', a', hbr⟩ := br_raw hlt HP.out hff HQ.out hn hr hU HC1.out (by rw [HT2.out]; exact t3) (by rw [HT2.out]; exact t4) hsaid
                rw [HT2.out] at hbr
                have HBR := hid hbr
                clear hsaid hbr HB7 HRE HB1 HI1 HC1
                go_wp2_with fail
                go_roundg (s.size - t2)
                case measure => omega
                case rel => exact ⟨t2, c', a', rfl, t4, by go_num, HBR⟩
              | false =>
                have y2 : (name.toList == [115, 99, 114, 105, 112, 116]) = true := by rw [y1] at hr2; simpa using hr2
                clear hr2
                go_wp2_with (go_at_call 28; refine (HRE.out _).mono ?_; rintro e w7 ⟨rfl, hb7⟩; have HB7 := hid (HB1.out.below hb7); clear hb7)
                refine (btext_all (k := t2) HB7.out HI1.out (by omega) t3 (by omega) (s.extract k t2) g3 k).mono ?_
                rintro e w8 ⟨rfl, hsaid⟩
                rw [← HT2.out] at hsaid
                obtain ⟨c', a', hbr⟩ := br_raw hlt HP.out hff HQ.out hn hr hU HC1.out (by rw [HT2.out]; exact t3) (by rw [HT2.out]; exact t4) hsaid
                rw [HT2.out] at hbr
                have HBR := hid hbr
                clear hsaid hbr HB7 HRE HB1 HI1 HC1
                go_wp2_with fail
                go_roundg (s.size - t2)
                case measure => omega
                case rel => exact ⟨t2, c', a', rfl, t4, by go_num, HBR⟩
      · rw [readF_end hlt] at hRf
        obtain ⟨nv, uv, d0, d1, ⟨na, nn, nc, rfl⟩, hfin⟩ := hB.done HRW.out
        have HF := hid hfin
        have HRf := hid hRf
        have HWF : Hid (WF ns ∧ Few ns 20000) := hid ⟨hI.wf, fun j n hn => Nat.le_trans (hI.attrs j n hn) (by omega)⟩
        have hlt' : ¬ ((i : Int) < (s.size : Int)) := by omega
        clear hfin hRf hB hI hS hlow hlt hff hbr
        go_wp2_with fail
        rw [HRf.out]
        obtain ⟨ps, q1, q2, q3⟩ := HF.out (.slice na nn nc) (.slice none 0 0) (.int .i64 0) (.int .i64 (-1))
        refine bodyPost_ret (v := .tuple #[.agg #[.slice na nn nc, .slice none 0 0], .agg #[.int .i64 0, .int .i64 (-1)]]) ?_ rfl ⟨M, bb, _, ps, inn op, a, rfl, q1, q2, q3, HWF.out.1, HWF.out.2⟩
        simp [results, Tryz.results7, go_sem, r20, r21, r30, r31]
        try rfl
    · have HRz := hid hRz
      clear hRz hB hI hS hlow hbr
      go_wp2_with fail
      all_goals (
        go_region
        all_goals go_wp2_with fail
        all_goals rw [HRz.out]
        refine bodyPost_ret (v := .tuple #[.agg #[.slice none 0 0, .slice none 0 0], .agg #[.int .i64 2, .int .i64 z]]) ?_ rfl ⟨rfl, ?_⟩
        · simp [results, Tryz.results7, go_sem, r20, r21, r30, r31]
          try rfl
        · exact ((((HB0.out.drew).setCell (Nat.le_refl _) _).setCell (Nat.le_refl _) _).setCell (Nat.le_succ _) _).setCell (Nat.le_succ _) _)

set_option maxHeartbeats 8000000 in
set_option maxRecDepth 100000 in
theorem rreadMarkup_long (s : ByteArray) (hs : 20000 < s.size) (hs2 : s.size ≤ 9223372036854775807) (w : World) : Calls Tryz.prog 7 #[.string s] w (RReadPost w (.bad 20000)) := by
  have hsI : (20000 : Int) < (s.size : Int) := by omega
  have HB : Hid (∀ o1 o2, Below w.heap.size w ((w.alloc o1).alloc o2)) := hid (fun o1 o2 => ((Below.refl _ _).alloc (Nat.le_refl _) _).alloc (by simp) _)
  go_enter Tryz.func7, Tryz.ntmps7
  go_wp2_with fail
  refine bodyPost_ret (v := .tuple #[.agg #[.slice none 0 0, .slice none 0 0], .agg #[.int .i64 2, .int .i64 20000]]) ?_ rfl ⟨rfl, HB.out _ _⟩
  simp [results, Tryz.results7, go_sem]
  try rfl
theorem rread_all (s : ByteArray) (hs : s.size ≤ 9223372036854775807) (w : World) : Calls Tryz.prog 7 #[.string s] w (RReadPost w (if 20000 < s.size then .bad 20000 else readS s)) := by
  by_cases h : 20000 < s.size
  · rw [if_pos h]; exact rreadMarkup_long s h hs w
  · rw [if_neg h]; exact rreadMarkup_any s (by omega) w
end Go.Proofs.YtkaeenafejdkfaaGreatDoor
