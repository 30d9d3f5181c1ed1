/- MarkupRead, walked: the tree of any text is the document's, or both tell which piece is one too many. -/
import Derived.Test.YtnoaojjljcbflaaGreatDoorM32
import Derived.Test.YtnoaojjljcbflaaGreatDoorBRead
import Derived.Test.YtnoaojjljcbflaaGreatDoorAlikeU
import Derived.Test.YtnoaojjljcbflaaGreatDoorM46
namespace Go.Proofs.YtnoaojjljcbflaaGreatDoor
open Go.RowKit

abbrev rExt : Ext := ⟨[], 26⟩
theorem reheadX {p : Nat} {a : Int} {w : World} {M : Nat → Lab} {bb tb2 : Nat} {nv uv : Value} {ps : List Pn} {us : List Value} (h : RLies (EX := bExt p 0 a) w M bb nv uv ps us) (hh : w.heap[tb2]? = some (.cells #[nv, uv] 26 (0, 0))) (hM : M tb2 = .other) : ∃ M', RLies (EX := rExt) w M' tb2 nv uv ps us := by
  have r := RLies.relabel (EX := bExt p 0 a) h hM (lt_of_heap hh) .tree
  exact ⟨_, RLies.mk (EX := rExt) (RLies.fresh (EX := bExt p 0 a) r) (by simp) hh (RLies.nodes (EX := bExt p 0 a) r) (RLies.undos (EX := bExt p 0 a) r) (RLies.node (EX := bExt p 0 a) r)⟩
set_option maxHeartbeats 1000000 in
theorem undo_empty {w : World} {M : Nat → Lab} {tb : Nat} {nv uv : Value} {ps : List Pn} (h : Lies w M tb nv uv ps []) :
    Calls Tryz.prog 20 #[.pointer (some ⟨tb, 0, none⟩)] w fun e w' => e = .returned (.bool false) ∧ w' = w := by
  obtain ⟨a, cap, hv, hc, hm⟩ := h.undos.shape
  have c1 := h.cell1
  rw [hv] at c1
  clear h
  go_enter Tryz.func20, Tryz.ntmps20
  go_wp2
  go_ret
  exact ⟨rfl, rfl⟩

set_option maxHeartbeats 8000000 in
set_option maxRecDepth 100000 in
theorem lread_any {w : World} {A : Nat → Addr} (h7 : Errs7 w A) (m8 : Int) (h8 : w.cell? ⟨8, 0, none⟩ = some (.int .i64 m8)) (hE : Errs w (fun _ => .other)) (s : ByteArray) (hs : s.size ≤ 9223372036854775807) :
    Calls Tryz.prog 6 #[.string s] w fun e w' => e = .returned (.bool true) ∧ Below w.heap.size w w' := by
  have hbv : w.cell? ⟨0, 0, none⟩ = some (.iface 233 (.pointer (some (A 1)))) := h7.cell 1 (by decide)
  have hp := read_any s (by omega) m8 h8 hE _ hbv
  have hr := fun w => rread_all s hs w
  obtain ⟨R, hR⟩ : ∃ R, R = readR s := ⟨_, rfl⟩
  rw [← hR] at hp
  rw [show (if 20000 < s.size then Res.bad 20000 else readS s) = R from hR.symm] at hr
  clear hR
  have HP := hid hp
  have HR := hid hr
  have H7 := hid h7
  clear hp hr hbv h8 hE h7
  cases R with
  | bad i =>
    go_enter Tryz.func6, Tryz.ntmps6
    go_wp2_with fail
    refine HP.out.mono ?_
    rintro e w1 ⟨fb, rfl, hf1, hb1⟩
    have H71 := hid (H7.out.below hb1)
    go_wp2_with fail
    refine (HR.out _).mono ?_
    rintro e w2 ⟨rfl, hb2⟩
    have hf2 := (hb2.block fb (lt_of_heap hf1)).trans hf1
    have H72 := hid (H71.out.below hb2)
    have HB2 := hid (hb1.trans (hb2.mono hb1.size))
    have HF2 := hid hf2
    clear hf1 hf2 hb1 hb2 HP HR H7 H71
    go_wp2_with fail
    obtain ⟨w3, hw3⟩ : ∃ w3, w3 = (w2.alloc (.cells #[.slice none 0 0, .slice none 0 0] 26 (0, 0))).alloc (.cells #[.int .i64 2, .int .i64 i] 28 (0, 0)) := ⟨_, rfl⟩
    have hb3 : Below w2.heap.size w2 w3 := by rw [hw3]; exact ((Below.refl _ _).alloc (Nat.le_refl _) _).alloc (by simp) _
    have hn3 : w3.heap[w2.heap.size + 1]? = some (.cells #[.int .i64 2, .int .i64 i] 28 (0, 0)) := by
      have := heap_alloc_new (w2.alloc (.cells #[.slice none 0 0, .slice none 0 0] 26 (0, 0))) (.cells #[.int .i64 2, .int .i64 i] 28 (0, 0))
      rw [World.size_alloc] at this
      rw [hw3]; exact this
    rw [← hw3]
    refine (told_fault (H72.out.below hb3) fb i ((hb3.block fb (lt_of_heap HF2.out)).trans HF2.out)).mono ?_
    rintro e w4 ⟨rfl, hb4⟩
    have c0 : w4.cell? ⟨w2.heap.size + 1, 0, none⟩ = some (.int .i64 2) := by rw [cell_of_row w4 _ 0 _ _ _ ((hb4.block _ (lt_of_heap hn3)).trans hn3)]; rfl
    have HB4 := hid (HB2.out.trans ((hb3.trans (hb4.mono hb3.size)).mono HB2.out.size))
    clear hw3 hb3 hn3 hb4 H72 HB2 HF2 w3
    go_wp2_with fail
    go_ret
    exact ⟨rfl, HB4.out⟩
  | ok ns =>
    go_enter Tryz.func6, Tryz.ntmps6
    go_wp2_with fail
    refine HP.out.mono ?_
    rintro e w1 ⟨tb, M1, nv, uv, ps, rfl, hL1, hps, hm1⟩
    have HL1 := hid (And.intro hL1 (And.intro hps hm1))
    clear hL1 hps hm1
    go_wp2_with fail
    refine (HR.out _).mono ?_
    rintro e w2 ⟨M2, bb, nv2, qs, p, a, rfl, hL2, hqs, hm2, hW, hF⟩
    obtain ⟨na, nc, hnv, _⟩ := (RLies.nodes (EX := bExt p 0 a) hL2).shape
    subst hnv
    have HL2 := hid (And.intro hL2 (And.intro hqs (And.intro hm2 (And.intro hW hF))))
    clear hL2 hqs hm2 hW hF HP HR H7
    go_wp2_with fail
    obtain ⟨w3, hw3⟩ : ∃ w3, w3 = (w2.alloc (.cells #[.slice na qs.length nc, .slice none 0 0] 26 (0, 0))).alloc (.cells #[.int .i64 0, .int .i64 (-1)] 28 (0, 0)) := ⟨_, rfl⟩
    have hb3 : Below w2.heap.size w2 w3 := by rw [hw3]; exact ((Below.refl _ _).alloc (Nat.le_refl _) _).alloc (by simp) _
    have hn3 : w3.heap[w2.heap.size + 1]? = some (.cells #[.int .i64 0, .int .i64 (-1)] 28 (0, 0)) := by
      have := heap_alloc_new (w2.alloc (.cells #[.slice na qs.length nc, .slice none 0 0] 26 (0, 0))) (.cells #[.int .i64 0, .int .i64 (-1)] 28 (0, 0))
      rw [World.size_alloc] at this
      rw [hw3]; exact this
    have hr3 : w3.heap[w2.heap.size]? = some (.cells #[.slice na qs.length nc, .slice none 0 0] 26 (0, 0)) := by
      rw [hw3, Below.heap_alloc _ _ _ (by simp)]
      exact heap_alloc_new w2 _
    rw [← hw3]
    refine (told_nil w3).mono ?_
    rintro e w4 ⟨rfl, hb4⟩
    have c0 : w4.cell? ⟨w2.heap.size + 1, 0, none⟩ = some (.int .i64 0) := by rw [cell_of_row w4 _ 0 _ _ _ ((hb4.block _ (lt_of_heap hn3)).trans hn3)]; rfl
    have hb24 : Below w2.heap.size w2 w4 := hb3.trans (hb4.mono hb3.size)
    have hb12 : Below w1.heap.size w1 w2 := moved_below HL2.out.2.2.1
    have hb01 : Below w.heap.size w w1 := moved_below HL1.out.2.2
    have hb14 : Below w1.heap.size w1 w4 := hb12.trans (hb24.mono hb12.size)
    have hL4 : Lies w4 M1 tb nv uv ps [] := HL1.out.1.below hb14
    have hR4 := RLies.below (EX := bExt p 0 a) HL2.out.1 hb24
    obtain ⟨M5, hR5⟩ := reheadX hR4 ((hb4.block _ (lt_of_heap hr3)).trans hr3) (RLies.fresh (EX := bExt p 0 a) HL2.out.1 _ (Nat.le_refl _))
    have he : nodesOf ps = nodesOf qs := HL1.out.2.1.trans HL2.out.2.1.symm
    have hal := alikeU_any (EX := rExt) hL4 hR5 he (by rw [HL1.out.2.1]; exact HL2.out.2.2.2.1) (K := 20000) (by rw [HL1.out.2.1]; exact HL2.out.2.2.2.2) (by decide)
    have HU := hid (undo_empty hL4)
    have HA := hid hal
    have HB4 := hid (hb01.trans (hb14.mono hb01.size))
    clear hw3 hb3 hn3 hr3 hb4 hb24 hb12 hb01 hb14 hL4 hR4 hR5 he hal HL1 HL2 w3
    go_wp2_with (first | (go_at_call 20; refine HU.out.mono ?_; rintro e w5 ⟨rfl, rfl⟩) | (go_at_call 14; refine HA.out.mono ?_; rintro e w6 ⟨rfl, hb6⟩; have HB6 := hid hb6; clear hb6))
    go_ret
    exact ⟨rfl, HB4.out.trans (HB6.out.mono HB4.out.size)⟩

theorem errs_other {w : World} {A : Nat → Addr} (h : Errs7 w A) : Errs w (fun _ => .other) := by
  refine ⟨fun _ _ => rfl, fun g hg => ?_⟩
  unfold errG at hg
  simp only [Bool.or_eq_true, beq_iff_eq] at hg
  rcases hg with ((rfl | rfl) | rfl) | rfl
  · exact ⟨_, _, h.cell 2 (by decide)⟩
  · exact ⟨_, _, h.cell 1 (by decide)⟩
  · exact ⟨_, _, h.cell 3 (by decide)⟩
  · exact ⟨_, _, h.cell 4 (by decide)⟩

set_option maxHeartbeats 4000000 in
set_option maxRecDepth 100000 in
/-- MarkupRead answers true -/
theorem markupRead_any {w : World} {A : Nat → Addr} (h7 : Errs7 w A) (m8 : Int) (h8 : w.cell? ⟨8, 0, none⟩ = some (.int .i64 m8)) (s : ByteArray) (hs : s.size ≤ 9223372036854775807) :
    Calls Tryz.prog 3 #[.string s] w fun e w' => e = .returned (.bool true) ∧ Below w.heap.size w w' := by
  have hl8 := World.block_lt_of_cell? w _ h8
  have h1 := lread_any h7 m8 h8 (errs_other h7) ⟨#[60, 112, 32, 97, 61, 49, 62, 98, 60, 112, 62, 99]⟩ (by decide)
  have h2 := fun w1 (hb : Below w.heap.size w w1) => lread_any (h7.below hb) m8 ((hb.cell (p := ⟨8, 0, none⟩) hl8).trans h8) (errs_other (h7.below hb)) s hs
  have H1 := hid h1
  have H2 := hid h2
  clear h1 h2 h7 h8 hl8
  by_cases ha : 3000 < s.size
  · have ha' : (3000 : Int) < (s.size : Int) := by omega
    by_cases hb : s.size ≤ 20000
    · have hb' : (s.size : Int) ≤ 20000 := by omega
      go_enter Tryz.func3, Tryz.ntmps3
      go_wp2_with fail
      refine H1.out.mono ?_
      rintro e w1 ⟨rfl, hb1⟩
      have HB1 := hid hb1
      clear hb1 H1 H2
      go_wp2_with fail
      go_ret
      exact ⟨rfl, HB1.out⟩
    · have hb' : ¬ ((s.size : Int) ≤ 20000) := by omega
      go_enter Tryz.func3, Tryz.ntmps3
      go_wp2_with fail
      refine H1.out.mono ?_
      rintro e w1 ⟨rfl, hb1⟩
      have HB1 := hid hb1
      have H3 := hid (H2.out w1 hb1)
      clear hb1 H1 H2
      go_wp2_with fail
      refine H3.out.mono ?_
      rintro e w2 ⟨rfl, hb2⟩
      have HB2 := hid hb2
      clear hb2 H3
      go_wp2_with fail
      go_ret
      exact ⟨rfl, HB1.out.trans (HB2.out.mono HB1.out.size)⟩
  · have ha' : ¬ ((3000 : Int) < (s.size : Int)) := by omega
    go_enter Tryz.func3, Tryz.ntmps3
    go_wp2_with fail
    refine H1.out.mono ?_
    rintro e w1 ⟨rfl, hb1⟩
    have HB1 := hid hb1
    have H3 := hid (H2.out w1 hb1)
    clear hb1 H1 H2
    go_wp2_with fail
    refine H3.out.mono ?_
    rintro e w2 ⟨rfl, hb2⟩
    have HB2 := hid hb2
    clear hb2 H3
    go_wp2_with fail
    go_ret
    exact ⟨rfl, HB1.out.trans (HB2.out.mono HB1.out.size)⟩
end Go.Proofs.YtnoaojjljcbflaaGreatDoor
