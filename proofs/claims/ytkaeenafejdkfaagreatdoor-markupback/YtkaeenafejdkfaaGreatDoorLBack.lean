/- MarkupBack, walked: what is written of a text's tree has that tree. -/
import Derived.Test.YtkaeenafejdkfaaGreatDoorM41
import Derived.Test.YtkaeenafejdkfaaGreatDoorRAlike
namespace Go.Proofs.YtkaeenafejdkfaaGreatDoor
open Go.RowKit

set_option maxHeartbeats 8000000 in
set_option maxRecDepth 100000 in
/-- MarkupBack answers true -/
theorem markupBack_any {w : World} (h7 : Errs w (fun _ => .other)) (m8 : Int) (h8 : w.cell? ⟨8, 0, none⟩ = some (.int .i64 m8)) (s : ByteArray) (hs : s.size ≤ 9223372036854775807) :
    Calls Tryz.prog 4 #[.string s] w fun e w' => e = .returned (.bool true) ∧ Below w.heap.size w w' := by
  have hl8 := World.block_lt_of_cell? w _ h8
  by_cases hlong : 1500 < s.size
  · have hlong' : (1500 : Int) < (s.size : Int) := by omega
    clear h7 h8
    go_enter Tryz.func4, Tryz.ntmps4
    go_wp2_with fail
    go_ret
    exact ⟨rfl, Below.refl _ _⟩
  have hlong' : ¬ ((1500 : Int) < (s.size : Int)) := by omega
  have hRR : readR s = readS s := by unfold readR; rw [if_neg (by omega)]
  obtain ⟨R, hR⟩ : ∃ R, R = readS s := ⟨_, rfl⟩
  obtain ⟨bv, hbv⟩ := h7.bound
  have HP : Hid (∀ W, Below w.heap.size w W → Calls Tryz.prog 8 #[.string s] W (ReadPost W bv R)) := by
    intro W hW
    have := read_any s (by omega) m8 ((hW.cell (p := ⟨8, 0, none⟩) hl8).trans h8) (h7.belowO hW) _ ((hW.cell (p := ⟨0, 0, none⟩) (World.block_lt_of_cell? w _ hbv)).trans hbv)
    rw [hRR, ← hR] at this
    exact this
  have HQ : Hid (Calls Tryz.prog 7 #[.string s] w (RReadPost w R)) := by
    have := rread_all s hs w
    rw [if_neg (by omega), ← hR] at this
    exact this
  cases R with
  | bad i =>
    clear h7 h8 hR hRR hbv
    go_enter Tryz.func4, Tryz.ntmps4
    go_wp2_with fail
    refine HQ.out.mono ?_
    rintro e w1 ⟨rfl, hb1⟩
    have HB1 := hid hb1
    clear hb1 HQ
    go_wp2_with fail
    obtain ⟨W2, hW2⟩ : ∃ W2, W2 = (w1.alloc (.cells #[.slice none 0 0, .slice none 0 0] 26)).alloc (.cells #[.int .i64 2, .int .i64 i] 28) := ⟨_, rfl⟩
    have c0 : W2.cell? ⟨w1.heap.size + 1, 0, none⟩ = some (.int .i64 2) := by
      have := heap_alloc_new (w1.alloc (.cells #[.slice none 0 0, .slice none 0 0] 26)) (.cells #[.int .i64 2, .int .i64 i] 28)
      rw [World.size_alloc] at this
      rw [hW2, cell_of_row _ _ _ _ _ _ this]; rfl
    have HB2 : Hid (Below w.heap.size w W2) := by
      show Below _ _ _
      rw [hW2]
      exact (HB1.out.alloc HB1.out.size _).alloc (by rw [World.size_alloc]; exact Nat.le_succ_of_le HB1.out.size) _
    rw [← hW2]
    have l0 := World.block_lt_of_cell? W2 _ c0
    clear hW2 HB1
    refine (HP.out _ HB2.out).mono ?_
    rintro e W3 ⟨fb, rfl, _, hb3⟩
    have d0 := (hb3.cell (p := ⟨w1.heap.size + 1, 0, none⟩) l0).trans c0
    have HB3 := hid (HB2.out.trans (hb3.mono HB2.out.size))
    clear hb3 c0 l0
    go_wp2_with fail
    go_ret
    exact ⟨rfl, HB3.out⟩
  | ok ns =>
    have hr := hR.symm
    obtain ⟨hback, hlen⟩ := spell_back hr
    obtain ⟨hcov, hwf, hfew⟩ := readS_end hr
    obtain ⟨n0, hn0, hc0⟩ := hcov
    have hsz := spellT_size ns
    have HWR : Hid (∀ W, Below w.heap.size w W → ∀ {M : Nat → Lab} {tb : Nat} {nv uv : Value} {ps : List Pn} {us : List Value}, Lies W M tb nv uv ps us → nodesOf ps = ns → Calls Tryz.prog 9 #[.pointer (some ⟨tb, 0, none⟩), .int .i64 0] W fun e w' => e = .returned (.tuple #[.string ⟨(spellT ns).toArray⟩, .nilIface]) ∧ Below W.heap.size W w') := by
      intro W hW M tb nv uv ps us hL hps
      subst hps
      exact write_any (h7.belowO hW) m8 ((hW.cell (p := ⟨8, 0, none⟩) hl8).trans h8) hL hr (by omega)
    have HQ2 : Hid (∀ W, Calls Tryz.prog 7 #[.string ⟨(spellT ns).toArray⟩] W (RReadPost W (.ok ns))) := by
      intro W
      have := rread_all ⟨(spellT ns).toArray⟩ (by omega) W
      rw [if_neg (by omega), hback] at this
      exact this
    have HAL : Hid (∀ (W : World) (nv1 uv1 nv2 uv2 : Value) (ps qs : List Pn), nodesOf ps = ns → nodesOf qs = ns → TrV W nv1 ps → TrV W nv2 qs → Calls Tryz.prog 10 #[.agg #[nv1, uv1], .int .i64 0, .agg #[nv2, uv2], .int .i64 0] W fun e w' => e = .returned (.bool true) ∧ Below W.heap.size W w') := by
      intro W nv1 uv1 nv2 uv2 ps qs h1 h2 t1 t2
      subst h1
      obtain ⟨p0, hp0, rfl⟩ := nodesOf_get hn0
      refine ralike_any (j := 0) h2.symm (fun j q hq => ?_) t1 t2 hp0 hc0
      have := hfew j q.n (nodes_get hq)
      exact ⟨this.1, by omega⟩
    clear h7 h8 hR hRR hbv hback hr hwf hfew hc0 hn0 hlen hsz
    go_enter Tryz.func4, Tryz.ntmps4
    go_wp2_with fail
    refine HQ.out.mono ?_
    rintro e w1 ⟨M1, bb, nv, ps, p, a, rfl, hL1, hps, hm1, _, _⟩
    obtain ⟨na, nc, hnv, _⟩ := (RLies.nodes (EX := bExt p 0 a) hL1).shape
    subst hnv
    have HB1 := hid (moved_below hm1)
    have HT1 := hid (And.intro (RLies.trv (EX := bExt p 0 a) hL1) hps)
    clear hL1 hps hm1 HQ
    go_wp2_with fail
    obtain ⟨W2, hW2⟩ : ∃ W2, W2 = (w1.alloc (.cells #[.slice na ps.length nc, .slice none 0 0] 26)).alloc (.cells #[.int .i64 0, .int .i64 (-1)] 28) := ⟨_, rfl⟩
    have hb12 : Below w1.heap.size w1 W2 := by rw [hW2]; exact ((Below.refl _ _).alloc (Nat.le_refl _) _).alloc (by simp) _
    have hh0 : W2.heap[w1.heap.size]? = some (.cells #[.slice na ps.length nc, .slice none 0 0] 26 (0, 0)) := by
      rw [hW2, Below.heap_alloc _ _ _ (by simp)]
      exact heap_alloc_new w1 _
    have hh1 : W2.heap[w1.heap.size + 1]? = some (.cells #[.int .i64 0, .int .i64 (-1)] 28 (0, 0)) := by
      have := heap_alloc_new (w1.alloc (.cells #[.slice na ps.length nc, .slice none 0 0] 26)) (.cells #[.int .i64 0, .int .i64 (-1)] 28)
      rw [World.size_alloc] at this
      rw [hW2]; exact this
    have HB2 := hid (HB1.out.trans (hb12.mono HB1.out.size))
    have HT2 := hid (And.intro (HT1.out.1.below hb12) HT1.out.2)
    rw [← hW2]
    clear hW2 hb12 HB1 HT1
    refine (HP.out _ HB2.out).mono ?_
    rintro e W3 ⟨tb, M3, nv3, uv3, ps3, rfl, hL3, hps3, hm3⟩
    have hb23 := moved_below hm3
    have hh0 := (hb23.block _ (lt_of_heap hh0)).trans hh0
    have hh1 := (hb23.block _ (lt_of_heap hh1)).trans hh1
    have c1 : W3.cell? ⟨w1.heap.size + 1, 0, none⟩ = some (.int .i64 0) := by rw [cell_of_row _ _ _ _ _ _ hh1]; rfl
    have HB3 := hid (HB2.out.trans (hb23.mono HB2.out.size))
    have HT3 := hid (And.intro (HT2.out.1.below hb23) HT2.out.2)
    have HL3 := hid (HWR.out W3 HB3.out hL3 hps3)
    have HH3 := hid hh0
    have lr := lt_of_heap hh0
    clear hb23 hL3 hps3 hm3 HB2 HT2 HP HWR
    go_wp2_with fail
    refine HL3.out.mono ?_
    rintro e W4 ⟨rfl, hb4⟩
    have HB4 := hid (HB3.out.trans (hb4.mono HB3.out.size))
    have HT4 := hid (And.intro (HT3.out.1.below hb4) HT3.out.2)
    have HH4 := hid ((hb4.block _ (lt_of_heap HH3.out)).trans HH3.out)
    clear hb4 HB3 HT3 HL3 HH3 c1 lr
    go_wp2_with fail
    refine (HQ2.out W4).mono ?_
    rintro e W5 ⟨M5, bb5, nv5, ps5, p5, a5, rfl, hL5, hps5, hm5, _, _⟩
    obtain ⟨na5, nc5, hnv5, _⟩ := (RLies.nodes (EX := bExt p5 0 a5) hL5).shape
    subst hnv5
    have hb5 := moved_below hm5
    have HB5 := hid (HB4.out.trans (hb5.mono HB4.out.size))
    have HT5 := hid (And.intro (HT4.out.1.below hb5) HT4.out.2)
    have HU5 := hid (And.intro (RLies.trv (EX := bExt p5 0 a5) hL5) hps5)
    have HH5 := hid ((hb5.block _ (lt_of_heap HH4.out)).trans HH4.out)
    have lr5 := lt_of_heap HH5.out
    obtain ⟨x0, x1⟩ : W5.cell? ⟨w1.heap.size, 0, none⟩ = some (.slice na ps.length nc) ∧ W5.cell? ⟨w1.heap.size, 1, none⟩ = some (.slice none 0 0) := ⟨by rw [cell_of_row _ _ _ _ _ _ HH5.out]; rfl, by rw [cell_of_row _ _ _ _ _ _ HH5.out]; rfl⟩
    clear hL5 hps5 hm5 hb5 HB4 HT4 HH4 HQ2
    go_wp2_with fail
    have hb56 : Below W5.heap.size W5 ((W5.alloc (.cells #[.slice na5 ps5.length nc5, .slice none 0 0] 26)).alloc (.cells #[.int .i64 0, .int .i64 (-1)] 28)) := ((Below.refl _ _).alloc (Nat.le_refl _) _).alloc (by simp) _
    refine (HAL.out _ _ _ _ _ _ _ HU5.out.2 HT5.out.2 (HU5.out.1.below hb56) (HT5.out.1.below hb56)).mono ?_
    rintro e W6 ⟨rfl, hb6⟩
    have HB6 := hid (HB5.out.trans ((hb56.trans (hb6.mono hb56.size)).mono HB5.out.size))
    clear hb56 hb6
    go_wp2_with fail
    go_ret
    exact ⟨rfl, HB6.out⟩
end Go.Proofs.YtkaeenafejdkfaaGreatDoor
