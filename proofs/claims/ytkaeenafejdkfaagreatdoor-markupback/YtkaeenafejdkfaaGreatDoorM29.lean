/- The program: two trees that have the same nodes are alike, all the way down. -/
import Derived.Test.YtkaeenafejdkfaaGreatDoorWAlike
import Derived.Test.YtkaeenafejdkfaaGreatDoorM27
import Derived.Defers
import Derived.Recover
import Derived.LoopN
import Derived.Test.YtkaeenafejdkfaaGreatDoorM09
import Derived.Test.YtkaeenafejdkfaaGreatDoorM10
namespace Go.Proofs.YtkaeenafejdkfaaGreatDoor
open Go.RowKit

theorem IntRow.belowW {w w' : World} {v : Value} {ks : List Int} (h : IntRow w v ks) (hb : Below w.heap.size w w') : IntRow w' v ks := by
  obtain ⟨a, c, rfl, h⟩ := h
  refine ⟨a, c, rfl, fun j x hj => ?_⟩
  obtain ⟨g, cur, fr, h1, h2, h3⟩ := h j x hj
  exact ⟨g, cur, fr, h1, (hb.block g (lt_of_heap h2)).trans h2, h3⟩

def AlikeC (M1 M2 : Nat → Lab) (t1 t2 : Nat) (n1 u1 n2 u2 : Value) (ps qs : List Pn) (us1 us2 : List Value) (f : Nat) : Prop :=
  ∀ (j : Nat) (p q : Pn) (a e : Nat) (w : World), Two w M1 M2 t1 t2 n1 u1 n2 u2 ps qs us1 us2 → ps[j]? = some p → qs[j]? = some q → Cover (nodesOf ps) p.n.kids a e → e - a < f →
    Calls Tryz.prog 36 #[.pointer (some ⟨t1, 0, none⟩), .int .i64 j, .pointer (some ⟨t2, 0, none⟩), .int .i64 j] w fun e w' => e = .returned (.bool true) ∧ Below w.heap.size w w'

theorem same_at {ps qs : List Pn} (he : nodesOf ps = nodesOf qs) {j : Nat} {p : Pn} (hp : ps[j]? = some p) : ∃ q, qs[j]? = some q ∧ p.n = q.n := by
  have h1 := nodes_get hp
  rw [he] at h1
  obtain ⟨q, h2, h3⟩ := nodesOf_get h1
  exact ⟨q, h2, h3.symm⟩

set_option maxHeartbeats 8000000 in
set_option maxRecDepth 100000 in
theorem alike_step {M1 M2 : Nat → Lab} {t1 t2 : Nat} {n1 u1 n2 u2 : Value} {ps qs : List Pn} {us1 us2 : List Value} {f : Nat} (he : nodesOf ps = nodesOf qs) (hF : ∀ (j : Nat) (q : Pn), ps[j]? = some q → q.n.kids.length ≤ 100000 ∧ q.n.attrs.length ≤ 100000)
    (IH : AlikeC M1 M2 t1 t2 n1 u1 n2 u2 ps qs us1 us2 f) : AlikeC M1 M2 t1 t2 n1 u1 n2 u2 ps qs us1 us2 (f + 1) := by
  intro j p q a e w h hp hq hcov hf
  have hpq : p.n = q.n := by
    obtain ⟨q', h1, h2⟩ := same_at he hp
    rw [hq] at h1; cases h1; exact h2
  have hmf : ∀ (fn : Fn) (first cap : Array Value) (w : World), (Instr.makeFunc fn first cap).run Tryz.prog w = .ok (.func fn first cap) w := fun _ _ _ _ => rfl
  have hkl := (hF j p hp).1
  have HB0 : Hid (∀ o1 o2, Below w.heap.size w ((w.alloc o1).alloc o2)) := fun o1 o2 => ((Below.refl _ _).alloc (Nat.le_refl _) _).alloc (by simp) _
  have A1 : Hid (∀ W, Below w.heap.size w W → Calls Tryz.prog 44 #[.pointer (some ⟨t1, 0, none⟩), .int .i64 j] W fun e w' => ∃ v', e = .returned v' ∧ IntRow w' v' p.n.kids ∧ Below W.heap.size W w') := by
    intro W hW
    refine (kids_any (h.a.below hW) hp (by omega)).mono ?_
    rintro e w' ⟨v', rfl, ho, hb⟩
    exact ⟨v', rfl, IntRow.of ho, hb⟩
  have A2 : Hid (∀ W, Below w.heap.size w W → Calls Tryz.prog 44 #[.pointer (some ⟨t2, 0, none⟩), .int .i64 j] W fun e w' => ∃ v', e = .returned v' ∧ IntRow w' v' p.n.kids ∧ Below W.heap.size W w') := by
    intro W hW
    refine (kids_any (h.b.below hW) hq (by rw [← hpq]; omega)).mono ?_
    rintro e w' ⟨v', rfl, ho, hb⟩
    exact ⟨v', rfl, by rw [hpq]; exact IntRow.of ho, hb⟩
  have HC : Hid (∀ (b c : Nat), ∀ x ∈ p.n.kids, ∀ W, Below w.heap.size w W → W.cell? ⟨b, 0, none⟩ = some (.pointer (some ⟨t1, 0, none⟩)) → W.cell? ⟨c, 0, none⟩ = some (.pointer (some ⟨t2, 0, none⟩)) → Calls Tryz.prog 78 #[.int .i64 x, .int .i64 x, .pointer (some ⟨b, 0, none⟩), .pointer (some ⟨c, 0, none⟩)] W fun e w' => e = .returned (.bool true) ∧ Below W.heap.size W w') := by
    intro b c x hx W hW hb hc
    obtain ⟨k, m, n, rfl, hn, hcv, g1, g2⟩ := hcov.mem x hx
    obtain ⟨pk, hpk, rfl⟩ := nodesOf_get hn
    obtain ⟨qk, hqk, hpqk⟩ := same_at he hpk
    have hle := hcv.le
    exact alike1_same (h.below hW) hpk hqk hpqk (hF k pk hpk).2 hb hc (fun W2 hW2 => IH k pk qk (k + 1) m W2 ((h.below hW).below hW2) hpk hqk hcv (by omega))
  clear h IH hp hq hpq hcov hF he
  go_enter Tryz.func36, Tryz.ntmps36
  go_wp2_with fail
  obtain ⟨W0, hW0⟩ : ∃ W0, W0 = (w.alloc (.cells #[.pointer (some ⟨t1, 0, none⟩)] 31)).alloc (.cells #[.pointer (some ⟨t2, 0, none⟩)] 31) := ⟨_, rfl⟩
  have c1 : W0.cell? ⟨w.heap.size, 0, none⟩ = some (.pointer (some ⟨t1, 0, none⟩)) := by
    rw [hW0, World.cell?_alloc_lt _ _ ⟨w.heap.size, 0, none⟩ (by simp), cell_of_row _ _ _ _ _ _ (heap_alloc_new w _)]; rfl
  have c2 : W0.cell? ⟨w.heap.size + 1, 0, none⟩ = some (.pointer (some ⟨t2, 0, none⟩)) := by
    have := heap_alloc_new (w.alloc (.cells #[.pointer (some ⟨t1, 0, none⟩)] 31)) (.cells #[.pointer (some ⟨t2, 0, none⟩)] 31)
    rw [World.size_alloc] at this
    rw [hW0, cell_of_row _ _ _ _ _ _ this]; rfl
  have hB0 : Below w.heap.size w W0 := by rw [hW0]; exact HB0.out _ _
  rw [← hW0]
  have HB := hid hB0
  have hd : Below W0.heap.size W0 W0.drew := (Below.refl _ _).drew
  have HD := hid hd
  have hb1 := World.block_lt_of_cell? W0 _ c1
  have hb2 := World.block_lt_of_cell? W0 _ c2
  clear hW0 hB0 HB0
  go_region_held3 (fun wx => wx.cell? ⟨w.heap.size, 0, none⟩ = some (.pointer (some ⟨t1, 0, none⟩)) ∧ wx.cell? ⟨w.heap.size + 1, 0, none⟩ = some (.pointer (some ⟨t2, 0, none⟩))) (go_keep)
    (first
      | (go_at_call 44; with_reducible refine (A1.out _ (HB.out.trans (HD.out.mono HB.out.size))).mono ?_; rintro e wa ⟨va, rfl, hAa, hBa⟩
         have HA1 : Hid (IntRow wa va p.n.kids ∧ Below W0.heap.size W0 wa) := ⟨hAa, HD.out.trans hBa⟩
         have k1 : wa.cell? ⟨w.heap.size, 0, none⟩ = some (.pointer (some ⟨t1, 0, none⟩)) := (HA1.out.2.cell (p := ⟨w.heap.size, 0, none⟩) hb1).trans c1
         have k2 : wa.cell? ⟨w.heap.size + 1, 0, none⟩ = some (.pointer (some ⟨t2, 0, none⟩)) := (HA1.out.2.cell (p := ⟨w.heap.size + 1, 0, none⟩) hb2).trans c2
         clear hAa hBa)
      | (go_at_call 44; with_reducible refine (A2.out _ (HB.out.trans (HD.out.mono HB.out.size))).mono ?_; rintro e wb ⟨vb, rfl, hAb, hBb⟩
         have HA2 : Hid (IntRow wb vb p.n.kids ∧ Below W0.heap.size W0 wb) := ⟨hAb, HD.out.trans hBb⟩
         have k1 : wb.cell? ⟨w.heap.size, 0, none⟩ = some (.pointer (some ⟨t1, 0, none⟩)) := (HA2.out.2.cell (p := ⟨w.heap.size, 0, none⟩) hb1).trans c1
         have k2 : wb.cell? ⟨w.heap.size + 1, 0, none⟩ = some (.pointer (some ⟨t2, 0, none⟩)) := (HA2.out.2.cell (p := ⟨w.heap.size + 1, 0, none⟩) hb2).trans c2
         clear hAb hBb)
      | (go_at_call 44; with_reducible refine (A2.out _ (HB.out.trans (HA1.out.2.mono HB.out.size))).mono ?_; rintro e wb ⟨vb, rfl, hAb, hBb⟩
         have HA : Hid (IntRow wb va p.n.kids ∧ IntRow wb vb p.n.kids ∧ Below W0.heap.size W0 wb) := ⟨HA1.out.1.belowW hBb, hAb, HA1.out.2.trans (hBb.mono HA1.out.2.size)⟩
         have m1 : wb.cell? ⟨w.heap.size, 0, none⟩ = some (.pointer (some ⟨t1, 0, none⟩)) := (HA.out.2.2.cell (p := ⟨w.heap.size, 0, none⟩) hb1).trans c1
         have m2 : wb.cell? ⟨w.heap.size + 1, 0, none⟩ = some (.pointer (some ⟨t2, 0, none⟩)) := (HA.out.2.2.cell (p := ⟨w.heap.size + 1, 0, none⟩) hb2).trans c2
         clear hAb hBb)
      | (go_at_call 44; with_reducible refine (A1.out _ (HB.out.trans (HA2.out.2.mono HB.out.size))).mono ?_; rintro e wb ⟨va, rfl, hAb, hBb⟩
         have HA : Hid (IntRow wb va p.n.kids ∧ IntRow wb vb p.n.kids ∧ Below W0.heap.size W0 wb) := ⟨hAb, HA2.out.1.belowW hBb, HA2.out.2.trans (hBb.mono HA2.out.2.size)⟩
         have m1 : wb.cell? ⟨w.heap.size, 0, none⟩ = some (.pointer (some ⟨t1, 0, none⟩)) := (HA.out.2.2.cell (p := ⟨w.heap.size, 0, none⟩) hb1).trans c1
         have m2 : wb.cell? ⟨w.heap.size + 1, 0, none⟩ = some (.pointer (some ⟨t2, 0, none⟩)) := (HA.out.2.2.cell (p := ⟨w.heap.size + 1, 0, none⟩) hb2).trans c2
         clear hAb hBb)
      | (go_at_call 77
         refine (equalFunc_same HA.out.1 HA.out.2.1 hkl _ _ (fun x hx W hW => HC.out w.heap.size (w.heap.size + 1) x hx W (HB.out.trans ((HA.out.2.2.trans (hW.mono HA.out.2.2.size)).mono HB.out.size)) ((hW.cell (p := ⟨w.heap.size, 0, none⟩) (World.block_lt_of_cell? _ _ m1)).trans m1) ((hW.cell (p := ⟨w.heap.size + 1, 0, none⟩) (World.block_lt_of_cell? _ _ m2)).trans m2))).mono ?_
         rintro e wq ⟨rfl, hBq⟩
         have HQ : Hid (Below w.heap.size w wq) := HB.out.trans ((HA.out.2.2.trans (hBq.mono HA.out.2.2.size)).mono HB.out.size)
         have o1 : wq.cell? ⟨w.heap.size, 0, none⟩ = some (.pointer (some ⟨t1, 0, none⟩)) := (hBq.cell (p := ⟨w.heap.size, 0, none⟩) (World.block_lt_of_cell? _ _ m1)).trans m1
         have o2 : wq.cell? ⟨w.heap.size + 1, 0, none⟩ = some (.pointer (some ⟨t2, 0, none⟩)) := (hBq.cell (p := ⟨w.heap.size + 1, 0, none⟩) (World.block_lt_of_cell? _ _ m2)).trans m2
         clear hBq))
  all_goals go_wp2_with fail
  all_goals go_ret
  all_goals exact ⟨rfl, HQ.out⟩

theorem alike_any {w : World} {M1 M2 : Nat → Lab} {t1 t2 : Nat} {n1 u1 n2 u2 : Value} {ps qs : List Pn} {us1 us2 : List Value} (he : nodesOf ps = nodesOf qs) (hF : ∀ (j : Nat) (q : Pn), ps[j]? = some q → q.n.kids.length ≤ 100000 ∧ q.n.attrs.length ≤ 100000)
    (h : Two w M1 M2 t1 t2 n1 u1 n2 u2 ps qs us1 us2) {j : Nat} {p : Pn} {a e : Nat} (hp : ps[j]? = some p) (hcov : Cover (nodesOf ps) p.n.kids a e) :
    Calls Tryz.prog 36 #[.pointer (some ⟨t1, 0, none⟩), .int .i64 j, .pointer (some ⟨t2, 0, none⟩), .int .i64 j] w fun e w' => e = .returned (.bool true) ∧ Below w.heap.size w w' := by
  have all : ∀ f, AlikeC M1 M2 t1 t2 n1 u1 n2 u2 ps qs us1 us2 f := by
    intro f
    induction f with
    | zero => intro j p q a e w _ _ _ _ hf; omega
    | succ f ih => exact alike_step he hF ih
  obtain ⟨q, hq, _⟩ := same_at he hp
  exact all (e - a + 1) j p q a e w h hp hq hcov (by omega)
end Go.Proofs.YtkaeenafejdkfaaGreatDoor

/- The program: the text that a speller has come to, and spell. -/
namespace Go.Proofs.YtkaeenafejdkfaaGreatDoor
open Go.RowKit

set_option maxHeartbeats 4000000 in
set_option maxRecDepth 100000 in
/-- the text of a speller that has written something -/
theorem spText_some (B b : Nat) (l : List UInt8) (tv : Value) (op : Int) (w : World) (h : Sp B b (Lib.byteCells l) tv op w) (h0 : l ≠ []) :
    Calls Tryz.prog 76 #[.pointer (some ⟨b, 0, none⟩)] w fun e w' => e = .returned (.string ⟨l.toArray⟩) ∧ Below B w w' := by
  obtain ⟨p, v, hbk, hown⟩ : ∃ p v, w.heap[b]? = some (.cells #[p, v, tv, .int .i64 op] 132 (0, 0)) ∧ w.ownsRowF B 5 1 v l.length (Lib.byteCells l) := by
    rcases h with ⟨_, v, h1, h2, _⟩ | ⟨_, v, h1, h2, _⟩
    · exact ⟨_, v, h1, by rw [Lib.byteCells_length] at h2; exact h2⟩
    · exact ⟨_, v, h1, by rw [Lib.byteCells_length] at h2; exact h2⟩
  have hl0 : l.length ≠ 0 := by simpa using h0
  rcases hown.2 with ⟨_, hz⟩ | ⟨g, cap, cur, fz, rfl, hbg, hg, _, hnc, hcm, hcs, _⟩
  · exact absurd hz hl0
  have c1 : w.drew.cell? ⟨b, 1, none⟩ = some (.slice (some ⟨g, 0, none⟩) l.length cap) := by
    rw [Lib.cell_of_heap (w := w.drew) hbk]; rfl
  have hSD : (Builtin.unsafeSliceData_ #[128] 174 #[.slice (some ⟨g, 0, none⟩) l.length cap]).run Tryz.prog w.drew = .ok (.pointer (some ⟨g, 0, none⟩)) w.drew :=
    Lib.run_unsafeSliceData_row _ _ _ _ _ _ (by omega)
  have hUS : (Builtin.unsafeString_ #[174, 3] 9 #[.pointer (some ⟨g, 0, none⟩), .int .i64 l.length]).run Tryz.prog w.drew = .ok (.string ⟨l.toArray⟩) (w.drew.freeze ⟨g, 0, none⟩ l.length) := by
    refine Lib.run_unsafeString_row w.drew 174 3 9 5 Tryz.underlying174 (by kernel_rfl) g cur.size (by have hg' : w.drew.heap[g]? = some (.cells cur 5 fz) := hg; simp [World.shape?, hg']) l h0 (by omega) (by unfold maxLen at hcm; omega) ?_
    intro j x hx
    exact hown.cells (g := g) rfl j (.int .u8 x.toNat) (by simp [Lib.byteCells, hx])
  have hE := Lib.below_freeze (Below.drew (Below.refl B w)) (p := ⟨g, 0, none⟩) hbg l.length
  clear hown hbk h h0 hl0 hg hnc hcm hcs
  go_enter Tryz.func76, Tryz.ntmps76
  go_wp2_with fail
  go_region
  all_goals (go_wp2_with fail; go_ret; exact ⟨rfl, hE⟩)

set_option maxHeartbeats 4000000 in
set_option maxRecDepth 100000 in
/-- the text of a speller that has written nothing -/
theorem spText_none (B b : Nat) (tv : Value) (op : Int) (w : World) (h : Sp B b [] tv op w) (hBw : B ≤ w.heap.size) :
    Calls Tryz.prog 76 #[.pointer (some ⟨b, 0, none⟩)] w fun e w' => e = .returned (.string ⟨#[]⟩) ∧ Below B w w' := by
  obtain ⟨p, v, hbk, hown⟩ : ∃ p v, w.heap[b]? = some (.cells #[p, v, tv, .int .i64 op] 132 (0, 0)) ∧ w.ownsRowF B 5 1 v 0 [] := by
    rcases h with ⟨_, v, h1, h2, _⟩ | ⟨_, v, h1, h2, _⟩
    · exact ⟨_, v, h1, h2⟩
    · exact ⟨_, v, h1, h2⟩
  have hUS : ∀ (W : World) (q : Option Addr), (Builtin.unsafeString_ #[174, 3] 9 #[.pointer q, .int .i64 0]).run Tryz.prog W = .ok (.string ⟨#[]⟩) W := fun W q => Lib.run_unsafeString_none W 174 3 9 q
  rcases hown.2 with ⟨rfl, _⟩ | ⟨g, cap, cur, fz, rfl, hbg, hg, _⟩
  · have c1 : w.drew.cell? ⟨b, 1, none⟩ = some (.slice none 0 0) := by rw [Lib.cell_of_heap (w := w.drew) hbk]; rfl
    have hSD : (Builtin.unsafeSliceData_ #[128] 174 #[.slice none 0 0]).run Tryz.prog w.drew = .ok (.pointer none) w.drew := rfl
    have hE := Below.drew (Below.refl B w)
    clear hown hbk h
    go_enter Tryz.func76, Tryz.ntmps76
    go_wp2_with fail
    go_region
    all_goals (go_wp2_with fail; go_ret; exact ⟨rfl, hE⟩)
  · by_cases hc : cap = 0
    · subst hc
      have hlt := size_of hbk
      have c1 : w.drew.cell? ⟨b, 1, none⟩ = some (.slice (some ⟨g, 0, none⟩) 0 0) := by rw [Lib.cell_of_heap (w := w.drew) hbk]; rfl
      have hSD : (Builtin.unsafeSliceData_ #[128] 174 #[.slice (some ⟨g, 0, none⟩) 0 0]).run Tryz.prog w.drew = .ok (.pointer (some ⟨w.drew.heap.size, 0, none⟩)) (w.drew.alloc (.view ⟨g, 0, none⟩ 5)) :=
        Lib.run_unsafeSliceData_zero w.drew _ _ 5 Tryz.underlying174 ⟨g, 0, none⟩ 0 (5, cur.size) (by have hg' : w.drew.heap[g]? = some (.cells cur 5 fz) := hg; simp [World.shape?, hg'])
      have c2 : (w.drew.alloc (.view ⟨g, 0, none⟩ 5)).cell? ⟨b, 1, none⟩ = some (.slice (some ⟨g, 0, none⟩) 0 0) := by
        rw [Lib.cell_of_heap ((Lib.alloc_old w.drew _ b hlt).trans hbk)]; rfl
      have c3 : (w.alloc (.view ⟨g, 0, none⟩ 5)).drew.cell? ⟨b, 1, none⟩ = some (.slice (some ⟨g, 0, none⟩) 0 0) := c2
      have c0 : w.cell? ⟨b, 1, none⟩ = some (.slice (some ⟨g, 0, none⟩) 0 0) := c1
      have hE : Below B w (w.drew.alloc (.view ⟨g, 0, none⟩ 5)) := (Below.drew (Below.refl B w)).alloc hBw _
      clear hown hbk h hg hlt
      go_enter Tryz.func76, Tryz.ntmps76
      go_wp2_with fail
      go_region
      all_goals (go_wp2_with fail; go_ret; exact ⟨rfl, hE⟩)
    · have c1 : w.drew.cell? ⟨b, 1, none⟩ = some (.slice (some ⟨g, 0, none⟩) 0 cap) := by rw [Lib.cell_of_heap (w := w.drew) hbk]; rfl
      have hSD : (Builtin.unsafeSliceData_ #[128] 174 #[.slice (some ⟨g, 0, none⟩) 0 cap]).run Tryz.prog w.drew = .ok (.pointer (some ⟨g, 0, none⟩)) w.drew := Lib.run_unsafeSliceData_row _ _ _ _ _ _ hc
      have hE := Below.drew (Below.refl B w)
      clear hown hbk h hg hc
      go_enter Tryz.func76, Tryz.ntmps76
      go_wp2_with fail
      go_region
      all_goals (go_wp2_with fail; go_ret; exact ⟨rfl, hE⟩)
theorem spText_any (B b : Nat) (l : List UInt8) (tv : Value) (op : Int) (w : World) (h : Sp B b (Lib.byteCells l) tv op w) (hBw : B ≤ w.heap.size) :
    Calls Tryz.prog 76 #[.pointer (some ⟨b, 0, none⟩)] w fun e w' => e = .returned (.string ⟨l.toArray⟩) ∧ Below B w w' := by
  cases l with
  | nil => exact spText_none B b tv op w h hBw
  | cons x r => exact spText_some B b (x :: r) tv op w h (by simp)

set_option maxHeartbeats 4000000 in
set_option maxRecDepth 100000 in
/-- what lies in a tree's root is spelt -/
theorem spell_any {w : World} {M : Nat → Lab} {tb : Nat} {nv uv : Value} {ps : List Pn} {us : List Value} (h : Lies w M tb nv uv ps us) (hF : ∀ (j : Nat) (q : Pn), ps[j]? = some q → q.n.kids.length ≤ 100000 ∧ q.n.attrs.length ≤ 100000) {p : Pn} (hp : ps[0]? = some p) (hcov : Cover (nodesOf ps) p.n.kids 1 (nodesOf ps).length)
    (hlen : (spellK (nodesOf ps) ((nodesOf ps).length + 1) 0 p.n.kids).length ≤ 20000) :
    Calls Tryz.prog 35 #[.pointer (some ⟨tb, 0, none⟩), .int .i64 0] w fun e w' => e = .returned (.string ⟨(spellK (nodesOf ps) ((nodesOf ps).length + 1) 0 p.n.kids).toArray⟩) ∧ Below w.heap.size w w' := by
  have HL := hid h
  have HP := hid hp
  have HK := hid (kidsW (w0 := w) (M := M) (tb := tb) (nv := nv) (uv := uv) (ps := ps) (us := us) (b := w.heap.size) hF ((nodesOf ps).length + 1) 0 0 p [])
  have HC := hid hcov
  have HN := hid hlen
  clear h hF hp hcov hlen
  go_enter Tryz.func35, Tryz.ntmps35
  go_wp2_with fail
  have hB : Below w.heap.size w (w.alloc (.cells #[.pointer none, .slice none 0 0, .pointer (some ⟨tb, 0, none⟩), .int .i64 0] 132)) := (Below.refl _ _).alloc (Nat.le_refl _) _
  have hW : WAt w M tb nv uv ps us w.heap.size [] ((0 : Nat) : Int) (w.alloc (.cells #[.pointer none, .slice none 0 0, .pointer (some ⟨tb, 0, none⟩), .int .i64 0] 132)) := by
    refine ⟨HL.out, .inl ⟨Nat.le_refl _, .slice none 0 0, heap_alloc_new w _, ?_, ?_⟩, Spk.of (Nat.le_refl _) hB⟩
    · exact World.ownsRowF_nil _ _ _ _
    · simp [Value.ownBlock]
  refine (HK.out _ 1 (nodesOf ps).length hW HP.out HC.out (by omega) (by omega) (by simpa using HN.out)).mono ?_
  rintro e w1 ⟨rfl, h1, _⟩
  have H1 := hid h1
  clear h1 hW
  go_wp2_with fail
  refine (spText_any w.heap.size w.heap.size _ _ _ _ H1.out.sp H1.out.kept.below.size).mono ?_
  rintro e w2 ⟨rfl, hB2⟩
  have HB2 := hid (H1.out.kept.below.trans hB2)
  clear hB2
  go_wp2_with fail
  go_ret
  exact ⟨rfl, HB2.out⟩
end Go.Proofs.YtkaeenafejdkfaaGreatDoor

/- The program: spell within its guard, where nothing is thrown. -/
namespace Go.Proofs.YtkaeenafejdkfaaGreatDoor
open Go.RowKit

/-- the deferred function of a frame that returns -/
theorem guardS_idle (p : Addr) (w : World) :
    CallsD Tryz.prog 74 #[.pointer (some p)] .returning w fun e u' w' => e = .returned (.tuple #[]) ∧ u' = .returning ∧ w' = w := by
  refine callsD_of_wpS Tryz.func74 rfl fun c₀ cs hu => ?_
  apply wpS_seq
  apply wpS_region
  simp [wpOpsS, go_sem, recoverD, hu, Tryz.ntmps74, Exit.thenS]
  apply wpS_seq
  apply wpS_seq
  apply wpS_region
  simp [wpOpsS, go_sem, Exit.thenS]
  refine wpS_cond (t := true) (by simp [Act.eval, Array.replicate]) ?_
  simp only [if_true]
  refine wpS_of_wp (wp_ret ?_)
  cases c₀
  simp_all [bodyPostS, results, Tryz.results74, Exit.thenS]

set_option maxHeartbeats 4000000 in
theorem write1_any {w : World} {b c tb : Nat} (s : ByteArray) (h0 : w.cell? ⟨b, 0, none⟩ = some (.pointer (some ⟨tb, 0, none⟩))) (h1 : w.cell? ⟨c, 0, none⟩ = some (.int .i64 0))
    (hs : Calls Tryz.prog 35 #[.pointer (some ⟨tb, 0, none⟩), .int .i64 0] w fun e w' => e = .returned (.string s) ∧ Below w.heap.size w w') :
    Calls Tryz.prog 34 #[.pointer (some ⟨b, 0, none⟩), .pointer (some ⟨c, 0, none⟩)] w fun e w' => e = .returned (.string s) ∧ Below w.heap.size w w' := by
  have HS := hid hs
  clear hs
  go_enter Tryz.func34, Tryz.ntmps34
  go_wp2_with fail
  refine HS.out.mono ?_
  rintro e w1 ⟨rfl, hB⟩
  have HB := hid hB
  clear hB
  go_wp2_with fail
  go_ret
  exact ⟨rfl, HB.out⟩

set_option maxHeartbeats 4000000 in
theorem guardS_any {w : World} {b c : Nat} (s : ByteArray)
    (hs : Calls Tryz.prog 34 #[.pointer (some ⟨b, 0, none⟩), .pointer (some ⟨c, 0, none⟩)] (w.alloc (.cells #[.nilIface] 33)) fun e w' => e = .returned (.string s) ∧ Below (w.alloc (.cells #[.nilIface] 33)).heap.size (w.alloc (.cells #[.nilIface] 33)) w') :
    Calls Tryz.prog 33 #[.func (.func 34) #[] #[.pointer (some ⟨b, 0, none⟩), .pointer (some ⟨c, 0, none⟩)]] w fun e w' => e = .returned (.tuple #[.string s, .nilIface]) ∧ Below w.heap.size w w' := by
  have hmf : ∀ (fn : Fn) (first cap : Array Value) (w : World), (Instr.makeFunc fn first cap).run Tryz.prog w = .ok (.func fn first cap) w := fun _ _ _ _ => rfl
  have HG := hid hs
  clear hs
  go_enter_defers Tryz.func33, Tryz.ntmps33
  go_wp2_with fail
  refine HG.out.mono ?_
  rintro e w1 ⟨rfl, hB⟩
  have hb0 := hB.block w.heap.size (by simp)
  rw [heap_alloc_new w] at hb0
  have d0 : w1.cell? ⟨w.heap.size, 0, none⟩ = some .nilIface := by rw [cell_of_row w1 w.heap.size 0 _ _ _ hb0]; rfl
  have f0 : w1.frozen? ⟨w.heap.size, 0, none⟩ = false := by simp [World.frozen?, hb0]
  have H1 := hid hB
  have hl1 : w.heap.size < w1.heap.size := World.block_lt_of_cell? w1 _ d0
  clear hB hb0
  go_wp2_with fail
  refine leaves_cons (f := 74) (args := #[.pointer (some ⟨w.heap.size, 0, none⟩)]) (by simp) (by simp [go_sem]) ?_
  refine (guardS_idle ⟨w.heap.size, 0, none⟩ _).mono ?_
  rintro e u' w'' ⟨rfl, rfl, rfl⟩
  refine ⟨.tuple #[.string s, .nilIface], ?_, rfl, ?_⟩
  · simp [results, Tryz.results33, go_sem, d0]
  · exact (((Below.refl _ _).alloc (Nat.le_refl _) _).trans (H1.out.mono (by simp))).setCell (p := ⟨w.heap.size, 0, none⟩) (Nat.le_refl _) _
end Go.Proofs.YtkaeenafejdkfaaGreatDoor

/- How a tree of the document's answer lies in memory: as the program's does, of other types. -/
namespace Go.Proofs.YtkaeenafejdkfaaGreatDoor
open Go.RowKit

/-- what lies behind a tree in its own block, and of which type that block is -/
structure Ext where
  rest : List Value
  ty : TypeId
theorem head_cellX {w : World} {tb : Nat} {nv uv : Value} {l : List Value} {t : TypeId} (h : w.heap[tb]? = some (.cells ⟨nv :: uv :: l⟩ t (0, 0))) : w.cell? ⟨tb, 0, none⟩ = some nv ∧ w.cell? ⟨tb, 1, none⟩ = some uv ∧ w.frozen? ⟨tb, 0, none⟩ = false ∧ w.frozen? ⟨tb, 1, none⟩ = false := by
  refine ⟨?_, ?_, ?_, ?_⟩
  · rw [cell_of_row w tb 0 _ _ _ h]; rfl
  · rw [cell_of_row w tb 1 _ _ _ h]; rfl
  · simp [World.frozen?, h]
  · simp [World.frozen?, h]
structure RLies {EX : Ext} (w : World) (M : Nat → Lab) (tb : Nat) (nv uv : Value) (ps : List Pn) (us : List Value) : Prop where
  fresh : ∀ b, w.heap.size ≤ b → M b = .other
  tree : M tb = .tree
  head : w.heap[tb]? = some (.cells ⟨nv :: uv :: EX.rest⟩ EX.ty (0, 0))
  nodes : Row w M .nodes 50 6 nv ps.length (flat ps)
  undos : Row w M .undos 23 1 uv us.length us
  node : ∀ i p, ps[i]? = some p → Row w M (.attrs i) 81 2 p.av p.n.attrs.length (attrCells p.n.attrs) ∧ Row w M (.kids i) 3 1 p.kv p.n.kids.length (p.n.kids.map intV)
theorem RLies.far {EX : Ext} {w w' : World} {M : Nat → Lab} {tb : Nat} {nv uv : Value} {ps : List Pn} {us : List Value} (h : RLies (EX := EX) w M tb nv uv ps us) (hs : w.heap.size ≤ w'.heap.size) (hb : ∀ b, b < w.heap.size → M b ≠ .other → w'.heap[b]? = w.heap[b]?) : RLies (EX := EX) w' M tb nv uv ps us where
  fresh b hb' := h.fresh b (by omega)
  tree := h.tree
  head := (hb tb (lt_of_heap h.head) (by rw [h.tree]; intro e; cases e)).trans h.head
  nodes := h.nodes.keep (fun b hb' e => hb b hb' (by rw [e]; intro e; cases e)) (fun _ _ => rfl)
  undos := h.undos.keep (fun b hb' e => hb b hb' (by rw [e]; intro e; cases e)) (fun _ _ => rfl)
  node i p hp := ⟨(h.node i p hp).1.keep (fun b hb' e => hb b hb' (by rw [e]; intro e; cases e)) (fun _ _ => rfl), (h.node i p hp).2.keep (fun b hb' e => hb b hb' (by rw [e]; intro e; cases e)) (fun _ _ => rfl)⟩
theorem RLies.alloc {EX : Ext} {w : World} {M : Nat → Lab} {tb : Nat} {nv uv : Value} {ps : List Pn} {us : List Value} (h : RLies (EX := EX) w M tb nv uv ps us) (o : Obj) : RLies (EX := EX) (w.alloc o) M tb nv uv ps us :=
  h.far (by simp) (fun b hb _ => Below.heap_alloc w o b hb)
theorem RLies.drew {EX : Ext} {w : World} {M : Nat → Lab} {tb : Nat} {nv uv : Value} {ps : List Pn} {us : List Value} (h : RLies (EX := EX) w M tb nv uv ps us) : RLies (EX := EX) w.drew M tb nv uv ps us :=
  h.far (Nat.le_refl _) (fun _ _ _ => rfl)
theorem RLies.below {EX : Ext} {w w' : World} {M : Nat → Lab} {tb : Nat} {nv uv : Value} {ps : List Pn} {us : List Value} (h : RLies (EX := EX) w M tb nv uv ps us) (hb : Below w.heap.size w w') : RLies (EX := EX) w' M tb nv uv ps us :=
  h.far hb.size (fun b hb' _ => hb.block b hb')
theorem RLies.cell0 {EX : Ext} {w : World} {M : Nat → Lab} {tb : Nat} {nv uv : Value} {ps : List Pn} {us : List Value} (h : RLies (EX := EX) w M tb nv uv ps us) : w.cell? ⟨tb, 0, none⟩ = some nv := by
  rw [cell_of_row w tb 0 _ _ _ h.head]; rfl
theorem RLies.cell1 {EX : Ext} {w : World} {M : Nat → Lab} {tb : Nat} {nv uv : Value} {ps : List Pn} {us : List Value} (h : RLies (EX := EX) w M tb nv uv ps us) : w.cell? ⟨tb, 1, none⟩ = some uv := by
  rw [cell_of_row w tb 1 _ _ _ h.head]; rfl
theorem RLies.frozen {EX : Ext} {w : World} {M : Nat → Lab} {tb : Nat} {nv uv : Value} {ps : List Pn} {us : List Value} (h : RLies (EX := EX) w M tb nv uv ps us) (o : Nat) : w.frozen? ⟨tb, o, none⟩ = false := by
  simp [World.frozen?, h.head]
theorem RLies.setNode {EX : Ext} {w : World} {M : Nat → Lab} {tb : Nat} {nv uv : Value} {ps : List Pn} {us : List Value} (h : RLies (EX := EX) w M tb nv uv ps us) {nb m c0 : Nat} (hv : nv = .slice (some ⟨nb, 0, none⟩) m c0)
    {i f : Nat} {p p' : Pn} {c : Value} (hp : ps[i]? = some p) (hf : f < 6) (he : p'.cells = p.cells.set f c)
    (ha : Row w M (.attrs i) 81 2 p'.av p'.n.attrs.length (attrCells p'.n.attrs)) (hk : Row w M (.kids i) 3 1 p'.kv p'.n.kids.length (p'.n.kids.map intV)) :
    RLies (EX := EX) (w.setCell ⟨nb, i * 6 + f, none⟩ c) M tb nv uv (ps.set i p') us ∧ Step w M (w.setCell ⟨nb, i * 6 + f, none⟩ c) M .nodes := by
  have hi : i < ps.length := (List.getElem?_eq_some_iff.1 hp).1
  obtain ⟨g, cap, hg, _, _, hM, _⟩ := h.nodes.form (by omega)
  have e1 : g = nb := by rw [hv] at hg; cases hg; rfl
  subst e1
  have st : Step w M (w.setCell ⟨g, i * 6 + f, none⟩ c) M .nodes := step_setCell c hM h.fresh
  refine ⟨⟨st.fresh, h.tree, (st.far tb (lt_of_heap h.head) (by rw [h.tree]; intro e; cases e)).trans h.head, ?_, h.undos.step st (by intro e; cases e), ?_⟩, st⟩
  · rw [List.length_set, flat_set ps i f p p' c hp hf he]
    exact h.nodes.set hv _ c (by rw [flat_length]; omega)
  · intro j q hq
    by_cases hij : i = j
    · subst hij
      rw [List.getElem?_set_self hi] at hq
      cases hq
      exact ⟨ha.step st (by intro e; cases e), hk.step st (by intro e; cases e)⟩
    · rw [List.getElem?_set_ne hij] at hq
      exact ⟨(h.node j q hq).1.step st (by intro e; cases e), (h.node j q hq).2.step st (by intro e; cases e)⟩
theorem RLies.headNodes {EX : Ext} {w w1 : World} {M M1 : Nat → Lab} {tb : Nat} {nv uv : Value} {ps : List Pn} {us : List Value} (h : RLies (EX := EX) w M tb nv uv ps us) (st : Step w M w1 M1 .nodes) {nv' : Value} {qs : List Pn}
    (hn : Row w1 M1 .nodes 50 6 nv' qs.length (flat qs)) (hq : ∀ i p, qs[i]? = some p → Row w M (.attrs i) 81 2 p.av p.n.attrs.length (attrCells p.n.attrs) ∧ Row w M (.kids i) 3 1 p.kv p.n.kids.length (p.n.kids.map intV)) :
    RLies (EX := EX) (w1.setCell ⟨tb, 0, none⟩ nv') M1 tb nv' uv qs us ∧ Moved w M (w1.setCell ⟨tb, 0, none⟩ nv') M1 := by
  have hlt := lt_of_heap h.head
  have hM : M1 tb = .tree := (st.lab tb hlt).trans h.tree
  have st2 : Step w1 M1 (w1.setCell ⟨tb, 0, none⟩ nv') M1 .tree := step_setCell nv' hM st.fresh
  have hh : w1.heap[tb]? = some (.cells ⟨nv :: uv :: EX.rest⟩ EX.ty (0, 0)) := (st.far tb hlt (by rw [h.tree]; intro e; cases e)).trans h.head
  refine ⟨⟨st2.fresh, hM, ?_, hn.step st2 (by intro e; cases e), (h.undos.step st (by intro e; cases e)).step st2 (by intro e; cases e), ?_⟩, (st.moved (by intro e; cases e)).trans (st2.moved (by intro e; cases e))⟩
  · rw [setCell_heap w1 tb 0 nv' _ _ _ hh]; rfl
  · intro i p hp
    exact ⟨((hq i p hp).1.step st (by intro e; cases e)).step st2 (by intro e; cases e), ((hq i p hp).2.step st (by intro e; cases e)).step st2 (by intro e; cases e)⟩
theorem RLies.headUndos {EX : Ext} {w w1 : World} {M M1 : Nat → Lab} {tb : Nat} {nv uv : Value} {ps : List Pn} {us : List Value} (h : RLies (EX := EX) w M tb nv uv ps us) (st : Step w M w1 M1 .undos) {uv' : Value} {us' : List Value}
    (hn : Row w1 M1 .undos 23 1 uv' us'.length us') :
    RLies (EX := EX) (w1.setCell ⟨tb, 1, none⟩ uv') M1 tb nv uv' ps us' ∧ Moved w M (w1.setCell ⟨tb, 1, none⟩ uv') M1 := by
  have hlt := lt_of_heap h.head
  have hM : M1 tb = .tree := (st.lab tb hlt).trans h.tree
  have st2 : Step w1 M1 (w1.setCell ⟨tb, 1, none⟩ uv') M1 .tree := step_setCell uv' hM st.fresh
  have hh : w1.heap[tb]? = some (.cells ⟨nv :: uv :: EX.rest⟩ EX.ty (0, 0)) := (st.far tb hlt (by rw [h.tree]; intro e; cases e)).trans h.head
  refine ⟨⟨st2.fresh, hM, ?_, (h.nodes.step st (by intro e; cases e)).step st2 (by intro e; cases e), hn.step st2 (by intro e; cases e), ?_⟩, (st.moved (by intro e; cases e)).trans (st2.moved (by intro e; cases e))⟩
  · rw [setCell_heap w1 tb 1 uv' _ _ _ hh]; rfl
  · intro i p hp
    exact ⟨((h.node i p hp).1.step st (by intro e; cases e)).step st2 (by intro e; cases e), ((h.node i p hp).2.step st (by intro e; cases e)).step st2 (by intro e; cases e)⟩
theorem RLies.cellN {EX : Ext} {w : World} {M : Nat → Lab} {tb : Nat} {nv uv : Value} {ps : List Pn} {us : List Value} (h : RLies (EX := EX) w M tb nv uv ps us) {nb m c0 : Nat} (hv : nv = .slice (some ⟨nb, 0, none⟩) m c0) {i f : Nat} {p : Pn} {c : Value} (hp : ps[i]? = some p) (hf : f < 6) (hc : p.cells[f]? = some c) :
    w.cell? ⟨nb, i * 6 + f, none⟩ = some c ∧ w.frozen? ⟨nb, i * 6 + f, none⟩ = false :=
  h.nodes.cell hv (by rw [flat_get ps i f p hp hf]; exact hc)
theorem RLies.form {EX : Ext} {w : World} {M : Nat → Lab} {tb : Nat} {nv uv : Value} {ps : List Pn} {us : List Value} (h : RLies (EX := EX) w M tb nv uv ps us) {i : Nat} {p : Pn} (hp : ps[i]? = some p) :
    ∃ nb cap, nv = .slice (some ⟨nb, 0, none⟩) ps.length cap ∧ ps.length ≤ cap ∧ cap ≤ maxLen ∧ M nb = .nodes ∧ nb < w.heap.size ∧ i < ps.length := by
  have hi : i < ps.length := (List.getElem?_eq_some_iff.1 hp).1
  obtain ⟨g, cap, h1, h2, h3, h4, h5⟩ := h.nodes.form (by omega)
  exact ⟨g, cap, h1, h2, h3, h4, h5, hi⟩
theorem RLies.drewN {EX : Ext} {w : World} {M : Nat → Lab} {tb : Nat} {nv uv : Value} {ps : List Pn} {us : List Value} (h : RLies (EX := EX) w M tb nv uv ps us) (n : Nat) : RLies (EX := EX) (w.drewN n) M tb nv uv ps us :=
  h.far (Nat.le_refl _) (fun _ _ _ => rfl)
theorem RLies.setAttrs {EX : Ext} {w w1 : World} {M M1 : Nat → Lab} {tb : Nat} {nv uv : Value} {ps : List Pn} {us : List Value} (h : RLies (EX := EX) w M tb nv uv ps us) {nb m c0 : Nat} (hv : nv = .slice (some ⟨nb, 0, none⟩) m c0) {i : Nat} {p : Pn} (hp : ps[i]? = some p) (st : Step w M w1 M1 (.attrs i))
    {av' : Value} {at' : List (ByteArray × ByteArray)} (hr : Row w1 M1 (.attrs i) 81 2 av' at'.length (attrCells at')) :
    RLies (EX := EX) (w1.setCell ⟨nb, i * 6 + 3, none⟩ av') M1 tb nv uv (ps.set i ⟨{ p.n with attrs := at' }, av', p.kv⟩) us ∧ Moved w M (w1.setCell ⟨nb, i * 6 + 3, none⟩ av') M1 ∧ (∃ u, w1.cell? ⟨nb, i * 6 + 3, none⟩ = some u) ∧ w1.frozen? ⟨nb, i * 6 + 3, none⟩ = false := by
  have hi : i < ps.length := (List.getElem?_eq_some_iff.1 hp).1
  obtain ⟨g, cap, hg, _, _, hM, hgl⟩ := h.nodes.form (by omega)
  have e1 : g = nb := by rw [hv] at hg; cases hg; rfl
  subst e1
  have hn1 : Row w1 M1 .nodes 50 6 nv ps.length (flat ps) := h.nodes.step st (by intro e; cases e)
  have hM1 : M1 g = .nodes := (st.lab g hgl).trans hM
  have st2 : Step w1 M1 (w1.setCell ⟨g, i * 6 + 3, none⟩ av') M1 .nodes := step_setCell av' hM1 st.fresh
  have hc := hn1.cell hv (flat_get ps i 3 p hp (by omega))
  refine ⟨⟨st2.fresh, (st.lab tb (lt_of_heap h.head)).trans h.tree, ?_, ?_, (h.undos.step st (by intro e; cases e)).step st2 (by intro e; cases e), ?_⟩, (st.moved (by intro e; cases e)).trans (st2.moved (by intro e; cases e)), ⟨_, hc.1⟩, hc.2⟩
  · have ht : M1 tb = .tree := (st.lab tb (lt_of_heap h.head)).trans h.tree
    have hl : tb < w1.heap.size := Nat.lt_of_lt_of_le (lt_of_heap h.head) st.size
    exact ((st2.far tb hl (by rw [ht]; intro e; cases e)).trans (st.far tb (lt_of_heap h.head) (by rw [h.tree]; intro e; cases e))).trans h.head
  · rw [List.length_set, flat_set ps i 3 p ⟨{ p.n with attrs := at' }, av', p.kv⟩ av' hp (by omega) rfl]
    exact hn1.set hv _ _ (by rw [flat_length]; omega)
  · intro j q hq
    by_cases hij : i = j
    · subst hij
      rw [List.getElem?_set_self hi] at hq
      cases hq
      exact ⟨hr.step st2 (by intro e; cases e), ((h.node i p hp).2.step st (by intro e; cases e)).step st2 (by intro e; cases e)⟩
    · rw [List.getElem?_set_ne hij] at hq
      exact ⟨((h.node j q hq).1.step st (by intro e; cases e; exact hij rfl)).step st2 (by intro e; cases e), ((h.node j q hq).2.step st (by intro e; cases e)).step st2 (by intro e; cases e)⟩
theorem RLies.turnAttrs {EX : Ext} {w w1 : World} {M M1 : Nat → Lab} {tb : Nat} {nv uv : Value} {ps : List Pn} {us : List Value} (h : RLies (EX := EX) w M tb nv uv ps us) {i : Nat} {p : Pn} (hp : ps[i]? = some p) (st : Step w M w1 M1 (.attrs i))
    {at' : List (ByteArray × ByteArray)} (hr : Row w1 M1 (.attrs i) 81 2 p.av at'.length (attrCells at')) :
    RLies (EX := EX) w1 M1 tb nv uv (ps.set i ⟨{ p.n with attrs := at' }, p.av, p.kv⟩) us ∧ Moved w M w1 M1 := by
  have hi : i < ps.length := (List.getElem?_eq_some_iff.1 hp).1
  refine ⟨⟨st.fresh, (st.lab tb (lt_of_heap h.head)).trans h.tree, (st.far tb (lt_of_heap h.head) (by rw [h.tree]; intro e; cases e)).trans h.head, ?_, h.undos.step st (by intro e; cases e), ?_⟩, st.moved (by intro e; cases e)⟩
  · rw [List.length_set, flat_same ps i p ⟨{ p.n with attrs := at' }, p.av, p.kv⟩ hp rfl]
    exact h.nodes.step st (by intro e; cases e)
  · intro j q hq
    by_cases hij : i = j
    · subst hij
      rw [List.getElem?_set_self hi] at hq
      cases hq
      exact ⟨hr, (h.node i p hp).2.step st (by intro e; cases e)⟩
    · rw [List.getElem?_set_ne hij] at hq
      exact ⟨(h.node j q hq).1.step st (by intro e; cases e; exact hij rfl), (h.node j q hq).2.step st (by intro e; cases e)⟩
theorem RLies.setKids {EX : Ext} {w w1 : World} {M M1 : Nat → Lab} {tb : Nat} {nv uv : Value} {ps : List Pn} {us : List Value} (h : RLies (EX := EX) w M tb nv uv ps us) {nb m c0 : Nat} (hv : nv = .slice (some ⟨nb, 0, none⟩) m c0) {i : Nat} {p : Pn} (hp : ps[i]? = some p) (st : Step w M w1 M1 (.kids i))
    {kv' : Value} {ks' : List Int} (hr : Row w1 M1 (.kids i) 3 1 kv' ks'.length (ks'.map intV)) :
    RLies (EX := EX) (w1.setCell ⟨nb, i * 6 + 5, none⟩ kv') M1 tb nv uv (ps.set i ⟨{ p.n with kids := ks' }, p.av, kv'⟩) us ∧ Moved w M (w1.setCell ⟨nb, i * 6 + 5, none⟩ kv') M1 ∧ w1.cell? ⟨nb, i * 6 + 5, none⟩ = some p.kv ∧ w1.frozen? ⟨nb, i * 6 + 5, none⟩ = false ∧ w1.cell? ⟨tb, 0, none⟩ = some nv := by
  have hi : i < ps.length := (List.getElem?_eq_some_iff.1 hp).1
  obtain ⟨g, cap, hg, _, _, hM, hgl⟩ := h.nodes.form (by omega)
  have e1 : g = nb := by rw [hv] at hg; cases hg; rfl
  subst e1
  have hn1 : Row w1 M1 .nodes 50 6 nv ps.length (flat ps) := h.nodes.step st (by intro e; cases e)
  have hM1 : M1 g = .nodes := (st.lab g hgl).trans hM
  have st2 : Step w1 M1 (w1.setCell ⟨g, i * 6 + 5, none⟩ kv') M1 .nodes := step_setCell kv' hM1 st.fresh
  have hc := hn1.cell hv ((flat_get ps i 5 p hp (by omega)).trans rfl)
  have hh := (st.far tb (lt_of_heap h.head) (by rw [h.tree]; intro e; cases e)).trans h.head
  refine ⟨⟨st2.fresh, (st.lab tb (lt_of_heap h.head)).trans h.tree, ?_, ?_, (h.undos.step st (by intro e; cases e)).step st2 (by intro e; cases e), ?_⟩, (st.moved (by intro e; cases e)).trans (st2.moved (by intro e; cases e)), hc.1, hc.2, (head_cellX hh).1⟩
  · have ht : M1 tb = .tree := (st.lab tb (lt_of_heap h.head)).trans h.tree
    have hl : tb < w1.heap.size := Nat.lt_of_lt_of_le (lt_of_heap h.head) st.size
    exact (st2.far tb hl (by rw [ht]; intro e; cases e)).trans hh
  · rw [List.length_set, flat_set ps i 5 p ⟨{ p.n with kids := ks' }, p.av, kv'⟩ kv' hp (by omega) rfl]
    exact hn1.set hv _ _ (by rw [flat_length]; omega)
  · intro j q hq
    by_cases hij : i = j
    · subst hij
      rw [List.getElem?_set_self hi] at hq
      cases hq
      exact ⟨((h.node i p hp).1.step st (by intro e; cases e)).step st2 (by intro e; cases e), hr.step st2 (by intro e; cases e)⟩
    · rw [List.getElem?_set_ne hij] at hq
      exact ⟨((h.node j q hq).1.step st (by intro e; cases e)).step st2 (by intro e; cases e), ((h.node j q hq).2.step st (by intro e; cases e; exact hij rfl)).step st2 (by intro e; cases e)⟩
theorem RLies.grown {EX : Ext} {w w' : World} {M : Nat → Lab} {tb : Nat} {nv uv : Value} {ps : List Pn} {us : List Value} {row : Option Nat} (h : RLies (EX := EX) w M tb nv uv ps us) (hg : w.grownBy w' row) (hr : ∀ k, row = some k → M k = .other) : RLies (EX := EX) w' M tb nv uv ps us :=
  h.far hg.size (fun b hb hne => hg.block b hb (fun e => hne (hr b e.symm)))
end Go.Proofs.YtkaeenafejdkfaaGreatDoor
