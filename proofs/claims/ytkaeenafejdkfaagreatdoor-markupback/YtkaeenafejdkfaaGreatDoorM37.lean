/- The program: two trees that have the same nodes are alike, all the way down. -/
import Derived.Test.YtkaeenafejdkfaaGreatDoorWAlike
import Derived.Test.YtkaeenafejdkfaaGreatDoorM35
import Derived.Defers
import Derived.Recover
import Derived.LoopN
namespace Go.Proofs.YtkaeenafejdkfaaGreatDoor
open Go.RowKit

theorem IntRow.belowW {w w' : World} {v : Value} {ks : List Int} (h : IntRow w v ks) (hb : Below w.heap.size w w') : IntRow w' v ks := by
  obtain ⟨a, c, rfl, h⟩ := h
  refine ⟨a, c, rfl, fun j x hj => ?_⟩
  obtain ⟨g, cur, fr, h1, h2, h3⟩ := h j x hj
  exact ⟨g, cur, fr, h1, (hb.block g (lt_of_heap h2)).trans h2, h3⟩

def AlikeC (M1 M2 : Nat → Lab) (t1 t2 : Nat) (n1 u1 n2 u2 : Value) (ps qs : List Pn) (us1 us2 : List Value) (f : Nat) : Prop :=
  ∀ (j : Nat) (p q : Pn) (a e : Nat) (w : World), Two w M1 M2 t1 t2 n1 u1 n2 u2 ps qs us1 us2 → ps[j]? = some p → qs[j]? = some q → Cover (nodesOf ps) p.n.kids a e → e - a < f →
    Calls Tryz.prog 36 #[.pointer (some ⟨t1, 0, none⟩), .int .i64 j, .pointer (some ⟨t2, 0, none⟩), .int .i64 j] w fun e w' => e = .returned (.bool true) ∧ Below w.heap.size w w'

theorem same_at {ps qs : List Pn} (he : nodesOf ps = nodesOf qs) {j : Nat} {p : Pn} (hp : ps[j]? = some p) : ∃ q, qs[j]? = some q ∧ p.n = q.n := by
  have h1 := nodes_get hp
  rw [he] at h1
  obtain ⟨q, h2, h3⟩ := nodesOf_get h1
  exact ⟨q, h2, h3.symm⟩

set_option maxHeartbeats 8000000 in
set_option maxRecDepth 100000 in
theorem alike_step {M1 M2 : Nat → Lab} {t1 t2 : Nat} {n1 u1 n2 u2 : Value} {ps qs : List Pn} {us1 us2 : List Value} {f : Nat} (he : nodesOf ps = nodesOf qs) (hF : ∀ (j : Nat) (q : Pn), ps[j]? = some q → q.n.kids.length ≤ 100000 ∧ q.n.attrs.length ≤ 100000)
    (IH : AlikeC M1 M2 t1 t2 n1 u1 n2 u2 ps qs us1 us2 f) : AlikeC M1 M2 t1 t2 n1 u1 n2 u2 ps qs us1 us2 (f + 1) := by
  intro j p q a e w h hp hq hcov hf
  have hpq : p.n = q.n := by
    obtain ⟨q', h1, h2⟩ := same_at he hp
    rw [hq] at h1; cases h1; exact h2
  have hmf : ∀ (fn : Fn) (first cap : Array Value) (w : World), (Instr.makeFunc fn first cap).run Tryz.prog w = .ok (.func fn first cap) w := fun _ _ _ _ => rfl
  have hkl := (hF j p hp).1
  have HB0 : Hid (∀ o1 o2, Below w.heap.size w ((w.alloc o1).alloc o2)) := fun o1 o2 => ((Below.refl _ _).alloc (Nat.le_refl _) _).alloc (by simp) _
  have A1 : Hid (∀ W, Below w.heap.size w W → Calls Tryz.prog 44 #[.pointer (some ⟨t1, 0, none⟩), .int .i64 j] W fun e w' => ∃ v', e = .returned v' ∧ IntRow w' v' p.n.kids ∧ Below W.heap.size W w') := by
    intro W hW
    refine (kids_any (h.a.below hW) hp (by omega)).mono ?_
    rintro e w' ⟨v', rfl, ho, hb⟩
    exact ⟨v', rfl, IntRow.of ho, hb⟩
  have A2 : Hid (∀ W, Below w.heap.size w W → Calls Tryz.prog 44 #[.pointer (some ⟨t2, 0, none⟩), .int .i64 j] W fun e w' => ∃ v', e = .returned v' ∧ IntRow w' v' p.n.kids ∧ Below W.heap.size W w') := by
    intro W hW
    refine (kids_any (h.b.below hW) hq (by rw [← hpq]; omega)).mono ?_
    rintro e w' ⟨v', rfl, ho, hb⟩
    exact ⟨v', rfl, by rw [hpq]; exact IntRow.of ho, hb⟩
  have HC : Hid (∀ (b c : Nat), ∀ x ∈ p.n.kids, ∀ W, Below w.heap.size w W → W.cell? ⟨b, 0, none⟩ = some (.pointer (some ⟨t1, 0, none⟩)) → W.cell? ⟨c, 0, none⟩ = some (.pointer (some ⟨t2, 0, none⟩)) → Calls Tryz.prog 78 #[.int .i64 x, .int .i64 x, .pointer (some ⟨b, 0, none⟩), .pointer (some ⟨c, 0, none⟩)] W fun e w' => e = .returned (.bool true) ∧ Below W.heap.size W w') := by
    intro b c x hx W hW hb hc
    obtain ⟨k, m, n, rfl, hn, hcv, g1, g2⟩ := hcov.mem x hx
    obtain ⟨pk, hpk, rfl⟩ := nodesOf_get hn
    obtain ⟨qk, hqk, hpqk⟩ := same_at he hpk
    have hle := hcv.le
    exact alike1_same (h.below hW) hpk hqk hpqk (hF k pk hpk).2 hb hc (fun W2 hW2 => IH k pk qk (k + 1) m W2 ((h.below hW).below hW2) hpk hqk hcv (by omega))
  clear h IH hp hq hpq hcov hF he
  go_enter Tryz.func36, Tryz.ntmps36
  go_wp2_with fail
  obtain ⟨W0, hW0⟩ : ∃ W0, W0 = (w.alloc (.cells #[.pointer (some ⟨t1, 0, none⟩)] 31)).alloc (.cells #[.pointer (some ⟨t2, 0, none⟩)] 31) := ⟨_, rfl⟩
  have c1 : W0.cell? ⟨w.heap.size, 0, none⟩ = some (.pointer (some ⟨t1, 0, none⟩)) := by
    rw [hW0, World.cell?_alloc_lt _ _ ⟨w.heap.size, 0, none⟩ (by simp), cell_of_row _ _ _ _ _ _ (heap_alloc_new w _)]; rfl
  have c2 : W0.cell? ⟨w.heap.size + 1, 0, none⟩ = some (.pointer (some ⟨t2, 0, none⟩)) := by
    have := heap_alloc_new (w.alloc (.cells #[.pointer (some ⟨t1, 0, none⟩)] 31)) (.cells #[.pointer (some ⟨t2, 0, none⟩)] 31)
    rw [World.size_alloc] at this
    rw [hW0, cell_of_row _ _ _ _ _ _ this]; rfl
  have hB0 : Below w.heap.size w W0 := by rw [hW0]; exact HB0.out _ _
  rw [← hW0]
  have HB := hid hB0
  have hd : Below W0.heap.size W0 W0.drew := (Below.refl _ _).drew
  have HD := hid hd
  have hb1 := World.block_lt_of_cell? W0 _ c1
  have hb2 := World.block_lt_of_cell? W0 _ c2
  clear hW0 hB0 HB0
  go_region_held3 (fun wx => wx.cell? ⟨w.heap.size, 0, none⟩ = some (.pointer (some ⟨t1, 0, none⟩)) ∧ wx.cell? ⟨w.heap.size + 1, 0, none⟩ = some (.pointer (some ⟨t2, 0, none⟩))) (go_keep)
    (first
      | (go_at_call 44; with_reducible refine (A1.out _ (HB.out.trans (HD.out.mono HB.out.size))).mono ?_; rintro e wa ⟨va, rfl, hAa, hBa⟩
         have HA1 : Hid (IntRow wa va p.n.kids ∧ Below W0.heap.size W0 wa) := ⟨hAa, HD.out.trans hBa⟩
         have k1 : wa.cell? ⟨w.heap.size, 0, none⟩ = some (.pointer (some ⟨t1, 0, none⟩)) := (HA1.out.2.cell (p := ⟨w.heap.size, 0, none⟩) hb1).trans c1
         have k2 : wa.cell? ⟨w.heap.size + 1, 0, none⟩ = some (.pointer (some ⟨t2, 0, none⟩)) := (HA1.out.2.cell (p := ⟨w.heap.size + 1, 0, none⟩) hb2).trans c2
         clear hAa hBa)
      | (go_at_call 44; with_reducible refine (A2.out _ (HB.out.trans (HD.out.mono HB.out.size))).mono ?_; rintro e wb ⟨vb, rfl, hAb, hBb⟩
         have HA2 : Hid (IntRow wb vb p.n.kids ∧ Below W0.heap.size W0 wb) := ⟨hAb, HD.out.trans hBb⟩
         have k1 : wb.cell? ⟨w.heap.size, 0, none⟩ = some (.pointer (some ⟨t1, 0, none⟩)) := (HA2.out.2.cell (p := ⟨w.heap.size, 0, none⟩) hb1).trans c1
         have k2 : wb.cell? ⟨w.heap.size + 1, 0, none⟩ = some (.pointer (some ⟨t2, 0, none⟩)) := (HA2.out.2.cell (p := ⟨w.heap.size + 1, 0, none⟩) hb2).trans c2
         clear hAb hBb)
      | (go_at_call 44; with_reducible refine (A2.out _ (HB.out.trans (HA1.out.2.mono HB.out.size))).mono ?_; rintro e wb ⟨vb, rfl, hAb, hBb⟩
         have HA : Hid (IntRow wb va p.n.kids ∧ IntRow wb vb p.n.kids ∧ Below W0.heap.size W0 wb) := ⟨HA1.out.1.belowW hBb, hAb, HA1.out.2.trans (hBb.mono HA1.out.2.size)⟩
         have m1 : wb.cell? ⟨w.heap.size, 0, none⟩ = some (.pointer (some ⟨t1, 0, none⟩)) := (HA.out.2.2.cell (p := ⟨w.heap.size, 0, none⟩) hb1).trans c1
         have m2 : wb.cell? ⟨w.heap.size + 1, 0, none⟩ = some (.pointer (some ⟨t2, 0, none⟩)) := (HA.out.2.2.cell (p := ⟨w.heap.size + 1, 0, none⟩) hb2).trans c2
         clear hAb hBb)
      | (go_at_call 44; with_reducible refine (A1.out _ (HB.out.trans (HA2.out.2.mono HB.out.size))).mono ?_; rintro e wb ⟨va, rfl, hAb, hBb⟩
         have HA : Hid (IntRow wb va p.n.kids ∧ IntRow wb vb p.n.kids ∧ Below W0.heap.size W0 wb) := ⟨hAb, HA2.out.1.belowW hBb, HA2.out.2.trans (hBb.mono HA2.out.2.size)⟩
         have m1 : wb.cell? ⟨w.heap.size, 0, none⟩ = some (.pointer (some ⟨t1, 0, none⟩)) := (HA.out.2.2.cell (p := ⟨w.heap.size, 0, none⟩) hb1).trans c1
         have m2 : wb.cell? ⟨w.heap.size + 1, 0, none⟩ = some (.pointer (some ⟨t2, 0, none⟩)) := (HA.out.2.2.cell (p := ⟨w.heap.size + 1, 0, none⟩) hb2).trans c2
         clear hAb hBb)
      | (go_at_call 77
         refine (equalFunc_same HA.out.1 HA.out.2.1 hkl _ _ (fun x hx W hW => HC.out w.heap.size (w.heap.size + 1) x hx W (HB.out.trans ((HA.out.2.2.trans (hW.mono HA.out.2.2.size)).mono HB.out.size)) ((hW.cell (p := ⟨w.heap.size, 0, none⟩) (World.block_lt_of_cell? _ _ m1)).trans m1) ((hW.cell (p := ⟨w.heap.size + 1, 0, none⟩) (World.block_lt_of_cell? _ _ m2)).trans m2))).mono ?_
         rintro e wq ⟨rfl, hBq⟩
         have HQ : Hid (Below w.heap.size w wq) := HB.out.trans ((HA.out.2.2.trans (hBq.mono HA.out.2.2.size)).mono HB.out.size)
         have o1 : wq.cell? ⟨w.heap.size, 0, none⟩ = some (.pointer (some ⟨t1, 0, none⟩)) := (hBq.cell (p := ⟨w.heap.size, 0, none⟩) (World.block_lt_of_cell? _ _ m1)).trans m1
         have o2 : wq.cell? ⟨w.heap.size + 1, 0, none⟩ = some (.pointer (some ⟨t2, 0, none⟩)) := (hBq.cell (p := ⟨w.heap.size + 1, 0, none⟩) (World.block_lt_of_cell? _ _ m2)).trans m2
         clear hBq))
  all_goals go_wp2_with fail
  all_goals go_ret
  all_goals exact ⟨rfl, HQ.out⟩

theorem alike_any {w : World} {M1 M2 : Nat → Lab} {t1 t2 : Nat} {n1 u1 n2 u2 : Value} {ps qs : List Pn} {us1 us2 : List Value} (he : nodesOf ps = nodesOf qs) (hF : ∀ (j : Nat) (q : Pn), ps[j]? = some q → q.n.kids.length ≤ 100000 ∧ q.n.attrs.length ≤ 100000)
    (h : Two w M1 M2 t1 t2 n1 u1 n2 u2 ps qs us1 us2) {j : Nat} {p : Pn} {a e : Nat} (hp : ps[j]? = some p) (hcov : Cover (nodesOf ps) p.n.kids a e) :
    Calls Tryz.prog 36 #[.pointer (some ⟨t1, 0, none⟩), .int .i64 j, .pointer (some ⟨t2, 0, none⟩), .int .i64 j] w fun e w' => e = .returned (.bool true) ∧ Below w.heap.size w w' := by
  have all : ∀ f, AlikeC M1 M2 t1 t2 n1 u1 n2 u2 ps qs us1 us2 f := by
    intro f
    induction f with
    | zero => intro j p q a e w _ _ _ _ hf; omega
    | succ f ih => exact alike_step he hF ih
  obtain ⟨q, hq, _⟩ := same_at he hp
  exact all (e - a + 1) j p q a e w h hp hq hcov (by omega)
end Go.Proofs.YtkaeenafejdkfaaGreatDoor

/- The program: the text that a speller has come to, and spell. -/
namespace Go.Proofs.YtkaeenafejdkfaaGreatDoor
open Go.RowKit

set_option maxHeartbeats 4000000 in
set_option maxRecDepth 100000 in
/-- the text of a speller that has written something -/
theorem spText_some (B b : Nat) (l : List UInt8) (tv : Value) (op : Int) (w : World) (h : Sp B b (Lib.byteCells l) tv op w) (h0 : l ≠ []) :
    Calls Tryz.prog 76 #[.pointer (some ⟨b, 0, none⟩)] w fun e w' => e = .returned (.string ⟨l.toArray⟩) ∧ Below B w w' := by
  obtain ⟨p, v, hbk, hown⟩ : ∃ p v, w.heap[b]? = some (.cells #[p, v, tv, .int .i64 op] 132 (0, 0)) ∧ w.ownsRowF B 5 1 v l.length (Lib.byteCells l) := by
    rcases h with ⟨_, v, h1, h2, _⟩ | ⟨_, v, h1, h2, _⟩
    · exact ⟨_, v, h1, by rw [Lib.byteCells_length] at h2; exact h2⟩
    · exact ⟨_, v, h1, by rw [Lib.byteCells_length] at h2; exact h2⟩
  have hl0 : l.length ≠ 0 := by simpa using h0
  rcases hown.2 with ⟨_, hz⟩ | ⟨g, cap, cur, fz, rfl, hbg, hg, _, hnc, hcm, hcs, _⟩
  · exact absurd hz hl0
  have c1 : w.drew.cell? ⟨b, 1, none⟩ = some (.slice (some ⟨g, 0, none⟩) l.length cap) := by
    rw [Lib.cell_of_heap (w := w.drew) hbk]; rfl
  have hSD : (Builtin.unsafeSliceData_ #[128] 174 #[.slice (some ⟨g, 0, none⟩) l.length cap]).run Tryz.prog w.drew = .ok (.pointer (some ⟨g, 0, none⟩)) w.drew :=
    Lib.run_unsafeSliceData_row _ _ _ _ _ _ (by omega)
  have hUS : (Builtin.unsafeString_ #[174, 3] 9 #[.pointer (some ⟨g, 0, none⟩), .int .i64 l.length]).run Tryz.prog w.drew = .ok (.string ⟨l.toArray⟩) (w.drew.freeze ⟨g, 0, none⟩ l.length) := by
    refine Lib.run_unsafeString_row w.drew 174 3 9 5 Tryz.underlying174 (by kernel_rfl) g cur.size (by have hg' : w.drew.heap[g]? = some (.cells cur 5 fz) := hg; simp [World.shape?, hg']) l h0 (by omega) (by unfold maxLen at hcm; omega) ?_
    intro j x hx
    exact hown.cells (g := g) rfl j (.int .u8 x.toNat) (by simp [Lib.byteCells, hx])
  have hE := Lib.below_freeze (Below.drew (Below.refl B w)) (p := ⟨g, 0, none⟩) hbg l.length
  clear hown hbk h h0 hl0 hg hnc hcm hcs
  go_enter Tryz.func76, Tryz.ntmps76
  go_wp2_with fail
  go_region
  all_goals (go_wp2_with fail; go_ret; exact ⟨rfl, hE⟩)

set_option maxHeartbeats 4000000 in
set_option maxRecDepth 100000 in
/-- the text of a speller that has written nothing -/
theorem spText_none (B b : Nat) (tv : Value) (op : Int) (w : World) (h : Sp B b [] tv op w) (hBw : B ≤ w.heap.size) :
    Calls Tryz.prog 76 #[.pointer (some ⟨b, 0, none⟩)] w fun e w' => e = .returned (.string ⟨#[]⟩) ∧ Below B w w' := by
  obtain ⟨p, v, hbk, hown⟩ : ∃ p v, w.heap[b]? = some (.cells #[p, v, tv, .int .i64 op] 132 (0, 0)) ∧ w.ownsRowF B 5 1 v 0 [] := by
    rcases h with ⟨_, v, h1, h2, _⟩ | ⟨_, v, h1, h2, _⟩
    · exact ⟨_, v, h1, h2⟩
    · exact ⟨_, v, h1, h2⟩
  have hUS : ∀ (W : World) (q : Option Addr), (Builtin.unsafeString_ #[174, 3] 9 #[.pointer q, .int .i64 0]).run Tryz.prog W = .ok (.string ⟨#[]⟩) W := fun W q => Lib.run_unsafeString_none W 174 3 9 q
  rcases hown.2 with ⟨rfl, _⟩ | ⟨g, cap, cur, fz, rfl, hbg, hg, _⟩
  · have c1 : w.drew.cell? ⟨b, 1, none⟩ = some (.slice none 0 0) := by rw [Lib.cell_of_heap (w := w.drew) hbk]; rfl
    have hSD : (Builtin.unsafeSliceData_ #[128] 174 #[.slice none 0 0]).run Tryz.prog w.drew = .ok (.pointer none) w.drew := rfl
    have hE := Below.drew (Below.refl B w)
    clear hown hbk h
    go_enter Tryz.func76, Tryz.ntmps76
    go_wp2_with fail
    go_region
    all_goals (go_wp2_with fail; go_ret; exact ⟨rfl, hE⟩)
  · by_cases hc : cap = 0
    · subst hc
      have hlt := size_of hbk
      have c1 : w.drew.cell? ⟨b, 1, none⟩ = some (.slice (some ⟨g, 0, none⟩) 0 0) := by rw [Lib.cell_of_heap (w := w.drew) hbk]; rfl
      have hSD : (Builtin.unsafeSliceData_ #[128] 174 #[.slice (some ⟨g, 0, none⟩) 0 0]).run Tryz.prog w.drew = .ok (.pointer (some ⟨w.drew.heap.size, 0, none⟩)) (w.drew.alloc (.view ⟨g, 0, none⟩ 5)) :=
        Lib.run_unsafeSliceData_zero w.drew _ _ 5 Tryz.underlying174 ⟨g, 0, none⟩ 0 (5, cur.size) (by have hg' : w.drew.heap[g]? = some (.cells cur 5 fz) := hg; simp [World.shape?, hg'])
      have c2 : (w.drew.alloc (.view ⟨g, 0, none⟩ 5)).cell? ⟨b, 1, none⟩ = some (.slice (some ⟨g, 0, none⟩) 0 0) := by
        rw [Lib.cell_of_heap ((Lib.alloc_old w.drew _ b hlt).trans hbk)]; rfl
      have c3 : (w.alloc (.view ⟨g, 0, none⟩ 5)).drew.cell? ⟨b, 1, none⟩ = some (.slice (some ⟨g, 0, none⟩) 0 0) := c2
      have c0 : w.cell? ⟨b, 1, none⟩ = some (.slice (some ⟨g, 0, none⟩) 0 0) := c1
      have hE : Below B w (w.drew.alloc (.view ⟨g, 0, none⟩ 5)) := (Below.drew (Below.refl B w)).alloc hBw _
      clear hown hbk h hg hlt
      go_enter Tryz.func76, Tryz.ntmps76
      go_wp2_with fail
      go_region
      all_goals (go_wp2_with fail; go_ret; exact ⟨rfl, hE⟩)
    · have c1 : w.drew.cell? ⟨b, 1, none⟩ = some (.slice (some ⟨g, 0, none⟩) 0 cap) := by rw [Lib.cell_of_heap (w := w.drew) hbk]; rfl
      have hSD : (Builtin.unsafeSliceData_ #[128] 174 #[.slice (some ⟨g, 0, none⟩) 0 cap]).run Tryz.prog w.drew = .ok (.pointer (some ⟨g, 0, none⟩)) w.drew := Lib.run_unsafeSliceData_row _ _ _ _ _ _ hc
      have hE := Below.drew (Below.refl B w)
      clear hown hbk h hg hc
      go_enter Tryz.func76, Tryz.ntmps76
      go_wp2_with fail
      go_region
      all_goals (go_wp2_with fail; go_ret; exact ⟨rfl, hE⟩)
theorem spText_any (B b : Nat) (l : List UInt8) (tv : Value) (op : Int) (w : World) (h : Sp B b (Lib.byteCells l) tv op w) (hBw : B ≤ w.heap.size) :
    Calls Tryz.prog 76 #[.pointer (some ⟨b, 0, none⟩)] w fun e w' => e = .returned (.string ⟨l.toArray⟩) ∧ Below B w w' := by
  cases l with
  | nil => exact spText_none B b tv op w h hBw
  | cons x r => exact spText_some B b (x :: r) tv op w h (by simp)

set_option maxHeartbeats 4000000 in
set_option maxRecDepth 100000 in
/-- what lies in a tree's root is spelt -/
theorem spell_any {w : World} {M : Nat → Lab} {tb : Nat} {nv uv : Value} {ps : List Pn} {us : List Value} (h : Lies w M tb nv uv ps us) (hF : ∀ (j : Nat) (q : Pn), ps[j]? = some q → q.n.kids.length ≤ 100000 ∧ q.n.attrs.length ≤ 100000) {p : Pn} (hp : ps[0]? = some p) (hcov : Cover (nodesOf ps) p.n.kids 1 (nodesOf ps).length)
    (hlen : (spellK (nodesOf ps) ((nodesOf ps).length + 1) 0 p.n.kids).length ≤ 20000) :
    Calls Tryz.prog 35 #[.pointer (some ⟨tb, 0, none⟩), .int .i64 0] w fun e w' => e = .returned (.string ⟨(spellK (nodesOf ps) ((nodesOf ps).length + 1) 0 p.n.kids).toArray⟩) ∧ Below w.heap.size w w' := by
  have HL := hid h
  have HP := hid hp
  have HK := hid (kidsW (w0 := w) (M := M) (tb := tb) (nv := nv) (uv := uv) (ps := ps) (us := us) (b := w.heap.size) hF ((nodesOf ps).length + 1) 0 0 p [])
  have HC := hid hcov
  have HN := hid hlen
  clear h hF hp hcov hlen
  go_enter Tryz.func35, Tryz.ntmps35
  go_wp2_with fail
  have hB : Below w.heap.size w (w.alloc (.cells #[.pointer none, .slice none 0 0, .pointer (some ⟨tb, 0, none⟩), .int .i64 0] 132)) := (Below.refl _ _).alloc (Nat.le_refl _) _
  have hW : WAt w M tb nv uv ps us w.heap.size [] ((0 : Nat) : Int) (w.alloc (.cells #[.pointer none, .slice none 0 0, .pointer (some ⟨tb, 0, none⟩), .int .i64 0] 132)) := by
    refine ⟨HL.out, .inl ⟨Nat.le_refl _, .slice none 0 0, heap_alloc_new w _, ?_, ?_⟩, Spk.of (Nat.le_refl _) hB⟩
    · exact World.ownsRowF_nil _ _ _ _
    · simp [Value.ownBlock]
  refine (HK.out _ 1 (nodesOf ps).length hW HP.out HC.out (by omega) (by omega) (by simpa using HN.out)).mono ?_
  rintro e w1 ⟨rfl, h1, _⟩
  have H1 := hid h1
  clear h1 hW
  go_wp2_with fail
  refine (spText_any w.heap.size w.heap.size _ _ _ _ H1.out.sp H1.out.kept.below.size).mono ?_
  rintro e w2 ⟨rfl, hB2⟩
  have HB2 := hid (H1.out.kept.below.trans hB2)
  clear hB2
  go_wp2_with fail
  go_ret
  exact ⟨rfl, HB2.out⟩
end Go.Proofs.YtkaeenafejdkfaaGreatDoor

/- The program: spell within its guard, where nothing is thrown. -/
namespace Go.Proofs.YtkaeenafejdkfaaGreatDoor
open Go.RowKit

/-- the deferred function of a frame that returns -/
theorem guardS_idle (p : Addr) (w : World) :
    CallsD Tryz.prog 74 #[.pointer (some p)] .returning w fun e u' w' => e = .returned (.tuple #[]) ∧ u' = .returning ∧ w' = w := by
  refine callsD_of_wpS Tryz.func74 rfl fun c₀ cs hu => ?_
  apply wpS_seq
  apply wpS_region
  simp [wpOpsS, go_sem, recoverD, hu, Tryz.ntmps74, Exit.thenS]
  apply wpS_seq
  apply wpS_seq
  apply wpS_region
  simp [wpOpsS, go_sem, Exit.thenS]
  refine wpS_cond (t := true) (by simp [Act.eval, Array.replicate]) ?_
  simp only [if_true]
  refine wpS_of_wp (wp_ret ?_)
  cases c₀
  simp_all [bodyPostS, results, Tryz.results74, Exit.thenS]

set_option maxHeartbeats 4000000 in
theorem write1_any {w : World} {b c tb : Nat} (s : ByteArray) (h0 : w.cell? ⟨b, 0, none⟩ = some (.pointer (some ⟨tb, 0, none⟩))) (h1 : w.cell? ⟨c, 0, none⟩ = some (.int .i64 0))
    (hs : Calls Tryz.prog 35 #[.pointer (some ⟨tb, 0, none⟩), .int .i64 0] w fun e w' => e = .returned (.string s) ∧ Below w.heap.size w w') :
    Calls Tryz.prog 34 #[.pointer (some ⟨b, 0, none⟩), .pointer (some ⟨c, 0, none⟩)] w fun e w' => e = .returned (.string s) ∧ Below w.heap.size w w' := by
  have HS := hid hs
  clear hs
  go_enter Tryz.func34, Tryz.ntmps34
  go_wp2_with fail
  refine HS.out.mono ?_
  rintro e w1 ⟨rfl, hB⟩
  have HB := hid hB
  clear hB
  go_wp2_with fail
  go_ret
  exact ⟨rfl, HB.out⟩

set_option maxHeartbeats 4000000 in
theorem guardS_any {w : World} {b c : Nat} (s : ByteArray)
    (hs : Calls Tryz.prog 34 #[.pointer (some ⟨b, 0, none⟩), .pointer (some ⟨c, 0, none⟩)] (w.alloc (.cells #[.nilIface] 33)) fun e w' => e = .returned (.string s) ∧ Below (w.alloc (.cells #[.nilIface] 33)).heap.size (w.alloc (.cells #[.nilIface] 33)) w') :
    Calls Tryz.prog 33 #[.func (.func 34) #[] #[.pointer (some ⟨b, 0, none⟩), .pointer (some ⟨c, 0, none⟩)]] w fun e w' => e = .returned (.tuple #[.string s, .nilIface]) ∧ Below w.heap.size w w' := by
  have hmf : ∀ (fn : Fn) (first cap : Array Value) (w : World), (Instr.makeFunc fn first cap).run Tryz.prog w = .ok (.func fn first cap) w := fun _ _ _ _ => rfl
  have HG := hid hs
  clear hs
  go_enter_defers Tryz.func33, Tryz.ntmps33
  go_wp2_with fail
  refine HG.out.mono ?_
  rintro e w1 ⟨rfl, hB⟩
  have hb0 := hB.block w.heap.size (by simp)
  rw [heap_alloc_new w] at hb0
  have d0 : w1.cell? ⟨w.heap.size, 0, none⟩ = some .nilIface := by rw [cell_of_row w1 w.heap.size 0 _ _ _ hb0]; rfl
  have f0 : w1.frozen? ⟨w.heap.size, 0, none⟩ = false := by simp [World.frozen?, hb0]
  have H1 := hid hB
  have hl1 : w.heap.size < w1.heap.size := World.block_lt_of_cell? w1 _ d0
  clear hB hb0
  go_wp2_with fail
  refine leaves_cons (f := 74) (args := #[.pointer (some ⟨w.heap.size, 0, none⟩)]) (by simp) (by simp [go_sem]) ?_
  refine (guardS_idle ⟨w.heap.size, 0, none⟩ _).mono ?_
  rintro e u' w'' ⟨rfl, rfl, rfl⟩
  refine ⟨.tuple #[.string s, .nilIface], ?_, rfl, ?_⟩
  · simp [results, Tryz.results33, go_sem, d0]
  · exact (((Below.refl _ _).alloc (Nat.le_refl _) _).trans (H1.out.mono (by simp))).setCell (p := ⟨w.heap.size, 0, none⟩) (Nat.le_refl _) _
end Go.Proofs.YtkaeenafejdkfaaGreatDoor
