/- The document's Alike: two trees that have the same nodes are alike, all the way down. -/
import Derived.Test.YtkaeenafejdkfaaGreatDoorM29
import Derived.Test.YtkaeenafejdkfaaGreatDoorAlikeU
import Derived.Handy
import Derived.BigRegion
namespace Go.Proofs.YtkaeenafejdkfaaGreatDoor
open Go.RowKit

/-- a list of the document's nodes that is read -/
structure TrV (w : World) (nv : Value) (ps : List Pn) : Prop where
  node : ∀ (i : Nat) (p : Pn), ps[i]? = some p → ∃ nb cap, nv = .slice (some ⟨nb, 0, none⟩) ps.length cap ∧ ps.length ≤ cap ∧ cap ≤ maxLen ∧ (∀ (f : Nat) (c : Value), p.cells[f]? = some c → f < 6 → w.cell? ⟨nb, i * 6 + f, none⟩ = some c) ∧ AttrsAt w p.av p.n.attrs ∧ IntsAt w p.kv p.n.kids
theorem TrV.below {w w' : World} {nv : Value} {ps : List Pn} (h : TrV w nv ps) (hb : Below w.heap.size w w') : TrV w' nv ps := by
  refine ⟨fun i p hp => ?_⟩
  obtain ⟨nb, cap, e1, e2, e3, e4, e5, e6⟩ := h.node i p hp
  exact ⟨nb, cap, e1, e2, e3, fun f c hc hf => (hb.cell (p := ⟨nb, i * 6 + f, none⟩) (World.block_lt_of_cell? w _ (e4 f c hc hf))).trans (e4 f c hc hf), e5.below hb, e6.below hb⟩
theorem RLies.trv {EX : Ext} {w : World} {M : Nat → Lab} {tb : Nat} {nv uv : Value} {ps : List Pn} {us : List Value} (h : RLies (EX := EX) w M tb nv uv ps us) : TrV w nv ps := by
  refine ⟨fun i p hp => ?_⟩
  obtain ⟨nb, cap, e1, e2, e3, _, _, _⟩ := h.form hp
  exact ⟨nb, cap, e1, e2, e3, fun f c hc hf => (h.cellN e1 hp hf hc).1, (h.node i p hp).1.attrsAt, (h.node i p hp).2.ints⟩

def RAlikeC (nv1 uv1 nv2 uv2 : Value) (ps qs : List Pn) (f : Nat) : Prop :=
  ∀ (j : Nat) (p : Pn) (a e : Nat) (w : World), TrV w nv1 ps → TrV w nv2 qs → ps[j]? = some p → Cover (nodesOf ps) p.n.kids a e → e - a < f →
    Calls Tryz.prog 10 #[.agg #[nv1, uv1], .int .i64 j, .agg #[nv2, uv2], .int .i64 j] w fun e w' => e = .returned (.bool true) ∧ Below w.heap.size w w'

set_option maxHeartbeats 8000000 in
set_option maxRecDepth 100000 in
theorem ralike_step {nv1 uv1 nv2 uv2 : Value} {ps qs : List Pn} {f : Nat} (he : nodesOf ps = nodesOf qs) (hF : ∀ (j : Nat) (q : Pn), ps[j]? = some q → q.n.kids.length ≤ 100000 ∧ q.n.attrs.length ≤ 100000)
    (IH : RAlikeC nv1 uv1 nv2 uv2 ps qs f) : RAlikeC nv1 uv1 nv2 uv2 ps qs (f + 1) := by
  intro j p a e w h1 h2 hp hcov hf
  obtain ⟨q, hq, hpq⟩ := same_at he hp
  have hkl := (hF j p hp).1
  have HT : Hid (TrV w nv1 ps ∧ TrV w nv2 qs) := ⟨h1, h2⟩
  have HE := hid he
  have HFF := hid hF
  have HC := hid hcov
  have HIH := hid IH
  obtain ⟨nb1, cp1, rfl, a2, a3, a4, a5, a6⟩ := h1.node j p hp
  obtain ⟨nb2, cp2, rfl, b2, b3, b4, b5, b6⟩ := h2.node j q hq
  have hj1 := (List.getElem?_eq_some_iff.1 hp).1
  have hj2 := (List.getElem?_eq_some_iff.1 hq).1
  have k1 := a4 5 _ rfl (by omega)
  have k2 := b4 5 _ rfl (by omega)
  rw [← hpq] at b6
  obtain ⟨ka, kc, hk1, ka1⟩ := a6
  obtain ⟨kb, kd, hk2, kb1⟩ := b6
  rw [hk1] at k1
  rw [hk2] at k2
  have HK : Hid ((∀ (k : Nat) (y : Int), p.n.kids[k]? = some y → ∃ g, ka = some ⟨g, 0, none⟩ ∧ w.cell? ⟨g, k, none⟩ = some (.int .i64 y)) ∧ (∀ (k : Nat) (y : Int), p.n.kids[k]? = some y → ∃ g, kb = some ⟨g, 0, none⟩ ∧ w.cell? ⟨g, k, none⟩ = some (.int .i64 y))) := ⟨ka1, kb1⟩
  have HB0 : Hid (∀ o1 o2, Below w.heap.size w ((w.alloc o1).alloc o2)) := fun o1 o2 => ((Below.refl _ _).alloc (Nat.le_refl _) _).alloc (by simp) _
  unfold maxLen at a3 b3
  have l1 := World.block_lt_of_cell? w _ k1
  have l2 := World.block_lt_of_cell? w _ k2
  clear h1 h2 hp hq IH he hF hcov a4 a5 b4 b5 ka1 kb1 hpq hk2 hk1
  go_enter Tryz.func10, Tryz.ntmps10
  go_wp2_with fail
  go_loopw [11] (fun iv wr => ∃ k : Nat, k ≤ p.n.kids.length ∧ iv = .int .i64 k ∧ Hid (Below w.heap.size w wr ∧ wr.heap[w.heap.size]? = some (.cells #[.slice (some ⟨nb1, 0, none⟩) ps.length cp1, uv1] 26 (0, 0)) ∧ wr.heap[w.heap.size + 1]? = some (.cells #[.slice (some ⟨nb2, 0, none⟩) qs.length cp2, uv2] 26 (0, 0)))) (fun iv _ => p.n.kids.length - (intOf iv).toNat)
  case atStart =>
    refine ⟨0, by omega, rfl, HB0.out _ _, ?_, ?_⟩
    · rw [Below.heap_alloc _ _ _ (by simp)]
      exact heap_alloc_new w _
    · have := heap_alloc_new (w.alloc (.cells #[.slice (some ⟨nb1, 0, none⟩) ps.length cp1, uv1] 26)) (.cells #[.slice (some ⟨nb2, 0, none⟩) qs.length cp2, uv2] 26)
      rw [World.size_alloc] at this
      exact this
  case round =>
    obtain ⟨k, hk, rfl, HR⟩ := hrel
    obtain ⟨wo, hwo⟩ : ∃ wo, wo = wr := ⟨_, rfl⟩
    subst hwo
    obtain ⟨x0, x1⟩ : wo.cell? ⟨w.heap.size, 0, none⟩ = some (.slice (some ⟨nb1, 0, none⟩) ps.length cp1) ∧ wo.cell? ⟨w.heap.size, 1, none⟩ = some uv1 := ⟨by rw [cell_of_row _ _ _ _ _ _ HR.out.2.1]; rfl, by rw [cell_of_row _ _ _ _ _ _ HR.out.2.1]; rfl⟩
    obtain ⟨y0, y1⟩ : wo.cell? ⟨w.heap.size + 1, 0, none⟩ = some (.slice (some ⟨nb2, 0, none⟩) qs.length cp2) ∧ wo.cell? ⟨w.heap.size + 1, 1, none⟩ = some uv2 := ⟨by rw [cell_of_row _ _ _ _ _ _ HR.out.2.2]; rfl, by rw [cell_of_row _ _ _ _ _ _ HR.out.2.2]; rfl⟩
    have xl := lt_of_heap HR.out.2.2
    have xl0 : w.heap.size < wo.heap.size := by omega
    by_cases hlt : k < p.n.kids.length
    · obtain ⟨y, hy⟩ : ∃ y, p.n.kids[k]? = some y := ⟨_, List.getElem?_eq_getElem hlt⟩
      obtain ⟨c, m, n, rfl, hn, hcv, g1, g2⟩ := HC.out.mem y (List.mem_of_getElem? hy)
      obtain ⟨pc, hpc, rfl⟩ := nodesOf_get hn
      obtain ⟨qc, hqc, hpqc⟩ := same_at HE.out hpc
      obtain ⟨ga, rfl, z1⟩ := HK.out.1 k _ hy
      obtain ⟨gb, rfl, z2⟩ := HK.out.2 k _ hy
      have z1' := (HR.out.1.cell (p := ⟨ga, k, none⟩) (World.block_lt_of_cell? w _ z1)).trans z1
      have z2' := (HR.out.1.cell (p := ⟨gb, k, none⟩) (World.block_lt_of_cell? w _ z2)).trans z2
      obtain ⟨_, _, e1, _, _, a4, a5, a6⟩ := (HT.out.1.below HR.out.1).node c pc hpc
      injection e1 with e1 _ e1c
      injection e1 with e1
      injection e1 with e1
      subst e1
      subst e1c
      obtain ⟨_, _, e2, _, _, b4, b5, b6⟩ := (HT.out.2.below HR.out.1).node c qc hqc
      injection e2 with e2 _ e2c
      injection e2 with e2
      injection e2 with e2
      subst e2
      subst e2c
      have i1 := (List.getElem?_eq_some_iff.1 hpc).1
      have i2 := (List.getElem?_eq_some_iff.1 hqc).1
      have HCA : Hid (∀ W, Below w.heap.size w W → Calls Tryz.prog 10 #[.agg #[.slice (some ⟨nb1, 0, none⟩) ps.length cp1, uv1], .int .i64 c, .agg #[.slice (some ⟨nb2, 0, none⟩) qs.length cp2, uv2], .int .i64 c] W fun e w' => e = .returned (.bool true) ∧ Below W.heap.size W w') := by
        intro W hW
        have hle := hcv.le
        exact HIH.out c pc (c + 1) m W (HT.out.1.below hW) (HT.out.2.below hW) hpc hcv (by omega)
      have hal := (HFF.out c pc hpc).2
      have q0 := a4 0 _ rfl (by omega)
      have q1 := a4 1 _ rfl (by omega)
      have q2 := a4 2 _ rfl (by omega)
      have q3 := a4 3 _ rfl (by omega)
      have q4 := a4 4 _ rfl (by omega)
      have q5 := a4 5 _ rfl (by omega)
      have r0 := b4 0 _ rfl (by omega)
      have r1 := b4 1 _ rfl (by omega)
      have r2 := b4 2 _ rfl (by omega)
      have r3 := b4 3 _ rfl (by omega)
      have r4 := b4 4 _ rfl (by omega)
      have r5 := b4 5 _ rfl (by omega)
      obtain ⟨aa, ac, ha1, ha2⟩ := a5
      obtain ⟨ba, bc, hb1, hb2⟩ := b5
      obtain ⟨ua, uc, hu1, _⟩ := a6
      obtain ⟨va, vc, hv1, _⟩ := b6
      have gl1 := World.block_lt_of_cell? wo _ z1'
      have gl2 := World.block_lt_of_cell? wo _ z2'
      have nl1 := World.block_lt_of_cell? wo _ q0
      have nl2 := World.block_lt_of_cell? wo _ r0
      simp only at gl1 gl2 nl1 nl2
      have HAT : Hid (_ ∧ _) := ⟨ha2, hb2⟩
      obtain ⟨pn, pav, pkv⟩ := pc
      obtain ⟨qn, qav, qkv⟩ := qc
      dsimp only at hpqc
      subst hpqc
      dsimp only at ha1 hb1 hu1 hv1 q0 q1 q2 q3 q4 q5 r0 r1 r2 r3 r4 r5 hal HAT
      subst ha1
      subst hb1
      subst hu1
      subst hv1
      rw [Nat.add_zero] at q0 r0
      clear a4 b4 ha2 hb2 z1 z2 hpc hqc hn hcv hy HK
      go_wp2_with fail
      go_region
      all_goals go_wp2_with fail
      go_region
      obtain ⟨W9, hW9⟩ : ∃ W9, W9 = ((wo.alloc (.cells #[.int .i64 pn.kind, .string pn.tag, .string pn.words, .slice aa pn.attrs.length ac, .int .i64 pn.parent, .slice ua pn.kids.length uc] 50)).alloc (.cells #[.int .i64 pn.kind, .string pn.tag, .string pn.words, .slice ba pn.attrs.length bc, .int .i64 pn.parent, .slice va pn.kids.length vc] 50)).drew.drew := ⟨_, rfl⟩
      have HB9 : Hid (Below wo.heap.size wo W9) := by
        show Below _ _ _
        rw [hW9]
        exact ((((Below.refl _ _).alloc (Nat.le_refl _) _).alloc (by simp) _).drew).drew
      have hn1 : W9.heap[wo.heap.size]? = some (.cells #[.int .i64 pn.kind, .string pn.tag, .string pn.words, .slice aa pn.attrs.length ac, .int .i64 pn.parent, .slice ua pn.kids.length uc] 50 (0, 0)) := by
        rw [hW9]
        show (World.alloc _ _).heap[wo.heap.size]? = _
        rw [Below.heap_alloc _ _ _ (by simp)]
        exact heap_alloc_new wo _
      have hn2 : W9.heap[wo.heap.size + 1]? = some (.cells #[.int .i64 pn.kind, .string pn.tag, .string pn.words, .slice ba pn.attrs.length bc, .int .i64 pn.parent, .slice va pn.kids.length vc] 50 (0, 0)) := by
        rw [hW9]
        have := heap_alloc_new (wo.alloc (.cells #[.int .i64 pn.kind, .string pn.tag, .string pn.words, .slice aa pn.attrs.length ac, .int .i64 pn.parent, .slice ua pn.kids.length uc] 50)) (.cells #[.int .i64 pn.kind, .string pn.tag, .string pn.words, .slice ba pn.attrs.length bc, .int .i64 pn.parent, .slice va pn.kids.length vc] 50)
        rw [World.size_alloc] at this
        exact this
      rw [← hW9]
      have HN := hid (And.intro hn1 hn2)
      have ml1 := lt_of_heap hn1
      have ml2 := lt_of_heap hn2
      have hr1 := (HB9.out.block _ (lt_of_heap HR.out.2.1)).trans HR.out.2.1
      have hr2 := (HB9.out.block _ (lt_of_heap HR.out.2.2)).trans HR.out.2.2
      have HX := hid (And.intro hr1 hr2)
      have HW9 := hid (HR.out.1.trans (HB9.out.mono HR.out.1.size))
      obtain ⟨v0, v1, v2, v3⟩ : W9.cell? ⟨wo.heap.size, 0, none⟩ = some (.int .i64 pn.kind) ∧ W9.cell? ⟨wo.heap.size, 1, none⟩ = some (.string pn.tag) ∧ W9.cell? ⟨wo.heap.size, 2, none⟩ = some (.string pn.words) ∧ W9.cell? ⟨wo.heap.size, 3, none⟩ = some (.slice aa pn.attrs.length ac) := by
        refine ⟨?_, ?_, ?_, ?_⟩ <;> (rw [cell_of_row _ _ _ _ _ _ hn1]; rfl)
      obtain ⟨t0, t1, t2, t3⟩ : W9.cell? ⟨wo.heap.size + 1, 0, none⟩ = some (.int .i64 pn.kind) ∧ W9.cell? ⟨wo.heap.size + 1, 1, none⟩ = some (.string pn.tag) ∧ W9.cell? ⟨wo.heap.size + 1, 2, none⟩ = some (.string pn.words) ∧ W9.cell? ⟨wo.heap.size + 1, 3, none⟩ = some (.slice ba pn.attrs.length bc) := by
        refine ⟨?_, ?_, ?_, ?_⟩ <;> (rw [cell_of_row _ _ _ _ _ _ hn2]; rfl)
      have HAT9 : Hid ((∀ (k : Nat) (x : ByteArray × ByteArray), pn.attrs[k]? = some x → ∃ g, aa = some ⟨g, 0, none⟩ ∧ W9.cell? ⟨g, k * 2, none⟩ = some (.string x.1) ∧ W9.cell? ⟨g, k * 2 + 1, none⟩ = some (.string x.2)) ∧ (∀ (k : Nat) (x : ByteArray × ByteArray), pn.attrs[k]? = some x → ∃ g, ba = some ⟨g, 0, none⟩ ∧ W9.cell? ⟨g, k * 2, none⟩ = some (.string x.1) ∧ W9.cell? ⟨g, k * 2 + 1, none⟩ = some (.string x.2))) := by
        refine ⟨fun k x hx => ?_, fun k x hx => ?_⟩
        · obtain ⟨g, e, c1, c2⟩ := HAT.out.1 k x hx
          exact ⟨g, e, (HB9.out.cell (p := ⟨g, k * 2, none⟩) (World.block_lt_of_cell? wo _ c1)).trans c1, (HB9.out.cell (p := ⟨g, k * 2 + 1, none⟩) (World.block_lt_of_cell? wo _ c2)).trans c2⟩
        · obtain ⟨g, e, c1, c2⟩ := HAT.out.2 k x hx
          exact ⟨g, e, (HB9.out.cell (p := ⟨g, k * 2, none⟩) (World.block_lt_of_cell? wo _ c1)).trans c1, (HB9.out.cell (p := ⟨g, k * 2 + 1, none⟩) (World.block_lt_of_cell? wo _ c2)).trans c2⟩
      have z1 := (HB9.out.cell (p := ⟨ga, k, none⟩) gl1).trans z1'
      have z2 := (HB9.out.cell (p := ⟨gb, k, none⟩) gl2).trans z2'
      have HZ := hid (And.intro z1 z2)
      have gz1 := Nat.lt_of_lt_of_le gl1 HB9.out.size
      have gz2 := Nat.lt_of_lt_of_le gl2 HB9.out.size
      clear hW9 hn1 hn2 hr1 hr2 HAT q0 q1 q2 q3 q4 q5 r0 r1 r2 r3 r4 r5 z1 z2 z1' z2' x0 x1 y0 y1 HR gl1 gl2
      go_wp2_with fail
      go_loopw [14] (fun jv wx => ∃ d : Nat, d ≤ pn.attrs.length ∧ jv = .int .i64 d ∧ Hid (Below W9.heap.size W9 wx)) (fun jv _ => pn.attrs.length - (intOf jv).toNat)
      case atStart => exact ⟨0, by omega, rfl, Below.refl _ _⟩
      case round =>
        obtain ⟨d, hd, rfl, HD⟩ := hrel
        have v3' := (HD.out.cell (p := ⟨wo.heap.size, 3, none⟩) ml1).trans v3
        have t3' := (HD.out.cell (p := ⟨wo.heap.size + 1, 3, none⟩) ml2).trans t3
        have mm1 := Nat.lt_of_lt_of_le ml1 HD.out.size
        have mm2 := Nat.lt_of_lt_of_le ml2 HD.out.size
        clear v0 v1 v2 t0 t1 t2
        by_cases hdl : d < pn.attrs.length
        · obtain ⟨⟨xn, xv⟩, hx⟩ : ∃ x, pn.attrs[d]? = some x := ⟨_, List.getElem?_eq_getElem hdl⟩
          obtain ⟨g1', rfl, m1, m2⟩ := HAT9.out.1 d _ hx
          obtain ⟨g2', rfl, m3, m4⟩ := HAT9.out.2 d _ hx
          have m1' := (HD.out.cell (p := ⟨g1', d * 2, none⟩) (World.block_lt_of_cell? _ _ m1)).trans m1
          have m2' := (HD.out.cell (p := ⟨g1', d * 2 + 1, none⟩) (World.block_lt_of_cell? _ _ m2)).trans m2
          have m3' := (HD.out.cell (p := ⟨g2', d * 2, none⟩) (World.block_lt_of_cell? _ _ m3)).trans m3
          have m4' := (HD.out.cell (p := ⟨g2', d * 2 + 1, none⟩) (World.block_lt_of_cell? _ _ m4)).trans m4
          dsimp only at m1' m2' m3' m4'
          clear m1 m2 m3 m4 hx v3 t3
          go_wp2_with fail
          go_quiet (fail)
          go_wp2_with fail
          go_roundw
          case rel => exact ⟨d + 1, by omega, by go_num, below_drewN HD.out _⟩
          case measure => simp [intOf]; omega
        · obtain ⟨W8, hW8⟩ : ∃ W8, W8 = wr := ⟨_, rfl⟩
          subst hW8
          have HD2 := hid (HW9.out.trans (HD.out.mono HW9.out.size))
          have f1 := (HD.out.cell (p := ⟨ga, k, none⟩) gz1).trans HZ.out.1
          have f2 := (HD.out.cell (p := ⟨gb, k, none⟩) gz2).trans HZ.out.2
          have b1 := (HD.out.block _ (lt_of_heap HX.out.1)).trans HX.out.1
          have b2' := (HD.out.block _ (lt_of_heap HX.out.2)).trans HX.out.2
          have HY := hid (And.intro b1 b2')
          obtain ⟨x0, x1⟩ : W8.cell? ⟨w.heap.size, 0, none⟩ = some (.slice (some ⟨nb1, 0, none⟩) ps.length cp1) ∧ W8.cell? ⟨w.heap.size, 1, none⟩ = some uv1 := ⟨by rw [cell_of_row _ _ _ _ _ _ b1]; rfl, by rw [cell_of_row _ _ _ _ _ _ b1]; rfl⟩
          obtain ⟨y0, y1⟩ : W8.cell? ⟨w.heap.size + 1, 0, none⟩ = some (.slice (some ⟨nb2, 0, none⟩) qs.length cp2) ∧ W8.cell? ⟨w.heap.size + 1, 1, none⟩ = some uv2 := ⟨by rw [cell_of_row _ _ _ _ _ _ b2']; rfl, by rw [cell_of_row _ _ _ _ _ _ b2']; rfl⟩
          clear b1 b2' HAT9 v3 t3
          go_wp2_with fail
          have hg1 := World.block_lt_of_cell? _ _ f1
          have hg2 := World.block_lt_of_cell? _ _ f2
          have hg3 := World.block_lt_of_cell? _ _ x0
          have hg4 := World.block_lt_of_cell? _ _ y0
          go_region_held3 (fun wx => wx.cell? ⟨w.heap.size, 0, none⟩ = some (.slice (some ⟨nb1, 0, none⟩) ps.length cp1) ∧ wx.cell? ⟨w.heap.size, 1, none⟩ = some uv1 ∧ wx.cell? ⟨w.heap.size + 1, 0, none⟩ = some (.slice (some ⟨nb2, 0, none⟩) qs.length cp2) ∧ wx.cell? ⟨w.heap.size + 1, 1, none⟩ = some uv2 ∧ wx.cell? ⟨ga, k, none⟩ = some (.int .i64 c) ∧ wx.cell? ⟨gb, k, none⟩ = some (.int .i64 c)) (go_keep)
            (first
              | (go_at_call 10; with_reducible refine (HCA.out _ HD2.out.drew).mono ?_; rintro e w7 ⟨rfl, hb7⟩
                 have hb8 : Below W8.heap.size W8 w7 := (Below.refl _ W8).drew.trans hb7
                 have H7 := hid (And.intro (HD2.out.trans (hb8.mono HD2.out.size)) (And.intro ((hb8.block _ (lt_of_heap HY.out.1)).trans HY.out.1) ((hb8.block _ (lt_of_heap HY.out.2)).trans HY.out.2)))
                 have s1 := (hb8.cell (p := ⟨w.heap.size, 0, none⟩) hg3).trans x0
                 have s2 := (hb8.cell (p := ⟨w.heap.size, 1, none⟩) hg3).trans x1
                 have s3 := (hb8.cell (p := ⟨w.heap.size + 1, 0, none⟩) hg4).trans y0
                 have s4 := (hb8.cell (p := ⟨w.heap.size + 1, 1, none⟩) hg4).trans y1
                 have s5 := (hb8.cell (p := ⟨ga, k, none⟩) hg1).trans f1
                 have s6 := (hb8.cell (p := ⟨gb, k, none⟩) hg2).trans f2
                 clear hb7 hb8))
          clear x0 x1 y0 y1 f1 f2 hg1 hg2 hg3 hg4 s1 s2 s3 s4 s5 s6 HZ HD HD2 HY HX HN
          go_wp2_with fail
          go_roundw
          case rel => exact ⟨k + 1, by omega, by go_num, H7⟩
          case measure => simp [intOf]; omega
    · go_wp2_with fail
      go_returns
      exact ⟨rfl, HR.out.1⟩

theorem ralike_any {w : World} {nv1 uv1 nv2 uv2 : Value} {ps qs : List Pn} (he : nodesOf ps = nodesOf qs) (hF : ∀ (j : Nat) (q : Pn), ps[j]? = some q → q.n.kids.length ≤ 100000 ∧ q.n.attrs.length ≤ 100000)
    (h1 : TrV w nv1 ps) (h2 : TrV w nv2 qs) {j : Nat} {p : Pn} {a e : Nat} (hp : ps[j]? = some p) (hcov : Cover (nodesOf ps) p.n.kids a e) :
    Calls Tryz.prog 10 #[.agg #[nv1, uv1], .int .i64 j, .agg #[nv2, uv2], .int .i64 j] w fun e w' => e = .returned (.bool true) ∧ Below w.heap.size w w' := by
  have all : ∀ f, RAlikeC nv1 uv1 nv2 uv2 ps qs f := by
    intro f
    induction f with
    | zero => intro j p a e w _ _ _ _ hf; omega
    | succ f ih => exact ralike_step he hF ih
  exact all (e - a + 1) j p a e w h1 h2 hp hcov (by omega)
end Go.Proofs.YtkaeenafejdkfaaGreatDoor
