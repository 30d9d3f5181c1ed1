/- The document's answer: what Copy makes of any tree. -/
import Derived.Test.YtoanbjdifddcoaaGreatDoorM42
import Derived.Test.YtoanbjdifddcoaaGreatDoorM37
import Derived.Test.YtoanbjdifddcoaaGreatDoorRPutK
import Derived.Test.YtoanbjdifddcoaaGreatDoorM10
namespace Go.Proofs.YtoanbjdifddcoaaGreatDoor
open Go.RowKit

/-- so many are copied -/
def RCAt (w : World) (N : Nat → Lab) (tb : Nat) (uv : Value) (us : List Value) (ns : List Nd) (all : List Int) (k : Nat) (wr : World) : Prop :=
  ∃ N' nv' ps', RLies wr N' tb nv' uv ps' us ∧ Moved w N wr N' ∧ DblN ns all k (nodesOf ps')

/-- a list of the call's own becomes a node's -/
def relabR (M : Nat → Lab) (v : Value) (l : Lab) : Nat → Lab := fun b => if v.ownBlock = some b then l else M b
theorem relabR_ne {M : Nat → Lab} {v : Value} {l : Lab} {b : Nat} (h : v.ownBlock ≠ some b) : relabR M v l b = M b := if_neg h
theorem Row.relabR {w : World} {M : Nat → Lab} {l0 l : Lab} {e : TypeId} {size n : Nat} {v u : Value} {xs : List Value} (h : Row w M l0 e size u n xs) (hne : l0 ≠ .other) (hl : ∀ k, v.ownBlock = some k → M k = .other) : Row w (relabR M v l) l0 e size u n xs := by
  obtain ⟨h0, a, cap, h1, h2, h3, h4⟩ := h
  refine ⟨h0, a, cap, h1, h2, h3, ?_⟩
  rcases h4 with h4 | ⟨g, cur, k1, k2, k3, k4, k5⟩
  · exact .inl h4
  · refine .inr ⟨g, cur, k1, ?_, k3, k4, k5⟩
    rw [relabR_ne (fun e => hne (k2.symm.trans (hl g e)))]
    exact k2
theorem RLies.relabR {w : World} {M : Nat → Lab} {tb : Nat} {nv uv : Value} {ps : List Pn} {us : List Value} (h : RLies w M tb nv uv ps us) {v : Value} {l : Lab} (hl : ∀ k, v.ownBlock = some k → k < w.heap.size ∧ M k = .other) : RLies w (relabR M v l) tb nv uv ps us where
  fresh b hb := by
    rw [relabR_ne (fun e => by have := (hl b e).1; omega)]
    exact h.fresh b hb
  tree := by
    rw [relabR_ne (fun e => by have := (hl tb e).2; rw [h.tree] at this; cases this)]
    exact h.tree
  head := h.head
  nodes := h.nodes.relabR (by intro e; cases e) (fun k hk => (hl k hk).2)
  undos := h.undos.relabR (by intro e; cases e) (fun k hk => (hl k hk).2)
  node i p hp := ⟨(h.node i p hp).1.relabR (by intro e; cases e) (fun k hk => (hl k hk).2), (h.node i p hp).2.relabR (by intro e; cases e) (fun k hk => (hl k hk).2)⟩
theorem Moved.relabR {w w' : World} {M M' : Nat → Lab} (m : Moved w M w' M') {v : Value} {l : Lab} (hl : ∀ k, v.ownBlock = some k → w.heap.size ≤ k) : Moved w M w' (relabR M' v l) :=
  ⟨m.os, m.tape, m.output, m.size, fun b hb => by rw [relabR_ne (fun e => by have := hl b e; omega)]; exact m.lab b hb, m.far⟩

theorem alloc_two (w : World) (o1 o2 : Obj) : ((w.alloc o1).alloc o2).heap[w.heap.size + 1]? = some o2 := by
  have e : (w.alloc o1).heap.size = w.heap.size + 1 := by simp
  rw [← e]
  exact heap_alloc_new _ _

/-- what the inner loop has found -/
def ResR (s1 : List Nd) (all : List Int) (n k : Nat) (par0 : Int) (q : Nat) (par : Int) (s : List Nd) : Prop :=
  (par = -1 ∧ s = s1 ∧ ∀ j, j < q → all[j]? ≠ some par0) ∨ ∃ j m, j < q ∧ all[j]? = some par0 ∧ s1[n + j]? = some m ∧ par = ((n + j : Nat) : Int) ∧ s = s1.set (n + j) { m with kids := m.kids ++ [((n + k : Nat) : Int)] }
/-- the inner loop -/
def InnR (w0 wr : World) (N0 : Nat → Lab) (tb : Nat) (uv : Value) (us : List Value) (s1 : List Nd) (all : List Int) (n k : Nat) (nd : Nd) (nC : Array Value) (v1 : Value) (q : Nat) (wx : World) : Prop :=
  ∃ par N nv ps, RLies wx N tb nv uv ps us ∧ Moved w0 N0 wx N ∧ wx.heap[wr.heap.size]? = some (.cells nC 46 (0, 0)) ∧ wx.heap[wr.heap.size + 1]? = some (.cells #[.int .i64 nd.kind, .string nd.tag, .string nd.words, v1, .int .i64 par, .slice none 0 0] 46 (0, 0)) ∧
    wx.ownsRow (wr.heap.size + 2) 79 2 v1 nd.attrs.length (attrCells nd.attrs) ∧ N wr.heap.size = .other ∧ N (wr.heap.size + 1) = .other ∧ (∀ g, v1.ownBlock = some g → N g = .other) ∧ ResR s1 all n k nd.parent q par (nodesOf ps)

theorem InnR.drewN {w0 wr : World} {N0 : Nat → Lab} {tb : Nat} {uv : Value} {us : List Value} {s1 : List Nd} {all : List Int} {n k : Nat} {nd : Nd} {nC : Array Value} {v1 : Value} {q : Nat} {wx : World} (h : InnR w0 wr N0 tb uv us s1 all n k nd nC v1 q wx) (m : Nat) : InnR w0 wr N0 tb uv us s1 all n k nd nC v1 q (wx.drewN m) := by
  obtain ⟨par, N, nv, ps, h1, h2, h3, h4, h5, h6, h7, h8, h9⟩ := h
  exact ⟨par, N, nv, ps, h1.drewN m, h2.below (below_drewN (Below.refl _ _) m), h3, h4, own_same h5 (fun _ _ => rfl), h6, h7, h8, h9⟩
theorem InnR.hit {w0 wr W7 wf : World} {N0 N2 N8 : Nat → Lab} {tb : Nat} {uv nv8 : Value} {us : List Value} {s1 : List Nd} {all : List Int} {n k : Nat} {nd : Nd} {nC : Array Value} {v1 : Value} {q : Nat} {ps8 : List Pn} {par : Int} (m7 : Moved w0 N0 W7 N2) (hn7 : W7.heap[wr.heap.size]? = some (.cells nC 46 (0, 0))) (hc7 : W7.heap[wr.heap.size + 1]? = some (.cells #[.int .i64 nd.kind, .string nd.tag, .string nd.words, v1, .int .i64 par, .slice none 0 0] 46 (0, 0)))
    (o7 : W7.ownsRow (wr.heap.size + 2) 79 2 v1 nd.attrs.length (attrCells nd.attrs)) (ln : N2 wr.heap.size = .other) (lc : N2 (wr.heap.size + 1) = .other) (lv : ∀ g, v1.ownBlock = some g → N2 g = .other) (L8 : RLies wf N8 tb nv8 uv ps8 us) (mv : Moved W7 N2 wf N8) (hR : ResR s1 all n k nd.parent (q + 1) par (nodesOf ps8)) : InnR w0 wr N0 tb uv us s1 all n k nd nC v1 (q + 1) wf :=
  ⟨par, N8, nv8, ps8, L8, m7.trans mv, (mv.far _ (lt_of_heap hn7) ln).trans hn7, (mv.far _ (lt_of_heap hc7) lc).trans hc7, own_same o7 (fun g hg => mv.far g (o7.lt g hg).2 (lv g hg)), (mv.lab _ (lt_of_heap hn7)).trans ln, (mv.lab _ (lt_of_heap hc7)).trans lc, fun g hg => (mv.lab g (o7.lt g hg).2).trans (lv g hg), hR⟩

theorem ResR.skip {s1 : List Nd} {all : List Int} {n k : Nat} {par0 : Int} {q : Nat} {par : Int} {s : List Nd} (h : ResR s1 all n k par0 q par s) (hq : all[q]? ≠ some par0) : ResR s1 all n k par0 (q + 1) par s := by
  rcases h with ⟨h1, h2, h3⟩ | ⟨j, m, h1, h2⟩
  · refine .inl ⟨h1, h2, fun j hj => ?_⟩
    by_cases e : j = q
    · subst e; exact hq
    · exact h3 j (by omega)
  · exact .inr ⟨j, m, by omega, h2⟩
theorem ResR.left {s1 : List Nd} {all : List Int} (hnd : all.Nodup) {n k : Nat} {par0 : Int} {q : Nat} {par : Int} {s : List Nd} (h : ResR s1 all n k par0 q par s) (hq : all[q]? = some par0) : s = s1 := by
  rcases h with ⟨h1, h2, h3⟩ | ⟨j, m, h1, h2, _⟩
  · exact h2
  · have := nodup_at hnd h2 hq; omega

theorem rows_snoc {w : World} {M : Nat → Lab} {tb : Nat} {nv uv : Value} {ps : List Pn} {us : List Value} (h : RLies w M tb nv uv ps us) {q : Pn} (ha : Row w M (.attrs ps.length) 79 2 q.av q.n.attrs.length (attrCells q.n.attrs)) {kind : Int} {tag words : ByteArray} {at_ : List (ByteArray × ByteArray)} {par : Int} {av : Value} (he : q = ⟨⟨kind, tag, words, at_, par, []⟩, av, .slice none 0 0⟩) : ∀ i p, (ps ++ [q])[i]? = some p → Row w M (.attrs i) 79 2 p.av p.n.attrs.length (attrCells p.n.attrs) ∧ Row w M (.kids i) 3 1 p.kv p.n.kids.length (p.n.kids.map intV) := by
  intro i p hp
  by_cases hi : i < ps.length
  · rw [List.getElem?_append_left hi] at hp
    exact h.node i p hp
  · rw [List.getElem?_append_right (by omega)] at hp
    have : i - ps.length = 0 := by
      rcases Nat.eq_zero_or_pos (i - ps.length) with e | e
      · exact e
      · rw [List.getElem?_eq_none (by simp; omega)] at hp; cases hp
    rw [this] at hp
    cases hp
    obtain rfl : i = ps.length := by omega
    refine ⟨ha, ?_⟩
    subst he
    exact Row.nil _ _ _ _ _

/-- one more is copied -/
theorem dbl_of_res {ns s1 s : List Nd} {all : List Int} {k c : Nat} {nd : Nd} {par : Int} (h : DblN ns all k s1) (hc : all[k]? = some (c : Int)) (hn : ns[c]? = some nd) (hpre : 0 < k → nd.parent ∈ all.take k) (hr : ResR s1 all ns.length k nd.parent k par s) : DblN ns all (k + 1) (s ++ [{ bareN nd with parent := par }]) := by
  rcases hr with ⟨h1, h2, h3⟩ | ⟨j, m, h1, h2, h3, h4, h5⟩
  · rcases Nat.eq_zero_or_pos k with e | e
    · subst h2
      rw [h1]
      show DblN ns all (k + 1) (s ++ [bareN nd])
      exact h.succ (.first e hc hn)
    · obtain ⟨j, hj, hx⟩ := List.mem_take_iff_getElem.1 (hpre e)
      exact absurd (by rw [List.getElem?_eq_getElem (by omega), hx]) (h3 j (by omega))
  · subst h5
    rw [h4]
    exact h.succ (.next (by omega) hc hn h2 h1 h3)

set_option maxHeartbeats 8000000 in
set_option maxRecDepth 100000 in
theorem rcopy_good {w : World} {M : Nat → Lab} {tb : Nat} {nv uv : Value} {ps : List Pn} {us : List Value} (h : RLies w M tb nv uv ps us) (hs : Small ps) (hu : us.length ≤ 1000000000) (hW : WF (nodesOf ps)) {K : Nat} (hF : Few (nodesOf ps) K) (hK : K ≤ 1000000) {i : Nat} (hi0 : i ≠ 0) (hil : i < ps.length) (hf : ps.length + (und (nodesOf ps) (ps.length + 1) i).length ≤ 400) {ns' : List Nd} (hN : DblN (nodesOf ps) (und (nodesOf ps) (ps.length + 1) i) (und (nodesOf ps) (ps.length + 1) i).length ns') :
    Calls Tryz.prog 36 #[.pointer (some ⟨tb, 0, none⟩), .int .i64 i] w fun e w' => e = .returned (.tuple #[.int .i64 ps.length, .int .i64 0]) ∧ RDone w M tb us (nodesOf ps) ns' w' := by
  obtain ⟨f0, hi, hz0, hz1, hz2⟩ := info_parts Tryz.infoRnode
  obtain ⟨f1, hi1, hz10, hz11, hz12⟩ := info_parts Tryz.infoAttr
  obtain ⟨f2, hi2, hz20, hz21, hz22⟩ := info_parts Tryz.infoInt
  have hb : hasB ps.length i = true := hasB_lt hil
  have hlen : (nodesOf ps).length = ps.length := by simp [nodesOf]
  have hps : ps.length ≤ 400 := by omega
  have HU : Hid (∀ w', Below w.heap.size w w' → Calls Tryz.prog 19 #[.pointer (some ⟨tb, 0, none⟩), .int .i64 i] w' (UndPost w' (und (nodesOf ps) (ps.length + 1) i))) := fun w' hB => runder_any h hW (ps.length + 1) i hil (by have := rkU_le (nodesOf ps) i; simp [nodesOf] at this; simp [nodesOf]; omega) w' i rfl hB (by omega)
  have HND : Hid ((und (nodesOf ps) (ps.length + 1) i).Nodup) := und_nodup hW _ i (by omega)
  have HIn : Hid (∀ x ∈ und (nodesOf ps) (ps.length + 1) i, ∃ c : Nat, x = c ∧ c < ps.length) := by
    intro x hx
    obtain ⟨b, e1, e2, _⟩ := und_anc hW _ i (by omega) x hx
    exact ⟨b, e1, by omega⟩
  have HPre : Hid (∀ (k : Nat) (x : Int), (und (nodesOf ps) (ps.length + 1) i)[k]? = some x → 0 < k → ∃ (c : Nat) (n : Nd), x = c ∧ (nodesOf ps)[c]? = some n ∧ n.parent ∈ (und (nodesOf ps) (ps.length + 1) i).take k) := by
    intro k x hx hk
    exact und_pre hW _ i (by omega) k x hx hk
  have HNN : Hid (DblN (nodesOf ps) (und (nodesOf ps) (ps.length + 1) i) (und (nodesOf ps) (ps.length + 1) i).length ns') := hN
  have HFW : Hid (Few (nodesOf ps) K ∧ ∀ (j : Nat) (n : Nd), (nodesOf ps)[j]? = some n → n.kids.length ≤ 400) := ⟨hF, fun j n hn => hW.few hn⟩
  clear hN hF hW
  generalize und (nodesOf ps) (ps.length + 1) i = all at *
  obtain ⟨na, nc, rfl, hnc, hm⟩ := h.nodes.shape
  have c0 := h.cell0
  have hlt : tb < w.heap.size := lt_of_heap h.head
  have H : Hid (RLies w M tb (.slice na ps.length nc) uv ps us) := h
  have HS : Hid (Small ps) := hs
  have b0 : ((i : Int) == 0) = false := by rw [beq_eq_false_iff_ne]; omega
  have b0' : ¬ ((i : Int) = 0) := by omega
  unfold maxLen at hm
  clear h hs
  go_enter Tryz.func36, Tryz.ntmps36
  go_wp2_with (first
    | (go_at_call 43; refine (rhas_any H.out _).mono ?_; rintro e w' ⟨rfl, hw'⟩; subst hw'; rw [hb])
    | (go_at_call 19; refine (HU.out _ (Below.refl _ _)).mono ?_; rintro e w2 ⟨v2, rfl, ho2, hB2⟩
       obtain ⟨a2, e2, hv2⟩ := own_shape ho2
       subst hv2
       have d0 := (hB2.cell (p := ⟨tb, 0, none⟩) hlt).trans c0
       have H2 : Hid (w2.ownsRow w'.heap.size 3 1 (.slice a2 all.length e2) all.length (all.map intV) ∧ Below w'.heap.size w' w2) := ⟨ho2, hB2⟩
       clear ho2 hB2 HU)
    | (go_at_call 52; refine (rkeepE_any (H.out.below H2.out.2) HS.out (by omega) hu).mono ?_; rintro e w3 ⟨rfl, M3, uv3, v3, l3, m3, kk⟩
       have ho3 : w3.ownsRow w'.heap.size 3 1 (.slice a2 all.length e2) all.length (all.map intV) := own_moved' H2.out.1 m3 (fun k hk => H.out.fresh k (H2.out.1.lt k hk).1)
       have hM3 : ∀ k, (Value.slice a2 all.length e2).ownBlock = some k → M3 k = .other := fun k hk => (m3.lab k (H2.out.1.lt k hk).2).trans (H.out.fresh k (H2.out.1.lt k hk).1)
       have hw2 : w'.heap.size ≤ w2.heap.size := H2.out.2.size
       have kk' : CopyOf w' w3 M3 v3 (nodesOf ps) := (by
         obtain ⟨L, x1, x2⟩ := kk
         exact ⟨L, x1, fun b hb => ⟨Nat.le_trans hw2 (x2 b hb).1, (x2 b hb).2⟩⟩)
       have q0 := l3.cell0
       have H3 : Hid (RLies w3 M3 tb (.slice na ps.length nc) uv3 ps (us ++ [v3]) ∧ Moved w' M w3 M3 ∧ CopyOf w' w3 M3 v3 (nodesOf ps) ∧ w3.ownsRow w'.heap.size 3 1 (.slice a2 all.length e2) all.length (all.map intV) ∧ (∀ k, (Value.slice a2 all.length e2).ownBlock = some k → M3 k = .other)) := ⟨l3, ((Moved.refl w' M).below H2.out.2).trans m3, kk', ho3, hM3⟩
       clear l3 m3 kk kk' ho3 hM3))
  have HCell : Hid (∀ (j : Nat) (y : Int), all[j]? = some y → ∃ g, a2 = some ⟨g, 0, none⟩ ∧ M3 g = .other ∧ w3.cell? ⟨g, j, none⟩ = some (.int .i64 y)) := by
    intro j y hy
    obtain ⟨_, aa, ac, e0, _, _, hcell⟩ := own_cell H3.out.2.2.2.1
    cases e0
    obtain ⟨g, e1, e2, _⟩ := hcell j y hy
    exact ⟨g, e1, H3.out.2.2.2.2 g (by rw [e1]; rfl), e2⟩
  have HS0 : Hid (RCAt w3 M3 tb uv3 (us ++ [v3]) (nodesOf ps) all 0 w3) := ⟨M3, _, ps, H3.out.1, Moved.refl _ _, .zero⟩
  have hal : all.length ≤ 400 := by omega
  clear q0 d0 c0
  go_loopw [9] (fun iv wr => ∃ k : Nat, k ≤ all.length ∧ iv = .int .i64 k ∧ Hid (RCAt w3 M3 tb uv3 (us ++ [v3]) (nodesOf ps) all k wr)) (fun iv _ => all.length - (intOf iv).toNat)
  case atStart => exact ⟨0, by omega, rfl, HS0⟩
  case round =>
    obtain ⟨k, hk, rfl, hR⟩ := hrel
    obtain ⟨w4, hw4⟩ : ∃ x, x = wr := ⟨_, rfl⟩
    subst hw4
    by_cases hkl : k < all.length
    · obtain ⟨y, hy⟩ : ∃ y, all[k]? = some y := ⟨_, List.getElem?_eq_getElem hkl⟩
      obtain ⟨g, rfl, hgM, cy⟩ := HCell.out k y hy
      obtain ⟨c, rfl, hcl⟩ := HIn.out y (List.mem_of_getElem? hy)
      obtain ⟨N1, nv1, ps1, L1, m1, D1⟩ := hR.out
      have cy' := moved_cell m1 hgM cy
      have hgl := World.block_lt_of_cell? w4 _ cy'
      have htl : tb < w4.heap.size := lt_of_heap L1.head
      have hlen1 : ps1.length = ps.length + k := by have := D1.len; rw [hlen] at this; simpa [nodesOf] using this
      obtain ⟨p, hp⟩ : ∃ p, ps1[c]? = some p := ⟨_, List.getElem?_eq_getElem (by omega)⟩
      have hpn : (nodesOf ps)[c]? = some p.n := by rw [← D1.old c (by omega)]; exact nodes_get hp
      obtain ⟨nb, cap, rfl, hcp, hmx, _, hnl, _⟩ := L1.form hp
      have x0 := L1.cell0
      obtain ⟨xa, xc, hav, hx1, hx2⟩ := (L1.node c p hp).1.shape
      obtain ⟨ya, yc, hkv, hy1, hy2⟩ := (L1.node c p hp).2.shape
      have k0 := (L1.cellN rfl (f := 0) hp (by omega) rfl).1
      rw [Nat.add_zero] at k0
      have k1 := (L1.cellN rfl (f := 1) hp (by omega) rfl).1
      have k2 := (L1.cellN rfl (f := 2) hp (by omega) rfl).1
      have k3 := (L1.cellN rfl (f := 3) hp (by omega) rfl).1
      rw [hav] at k3
      have k4 := (L1.cellN rfl (f := 4) hp (by omega) rfl).1
      have k5 := (L1.cellN rfl (f := 5) hp (by omega) rfl).1
      rw [hkv] at k5
      have HSA : Hid (SrcOf w4 2 (.slice xa p.n.attrs.length xc) p.n.attrs.length (attrCells p.n.attrs)) := hav ▸ (L1.node c p hp).1.src (one_attr _)
      have hpa : p.n.attrs.length ≤ 1000000 := by have := HFW.out.1 c _ hpn; omega
      have HKid : Hid (∀ (j : Nat) (n : Nd), (nodesOf ps1)[j]? = some n → n.kids.length ≤ 800) := fun j n hn => by have := D1.kids HFW.out.2 j n hn; omega
      have HL1 : Hid (RLies w4 N1 tb (.slice (some ⟨nb, 0, none⟩) ps1.length cap) uv3 ps1 (us ++ [v3]) ∧ Moved w3 M3 w4 N1 ∧ DblN (nodesOf ps) all k (nodesOf ps1)) := ⟨L1, m1, D1⟩
      have HY : Hid (all[k]? = some (c : Int) ∧ (nodesOf ps)[c]? = some p.n) := ⟨hy, hpn⟩
      have i1 : (0 : Int) ≤ (c : Int) := by omega
      have i2 : (c : Int) < (ps1.length : Int) := by omega
      have hsz3 := m1.size
      have HLen1 : Hid (ps1.length = ps.length + k) := hlen1
      unfold maxLen at hmx hx2 hy2
      clear hy hp hpn L1 m1 D1 cy hav hkv hR hlen1
      go_wp2_with fail
      go_region
      go_wp2_with (at_builtin; refine wpList_app_own _ (by rfl) _ _ 37 (by rfl) (w4.heap.size + 2) 79 f1 _ 2 32 Tryz.underlying37 hi1 hz10 hz11 hz12 rfl (by decide) (.slice none 0 0) 0 [] (by rfl) (World.ownsRow_nil _ _ _ _) (.slice xa p.n.attrs.length xc) p.n.attrs.length (attrCells p.n.attrs) (by rfl) (HSA.out.below (by first | exact (((Below.refl w4.heap.size w4).alloc (Nat.le_refl _) _).alloc (by simp) _) | exact (((Below.refl w4.heap.size w4).alloc (Nat.le_refl _) _).alloc (by simp) _).drew | exact (((Below.refl w4.heap.size w4).alloc (Nat.le_refl _) _).alloc (by simp) _).drew.drew)) (by unfold maxLen; omega) (by omega) (by simp) ?_
                   intro v1 w1 hv1 hg1 _
                   have hbn : w1.heap[w4.heap.size]? = some (.cells #[.int .i64 p.n.kind, .string p.n.tag, .string p.n.words, .slice xa p.n.attrs.length xc, .int .i64 p.n.parent, .slice ya p.n.kids.length yc] 46 (0, 0)) := ((below_grown hg1).block w4.heap.size (by simp; omega)).trans ((Below.heap_alloc (w4.alloc (.cells #[.int .i64 p.n.kind, .string p.n.tag, .string p.n.words, .slice xa p.n.attrs.length xc, .int .i64 p.n.parent, .slice ya p.n.kids.length yc] 46)) (.cells #[.int .i64 p.n.kind, .string p.n.tag, .string p.n.words, .slice none 0 0, .int .i64 (-1), .slice none 0 0] 46) w4.heap.size (by simp)).trans (heap_alloc_new w4 _))
                   have hbc : w1.heap[w4.heap.size + 1]? = some (.cells #[.int .i64 p.n.kind, .string p.n.tag, .string p.n.words, .slice none 0 0, .int .i64 (-1), .slice none 0 0] 46 (0, 0)) := ((below_grown hg1).block (w4.heap.size + 1) (by simp)).trans (alloc_two w4 _ _)
                   rw [Nat.zero_add] at hv1
                   obtain ⟨a1, e1, rfl⟩ := own_shape hv1
                   obtain ⟨d0, d1, d2, d3, d4, d5⟩ := six_cells hbc
                   have df3 := box_frozen hbc 3
                   have HB1 : Hid (Below w4.heap.size w4 w1) := ((((Below.refl w4.heap.size w4).alloc (Nat.le_refl _) _).alloc (by simp) _).drew).trans ((below_grown hg1).mono (by simp; omega))
                   have HX1 : Hid (w1.heap[w4.heap.size]? = some (.cells #[.int .i64 p.n.kind, .string p.n.tag, .string p.n.words, .slice xa p.n.attrs.length xc, .int .i64 p.n.parent, .slice ya p.n.kids.length yc] 46 (0, 0)) ∧ w1.heap[w4.heap.size + 1]? = some (.cells #[.int .i64 p.n.kind, .string p.n.tag, .string p.n.words, .slice none 0 0, .int .i64 (-1), .slice none 0 0] 46 (0, 0)) ∧ w1.ownsRow (w4.heap.size + 2) 79 2 (.slice a1 p.n.attrs.length e1) p.n.attrs.length (attrCells p.n.attrs)) := And.intro hbn (And.intro hbc hv1)
                   clear hv1 hg1 hbn hbc)
      have HI0 : Hid (InnR w3 w4 M3 tb uv3 (us ++ [v3]) (nodesOf ps1) all ps.length k p.n #[.int .i64 p.n.kind, .string p.n.tag, .string p.n.words, .slice xa p.n.attrs.length xc, .int .i64 p.n.parent, .slice ya p.n.kids.length yc] (.slice a1 p.n.attrs.length e1) 0 (w1.setCell ⟨w4.heap.size + 1, 3, none⟩ (.slice a1 p.n.attrs.length e1))) := by
        have hf := HL1.out.1.fresh
        have hb2 := HB1.out.setCell (p := ⟨w4.heap.size + 1, 3, none⟩) (by simp) (.slice a1 p.n.attrs.length e1)
        refine ⟨-1, N1, _, ps1, HL1.out.1.below hb2, HL1.out.2.1.below hb2, ?_, (box_set HX1.out.2.1 _).1, ?_, hf _ (Nat.le_refl _), hf _ (by omega), fun q hq => hf q (by have := (HX1.out.2.2.lt q hq).1; omega), .inl ⟨rfl, rfl, fun j hj => absurd hj (by omega)⟩⟩
        · exact (Below.heap_setCell _ _ _ _ (by simp)).trans HX1.out.1
        · refine own_same HX1.out.2.2 fun q hq => ?_
          have := (HX1.out.2.2.lt q hq).1
          exact Below.heap_setCell _ _ _ _ (by simp; omega)
      obtain ⟨W2, hW2⟩ : ∃ W2, W2 = w1.setCell ⟨w4.heap.size + 1, 3, none⟩ (.slice a1 p.n.attrs.length e1) := ⟨_, rfl⟩
      rw [← hW2] at HI0 ⊢
      clear hW2 HX1 HB1 d0 d1 d2 d3 d4 d5 df3 k0 k1 k2 k3 k4 k5 x0 cy' HSA hgl htl i1 i2 hnl
      go_loopw [12] (fun qv wx => ∃ q : Nat, q ≤ k ∧ qv = .int .i64 q ∧ Hid (InnR w3 w4 M3 tb uv3 (us ++ [v3]) (nodesOf ps1) all ps.length k p.n #[.int .i64 p.n.kind, .string p.n.tag, .string p.n.words, .slice xa p.n.attrs.length xc, .int .i64 p.n.parent, .slice ya p.n.kids.length yc] (.slice a1 p.n.attrs.length e1) q wx)) (fun qv _ => k - (intOf qv).toNat)
      case atStart => exact ⟨0, by omega, rfl, HI0⟩
      case round =>
        obtain ⟨w5, hw5⟩ : ∃ x, x = wr := ⟨_, rfl⟩
        subst hw5
        obtain ⟨q, hq, rfl, hI⟩ := hrel
        obtain ⟨par, N2, nv2, ps2, L2, m2, hn2, hc2, o2, ln, lc, lv, R2⟩ := hI.out
        by_cases hqk : q < k
        · obtain ⟨z, hz⟩ : ∃ z, all[q]? = some z := ⟨_, List.getElem?_eq_getElem (by omega)⟩
          obtain ⟨g', e', hgM', cz⟩ := HCell.out q z hz
          cases e'
          have cz' := moved_cell m2 hgM' cz
          have nn4 := (six_cells hn2).2.2.2.2.1
          have hq1 : (0 : Int) ≤ (q : Int) := by omega
          have hq2 : (q : Int) < (all.length : Int) := by omega
          by_cases hzp : z = p.n.parent
          · have hzb : (z == p.n.parent) = true := by simpa using hzp
            have HZ : Hid (all[q]? = some p.n.parent) := hzp ▸ hz
            clear L2 m2 hn2 hc2 o2 ln lc lv R2 hz cz
            go_wp2_with fail
            go_quiet (fail)
            have hI6 : Hid (InnR w3 w4 M3 tb uv3 (us ++ [v3]) (nodesOf ps1) all ps.length k p.n #[.int .i64 p.n.kind, .string p.n.tag, .string p.n.words, .slice xa p.n.attrs.length xc, .int .i64 p.n.parent, .slice ya p.n.kids.length yc] (.slice a1 p.n.attrs.length e1) q (w5.drewN nq)) := hI.out.drewN nq
            clear cz' nn4 hI
            generalize w5.drewN nq = w6 at *
            obtain ⟨par, N2, nv2, ps2, L2, m2, hn2, hc2, o2, ln, lc, lv, R2⟩ := hI6.out
            have e2n := R2.left HND.out HZ.out
            obtain ⟨cj, hcj⟩ : ∃ cj, cj = ps.length + q := ⟨_, rfl⟩
            obtain ⟨ck, hck⟩ : ∃ ck, ck = ps.length + k := ⟨_, rfl⟩
            have hl2 : ps2.length = ps.length + k := by
              have := congrArg List.length e2n
              rw [← HLen1.out]
              simpa [nodesOf] using this
            obtain ⟨m5, hm5⟩ : ∃ m5, ps2[cj]? = some m5 := ⟨_, List.getElem?_eq_getElem (by omega)⟩
            have hm5n : (nodesOf ps1)[cj]? = some m5.n := by rw [← e2n]; exact nodes_get hm5
            have hkl5 : m5.n.kids.length ≤ 800 := HKid.out _ _ hm5n
            have hcjI : (ps.length : Int) + (q : Int) = (cj : Int) := by omega
            have hckI : (ps.length : Int) + (k : Int) = (ck : Int) := by omega
            obtain ⟨nb2, cap2, hnv2, hcp2, hmx2, _, hnl2, _⟩ := L2.form hm5
            subst hnv2
            obtain ⟨ka, kc, hkv5, hk51, hk52⟩ := (L2.node cj m5 hm5).2.shape
            have u4 := (six_cells hc2).2.2.2.2.1
            have uf := box_frozen hc2 4
            have L7 : RLies (w6.setCell ⟨w4.heap.size + 1, 4, none⟩ (.int .i64 cj)) N2 tb (.slice (some ⟨nb2, 0, none⟩) ps2.length cap2) uv3 ps2 (us ++ [v3]) := L2.far (by simp [World.setCell]) (fun b hb hne => Below.heap_setCell _ _ _ _ (fun e => hne (by rw [e]; exact lc)))
            have m7 : Moved w3 M3 (w6.setCell ⟨w4.heap.size + 1, 4, none⟩ (.int .i64 cj)) N2 := ⟨m2.os, m2.tape, m2.output, by simpa [World.setCell] using m2.size, m2.lab, fun b hb hM => (Below.heap_setCell _ _ _ _ (by simp; omega)).trans (m2.far b hb hM)⟩
            have hn7 := (Below.heap_setCell w6 ⟨w4.heap.size + 1, 4, none⟩ (.int .i64 cj) w4.heap.size (by simp)).trans hn2
            have hc7 := setCell_heap w6 (w4.heap.size + 1) 4 (.int .i64 cj) _ _ _ hc2
            have o7 : (w6.setCell ⟨w4.heap.size + 1, 4, none⟩ (.int .i64 cj)).ownsRow (w4.heap.size + 2) 79 2 (.slice a1 p.n.attrs.length e1) p.n.attrs.length (attrCells p.n.attrs) := own_same o2 fun g hg => Below.heap_setCell _ _ _ _ (by have := (o2.lt g hg).1; simp; omega)
            have HE2 : Hid (nodesOf ps2 = nodesOf ps1 ∧ cj = ps.length + q ∧ ck = ps.length + k ∧ (nodesOf ps1)[cj]? = some m5.n) := ⟨e2n, hcj, hck, hm5n⟩
            have j1 : (0 : Int) ≤ (cj : Int) := by omega
            have j2 : (cj : Int) < (ps2.length : Int) := by omega
            have j3 : (cj : Int) ≤ 400 := by omega
            have j4 : (ck : Int) ≤ 800 := by omega
            have j5 : (0 : Int) ≤ (ck : Int) := by omega
            have wj : IntKind.i64.wrap (cj : Int) = (cj : Int) := by rw [IntKind.wrap_i64]; omega
            have wk : IntKind.i64.wrap (ck : Int) = (ck : Int) := by rw [IntKind.wrap_i64]; omega
            clear L2 m2 hn2 hc2 o2 R2 hI6 e2n hcj hck hm5n hl2
            go_wp2_with fail
            generalize hW7 : w6.setCell ⟨w4.heap.size + 1, 4, none⟩ (.int .i64 cj) = W7 at *
            have z0 := L7.cell0
            have z5 := (L7.cellN rfl (f := 5) hm5 (by omega) rfl).1
            rw [hkv5] at z5
            have hb1 : tb < W7.heap.size := lt_of_heap L7.head
            have hb2 : nb2 < W7.heap.size := World.block_lt_of_cell? W7 _ z5
            have HR7 : Hid (∀ o, Row (W7.alloc o).drew N2 (.kids cj) 3 1 (.slice ka m5.n.kids.length kc) m5.n.kids.length (m5.n.kids.map intV)) := fun o => hkv5 ▸ ((L7.alloc o).drew.node cj m5 hm5).2
            have H7 : Hid (RLies W7 N2 tb (.slice (some ⟨nb2, 0, none⟩) ps2.length cap2) uv3 ps2 (us ++ [v3]) ∧ ps2[cj]? = some m5 ∧ Moved w3 M3 W7 N2) := ⟨L7, hm5, m7⟩
            have HC7 : Hid _ := And.intro hn7 (And.intro hc7 o7)
            have HLb : Hid _ := And.intro ln (And.intro lc lv)
            unfold maxLen at hmx2 hk52
            clear L7 m7 hn7 hc7 o7 ln lc lv hm5 hW7 u4 uf
            go_region_law ((refine step_app_row _ (by rfl) (.tmp 100) (.tmp 104) 38 (by rfl) N2 (.kids cj) 3 f2 _ 1 8 Tryz.underlying38 hi2 hz20 hz21 hz22 rfl (by decide) (.slice ka m5.n.kids.length kc) m5.n.kids.length (m5.n.kids.map intV) (by simp [Act.eval]) (HR7.out _) ⟨W7.heap.size, 0, none⟩ 1 1 [.int .i64 ck] (by simp [Act.eval]) rfl (news_new _ #[.int .i64 ck] 3 _ rfl) (by simp [Value.oneCell']) (by decide) (by unfold maxLen; omega) (by omega) (H7.out.1.alloc _).drew.fresh ?_
                            intro g7 cap7 w8 N8 hr st
                            obtain ⟨r1, r2, r3, r4, r5⟩ := (H7.out.1.alloc _).drew.setKids rfl H7.out.2.1 st (ks' := m5.n.kids ++ [(ck : Int)]) (by rw [List.length_append, List.map_append]; exact hr)
                            rw [hkv5] at r3
                            have HQ : Hid _ := And.intro r1 (((Moved.refl W7 N2).alloc _).drew.trans r2)
                            clear r1 r2 hr st))
            all_goals
              go_wp2
              go_roundw
              case rel =>
                go_light
                refine ⟨q + 1, by omega, by go_num, ?_⟩
                refine InnR.hit H7.out.2.2 HC7.out.1 HC7.out.2.1 HC7.out.2.2 HLb.out.1 HLb.out.2.1 HLb.out.2.2 HQ.out.1 HQ.out.2 (.inr ⟨q, m5.n, by omega, HZ.out, ?_, ?_, ?_⟩)
                · rw [← HE2.out.2.1]; exact HE2.out.2.2.2
                · rw [HE2.out.2.1]
                · rw [← HE2.out.1, ← HE2.out.2.1, ← HE2.out.2.2.1]
                  simp [nodesOf, List.map_set]
              case measure => go_light; simp [intOf]; omega
          · have hzb : (z == p.n.parent) = false := by simpa using hzp
            have HZ : Hid (all[q]? ≠ some p.n.parent) := fun e => hzp (Option.some.inj (hz.symm.trans e))
            clear L2 m2 hn2 hc2 o2 ln lc lv R2 hz cz
            go_wp2_with fail
            go_quiet (fail)
            go_wp2
            go_roundw
            case rel =>
              go_light
              refine ⟨q + 1, by omega, by go_num, ?_⟩
              obtain ⟨par, N, nv, ps', h1, h2, h3, h4, h5, h6, h7, h8, h9⟩ := hI.out.drewN nq
              exact ⟨par, N, nv, ps', h1, h2, h3, h4, h5, h6, h7, h8, h9.skip HZ.out⟩
            case measure => go_light; simp [intOf]; omega
        · obtain rfl : q = k := by omega
          have hv1l : ∀ g, (Value.slice a1 p.n.attrs.length e1).ownBlock = some g → g < w5.heap.size ∧ N2 g = .other := fun g hg => ⟨(o2.lt g hg).2, lv g hg⟩
          have hl2 : ps2.length = ps.length + q := by
            have e := congrArg List.length (show nodesOf ps2 = nodesOf ps2 from rfl)
            rcases R2 with ⟨_, h2, _⟩ | ⟨j, m, _, _, _, _, h5⟩
            · have := congrArg List.length h2; rw [← HLen1.out]; simpa [nodesOf] using this
            · have := congrArg List.length h5; rw [← HLen1.out]; simpa [nodesOf] using this
          have L9 := L2.relabR (l := .attrs ps2.length) hv1l
          have m9 : Moved w3 M3 w5 (relabR N2 (.slice a1 p.n.attrs.length e1) (.attrs ps2.length)) := m2.relabR (fun g hg => by have := (o2.lt g hg).1; omega)
          have ra : Row w5 (relabR N2 (.slice a1 p.n.attrs.length e1) (.attrs ps2.length)) (.attrs ps2.length) 79 2 (.slice a1 p.n.attrs.length e1) p.n.attrs.length (attrCells p.n.attrs) := own_row o2 (fun g hg => if_pos hg)
          generalize hN9 : relabR N2 (.slice a1 p.n.attrs.length e1) (.attrs ps2.length) = N9 at *
          obtain ⟨na2, nc2, hnv2, hn21, hn22⟩ := L9.nodes.shape
          subst hnv2
          have z0 := L9.cell0
          have hb1 : tb < w5.heap.size := lt_of_heap L9.head
          obtain ⟨b0c, b1c, b2c, b3c, b4c, b5c⟩ := six_cells hc2
          have hb2 := lt_of_heap hc2
          have H9 : Hid (RLies w5 N9 tb (.slice na2 ps2.length nc2) uv3 ps2 (us ++ [v3]) ∧ Moved w3 M3 w5 N9 ∧ Row w5 N9 (.attrs ps2.length) 79 2 (.slice a1 p.n.attrs.length e1) p.n.attrs.length (attrCells p.n.attrs)) := ⟨L9, m9, ra⟩
          have HRA : Hid (∀ o, Row (w5.alloc o).drew N9 (.attrs ps2.length) 79 2 (.slice a1 p.n.attrs.length e1) p.n.attrs.length (attrCells p.n.attrs)) := fun o => ra.keep (w' := (w5.alloc o).drew) (fun b hb _ => Below.heap_alloc w5 o b hb) (fun _ _ => rfl)
          have HR2 : Hid (ResR (nodesOf ps1) all ps.length q p.n.parent q par (nodesOf ps2)) := R2
          have HL2 : Hid (ps2.length = ps.length + q) := hl2
          have hle2 : ps2.length ≤ 400 := by omega
          unfold maxLen at hn22
          clear L2 L9 m2 m9 ra hn2 hc2 o2 ln lc lv R2 hI hN9 hv1l hl2
          go_wp2_with fail
          go_region_law ((refine step_app_row _ (by rfl) (.tmp 112) (.tmp 114) 25 (by rfl) N9 .nodes 46 f0 _ 6 96 Tryz.underlying25 hi hz0 hz1 hz2 rfl (by decide) (.slice na2 ps2.length nc2) ps2.length (flat ps2) (by simp [Act.eval]) (H9.out.1.alloc _).drew.nodes ⟨w5.heap.size, 0, none⟩ 1 1 [.int .i64 p.n.kind, .string p.n.tag, .string p.n.words, .slice a1 p.n.attrs.length e1, .int .i64 par, .slice none 0 0] (by simp [Act.eval]) rfl (news_new _ #[.int .i64 p.n.kind, .string p.n.tag, .string p.n.words, .slice a1 p.n.attrs.length e1, .int .i64 par, .slice none 0 0] 46 _ rfl) (by simp [Value.oneCell']) (by decide) (by unfold maxLen; omega) (by omega) (H9.out.1.alloc _).drew.fresh ?_
                          intro g9 cap9 w9 N10 hr st
                          obtain ⟨hc0, _, hf0, _⟩ := head_cell ((st.far tb (lt_of_heap (H9.out.1.alloc _).drew.head) (by rw [H9.out.1.tree]; intro e; cases e)).trans (H9.out.1.alloc _).drew.head)
                          have HQ : Hid _ := (H9.out.1.alloc _).drew.headNodes (nv' := .slice (some ⟨g9, 0, none⟩) (ps2.length + 1) cap9) (qs := ps2 ++ [⟨⟨p.n.kind, p.n.tag, p.n.words, p.n.attrs, par, []⟩, .slice a1 p.n.attrs.length e1, .slice none 0 0⟩]) st (by rw [List.length_append, flat_append]; exact hr) (rows_snoc (H9.out.1.alloc _).drew (HRA.out _) rfl)
                          clear hr st))
          all_goals
            go_wp2
            go_roundw
            case rel =>
              go_light
              refine ⟨q + 1, by omega, by go_num, N10, _, _, HQ.out.1, H9.out.2.1.trans (((Moved.refl w5 N9).alloc _).drew.trans HQ.out.2), ?_⟩
              have := dbl_of_res HL1.out.2.2 HY.out.1 HY.out.2 (fun h0 => by
                obtain ⟨c', n', e1, e2, e3⟩ := HPre.out q c HY.out.1 h0
                have e := Int.ofNat.inj e1
                subst e
                obtain rfl := Option.some.inj (HY.out.2.symm.trans e2)
                exact e3) (hlen.symm ▸ HR2.out)
              simpa [nodesOf, bareN] using this
            case measure => go_light; simp [intOf]; omega
    · obtain rfl : k = all.length := by omega
      obtain ⟨N', nv', ps', L, m, D⟩ := hR.out
      have HF : Hid _ := And.intro L (And.intro m D)
      clear L m D hR
      go_wp2
      go_ret2
      exact ⟨rfl, N', nv', uv3, ps', v3, HF.out.1, DblN.det HND.out HF.out.2.2 HNN.out, H3.out.2.1.trans HF.out.2.1, CopyOf.moved H3.out.2.2.1 HF.out.2.1⟩
end Go.Proofs.YtoanbjdifddcoaaGreatDoor
