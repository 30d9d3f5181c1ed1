/- A node is doubled, with all that lies in it: exactly. -/
import Derived.Test.YtoanbjdifddcoaaGreatDoorM40
import Derived.Test.YtoanbjdifddcoaaGreatDoorM17
import Derived.Maps.OwnOps
import Derived.Maps.Views
import Derived.Maps.OwnSet
import Derived.Deep.RegionHeld3
namespace Go.Proofs.YtoanbjdifddcoaaGreatDoor
open Go.RowKit Go.Maps

theorem zeroIntL (w : World) : (zeroValue 3).run Tryz.prog w = .ok (.int .i64 0) w := by kernel_rfl
theorem lawInt : Keyed Tryz.prog 3 := int_keyed Tryz.underlying3

theorem own_map_moved {w w' : World} {M M' : Nat → Lab} {B n : Nat} {D : DataW Unit} (h : w.ownsMap Tryz.prog 3 (plainElem (H := Unit) Tryz.prog 3) B n D) (m : Moved w M w' M') (ho : M B = .other) : w'.ownsMap Tryz.prog 3 (plainElem (H := Unit) Tryz.prog 3) B n D ∧ M' B = .other := by
  have hlt := h.lt
  obtain ⟨es, clock, hb, F, hs, hD⟩ := h
  exact ⟨⟨es, clock, (m.far B hlt ho).trans hb, F, hs, hD⟩, (m.lab B hlt).trans ho⟩

theorem makeMapHint (n : Int) (w : World) : (Instr.makeMap 112 (some (.int .i64 n))).run Tryz.prog w = .ok (.map (some w.heap.size)) (w.alloc (.map #[] 0)) := by
  simp [Instr.makeMap, run_underlying Tryz.underlying112, asInt, asIntOf, Result.andThen]

/-- a list of the call's own becomes a node's -/
def relab (M : Nat → Lab) (v : Value) (l : Lab) : Nat → Lab := fun b => if v.ownBlock = some b then l else M b
theorem relab_ne {M : Nat → Lab} {v : Value} {l : Lab} {b : Nat} (h : v.ownBlock ≠ some b) : relab M v l b = M b := if_neg h
theorem Row.relab {w : World} {M : Nat → Lab} {l0 l : Lab} {e : TypeId} {size n : Nat} {v u : Value} {xs : List Value} (h : Row w M l0 e size u n xs) (hne : l0 ≠ .other) (hl : ∀ k, v.ownBlock = some k → M k = .other) : Row w (relab M v l) l0 e size u n xs := by
  obtain ⟨h0, a, cap, h1, h2, h3, h4⟩ := h
  refine ⟨h0, a, cap, h1, h2, h3, ?_⟩
  rcases h4 with h4 | ⟨g, cur, k1, k2, k3, k4, k5⟩
  · exact .inl h4
  · refine .inr ⟨g, cur, k1, ?_, k3, k4, k5⟩
    rw [relab_ne (fun e => hne (k2.symm.trans (hl g e)))]
    exact k2
theorem Lies.relab {w : World} {M : Nat → Lab} {tb : Nat} {nv uv : Value} {ps : List Pn} {us : List Value} (h : Lies w M tb nv uv ps us) {v : Value} {l : Lab} (hl : ∀ k, v.ownBlock = some k → k < w.heap.size ∧ M k = .other) : Lies w (relab M v l) tb nv uv ps us where
  fresh b hb := by
    rw [relab_ne (fun e => by have := (hl b e).1; omega)]
    exact h.fresh b hb
  tree := by
    rw [relab_ne (fun e => by have := (hl tb e).2; rw [h.tree] at this; cases this)]
    exact h.tree
  head := h.head
  nodes := h.nodes.relab (by intro e; cases e) (fun k hk => (hl k hk).2)
  undos := h.undos.relab (by intro e; cases e) (fun k hk => (hl k hk).2)
  node i p hp := ⟨(h.node i p hp).1.relab (by intro e; cases e) (fun k hk => (hl k hk).2), (h.node i p hp).2.relab (by intro e; cases e) (fun k hk => (hl k hk).2)⟩
theorem own_rowD {w : World} {M : Nat → Lab} {l : Lab} {B : Nat} {e : TypeId} {size n : Nat} {v : Value} {xs : List Value} (h : w.ownsRow B e size v n xs) : Row w (relab M v l) l e size v n xs := by
  refine ⟨h.1, ?_⟩
  rcases h.2 with ⟨rfl, rfl⟩ | ⟨g, cap, cur, rfl, h1, h2, h3, h4, h5, h6⟩
  · exact ⟨none, 0, rfl, Nat.le_refl _, by unfold maxLen; omega, .inl ⟨rfl, .inl rfl⟩⟩
  · exact ⟨_, cap, rfl, h3, h4, .inr ⟨g, cur, rfl, if_pos rfl, h2, by omega, h6⟩⟩
theorem Moved.relab {w w' : World} {M M' : Nat → Lab} (m : Moved w M w' M') {v : Value} {l : Lab} (hl : ∀ k, v.ownBlock = some k → w.heap.size ≤ k) : Moved w M w' (relab M' v l) :=
  ⟨m.os, m.tape, m.output, m.size, fun b hb => by rw [relab_ne (fun e => by have := hl b e; omega)]; exact m.lab b hb, m.far⟩

theorem six_at {w : World} {b : Nat} {t : TypeId} {fr : Nat × Nat} {a0 a1 a2 a3 a4 a5 : Value} (h : w.heap[b]? = some (.cells #[a0, a1, a2, a3, a4, a5] t fr)) :
    w.cell? ⟨b, 0, none⟩ = some a0 ∧ w.cell? ⟨b, 1, none⟩ = some a1 ∧ w.cell? ⟨b, 2, none⟩ = some a2 ∧ w.cell? ⟨b, 3, none⟩ = some a3 ∧ w.cell? ⟨b, 4, none⟩ = some a4 := by
  refine ⟨?_, ?_, ?_, ?_, ?_⟩ <;> (rw [cell_of_row w b _ _ _ _ h]; rfl)

/-- how far the doubling has come -/
def DblXAt (w : World) (M : Nat → Lab) (tb : Nat) (uv : Value) (us : List Value) (ns0 : List Nd) (all : List Int) (K : Nat) (k : Nat) (wr : World) : Prop :=
  ∃ M' nv' ps' D, Lies wr M' tb nv' uv ps' us ∧ Moved w M wr M' ∧ M' w.heap.size = .other ∧ WF (nodesOf ps') ∧ ps'.length = ns0.length + k ∧ ((nodesOf ps').take ns0.length = ns0 ∧ DblN ns0 all k (nodesOf ps')) ∧ Few (nodesOf ps') K ∧
    wr.ownsMap Tryz.prog 3 (plainElem (H := Unit) Tryz.prog 3) w.heap.size k D ∧
    ∀ (j : Nat) (x : Int), j < k → all[j]? = some x → ∃ c : Nat, D.atKey (.int .i64 x) (.lit (.int .i64 0)) = .lit (.int .i64 c) ∧ ns0.length ≤ c ∧ c < ns0.length + k ∧ c = ns0.length + j

theorem Lies.grownM {w w' : World} {M : Nat → Lab} {tb : Nat} {nv uv : Value} {ps : List Pn} {us : List Value} {row : Option Nat} (h : Lies w M tb nv uv ps us) (hg : w.grownBy w' row) (hr : ∀ k, row = some k → M k = .other) : Lies w' M tb nv uv ps us :=
  h.far hg.size (fun b hb hne => hg.block b hb (fun e => hne (hr b e.symm)))
theorem Moved.grownM {w w' w'' : World} {M M' : Nat → Lab} {row : Option Nat} (h : Moved w M w' M') (hg : w'.grownBy w'' row) (hr : ∀ k, row = some k → w.heap.size ≤ k) : Moved w M w'' M' :=
  ⟨hg.os.trans h.os, hg.tape.trans h.tape, hg.output.trans h.output, Nat.le_trans h.size hg.size, h.lab, fun b hb ho => (hg.block b (Nat.lt_of_lt_of_le hb h.size) (fun e => by have := hr b e.symm; omega)).trans (h.far b hb ho)⟩

/-- one more is doubled -/
theorem DblXAt.next {w : World} {M : Nat → Lab} {tb : Nat} {uv : Value} {us : List Value} {ns0 : List Nd} {all : List Int} {K k c id : Nat} {w4 : World} {M4 : Nat → Lab} {nv4 : Value} {ps4 : List Pn} {D : DataW Unit} (hL : Lies w4 M4 tb nv4 uv ps4 us) (hm : Moved w M w4 M4) (hB : M4 w.heap.size = .other) (hW : WF (nodesOf ps4)) (hl : ps4.length = ns0.length + (k + 1)) (ht : (nodesOf ps4).take ns0.length = ns0) (hN : DblN ns0 all (k + 1) (nodesOf ps4)) (hnd : all.Nodup) (hF : Few (nodesOf ps4) K)
    (hD : IsMap D) (hO : w4.ownsMap Tryz.prog 3 (plainElem (H := Unit) Tryz.prog 3) w.heap.size (k + 1) (D.put (.int .i64 (c : Int)) (.lit (.int .i64 (id : Int))))) (hid : id = ns0.length + k) (hc : all[k]? = some (c : Int))
    (hJ : ∀ (j : Nat) (x : Int), j < k → all[j]? = some x → ∃ c : Nat, D.atKey (.int .i64 x) (.lit (.int .i64 0)) = .lit (.int .i64 c) ∧ ns0.length ≤ c ∧ c < ns0.length + k ∧ c = ns0.length + j) : DblXAt w M tb uv us ns0 all K (k + 1) w4 := by
  refine ⟨M4, nv4, ps4, _, hL, hm, hB, hW, hl, ⟨ht, hN⟩, hF, hO, fun j x hj hx => ?_⟩
  by_cases hxc : x = (c : Int)
  · subst hxc
    have ejk := nodup_at hnd hx hc
    exact ⟨id, atKey_put_same (k := .int .i64 (c : Int)) hD trivial _ _, by omega, by omega, by omega⟩
  · have hjk : j ≠ k := fun e => hxc (by subst e; exact Option.some.inj (hx.symm.trans hc))
    obtain ⟨c', e1, e2, e3, e4⟩ := hJ j x (by omega) hx
    refine ⟨c', (atKey_put_other (fun e => hxc (by injection e)) _ _).trans e1, e2, by omega, e4⟩

theorem take_same {ns0 ns : List Nd} (h : ns.take ns0.length = ns0) {c : Nat} {n : Nd} (hc : ns0[c]? = some n) : ns[c]? = some n := by
  have hlt := (List.getElem?_eq_some_iff.1 hc).1
  rw [← h, List.getElem?_take, if_pos hlt] at hc
  exact hc
theorem Up.ext {ns : List Nd} (xs : List Nd) {j : Nat} {l : List Nat} (h : Up ns j l) : Up (ns ++ xs) j l := by
  induction h with
  | root hx hp => exact .root (by rw [List.getElem?_append_left (List.getElem?_eq_some_iff.1 hx).1]; exact hx) hp
  | up hx hp _ ih => exact .up (by rw [List.getElem?_append_left (List.getElem?_eq_some_iff.1 hx).1]; exact hx) hp ih
theorem take_set_far {l : List Nd} {n i : Nat} {x : Nd} (h : n ≤ i) : (l.set i x).take n = l.take n := by
  rw [List.take_set, List.set_eq_of_length_le (by rw [List.length_take]; omega)]

set_option maxHeartbeats 8000000 in
set_option maxRecDepth 100000 in
theorem doubleX_any {w : World} {M : Nat → Lab} {tb : Nat} {nv uv : Value} {ps : List Pn} {us : List Value} (h : Lies w M tb nv uv ps us) (hW : WF (nodesOf ps)) {K : Nat} (hF : Few (nodesOf ps) K) (hK : K ≤ 1000000) {all : List Int} {av : Value} {B : Nat} (ha : w.ownsRow B 3 1 av all.length (all.map intV)) (hal : ∀ k, av.ownBlock = some k → M k = .other)
    (hnd : all.Nodup) (h0 : 0 < all.length) (h4 : ps.length + all.length ≤ 400) (hin : ∀ x ∈ all, ∃ c : Nat, x = c ∧ c < ps.length) (hpre : ∀ (k : Nat) (x : Int), all[k]? = some x → 0 < k → ∃ (c : Nat) (n : Nd), x = c ∧ (nodesOf ps)[c]? = some n ∧ n.parent ∈ all.take k) :
    Calls Tryz.prog 70 #[.pointer (some ⟨tb, 0, none⟩), av] w fun e w' => e = .returned (.int .i64 ps.length) ∧ DblXAt w M tb uv us (nodesOf ps) all K all.length w' := by
  have hmm := makeMapHint
  obtain ⟨_, aa, ac, rfl, hac1, hac2, hcell⟩ := own_cell ha
  have HCell : Hid (∀ (k : Nat) (y : Int), all[k]? = some y → ∃ g, aa = some ⟨g, 0, none⟩ ∧ M g = .other ∧ g < w.heap.size ∧ w.cell? ⟨g, k, none⟩ = some (.int .i64 y)) := by
    intro k y hy
    obtain ⟨g, e1, e2, _⟩ := hcell k y hy
    exact ⟨g, e1, hal g (by rw [e1]; rfl), World.block_lt_of_cell? w _ e2, e2⟩
  have HIn : Hid _ := hin
  have HPre : Hid _ := hpre
  have HND : Hid all.Nodup := hnd
  have H : Hid (Lies w M tb nv uv ps us) := h
  have HW : Hid (WF (nodesOf ps)) := hW
  have HF : Hid (Few (nodesOf ps) K) := hF
  have hlen : (nodesOf ps).length = ps.length := by simp [nodesOf]
  have h0w : M w.heap.size = .other := h.fresh _ (Nat.le_refl _)
  have HS : Hid (DblXAt w M tb uv us (nodesOf ps) all K 0 (w.alloc (.map #[] 0))) := by
    refine ⟨M, nv, ps, .map [], h.alloc _, (Moved.refl w M).alloc _, h0w, hW, by omega, ⟨?_, .zero⟩, hF, World.ownsMap_made _ _ _ _, fun j x hj => absurd hj (by omega)⟩
    exact List.take_length
  unfold maxLen at hac2
  clear h hW hF hin hpre ha hcell hal h0w hnd
  go_enter Tryz.func70, Tryz.ntmps70
  go_wp2
  go_loopw [16] (fun i wr => ∃ k : Nat, k ≤ all.length ∧ i = .int .i64 k ∧ Hid (DblXAt w M tb uv us (nodesOf ps) all K k wr)) (fun i _ => all.length - (intOf i).toNat)
  case atStart => exact ⟨0, by omega, rfl, HS⟩
  case round =>
    obtain ⟨k, hk, rfl, hD⟩ := hrel
    by_cases hkl : k < all.length
    · obtain ⟨y, hy⟩ : ∃ y, all[k]? = some y := ⟨_, List.getElem?_eq_getElem hkl⟩
      obtain ⟨g, rfl, hgM, hgl, cy⟩ := HCell.out k y hy
      obtain ⟨c, rfl, hcl⟩ := HIn.out y (List.mem_of_getElem? hy)
      obtain ⟨M1, nv1, ps1, D, hL1, hm1, hB1, hW1, hl1, ⟨ht1, hN1⟩, hF1, hO1, hJ1⟩ := hD.out
      have cy' := moved_cell hm1 hgM cy
      obtain ⟨p, hp⟩ : ∃ p, ps1[c]? = some p := ⟨_, List.getElem?_eq_getElem (by omega)⟩
      obtain ⟨nb, cap, rfl, hcp, hmx, _, hnl, _⟩ := hL1.form hp
      have c0 := hL1.cell0
      obtain ⟨xa, xc, hav, hx1, hx2⟩ := (hL1.node c p hp).1.shape
      obtain ⟨ya, yc, hkv, hy1, hy2⟩ := (hL1.node c p hp).2.shape
      have d0 := (hL1.cellN rfl (f := 0) hp (by omega) rfl).1
      rw [Nat.add_zero] at d0
      have d1 := (hL1.cellN rfl (f := 1) hp (by omega) rfl).1
      have d2 := (hL1.cellN rfl (f := 2) hp (by omega) rfl).1
      have d3 := (hL1.cellN rfl (f := 3) hp (by omega) rfl).1
      rw [hav] at d3
      have d4 := (hL1.cellN rfl (f := 4) hp (by omega) rfl).1
      have d5 := (hL1.cellN rfl (f := 5) hp (by omega) rfl).1
      rw [hkv] at d5
      have HL1 : Hid (∀ o, Lies (wr.alloc o) M1 tb (.slice (some ⟨nb, 0, none⟩) ps1.length cap) uv ps1 us) := fun o => hL1.alloc o
      have HR1 : Hid (∀ o, Row (wr.alloc o) M1 (.attrs c) 79 2 (.slice xa p.n.attrs.length xc) p.n.attrs.length (attrCells p.n.attrs)) := fun o => hav ▸ ((hL1.alloc o).node c p hp).1
      have HP : Hid (ps1[c]? = some p) := hp
      have HFr : Hid (∀ b, wr.heap.size ≤ b → M1 b = .other) := hL1.fresh
      have HY : Hid (all[k]? = some (c : Int)) := hy
      have H1 : Hid (Moved w M wr M1 ∧ M1 w.heap.size = .other ∧ WF (nodesOf ps1) ∧ ps1.length = ps.length + k ∧ (nodesOf ps1).take ps.length = nodesOf ps ∧ Few (nodesOf ps1) K) := ⟨hm1, hB1, hW1, by omega, by rw [← hlen]; exact ht1, hF1⟩
      have HO : Hid (wr.ownsMap Tryz.prog 3 (plainElem (H := Unit) Tryz.prog 3) w.heap.size k D) := hO1
      have HJ : Hid (∀ (j : Nat) (x : Int), j < k → all[j]? = some x → ∃ c : Nat, D.atKey (.int .i64 x) (.lit (.int .i64 0)) = .lit (.int .i64 c) ∧ ps.length ≤ c ∧ c < ps.length + k ∧ c = ps.length + j) := by rw [← hlen]; exact hJ1
      have HN1 : Hid (DblN (nodesOf ps) all k (nodesOf ps1)) := hN1
      have hpl : ps1.length ≤ 400 := by omega
      have hpa : p.n.attrs.length ≤ 1099511627776 := by have := hF1 c _ (nodes_get hp); omega
      have hln1 : ps1.length = ps.length + k := by omega
      have i1 : (0 : Int) ≤ (c : Int) := by omega
      have i2 : (c : Int) < (ps1.length : Int) := by omega
      have hwl : w.heap.size < wr.heap.size := hO1.lt
      have kc : keyOf Tryz.prog 3 (.int .i64 (c : Int)) = some (.int .i64 (c : Int)) := keyOf_int_mk Tryz.underlying3 (WalkArith.wf_i64 (by omega))
      unfold maxLen at hmx hx2 hy2
      have HC0 : Hid ((nodesOf ps)[c]? = some p.n) := by
        have e1 := nodes_get hp
        show _ = _
        rw [← ht1, List.getElem?_take, if_pos (by omega)]
        exact e1
      clear hD hy hp hL1 hm1 hB1 hW1 ht1 hF1 hO1 hJ1 cy hav hkv hl1 hN1
      go_wp2_with fail
      go_region_held3 (fun wx => wx.cell? ⟨wr.heap.size, 0, none⟩ = some (.int .i64 p.n.kind) ∧ wx.cell? ⟨wr.heap.size, 1, none⟩ = some (.string p.n.tag) ∧ wx.cell? ⟨wr.heap.size, 2, none⟩ = some (.string p.n.words) ∧ wx.cell? ⟨wr.heap.size, 3, none⟩ = some (.slice xa p.n.attrs.length xc)) (go_keep)
        (first
          | (go_at_call 46; refine (cloneA_any (show Row (wr.alloc _).drew M1 (.attrs c) 79 2 (.slice xa p.n.attrs.length xc) p.n.attrs.length (attrCells p.n.attrs) from HR1.out _) hpa).mono ?_; rintro e w2 ⟨v2, rfl, ho2, hB2⟩
             obtain ⟨a2, c2, hv2⟩ := own_shape ho2
             subst hv2
             have hn2 := (hB2.block wr.heap.size (by simp)).trans (heap_alloc_new wr _)
             obtain ⟨s0, s1, s2, s3, s4⟩ := six_at hn2
             have H2 : Hid _ := And.intro ho2 (And.intro hB2 hn2)
             clear ho2 hB2 hn2)
          | (go_at_call 76
             have hl2 : ∀ q, (Value.slice a2 p.n.attrs.length c2).ownBlock = some q → wr.heap.size + 1 ≤ q ∧ q < w2.heap.size := fun q hq => by (have := H2.out.1.lt q hq; simpa using this)
             have HLb := (HL1.out _).drew.below H2.out.2.1
             refine (add_any (HLb.relab (l := .attrs ps1.length) (fun q hq => ⟨(hl2 q hq).2, HFr.out q (by have := (hl2 q hq).1; omega)⟩)) hpl p.n.kind 0 p.n.tag p.n.words a2 p.n.attrs.length c2 p.n.attrs (own_rowD H2.out.1)).mono ?_
             rintro e w3 ⟨rfl, M3, nv3, hL3, hm3⟩
             have hws := H1.out.1.size
             have m12 : Moved w M w2 (relab M1 (.slice a2 p.n.attrs.length c2) (.attrs ps1.length)) := ((H1.out.1.alloc _).drew.below H2.out.2.1).relab (fun q hq => by have := (hl2 q hq).1; omega)
             have lb : relab M1 (.slice a2 p.n.attrs.length c2) (.attrs ps1.length) wr.heap.size = .other := (relab_ne (fun e => by have := (hl2 _ e).1; omega)).trans (HFr.out _ (Nat.le_refl _))
             have lm : relab M1 (.slice a2 p.n.attrs.length c2) (.attrs ps1.length) w.heap.size = .other := (relab_ne (fun e => by have := (hl2 _ e).1; omega)).trans H1.out.2.1
             have om2 := (own_map_moved (HO.out.alloc _).drew ((Moved.refl _ M1).below H2.out.2.1) H1.out.2.1).1
             have om3 := own_map_moved om2 hm3 lm
             have t0 := moved_cell hm3 lb s0
             have t1 := moved_cell hm3 lb s1
             have t2 := moved_cell hm3 lb s2
             have t3 := moved_cell hm3 lb s3
             have t4 := moved_cell hm3 lb s4
             have hl3 : wr.heap.size < w3.heap.size := World.block_lt_of_cell? w3 _ t0
             have H3 : Hid (Lies w3 M3 tb nv3 uv (ps1 ++ [⟨⟨p.n.kind, p.n.tag, p.n.words, p.n.attrs, -1, []⟩, .slice a2 p.n.attrs.length c2, .slice none 0 0⟩]) us ∧ Moved w M w3 M3 ∧ M3 w.heap.size = .other ∧ w3.ownsMap Tryz.prog 3 (plainElem (H := Unit) Tryz.prog 3) w.heap.size k D ∧ M3 wr.heap.size = .other) := ⟨hL3, m12.trans hm3, om3.2, om3.1, (hm3.lab _ (World.block_lt_of_cell? w2 _ s0)).trans lb⟩
             clear hL3 hm3 m12 lb lm om2 om3 HLb hl2 hws s0 s1 s2 s3 s4))
      have e2 : nodesOf (ps1 ++ [⟨⟨p.n.kind, p.n.tag, p.n.words, p.n.attrs, -1, []⟩, .slice a2 p.n.attrs.length c2, .slice none 0 0⟩]) = nodesOf ps1 ++ [(⟨p.n.kind, p.n.tag, p.n.words, p.n.attrs, -1, []⟩ : Nd)] := by simp [nodesOf]
      have hn1 : (nodesOf ps1).length = ps1.length := by simp [nodesOf]
      have HW2 : Hid (WF (nodesOf ps1 ++ [(⟨p.n.kind, p.n.tag, p.n.words, p.n.attrs, -1, []⟩ : Nd)])) := H1.out.2.2.1.snoc (by omega) _ rfl rfl
      have HT2 : Hid ((nodesOf ps1 ++ [(⟨p.n.kind, p.n.tag, p.n.words, p.n.attrs, -1, []⟩ : Nd)]).take ps.length = nodesOf ps) := by
        show _ = nodesOf ps
        rw [List.take_append_of_le_length (by omega)]
        exact H1.out.2.2.2.2.1
      have HF2 : Hid (Few (nodesOf ps1 ++ [(⟨p.n.kind, p.n.tag, p.n.words, p.n.attrs, -1, []⟩ : Nd)]) K) := by
        intro j n hn
        by_cases hj : j < (nodesOf ps1).length
        · rw [List.getElem?_append_left hj] at hn; exact H1.out.2.2.2.2.2 j n hn
        · rw [List.getElem?_append_right (by omega)] at hn
          rcases Nat.eq_zero_or_pos (j - (nodesOf ps1).length) with e | e
          · rw [e] at hn; cases hn; exact H1.out.2.2.2.2.2 c p.n (nodes_get HP.out)
          · rw [List.getElem?_eq_none (by simp; omega)] at hn; cases hn
      by_cases hk0 : k = 0
      · subst hk0
        go_wp2_with (at_mapUpdate; refine wpList_mapUpdate_own _ rfl _ _ _ 112 rfl 3 3 lawInt Tryz.underlying112 _ w.heap.size 0 _ rfl H3.out.2.2.2.1 (by unfold maxLen; omega) _ _ _ rfl rfl kc _ [] (plainElem_int Tryz.underlying3 (WalkArith.wf_i64 (by omega))) ?_; intro w4 hown4 hgrow4)
        go_roundw
        case rel =>
          refine ⟨1, by omega, by go_num, ?_⟩
          exact DblXAt.next (H3.out.1.grownM hgrow4 (fun q hq => by cases hq; exact H3.out.2.2.1)) (H3.out.2.1.grownM hgrow4 (fun q hq => by cases hq; exact Nat.le_refl _)) H3.out.2.2.1 (by rw [e2]; exact HW2.out) (by simp; omega) (by rw [e2, hlen]; exact HT2.out) (by rw [e2]; exact HN1.out.succ (.first rfl HY.out HC0.out)) HND.out (by rw [e2]; exact HF2.out) HO.out.isMap hown4 (by omega) HY.out (by rw [hlen]; exact HJ.out)
        case measure => simp [intOf]; omega
      · obtain ⟨c', n0, ec, hn0, hmem⟩ := HPre.out k c HY.out (by omega)
        have ec := Int.ofNat.inj ec
        subst ec
        have hpn : p.n = n0 := by
          have := take_same (ns := nodesOf ps1) (ns0 := nodesOf ps) (by rw [hlen]; exact H1.out.2.2.2.2.1) hn0
          exact Option.some.inj ((nodes_get HP.out).symm.trans this)
        rw [← hpn] at hmem
        obtain ⟨j, hj, hjx⟩ := List.mem_take_iff_getElem.1 hmem
        have hjl : j < all.length := by omega
        have hjk : j < k := by omega
        have hjg : all[j]? = some p.n.parent := by rw [List.getElem?_eq_getElem hjl, hjx]
        obtain ⟨q, hq, hql⟩ := HIn.out _ (List.mem_of_getElem? hjg)
        obtain ⟨c5, hat5, h5a, h5b, h5c0⟩ := HJ.out j _ hjk hjg
        have H5C : Hid (c5 = ps.length + j) := h5c0
        clear h5c0
        have HJG : Hid (all[j]? = some p.n.parent) := hjg
        have hqc : (q : Int) ≠ c := by
          intro e
          have e := Int.ofNat.inj e
          exact H1.out.2.2.1.pne (nodes_get HP.out) hq e
        rw [hq] at hat5 t4
        have kq : keyOf Tryz.prog 3 (.int .i64 (q : Int)) = some (.int .i64 (q : Int)) := keyOf_int_mk Tryz.underlying3 (WalkArith.wf_i64 (by omega))
        obtain ⟨m5, hm5⟩ : ∃ m5, ps1[c5]? = some m5 := ⟨_, List.getElem?_eq_getElem (by omega)⟩
        have hm5' : (ps1 ++ [⟨⟨p.n.kind, p.n.tag, p.n.words, p.n.attrs, -1, []⟩, .slice a2 p.n.attrs.length c2, .slice none 0 0⟩])[c5]? = some m5 := by rw [List.getElem?_append_left (by omega)]; exact hm5
        have hid5 : (nodesOf ps1 ++ [(⟨p.n.kind, p.n.tag, p.n.words, p.n.attrs, -1, []⟩ : Nd)])[ps1.length]? = some ⟨p.n.kind, p.n.tag, p.n.words, p.n.attrs, -1, []⟩ := by rw [List.getElem?_append_right (by omega), hn1]; simp
        have hm5n : (nodesOf ps1 ++ [(⟨p.n.kind, p.n.tag, p.n.words, p.n.attrs, -1, []⟩ : Nd)])[c5]? = some m5.n := by rw [List.getElem?_append_left (by omega)]; exact nodes_get hm5
        have HPu : Hid (Pushed (nodesOf ps1 ++ [(⟨p.n.kind, p.n.tag, p.n.words, p.n.attrs, -1, []⟩ : Nd)]) ps1.length m5.n.kids.length c5 _) := Pushed.kid hm5n hid5 (by omega) (Nat.le_refl _)
        obtain ⟨la, hla⟩ := H1.out.2.2.1.up c5 _ (nodes_get hm5)
        have hno : ps1.length ∉ la := fun hm => by have := hla.lt _ hm; omega
        have HW3 : Hid (WF _) := HW2.out.pushed (k := m5.n.kids.length) hid5 rfl (by omega) hm5n (hla.ext _) hno
        have HK2 : Hid (KidsFew (nodesOf ps1 ++ [(⟨p.n.kind, p.n.tag, p.n.words, p.n.attrs, -1, []⟩ : Nd)])) := HW2.out.kidsFew
        obtain ⟨nb4, cap4, hnv, hcp4, hmx4, _, hnl4, _⟩ := H3.out.1.form hm5'
        subst hnv
        obtain ⟨ya5, yc5, hkv5, hy51, hy52⟩ := (H3.out.1.node c5 m5 hm5').2.shape
        have f0 := H3.out.1.cell0
        have f5 := (H3.out.1.cellN rfl (f := 5) hm5' (by omega) rfl).1
        rw [hkv5] at f5
        have hB3 : tb ≠ w.heap.size := fun e => by have := H3.out.1.tree; rw [e, H3.out.2.2.1] at this; cases this
        have hB4 : nb4 ≠ w.heap.size := fun e => by
          obtain ⟨g', _, hv', _, _, hM', _⟩ := H3.out.1.nodes.form (by simp)
          cases hv'
          rw [e, H3.out.2.2.1] at hM'
          cases hM'
        have hB5 : wr.heap.size ≠ w.heap.size := by omega
        have hfew5 := H1.out.2.2.1.few (nodes_get hm5)
        have i5 : (0 : Int) ≤ (c5 : Int) := by omega
        have i6 : (c5 : Int) < (ps1.length : Int) + 1 := by omega
        have hlt4 : tb < w3.heap.size := lt_of_heap H3.out.1.head
        unfold maxLen at hmx4 hy52
        have HMM : Hid (ps1[c5]? = some m5) := hm5
        have hidE : Hid ((ps.length : Int) + (k : Int) = (ps1.length : Int)) := (by omega : (ps.length : Int) + (k : Int) = (ps1.length : Int))
        clear hm5 hm5' hid5 hm5n hla hn0 hmem hjg hkv5
        go_wp2_with (first
          | (at_mapUpdate; refine wpList_mapUpdate_own _ rfl _ _ _ 112 rfl 3 3 lawInt Tryz.underlying112 _ w.heap.size k _ rfl H3.out.2.2.2.1 (by unfold maxLen; omega) _ _ _ rfl rfl kc _ [] (plainElem_int Tryz.underlying3 (WalkArith.wf_i64 (by omega))) ?_; intro w4 hown4 hgrow4
             have hcell4 : ∀ b o v, b ≠ w.heap.size → w3.cell? ⟨b, o, none⟩ = some v → w4.cell? ⟨b, o, none⟩ = some v := fun b o v hb hc => (World.cell?_of_block (a := ⟨b, o, none⟩) (hgrow4.block b (World.block_lt_of_cell? w3 _ hc) (fun e => hb (by cases e; rfl)))).trans hc
             have g4 := hcell4 _ _ _ hB5 t4
             have g0 := hcell4 _ _ _ hB3 f0
             have g5 := hcell4 _ _ _ hB4 f5
             have H4 : Hid _ := And.intro hown4 (And.intro (H3.out.1.grownM hgrow4 (fun q hq => by cases hq; exact H3.out.2.2.1)) (H3.out.2.1.grownM hgrow4 (fun q hq => by cases hq; exact Nat.le_refl _)))
             clear hown4 hgrow4 hcell4)
          | (at_lookup; refine wpList_lookup_own_int _ rfl _ _ 112 rfl 3 3 .i64 lawInt Tryz.underlying112 Tryz.underlying3 (zeroIntL _) w.heap.size (k + 1) _ rfl H4.out.1 _ _ rfl kq ?_; intro c4 hat hwc
             have hc4 : c4 = (c5 : Int) := by
               rw [atKey_put_other (fun e => hqc (by injection e)), hat5] at hat
               injection hat with hat
               injection hat with _ hat
               exact hat.symm
             subst hc4
             clear hat hwc)
          | (go_at_call 79; rw [hidE.out]; refine (push_gen H4.out.2.1 (e2.symm ▸ HPu.out) (e2.symm ▸ HK2.out)).mono ?_; rintro e w5 ⟨rfl, M5, ps5, hL5, hn5, hm5⟩; rw [e2] at hn5))
        go_roundw
        case rel =>
          go_light
          refine ⟨k + 1, by omega, by go_num, ?_⟩
          have hs5 := hL5
          have om := own_map_moved H4.out.1 hm5 H3.out.2.2.1
          refine DblXAt.next hL5 (H4.out.2.2.trans hm5) om.2 (by rw [hn5]; exact HW3.out) ?_ ?_ ?_ HND.out ?_ HO.out.isMap om.1 (by omega) HY.out (by rw [hlen]; exact HJ.out)
          · have := congrArg List.length hn5
            simp [nodesOf] at this
            omega
          · rw [hn5, hlen, take_set_far (by omega), take_set_far (by omega)]
            exact HT2.out
          · have h5c := H5C.out
            have hmj : (nodesOf ps1)[(nodesOf ps).length + j]? = some m5.n := by
              rw [hlen, ← h5c]
              exact nodes_get HMM.out
            have := HN1.out.succ (.next (by omega) HY.out HC0.out HJG.out hjk hmj)
            have e9 := set_snoc (s := nodesOf ps1) (b := ⟨p.n.kind, p.n.tag, p.n.words, p.n.attrs, -1, []⟩) (b' := { bareN p.n with parent := ((ps.length + j : Nat) : Int) }) (m' := { m5.n with kids := m5.n.kids ++ [((ps.length + k : Nat) : Int)] }) (c := c5) (by omega)
            rw [hn5]
            rw [hlen, ← h5c] at this
            rw [← h5c, hn1] at e9
            refine Eq.mp (congrArg (DblN _ all (k + 1)) ?_) this
            rw [← e9]
            have e10 : ((ps1.length : Nat) : Int) = ((ps.length + k : Nat) : Int) := by omega
            rw [List.take_length, List.drop_length, e10]
            rfl
          · rw [hn5]
            intro j n hn
            have he : ((nodesOf ps1 ++ [(⟨p.n.kind, p.n.tag, p.n.words, p.n.attrs, -1, []⟩ : Nd)]).map Nd.attrs) = _ := (HPu.out.attrs).symm
            have hj : (((nodesOf ps1 ++ [(⟨p.n.kind, p.n.tag, p.n.words, p.n.attrs, -1, []⟩ : Nd)])).map Nd.attrs)[j]? = some n.attrs := by rw [he, List.getElem?_map, hn]; rfl
            rw [List.getElem?_map] at hj
            obtain ⟨n', h1, h2⟩ := Option.map_eq_some_iff.1 hj
            rw [← h2]
            exact HF2.out j n' h1
        case measure => go_light; simp [intOf]; omega
    · obtain rfl : k = all.length := by omega
      obtain ⟨y, hy⟩ : ∃ y, all[0]? = some y := ⟨_, List.getElem?_eq_getElem h0⟩
      obtain ⟨g, rfl, hgM, hgl, cy⟩ := HCell.out 0 y hy
      obtain ⟨c, rfl, hcl⟩ := HIn.out y (List.mem_of_getElem? hy)
      obtain ⟨M1, nv1, ps1, D, hL1, hm1, hB1, hW1, hl1, ⟨ht1, hN1⟩, hF1, hO1, hJ1⟩ := hD.out
      have cy' := moved_cell hm1 hgM cy
      have HO : Hid (wr.ownsMap Tryz.prog 3 (plainElem (H := Unit) Tryz.prog 3) w.heap.size all.length D) := hO1
      have hat0 : D.atKey (.int .i64 (c : Int)) (.lit (.int .i64 0)) = .lit (.int .i64 (ps.length : Int)) := by
        obtain ⟨c0, e0, _, _, e1⟩ := hJ1 0 _ h0 hy
        rw [e0, e1, hlen]
        rfl
      have HAT0 : Hid _ := hat0
      clear hat0
      have kc : keyOf Tryz.prog 3 (.int .i64 (c : Int)) = some (.int .i64 (c : Int)) := keyOf_int_mk Tryz.underlying3 (WalkArith.wf_i64 (by omega))
      clear hy hL1 hm1 hB1 hW1 hl1 ht1 hF1 hO1 hJ1 cy hN1
      go_wp2_with (at_lookup; refine wpList_lookup_own_int _ rfl _ _ 112 rfl 3 3 .i64 lawInt Tryz.underlying112 Tryz.underlying3 (zeroIntL _) w.heap.size all.length _ rfl HO.out _ _ rfl kc ?_; intro c4 hat hwc; have hc4 : c4 = (ps.length : Int) := (by rw [HAT0.out] at hat; injection hat with hat; injection hat with _ hat; exact hat.symm); subst hc4; clear hat hwc)
      go_ret
      exact ⟨rfl, hD.out⟩
end Go.Proofs.YtoanbjdifddcoaaGreatDoor
