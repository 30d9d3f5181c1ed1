/- The document's answer: new trees and new nodes, and the copy that is kept of what was. -/
import Derived.Test.YtkaeenafejdkfaaGreatDoorM09
import Derived.Test.YtkaeenafejdkfaaGreatDoorM29
import Derived.Deep.RegionLaw
import Derived.Test.YtkaeenafejdkfaaGreatDoorM10
namespace Go.Proofs.YtkaeenafejdkfaaGreatDoor
open Go.RowKit

theorem Tryz.infoRnode : (Tryz.prog.info? 50).map (fun i => (i.zero, i.size, i.bytes)) = some (some (.agg #[.int .i64 0, .string ⟨#[]⟩, .string ⟨#[]⟩, .slice none 0 0, .int .i64 0, .slice none 0 0]), 6, 96) := by kernel_rfl
theorem Tryz.infoRnodes : (Tryz.prog.info? 23).map (fun i => (i.zero, i.size, i.bytes)) = some (some (.slice none 0 0), 1, 24) := by kernel_rfl

/-- how much a tree holds: no list is too long to be copied -/
def Small (ps : List Pn) : Prop := ∀ (j : Nat) (p : Pn), ps[j]? = some p → p.n.attrs.length ≤ 1099511627776 ∧ p.n.kids.length ≤ 1099511627776




/-- a node's copy, as it lies in memory -/
def nodeBox (p : Pn) : Obj := .cells #[.int .i64 p.n.kind, .string p.n.tag, .string p.n.words, p.av, .int .i64 p.n.parent, p.kv] 50

theorem box_set {w : World} {B : Nat} {x0 x1 x2 x3 x4 x5 : Value} {t : TypeId} {fr : Nat × Nat} (h : w.heap[B]? = some (.cells #[x0, x1, x2, x3, x4, x5] t fr)) (v : Value) :
    (w.setCell ⟨B, 3, none⟩ v).heap[B]? = some (.cells #[x0, x1, x2, v, x4, x5] t fr) ∧ (w.setCell ⟨B, 5, none⟩ v).heap[B]? = some (.cells #[x0, x1, x2, x3, x4, v] t fr) :=
  ⟨setCell_heap w B 3 v _ _ _ h, setCell_heap w B 5 v _ _ _ h⟩
theorem box_frozen {w : World} {B : Nat} {cs : Array Value} {t : TypeId} (h : w.heap[B]? = some (.cells cs t (0, 0))) (o : Nat) : w.frozen? ⟨B, o, none⟩ = false := by
  simp [World.frozen?, h]


def CopiedPost (w : World) (e : Ending) (w' : World) : Prop := ∃ a n c, e = .returned (.slice a n c) ∧ Below w.heap.size w w'

set_option maxHeartbeats 8000000 in
set_option maxRecDepth 100000 in
theorem copied_any {EX : Ext} {w : World} {M : Nat → Lab} {tb : Nat} {nv uv : Value} {ps : List Pn} {us : List Value} (h : RLies (EX := EX) w M tb nv uv ps us) (hs : Small ps) (hn : ps.length ≤ 1000000) :
    Calls Tryz.prog 128 #[nv] w (CopiedPost w) := by
  obtain ⟨i0, hi, hz0, hz1, hz2⟩ := info_parts Tryz.infoRnode
  obtain ⟨i1, hi1, hz10, hz11, hz12⟩ := info_parts Tryz.infoAttr
  obtain ⟨i2, hi2, hz20, hz21, hz22⟩ := info_parts Tryz.infoInt
  obtain ⟨a, cap, rfl, hc, hm⟩ := h.nodes.shape
  unfold maxLen at hm
  have H : Hid (∀ (k : Nat) p, ps[k]? = some p → ∃ nb, a = some ⟨nb, 0, none⟩ ∧ nb < w.heap.size ∧ (∀ f c, f < 6 → p.cells[f]? = some c → w.cell? ⟨nb, k * 6 + f, none⟩ = some c) ∧ SrcOf w 2 p.av p.n.attrs.length (attrCells p.n.attrs) ∧ SrcOf w 1 p.kv p.n.kids.length (p.n.kids.map intV) ∧ p.n.attrs.length ≤ 1099511627776 ∧ p.n.kids.length ≤ 1099511627776) := by
    intro k p hp
    obtain ⟨nb, c, hv, _, _, _, hl, _⟩ := h.form hp
    cases hv
    exact ⟨nb, rfl, hl, fun f c hf hc => (h.cellN rfl hp hf hc).1, (h.node k p hp).1.src (one_attr _), (h.node k p hp).2.src (one_int _), hs k p hp⟩
  clear h hs
  go_enter Tryz.func128, Tryz.ntmps128
  go_wp2
  go_loopw [3, 4] (fun out i wr => ∃ k : Nat, k ≤ ps.length ∧ i = .int .i64 k ∧ Hid (∃ xs, wr.ownsRow w.heap.size 50 6 out k xs) ∧ Hid (Below w.heap.size w wr)) (fun _ i _ => ps.length - (intOf i).toNat)
  case atStart => exact ⟨0, by omega, rfl, ⟨[], World.ownsRow_nil _ _ _ _⟩, Below.refl _ _⟩
  case round =>
    obtain ⟨k, hk, rfl, hown, hbel⟩ := hrel
    by_cases hlt : k < ps.length
    · obtain ⟨p, hp⟩ : ∃ p, ps[k]? = some p := ⟨_, List.getElem?_eq_getElem hlt⟩
      obtain ⟨nb, rfl, hnb, hcell, hsa, hsk, hla, hlk⟩ := H.out k p hp
      obtain ⟨xs, hxs⟩ := hown.out
      have HS : Hid (SrcOf w 2 p.av p.n.attrs.length (attrCells p.n.attrs) ∧ SrcOf w 1 p.kv p.n.kids.length (p.n.kids.map intV)) := ⟨hsa, hsk⟩
      obtain ⟨_, _, aa, ac, hav, _⟩ := hsa
      obtain ⟨_, _, ka, kc, hkv, _⟩ := hsk
      have cc : ∀ f c, f < 6 → p.cells[f]? = some c → wr.cell? ⟨nb, k * 6 + f, none⟩ = some c := fun f c hf hc => (hbel.out.cell (p := ⟨nb, k * 6 + f, none⟩) hnb).trans (hcell f c hf hc)
      have c0 := cc 0 _ (by omega) rfl
      rw [Nat.add_zero] at c0
      have c1 := cc 1 _ (by omega) rfl
      have c2 := cc 2 _ (by omega) rfl
      have c3 := cc 3 _ (by omega) rfl
      have c4 := cc 4 _ (by omega) rfl
      have c5 := cc 5 _ (by omega) rfl
      rw [hav] at c3
      rw [hkv] at c5
      have HO : Hid (wr.ownsRow w.heap.size 50 6 u3 k xs) := hxs
      have hsz := hbel.out.size
      have hnl := Nat.lt_of_lt_of_le hnb hsz
      obtain ⟨pn, pav, pkv⟩ := p
      dsimp only at hav hkv
      subst hav
      subst hkv
      dsimp only at c0 c1 c2 c3 c4 c5 hla hlk HS
      clear cc hcell hp hown hxs
      go_wp2_with (first
        | (at_builtin; refine wpList_app_own _ (by rfl) _ _ 47 (by rfl) wr.heap.size 81 i1 _ 2 32 Tryz.underlying47 hi1 hz10 hz11 hz12 rfl (by decide) (.slice none 0 0) 0 [] (by rfl) (World.ownsRow_nil _ _ _ _) (.slice aa pn.attrs.length ac) pn.attrs.length (attrCells pn.attrs) (by rfl) (HS.out.1.below (hbel.out.alloc hsz _)) (by unfold maxLen; omega) (by omega) (by simp) ?_
           intro v1 w1 hv1 hg1 _
           have hb1 := (below_grown hg1).block wr.heap.size (by simp)
           rw [heap_alloc_new wr] at hb1
           obtain ⟨d0, d1, d2, d3, d4, d5⟩ := six_cells hb1
           have df3 := box_frozen hb1 3
           rw [Nat.zero_add] at hv1
           obtain ⟨a1, e1, rfl⟩ := own_shape hv1
           obtain ⟨s0, s1, s2, s3, s4, s5⟩ := six_cells (box_set hb1 (.slice a1 pn.attrs.length e1)).1
           have HB1 : Hid (Below wr.heap.size wr w1) := ((Below.refl wr.heap.size wr).alloc (Nat.le_refl _) _).trans ((below_grown hg1).mono (by simp))
           have HX1 : Hid _ := (box_set hb1 (.slice a1 pn.attrs.length e1)).1
           clear hv1 hg1 hb1)
        | (at_builtin; refine wpList_app_own _ (by rfl) _ _ 48 (by rfl) wr.heap.size 3 i2 _ 1 8 Tryz.underlying48 hi2 hz20 hz21 hz22 rfl (by decide) (.slice none 0 0) 0 [] (by rfl) (World.ownsRow_nil _ _ _ _) (.slice ka pn.kids.length kc) pn.kids.length (pn.kids.map intV) (by rfl) (HS.out.2.below (hbel.out.trans ((HB1.out.setCell (Nat.le_refl _) _).mono hsz))) (by unfold maxLen; omega) (by omega) (by simpa using HB1.out.size) ?_
           intro v2 w2 hv2 hg2 _
           have hlx : wr.heap.size < w1.heap.size := World.block_lt_of_cell? w1 _ d0
           have hb2 := (below_grown hg2).block wr.heap.size (by simpa using hlx)
           rw [HX1.out] at hb2
           obtain ⟨t0, t1, t2, t3, t4, t5⟩ := six_cells hb2
           have df5 := box_frozen hb2 5
           rw [Nat.zero_add] at hv2
           obtain ⟨a2, e2, rfl⟩ := own_shape hv2
           obtain ⟨r0, r1, r2, r3, r4, r5⟩ := six_cells (box_set hb2 (.slice a2 pn.kids.length e2)).2
           have HB2 : Hid (Below wr.heap.size wr (w2.setCell ⟨wr.heap.size, 5, none⟩ (.slice a2 pn.kids.length e2))) := ((HB1.out.setCell (Nat.le_refl _) _).trans ((below_grown hg2).mono (by simpa using HB1.out.size))).setCell (Nat.le_refl _) _
           clear hv2 hg2 hb2)
        | (at_builtin; refine wpList_app_own _ (by rfl) _ _ 23 (by rfl) w.heap.size 50 i0 _ 6 96 Tryz.underlying23 hi hz0 hz1 hz2 rfl (by decide) u3 k xs (by rfl) ((own_below HO.out HB2.out (Nat.le_refl _)).alloc _) _ 1 [.int .i64 pn.kind, .string pn.tag, .string pn.words, .slice a1 pn.attrs.length e1, .int .i64 pn.parent, .slice a2 pn.kids.length e2] (by rfl) ⟨rfl, by simp [Value.oneCell'], _, _, rfl, .inr ⟨_, rfl, news_new _ #[.int .i64 pn.kind, .string pn.tag, .string pn.words, .slice a1 pn.attrs.length e1, .int .i64 pn.parent, .slice a2 pn.kids.length e2] 50 _ (by simp)⟩⟩ (by unfold maxLen; omega) (by omega) (by have := HB2.out.size; simp at this ⊢; omega) ?_
           intro v3 w3 hv3 hg3 hat3
           have HV : Hid (w3.ownsRow w.heap.size 50 6 v3 (k + 1) (xs ++ [.int .i64 pn.kind, .string pn.tag, .string pn.words, .slice a1 pn.attrs.length e1, .int .i64 pn.parent, .slice a2 pn.kids.length e2])) := hv3
           have HB3 : Hid (Below w.heap.size w w3) := ((hbel.out.trans (HB2.out.mono hsz)).alloc (Nat.le_trans hsz HB2.out.size) _).grown hg3 (by have := HB2.out.size; simp at this ⊢; omega) (fun b hb => (HO.out.lt b hb).1)
           clear hv3 hg3 hat3))
      go_roundw
      case rel => go_light; exact ⟨k + 1, by omega, by go_num, ⟨_, HV.out⟩, HB3⟩
      case measure => go_light; simp [intOf]; omega
    · obtain ⟨xs, hxs⟩ := hown.out
      obtain ⟨a3, c3, rfl⟩ : ∃ a3 c3, u3 = .slice a3 k c3 := by
        rcases hxs.2 with ⟨rfl, rfl⟩ | ⟨g, cap, cur, rfl, _⟩
        · exact ⟨none, 0, rfl⟩
        · exact ⟨_, _, rfl⟩
      go_wp2
      go_ret
      exact ⟨_, _, _, rfl, hbel.out⟩
end Go.Proofs.YtkaeenafejdkfaaGreatDoor

/- The document's answer: the copy that is kept of a tree's nodes, and what it holds. -/
namespace Go.Proofs.YtkaeenafejdkfaaGreatDoor
open Go.RowKit

/-- a row of a call's own, under a label -/
theorem own_row {w : World} {L : Nat → Lab} {l : Lab} {B : Nat} {e : TypeId} {size n : Nat} {v : Value} {xs : List Value} (h : w.ownsRow B e size v n xs) (hL : ∀ g, v.ownBlock = some g → L g = l) : Row w L l e size v n xs := by
  rcases h.2 with ⟨rfl, rfl⟩ | ⟨g, cap, cur, rfl, _, hg, h1, h2, h3, h4⟩
  · exact ⟨h.1, none, 0, rfl, Nat.le_refl _, by unfold maxLen; omega, .inl ⟨rfl, .inl rfl⟩⟩
  · exact ⟨h.1, _, _, rfl, h1, h2, .inr ⟨g, cur, rfl, hL g rfl, hg, by omega, h4⟩⟩

/-- a list of nodes with rows of its own -/
def KeptCopy (w : World) (L : Nat → Lab) (v : Value) (ns : List Nd) : Prop :=
  ∃ qs, nodesOf qs = ns ∧ (∀ b, w.heap.size ≤ b → L b = .other) ∧ Row w L .nodes 50 6 v qs.length (flat qs) ∧
    ∀ i p, qs[i]? = some p → Row w L (.attrs i) 81 2 p.av p.n.attrs.length (attrCells p.n.attrs) ∧ Row w L (.kids i) 3 1 p.kv p.n.kids.length (p.n.kids.map intV)

theorem KeptCopy.keep {w w' : World} {L : Nat → Lab} {v : Value} {ns : List Nd} (h : KeptCopy w L v ns) (hs : w.heap.size ≤ w'.heap.size) (hb : ∀ b, b < w.heap.size → L b ≠ .other → w'.heap[b]? = w.heap[b]?) : KeptCopy w' L v ns := by
  obtain ⟨qs, h1, h2, h3, h4⟩ := h
  refine ⟨qs, h1, fun b hb' => h2 b (by omega), h3.keep (fun b hb' e => hb b hb' (by rw [e]; intro e; cases e)) (fun _ _ => rfl), fun i p hp => ⟨?_, ?_⟩⟩
  · exact (h4 i p hp).1.keep (fun b hb' e => hb b hb' (by rw [e]; intro e; cases e)) (fun _ _ => rfl)
  · exact (h4 i p hp).2.keep (fun b hb' e => hb b hb' (by rw [e]; intro e; cases e)) (fun _ _ => rfl)

/-- so many nodes are copied -/
def CopyR (w : World) (ps : List Pn) (k : Nat) (out : Value) (wr : World) : Prop :=
  ∃ qs L, qs.length = k ∧ nodesOf qs = (nodesOf ps).take k ∧ wr.ownsRow w.heap.size 50 6 out k (flat qs) ∧ (∀ b, L b ≠ .other → w.heap.size ≤ b ∧ b < wr.heap.size) ∧ (∀ b, out.ownBlock = some b → L b = .other) ∧
    ∀ i p, qs[i]? = some p → Row wr L (.attrs i) 81 2 p.av p.n.attrs.length (attrCells p.n.attrs) ∧ Row wr L (.kids i) 3 1 p.kv p.n.kids.length (p.n.kids.map intV)

theorem CopyR.own {w wr : World} {ps : List Pn} {k : Nat} {out : Value} (h : CopyR w ps k out wr) : ∃ xs, wr.ownsRow w.heap.size 50 6 out k xs := by
  obtain ⟨qs, L, _, _, h3, _⟩ := h
  exact ⟨_, h3⟩
theorem CopyR.nil (w : World) (ps : List Pn) : CopyR w ps 0 (.slice none 0 0) w :=
  ⟨[], fun _ => .other, rfl, rfl, World.ownsRow_nil _ _ _ _, fun _ h => absurd rfl h, fun _ _ => rfl, fun i p hp => by simp at hp⟩

/-- all of them are -/
theorem CopyR.done {w wr : World} {ps : List Pn} {out : Value} (h : CopyR w ps ps.length out wr) : ∃ L, KeptCopy wr L out (nodesOf ps) ∧ ∀ b, L b ≠ .other → w.heap.size ≤ b := by
  obtain ⟨qs, L, h1, h2, h3, h4, h5, h6⟩ := h
  have hlt := h3.lt
  refine ⟨fun b => if out.ownBlock = some b then .nodes else L b, ⟨qs, ?_, ?_, ?_, ?_⟩, ?_⟩
  · rw [h2]; exact List.take_of_length_le (by simp [nodesOf])
  · intro b hb
    have e1 : ¬ out.ownBlock = some b := fun e => by have := (hlt b e).2; omega
    simp only [if_neg e1]
    by_cases e : L b = .other
    · exact e
    · have := (h4 b e).2; omega
  · rw [h1]
    exact own_row h3 (fun g hg => by simp only [if_pos hg])
  · have kp : ∀ {l : Lab} {e : TypeId} {size n : Nat} {v : Value} {xs : List Value}, l ≠ .other → Row wr L l e size v n xs → Row wr (fun b => if out.ownBlock = some b then .nodes else L b) l e size v n xs := by
      intro l e size n v xs hl hr
      obtain ⟨hlen, a, cap, rfl, k1, k2, k3⟩ := hr
      refine ⟨hlen, a, cap, rfl, k1, k2, ?_⟩
      rcases k3 with k3 | ⟨g, cur, rfl, hM, hg, k4, k5⟩
      · exact .inl k3
      · refine .inr ⟨g, cur, rfl, ?_, hg, k4, k5⟩
        have e1 : ¬ out.ownBlock = some g := fun e => hl (hM.symm.trans (h5 g e))
        simp only [if_neg e1]
        exact hM
    intro i p hp
    exact ⟨kp (by intro e; cases e) (h6 i p hp).1, kp (by intro e; cases e) (h6 i p hp).2⟩
  · intro b hb
    by_cases e1 : out.ownBlock = some b
    · exact (hlt b e1).1
    · simp only [if_neg e1] at hb
      exact (h4 b hb).1

/-- one more -/
theorem CopyR.step {w wr w1 w2 w3 : World} {ps : List Pn} {k : Nat} {out v1 v2 v3 : Value} {pn : Nd} {av kv : Value} {xs : List Value} (h : CopyR w ps k out wr) (hsz : w.heap.size ≤ wr.heap.size) (hp : ps[k]? = some ⟨pn, av, kv⟩) {o1 o2 : Obj}
    (hv1 : w1.ownsRow (wr.heap.size + 1) 81 2 v1 pn.attrs.length (attrCells pn.attrs)) (g1 : (wr.alloc o1).grownBy w1 none)
    (hv2 : w2.ownsRow w1.heap.size 3 1 v2 pn.kids.length (pn.kids.map intV)) (g2 : (w1.setCell ⟨wr.heap.size, 3, none⟩ v1).grownBy w2 none)
    (hx : wr.ownsRow w.heap.size 50 6 out k xs)
    (hv3 : w3.ownsRow w.heap.size 50 6 v3 (k + 1) (xs ++ [.int .i64 pn.kind, .string pn.tag, .string pn.words, v1, .int .i64 pn.parent, v2])) (g3 : ((w2.setCell ⟨wr.heap.size, 5, none⟩ v2).alloc o2).grownBy w3 out.ownBlock)
    (hat : v3.ownBlock = out.ownBlock ∨ v3.ownBlock = some ((w2.setCell ⟨wr.heap.size, 5, none⟩ v2).alloc o2).heap.size) : CopyR w ps (k + 1) v3 w3 := by
  obtain ⟨qs, L, h1, h2, h3, h4, h5, h6⟩ := h
  have exs : xs = flat qs := by
    rcases hx.2 with ⟨e1, e2⟩ | ⟨g, cap, cur, e1, _, k1, _, _, _, k2⟩
    · rcases h3.2 with ⟨_, _⟩ | ⟨g', cap', cur', e1', _⟩
      · have a1 := hx.1
        have a2 := h3.1
        subst e2
        have z1 : xs = [] := List.eq_nil_of_length_eq_zero (by simpa using a1)
        have z2 : flat qs = [] := List.eq_nil_of_length_eq_zero (by simpa using a2)
        rw [z1, z2]
      · rw [e1] at e1'; cases e1'
    · rcases h3.2 with ⟨e1', _⟩ | ⟨g', cap', cur', e1', _, k1', _, _, _, k2'⟩
      · rw [e1] at e1'; cases e1'
      · rw [e1] at e1'
        cases e1'
        rw [k1] at k1'
        cases k1'
        rw [← k2, ← k2']
  subst exs
  have s1 : wr.heap.size + 1 ≤ w1.heap.size := by have := g1.size; simpa using this
  have s2 : w1.heap.size ≤ w2.heap.size := by have := g2.size; simpa [World.setCell] using this
  have s3 : w2.heap.size + 1 ≤ w3.heap.size := by have := g3.size; simpa [World.setCell] using this
  have hol : ∀ b, out.ownBlock = some b → w.heap.size ≤ b ∧ b < wr.heap.size := h3.lt
  -- what stays
  have T3 : ∀ b, b < w2.heap.size → b ≠ wr.heap.size → out.ownBlock ≠ some b → w3.heap[b]? = w2.heap[b]? := by
    intro b hb hne ho
    rw [g3.block b (by simp [World.setCell]; omega) (fun e => ho e.symm), Below.heap_alloc _ _ b (by simpa [World.setCell] using hb)]
    exact Below.heap_setCell w2 _ _ b (by show b ≠ wr.heap.size; exact hne)
  have T2 : ∀ b, b < w1.heap.size → b ≠ wr.heap.size → w2.heap[b]? = w1.heap[b]? := by
    intro b hb hne
    rw [g2.block b (by simpa [World.setCell] using hb) (fun e => by cases e)]
    exact Below.heap_setCell w1 _ _ b (by show b ≠ wr.heap.size; exact hne)
  have T1 : ∀ b, b < wr.heap.size → w1.heap[b]? = wr.heap[b]? := by
    intro b hb
    rw [g1.block b (by simp; omega) (fun e => by cases e)]
    exact Below.heap_alloc _ _ b hb
  have B1 := hv1.lt
  have B2 := hv2.lt
  have ow1 : w3.ownsRow (wr.heap.size + 1) 81 2 v1 pn.attrs.length (attrCells pn.attrs) := own_same hv1 fun b hb => by
    obtain ⟨c1, c2⟩ := B1 b hb
    rw [T3 b (by omega) (by omega) (fun e => by have := (hol b e).2; omega), T2 b c2 (by omega)]
  have ow2 : w3.ownsRow w1.heap.size 3 1 v2 pn.kids.length (pn.kids.map intV) := own_same hv2 fun b hb => by
    obtain ⟨c1, c2⟩ := B2 b hb
    rw [T3 b c2 (by omega) (fun e => by have := (hol b e).2; omega)]
  let L' : Nat → Lab := fun b => if v1.ownBlock = some b then .attrs k else if v2.ownBlock = some b then .kids k else L b
  have old : ∀ b, b < wr.heap.size → L' b = L b := by
    intro b hb
    have e1 : ¬ v1.ownBlock = some b := fun e => by have := (B1 b e).1; omega
    have e2 : ¬ v2.ownBlock = some b := fun e => by have := (B2 b e).1; omega
    simp only [L', if_neg e1, if_neg e2]
  have b3 : ∀ b, v3.ownBlock = some b → w.heap.size ≤ b ∧ (b < wr.heap.size ∧ out.ownBlock = some b ∨ w2.heap.size ≤ b) := by
    intro b hb
    refine ⟨(hv3.lt b hb).1, ?_⟩
    rcases hat with e | e
    · rw [hb] at e; exact .inl ⟨(hol b e.symm).2, e.symm⟩
    · rw [hb] at e; cases e; right; simp [World.setCell]
  refine ⟨qs ++ [⟨pn, v1, v2⟩], L', by simp [h1], ?_, ?_, ?_, ?_, ?_⟩
  · rw [List.take_add_one, ← h2, nodes_get hp]
    simp [nodesOf]
  · rw [flat_append]; exact hv3
  · intro b hb
    by_cases e1 : v1.ownBlock = some b
    · have := B1 b e1; omega
    · by_cases e2 : v2.ownBlock = some b
      · have := B2 b e2; omega
      · simp only [L', if_neg e1, if_neg e2] at hb
        have := h4 b hb; omega
  · intro b hb
    rcases (b3 b hb).2 with ⟨c1, c2⟩ | c1
    · rw [old b c1]; exact h5 b c2
    · have e1 : ¬ v1.ownBlock = some b := fun e => by have := (B1 b e).2; omega
      have e2 : ¬ v2.ownBlock = some b := fun e => by have := (B2 b e).2; omega
      simp only [L', if_neg e1, if_neg e2]
      by_cases e : L b = .other
      · exact e
      · have := (h4 b e).2; omega
  · intro i p hpp
    by_cases hi : i < qs.length
    · rw [List.getElem?_append_left hi] at hpp
      have kp : ∀ {l : Lab} {e : TypeId} {size n : Nat} {v : Value} {xs : List Value}, l ≠ .other → Row wr L l e size v n xs → Row w3 L' l e size v n xs := by
        intro l e size n v xs hl hr
        refine hr.keep (fun b hb e => ?_) old
        have e3 : out.ownBlock ≠ some b := fun e' => hl (e.symm.trans (h5 b e'))
        rw [T3 b (by omega) (by omega) e3, T2 b (by omega) (by omega), T1 b hb]
      exact ⟨kp (by intro e; cases e) (h6 i p hpp).1, kp (by intro e; cases e) (h6 i p hpp).2⟩
    · rw [List.getElem?_append_right (by omega)] at hpp
      have e0 : i - qs.length = 0 := by
        rcases Nat.eq_zero_or_pos (i - qs.length) with e | e
        · exact e
        · rw [List.getElem?_eq_none (by simp; omega)] at hpp; cases hpp
      rw [e0] at hpp
      cases hpp
      obtain rfl : i = k := by omega
      refine ⟨own_row ow1 (fun g hg => ?_), own_row ow2 (fun g hg => ?_)⟩
      · simp only [L', if_pos hg]
      · have e1 : ¬ v1.ownBlock = some g := fun e => by have a := (B1 g e).2; have b := (B2 g hg).1; omega
        simp only [L', if_neg e1, if_pos hg]

def CopiedE (w : World) (ns : List Nd) (e : Ending) (w' : World) : Prop := ∃ a n c, e = .returned (.slice a n c) ∧ Below w.heap.size w w' ∧ ∃ L, KeptCopy w' L (.slice a n c) ns ∧ ∀ b, L b ≠ .other → w.heap.size ≤ b

set_option maxHeartbeats 8000000 in
set_option maxRecDepth 100000 in
theorem copiedE_any {EX : Ext} {w : World} {M : Nat → Lab} {tb : Nat} {nv uv : Value} {ps : List Pn} {us : List Value} (h : RLies (EX := EX) w M tb nv uv ps us) (hs : Small ps) (hn : ps.length ≤ 1000000) :
    Calls Tryz.prog 128 #[nv] w (CopiedE w (nodesOf ps)) := by
  obtain ⟨i0, hi, hz0, hz1, hz2⟩ := info_parts Tryz.infoRnode
  obtain ⟨i1, hi1, hz10, hz11, hz12⟩ := info_parts Tryz.infoAttr
  obtain ⟨i2, hi2, hz20, hz21, hz22⟩ := info_parts Tryz.infoInt
  obtain ⟨a, cap, rfl, hc, hm⟩ := h.nodes.shape
  unfold maxLen at hm
  have H : Hid (∀ (k : Nat) p, ps[k]? = some p → ∃ nb, a = some ⟨nb, 0, none⟩ ∧ nb < w.heap.size ∧ (∀ f c, f < 6 → p.cells[f]? = some c → w.cell? ⟨nb, k * 6 + f, none⟩ = some c) ∧ SrcOf w 2 p.av p.n.attrs.length (attrCells p.n.attrs) ∧ SrcOf w 1 p.kv p.n.kids.length (p.n.kids.map intV) ∧ p.n.attrs.length ≤ 1099511627776 ∧ p.n.kids.length ≤ 1099511627776) := by
    intro k p hp
    obtain ⟨nb, c, hv, _, _, _, hl, _⟩ := h.form hp
    cases hv
    exact ⟨nb, rfl, hl, fun f c hf hc => (h.cellN rfl hp hf hc).1, (h.node k p hp).1.src (one_attr _), (h.node k p hp).2.src (one_int _), hs k p hp⟩
  clear h hs
  go_enter Tryz.func128, Tryz.ntmps128
  go_wp2
  go_loopw [3, 4] (fun out i wr => ∃ k : Nat, k ≤ ps.length ∧ i = .int .i64 k ∧ Hid (CopyR w ps k out wr) ∧ Hid (Below w.heap.size w wr)) (fun _ i _ => ps.length - (intOf i).toNat)
  case atStart => exact ⟨0, by omega, rfl, CopyR.nil w ps, Below.refl _ _⟩
  case round =>
    obtain ⟨k, hk, rfl, hown, hbel⟩ := hrel
    by_cases hlt : k < ps.length
    · obtain ⟨p, hp⟩ : ∃ p, ps[k]? = some p := ⟨_, List.getElem?_eq_getElem hlt⟩
      obtain ⟨nb, rfl, hnb, hcell, hsa, hsk, hla, hlk⟩ := H.out k p hp
      obtain ⟨xs, hxs⟩ := hown.out.own
      have HS : Hid (SrcOf w 2 p.av p.n.attrs.length (attrCells p.n.attrs) ∧ SrcOf w 1 p.kv p.n.kids.length (p.n.kids.map intV)) := ⟨hsa, hsk⟩
      obtain ⟨_, _, aa, ac, hav, _⟩ := hsa
      obtain ⟨_, _, ka, kc, hkv, _⟩ := hsk
      have cc : ∀ f c, f < 6 → p.cells[f]? = some c → wr.cell? ⟨nb, k * 6 + f, none⟩ = some c := fun f c hf hc => (hbel.out.cell (p := ⟨nb, k * 6 + f, none⟩) hnb).trans (hcell f c hf hc)
      have c0 := cc 0 _ (by omega) rfl
      rw [Nat.add_zero] at c0
      have c1 := cc 1 _ (by omega) rfl
      have c2 := cc 2 _ (by omega) rfl
      have c3 := cc 3 _ (by omega) rfl
      have c4 := cc 4 _ (by omega) rfl
      have c5 := cc 5 _ (by omega) rfl
      rw [hav] at c3
      rw [hkv] at c5
      have HO : Hid (wr.ownsRow w.heap.size 50 6 u3 k xs) := hxs
      have hsz := hbel.out.size
      have hnl := Nat.lt_of_lt_of_le hnb hsz
      obtain ⟨pn, pav, pkv⟩ := p
      dsimp only at hav hkv
      subst hav
      subst hkv
      dsimp only at c0 c1 c2 c3 c4 c5 hla hlk HS
      have HP : Hid _ := hp
      clear cc hcell hp hxs
      go_wp2_with (first
        | (at_builtin; refine wpList_app_own _ (by rfl) _ _ 47 (by rfl) (wr.heap.size + 1) 81 i1 _ 2 32 Tryz.underlying47 hi1 hz10 hz11 hz12 rfl (by decide) (.slice none 0 0) 0 [] (by rfl) (World.ownsRow_nil _ _ _ _) (.slice aa pn.attrs.length ac) pn.attrs.length (attrCells pn.attrs) (by rfl) (HS.out.1.below (hbel.out.alloc hsz _)) (by unfold maxLen; omega) (by omega) (by simp) ?_
           intro v1 w1 hv1 hg1 _
           have hb1 := (below_grown hg1).block wr.heap.size (by simp)
           rw [heap_alloc_new wr] at hb1
           obtain ⟨d0, d1, d2, d3, d4, d5⟩ := six_cells hb1
           have df3 := box_frozen hb1 3
           rw [Nat.zero_add] at hv1
           obtain ⟨a1, e1, rfl⟩ := own_shape hv1
           obtain ⟨s0, s1, s2, s3, s4, s5⟩ := six_cells (box_set hb1 (.slice a1 pn.attrs.length e1)).1
           have HB1 : Hid (Below wr.heap.size wr w1) := ((Below.refl wr.heap.size wr).alloc (Nat.le_refl _) _).trans ((below_grown hg1).mono (by simp))
           have HX1 : Hid _ := (box_set hb1 (.slice a1 pn.attrs.length e1)).1
           have HG1 : Hid _ := And.intro hv1 hg1
           clear hv1 hg1 hb1)
        | (at_builtin; refine wpList_app_own _ (by rfl) _ _ 48 (by rfl) w1.heap.size 3 i2 _ 1 8 Tryz.underlying48 hi2 hz20 hz21 hz22 rfl (by decide) (.slice none 0 0) 0 [] (by rfl) (World.ownsRow_nil _ _ _ _) (.slice ka pn.kids.length kc) pn.kids.length (pn.kids.map intV) (by rfl) (HS.out.2.below (hbel.out.trans ((HB1.out.setCell (Nat.le_refl _) _).mono hsz))) (by unfold maxLen; omega) (by omega) (by simp [World.setCell]) ?_
           intro v2 w2 hv2 hg2 _
           have hlx : wr.heap.size < w1.heap.size := World.block_lt_of_cell? w1 _ d0
           have hb2 := (below_grown hg2).block wr.heap.size (by simpa using hlx)
           rw [HX1.out] at hb2
           obtain ⟨t0, t1, t2, t3, t4, t5⟩ := six_cells hb2
           have df5 := box_frozen hb2 5
           rw [Nat.zero_add] at hv2
           obtain ⟨a2, e2, rfl⟩ := own_shape hv2
           obtain ⟨r0, r1, r2, r3, r4, r5⟩ := six_cells (box_set hb2 (.slice a2 pn.kids.length e2)).2
           have HB2 : Hid (Below wr.heap.size wr (w2.setCell ⟨wr.heap.size, 5, none⟩ (.slice a2 pn.kids.length e2))) := ((HB1.out.setCell (Nat.le_refl _) _).trans ((below_grown hg2).mono (by simpa using HB1.out.size))).setCell (Nat.le_refl _) _
           have HG2 : Hid _ := And.intro hv2 hg2
           clear hv2 hg2 hb2)
        | (at_builtin; refine wpList_app_own _ (by rfl) _ _ 23 (by rfl) w.heap.size 50 i0 _ 6 96 Tryz.underlying23 hi hz0 hz1 hz2 rfl (by decide) u3 k xs (by rfl) ((own_below HO.out HB2.out (Nat.le_refl _)).alloc _) _ 1 [.int .i64 pn.kind, .string pn.tag, .string pn.words, .slice a1 pn.attrs.length e1, .int .i64 pn.parent, .slice a2 pn.kids.length e2] (by rfl) ⟨rfl, by simp [Value.oneCell'], _, _, rfl, .inr ⟨_, rfl, news_new _ #[.int .i64 pn.kind, .string pn.tag, .string pn.words, .slice a1 pn.attrs.length e1, .int .i64 pn.parent, .slice a2 pn.kids.length e2] 50 _ (by simp)⟩⟩ (by unfold maxLen; omega) (by omega) (by have := HB2.out.size; simp at this ⊢; omega) ?_
           intro v3 w3 hv3 hg3 hat3
           have HV : Hid (w3.ownsRow w.heap.size 50 6 v3 (k + 1) (xs ++ [.int .i64 pn.kind, .string pn.tag, .string pn.words, .slice a1 pn.attrs.length e1, .int .i64 pn.parent, .slice a2 pn.kids.length e2])) := hv3
           have HB3 : Hid (Below w.heap.size w w3) := ((hbel.out.trans (HB2.out.mono hsz)).alloc (Nat.le_trans hsz HB2.out.size) _).grown hg3 (by have := HB2.out.size; simp at this ⊢; omega) (fun b hb => (HO.out.lt b hb).1)
           have HG3 : Hid _ := And.intro hv3 (And.intro hg3 hat3)
           clear hv3 hg3 hat3))
      go_roundw
      case rel => go_light; exact ⟨k + 1, by omega, by go_num, CopyR.step hown.out hsz HP.out HG1.out.1 HG1.out.2 HG2.out.1 HG2.out.2 HO.out HG3.out.1 HG3.out.2.1 HG3.out.2.2, HB3⟩
      case measure => go_light; simp [intOf]; omega
    · obtain ⟨xs, hxs⟩ := hown.out.own
      obtain rfl : k = ps.length := by omega
      obtain ⟨a3, c3, rfl⟩ := own_shape hxs
      go_wp2
      go_ret
      exact ⟨_, _, _, rfl, hbel.out, hown.out.done⟩
end Go.Proofs.YtkaeenafejdkfaaGreatDoor

/- The document's answer: what is kept of what was; new nodes. -/
namespace Go.Proofs.YtkaeenafejdkfaaGreatDoor
open Go.RowKit

section
variable {P : Program}
/-- a call of a function that has a body -/
theorem run_enter {f : FuncId} {fn : Func} {c : Code} (hf : P.funcs[f]? = some fn) (hname : (fn.name == "runtime.NumGoroutine") = false) (hb : fn.body = some c) (args : Array Value) (w : World) :
    (callFunc f args).run P w = .ok (.enter f args) w := by
  have h1 : fn.name ≠ "runtime.NumGoroutine" := by simpa using hname
  simp [callFunc, Sem.run_bind, hf, h1, hb]

/-- a call of a function at a step of a region that draws its order -/
theorem step_call (w : World) {ops : Array Oper} {o : Oper} {a : Act} {K : Act → World → Prop} {Q : Exit → Act → World → Prop} {E : Prop} (hgd : o.guard = none) (f : FuncId) (xs : List Operand) (ts : Array TypeId)
    (ho : o.op = .call { callee := .value (.func f), args := xs.toArray, argTypes := ts }) {fn : Func} {c : Code} (hf : P.funcs[f]? = some fn) (hname : (fn.name == "runtime.NumGoroutine") = false) (hb : fn.body = some c)
    (xv : List Value) (hx : xs.map a.eval = xv) {R : Ending → World → Prop} (h : Calls P f xv.toArray w R)
    (hR : ∀ e w', R e w' → ∃ v, e = .returned v ∧ K (a.put o.dst v) w') :
    if Region.wanted o (yielded ops a.tmps) = true then Oper.wp P o a w K Q else E := by
  have hw : Region.wanted o (yielded ops a.tmps) = true := by simp [Region.wanted, hgd]
  rw [if_pos hw]
  unfold Oper.wp execOp
  have hr : ∀ w, (Deferred.ofValue (a.eval (Operand.func f)) xv.toArray).run P w = .ok ⟨.fn (.func f) #[], xv.toArray⟩ w := fun w => by
    simp [go_sem, Deferred.ofValue, Act.eval]
  simp only [ho, resolve, invoke, Sem.run_bind, List.map_toArray, hx, hr, Result.andThen_ok, run_enter hf hname hb, Array.append_empty]
  rw [Oper.upon_enter]
  refine h.mono fun e w' hRe => ?_
  obtain ⟨v, rfl, hv⟩ := hR e w' hRe
  exact hv
end

/-- what was is kept -/
def RKept {EX : Ext} (w : World) (M : Nat → Lab) (tb : Nat) (nv : Value) (ps : List Pn) (us : List Value) (e : Ending) (w' : World) : Prop :=
  e = .returned (.tuple #[]) ∧ ∃ M' uv' v, RLies (EX := EX) w' M' tb nv uv' ps (us ++ [v]) ∧ Moved w M w' M'

set_option maxHeartbeats 4000000 in
set_option maxRecDepth 100000 in
theorem rkeep_any {EX : Ext} {w : World} {M : Nat → Lab} {tb : Nat} {nv uv : Value} {ps : List Pn} {us : List Value} (h : RLies (EX := EX) w M tb nv uv ps us) (hs : Small ps) (hn : ps.length ≤ 1000000) (hu : us.length ≤ 1000000000) :
    Calls Tryz.prog 92 #[.pointer (some ⟨tb, 0, none⟩)] w (RKept (EX := EX) w M tb nv ps us) := by
  obtain ⟨i0, hi, hz0, hz1, hz2⟩ := info_parts Tryz.infoRnodes
  obtain ⟨a, cap, ha, hc, hm⟩ := h.undos.shape
  subst ha
  have c0 := h.cell0
  have c1 := h.cell1
  have hlt : tb < w.heap.size := lt_of_heap h.head
  have H : Hid (RLies (EX := EX) w M tb nv (.slice a us.length cap) ps us) := h
  have HS : Hid (Small ps) := hs
  clear h hs
  go_enter Tryz.func92, Tryz.ntmps92
  go_wp2
  go_region_law ((first
    | (refine step_call _ (by rfl) 128 [.tmp 10] #[23] (by rfl) Tryz.func128 (by kernel_rfl) (by rfl) [nv] (by simp [Act.eval]) (copied_any H.out.drew HS.out hn) ?_
       rintro e w1 ⟨a1, n1, e1, rfl, hB1⟩
       refine ⟨_, rfl, ?_⟩
       have H1 : Hid (RLies (EX := EX) w1 M tb nv (.slice a us.length cap) ps us) := H.out.drew.below hB1
       have q0 := H1.out.cell0
       have q1 := H1.out.cell1
       have hl1 : tb < w1.heap.size := lt_of_heap H1.out.head
       have HB1 : Hid (Below w.heap.size w w1) := (Below.refl _ _).drew.trans hB1
       clear hB1)
    | (refine step_app_row _ (by rfl) (.tmp 6) (.tmp 12) 24 (by rfl) M .undos 23 i0 (.slice none 0 0) 1 24 Tryz.underlying24 hi hz0 hz1 hz2 rfl (by decide) (.slice a us.length cap) us.length us (by simp [Act.eval]) (H1.out.alloc _).undos ⟨w1.heap.size, 0, none⟩ 1 1 [.slice a1 n1 e1] (by simp [Act.eval]) rfl (cell_one_new _ _ _) (by simp [Value.oneCell']) (by decide) (by unfold maxLen; omega) (by omega) (H1.out.alloc _).fresh ?_
       intro g cap1 w2 M2 hr st
       obtain ⟨hc0, hc1, hf0, hf1⟩ := head_cellX ((st.far tb (lt_of_heap (H1.out.alloc _).head) (by rw [H1.out.tree]; intro e; cases e)).trans (H1.out.alloc _).head)
       have HR : Hid _ := (H1.out.alloc _).headUndos (uv' := .slice (some ⟨g, 0, none⟩) (us.length + 1) cap1) (us' := us ++ [.slice a1 n1 e1]) st (by rw [List.length_append]; exact hr)
       clear hr st)))
  all_goals go_wp2
  all_goals go_end0
  all_goals exact ⟨rfl, M2, _, _, HR.out.1, (((Moved.refl _ _).below HB1.out).alloc _).trans HR.out.2⟩

theorem rhas_any {EX : Ext} {w : World} {M : Nat → Lab} {tb : Nat} {nv uv : Value} {ps : List Pn} {us : List Value} (h : RLies (EX := EX) w M tb nv uv ps us) (id : Int) :
    Calls Tryz.prog 15 #[.pointer (some ⟨tb, 0, none⟩), .int .i64 id] w fun e w' => e = .returned (.bool (hasB ps.length id)) ∧ w' = w := by
  obtain ⟨a, cap, rfl, hc, hm⟩ := h.nodes.shape
  have c0 := h.cell0
  unfold maxLen at hm
  go_enter Tryz.func15, Tryz.ntmps15
  go_wp2
  all_goals go_ret
  all_goals refine ⟨ret_bool ?_, rfl⟩
  all_goals (unfold hasB; simp; try omega)
end Go.Proofs.YtkaeenafejdkfaaGreatDoor

/- The document's answer: which texts are names. -/
namespace Go.Proofs.YtkaeenafejdkfaaGreatDoor
open Go.RowKit

theorem sign_parts (c : Nat) : (signB c = true) ↔ ((97 ≤ c ∧ c ≤ 122) ∨ (48 ≤ c ∧ c ≤ 57) ∨ c = 45 ∨ c = 95 ∨ c = 58) := by
  unfold signB lowB digB
  simp
  omega
theorem low_parts (c : Nat) : (lowB c = true) ↔ (97 ≤ c ∧ c ≤ 122) := by
  unfold lowB
  simp
  omega

/-- a sign that may stand there -/
def mayB (k : Nat) (c : Nat) : Prop := (97 ≤ c ∧ c ≤ 122) ∨ (0 < k ∧ ((48 ≤ c ∧ c ≤ 57) ∨ c = 45 ∨ c = 95 ∨ c = 58))

set_option maxHeartbeats 8000000 in
set_option maxRecDepth 100000 in
theorem isName_any (s : ByteArray) (w : World) : Calls Tryz.prog 26 #[.string s] w fun e w' => e = .returned (.bool (nameB s)) ∧ w' = w := by
  by_cases h0 : s.size = 0
  · have H : Hid (nameB s = false) := by show nameB s = false; unfold nameB; simp [h0]
    go_enter Tryz.func26, Tryz.ntmps26
    go_wp2
    all_goals go_ret
    all_goals exact ⟨ret_bool H.out.symm, rfl⟩
  by_cases h4 : 40 < s.size
  · have H : Hid (nameB s = false) := by show nameB s = false; unfold nameB; simp [show ¬ s.size ≤ 40 by omega]
    go_enter Tryz.func26, Tryz.ntmps26
    go_wp2
    all_goals go_ret
    all_goals exact ⟨ret_bool H.out.symm, rfl⟩
  have hp : 0 < s.size := by omega
  have h0b : ((s.size : Int) == 0) = false := by rw [beq_eq_false_iff_ne]; omega
  have h0c : (s.size == 0) = false := by rw [beq_eq_false_iff_ne]; omega
  go_enter Tryz.func26, Tryz.ntmps26
  go_wp2
  go_loop [3] (fun i => ∃ k : Nat, k ≤ s.size ∧ i = .int .i64 k ∧ Hid ((s.data.toList.take k).all (fun c => signB c.toNat) = true ∧ (0 < k → lowB s[0].toNat = true))) (fun i => s.size - (intOf i).toNat)
  case atStart => exact ⟨0, by omega, rfl, (show ((s.data.toList.take 0).all (fun c => signB c.toNat) = true) ∧ (0 < 0 → lowB s[0].toNat = true) from ⟨by simp, fun h => absurd h (by omega)⟩)⟩
  case round =>
    obtain ⟨k, hk, rfl, ha⟩ := hrel
    by_cases hlt : k < s.size
    · obtain ⟨c, hc⟩ : ∃ c, s[k].toNat = c := ⟨_, rfl⟩
      by_cases hok : mayB k c
      · have H : Hid ((s.data.toList.take (k + 1)).all (fun c => signB c.toNat) = true ∧ (0 < k + 1 → lowB s[0].toNat = true)) := by
          have e1 : signB s[k].toNat = true := by rw [hc, sign_parts]; unfold mayB at hok; omega
          refine ⟨round_up s k hlt ha.out.1 e1, fun _ => ?_⟩
          by_cases hk0 : k = 0
          · subst hk0
            rw [low_parts, hc]
            unfold mayB at hok
            omega
          · exact ha.out.2 (by omega)
        have HOK : Hid (mayB k c) := hok
        clear hok
        go_wp2
        all_goals go_light
        all_goals first
          | (refine ⟨⟨k + 1, by omega, by go_num, H⟩, ?_⟩; simp [intOf]; omega)
          | (exfalso; have hq := HOK.out; unfold mayB at hq; simp_all; done)
          | (exfalso; have hq := HOK.out; unfold mayB at hq; simp_all; omega)
      · have H : Hid (nameB s = false) := by
          by_cases hs : signB s[k].toNat = true
          · rw [hc, sign_parts] at hs
            obtain rfl : k = 0 := by unfold mayB at hok; omega
            refine nameB_low s hp ?_
            cases hl : lowB s[0].toNat
            · rfl
            · rw [low_parts, hc] at hl
              exact absurd (.inl hl) hok
          · exact nameB_false s k hlt (by simpa using hs)
        have HOK : Hid (¬ mayB k c) := hok
        clear hok
        go_wp2
        all_goals go_light
        all_goals first
          | (go_ret; exact ⟨ret_bool H.out.symm, rfl⟩)
          | (exfalso; have hq := HOK.out; unfold mayB at hq; simp_all; done)
          | (exfalso; have hq := HOK.out; unfold mayB at hq; simp_all; omega)
    · have hke : k = s.size := by omega
      have H : Hid (nameB s = true) := nameB_true s hp (by omega) (ha.out.2 (by omega)) (by rw [← hke]; exact ha.out.1)
      go_wp2
      go_ret
      exact ⟨ret_bool H.out.symm, rfl⟩
end Go.Proofs.YtkaeenafejdkfaaGreatDoor

/- The document's answer: a new tree, a new node. -/
namespace Go.Proofs.YtkaeenafejdkfaaGreatDoor
open Go.RowKit

theorem RLies.setOther {EX : Ext} {w : World} {M : Nat → Lab} {tb : Nat} {nv uv : Value} {ps : List Pn} {us : List Value} (h : RLies (EX := EX) w M tb nv uv ps us) {g : Nat} (hM : M g = .other) (j : Nat) (v : Value) : RLies (EX := EX) (w.setCell ⟨g, j, none⟩ v) M tb nv uv ps us :=
  h.far (by simp [World.setCell]) (fun b _ hne => Below.heap_setCell w _ v b (fun e => hne (by rw [e]; exact hM)))
theorem Moved.setOther {w w' : World} {M M' : Nat → Lab} (h : Moved w M w' M') {g : Nat} (hg : w.heap.size ≤ g) (j : Nat) (v : Value) : Moved w M (w'.setCell ⟨g, j, none⟩ v) M' :=
  ⟨h.os, h.tape, h.output, by simp [World.setCell]; exact h.size, h.lab, fun b hb ho => (Below.heap_setCell w' _ v b (by show b ≠ g; omega)).trans (h.far b hb ho)⟩

/-- the append of 'Make', as one step -/
theorem rstep_add {EX : Ext} {w : World} {M : Nat → Lab} {tb : Nat} {uv : Value} {ps : List Pn} {us : List Value} {a : Option Addr} {cap : Nat} (h : RLies (EX := EX) w M tb (.slice a ps.length cap) uv ps us) (hn : ps.length ≤ 400) (kind : Int) (tag words : ByteArray) (aa : Option Addr) (al acp : Nat) (at_ : List (ByteArray × ByteArray))
    (ha : Row w M (.attrs ps.length) 81 2 (.slice aa al acp) at_.length (attrCells at_)) (o1 : Obj)
    {ops : Array Oper} {o : Oper} {ac : Act} {K : Act → World → Prop} {Q : Exit → Act → World → Prop} {E : Prop} (hgd : o.guard = none)
    (ho : o.op = .call { callee := .builtin .append, args := #[.tmp 47, .tmp 49], argTypes := #[23, 23] })
    (hs : ac.eval (.tmp 47) = .slice a ps.length cap) (hx : ac.eval (.tmp 49) = .slice (some ⟨w.heap.size + 1, 0, none⟩) 1 1)
    (hK : ∀ g cap1 w1 M1, Hid (RLies (EX := EX) (w1.setCell ⟨tb, 0, none⟩ (.slice (some ⟨g, 0, none⟩) (ps.length + 1) cap1)) M1 tb (.slice (some ⟨g, 0, none⟩) (ps.length + 1) cap1) uv (ps ++ [⟨⟨kind, tag, words, at_, -1, []⟩, .slice aa al acp, .slice none 0 0⟩]) us ∧ Moved w M (w1.setCell ⟨tb, 0, none⟩ (.slice (some ⟨g, 0, none⟩) (ps.length + 1) cap1)) M1) →
      w1.cell? ⟨tb, 0, none⟩ = some (.slice a ps.length cap) → w1.frozen? ⟨tb, 0, none⟩ = false → K (ac.put o.dst (.slice (some ⟨g, 0, none⟩) (ps.length + 1) cap1)) w1) :
    if Region.wanted o (yielded ops ac.tmps) = true then Oper.wp Tryz.prog o ac (((w.alloc o1).alloc (.cells #[.int .i64 kind, .string tag, .string words, .slice aa al acp, .int .i64 (-1), .slice none 0 0] 50)).drew) K Q else E := by
  obtain ⟨i0, hi, hz0, hz1, hz2⟩ := info_parts Tryz.infoRnode
  have H := ((h.alloc o1).alloc (.cells #[.int .i64 kind, .string tag, .string words, .slice aa al acp, .int .i64 (-1), .slice none 0 0] 50)).drew
  have mv : Moved w M ((w.alloc o1).alloc (.cells #[.int .i64 kind, .string tag, .string words, .slice aa al acp, .int .i64 (-1), .slice none 0 0] 50)).drew M := (((Moved.refl w M).alloc o1).alloc _).drew
  refine step_app_row _ hgd (.tmp 47) (.tmp 49) 23 ho M .nodes 50 i0 _ 6 96 Tryz.underlying23 hi hz0 hz1 hz2 rfl (by decide) (.slice a ps.length cap) ps.length (flat ps) hs H.nodes ⟨w.heap.size + 1, 0, none⟩ 1 1 [.int .i64 kind, .string tag, .string words, .slice aa al acp, .int .i64 (-1), .slice none 0 0] hx rfl (news_two w o1 #[.int .i64 kind, .string tag, .string words, .slice aa al acp, .int .i64 (-1), .slice none 0 0] 50) (by simp [Value.oneCell']) (by decide) (by unfold maxLen; omega) (by omega) H.fresh ?_
  intro g cap1 w1 M1 hr st
  obtain ⟨hc0, hc1, hf0, hf1⟩ := head_cellX ((st.far tb (lt_of_heap H.head) (by rw [H.tree]; intro e; cases e)).trans H.head)
  have HR := H.headNodes (nv' := .slice (some ⟨g, 0, none⟩) (ps.length + 1) cap1) (qs := ps ++ [⟨⟨kind, tag, words, at_, -1, []⟩, .slice aa al acp, .slice none 0 0⟩]) st (by rw [List.length_append, flat_append]; exact hr) (by
    intro i p hp
    by_cases hi : i < ps.length
    · rw [List.getElem?_append_left hi] at hp
      exact H.node i p hp
    · rw [List.getElem?_append_right (by omega)] at hp
      have : i - ps.length = 0 := by
        rcases Nat.eq_zero_or_pos (i - ps.length) with e | e
        · exact e
        · rw [List.getElem?_eq_none (by simp; omega)] at hp; cases hp
      rw [this] at hp
      cases hp
      obtain rfl : i = ps.length := by omega
      refine ⟨ha.keep (fun b hb e => ?_) (fun _ _ => rfl), Row.nil _ _ _ _ _⟩
      exact (Below.heap_alloc (w.alloc o1) _ b (by simp; omega)).trans (Below.heap_alloc w o1 b hb))
  exact hK g cap1 w1 M1 ⟨HR.1, mv.trans HR.2⟩ hc0 hf0

/-- a node was made -/
def RMade {EX : Ext} (w : World) (M : Nat → Lab) (tb : Nat) (ps : List Pn) (us : List Value) (p : Pn) (e : Ending) (w' : World) : Prop :=
  e = .returned (.tuple #[.int .i64 ps.length, .int .i64 0]) ∧ ∃ M' nv' uv' v, RLies (EX := EX) w' M' tb nv' uv' (ps ++ [p]) (us ++ [v]) ∧ Moved w M w' M'

set_option maxHeartbeats 4000000 in
set_option maxRecDepth 100000 in
theorem rmake_elem {EX : Ext} {w : World} {M : Nat → Lab} {tb : Nat} {nv uv : Value} {ps : List Pn} {us : List Value} (h : RLies (EX := EX) w M tb nv uv ps us) (hs : Small ps) (hn : ps.length < 400) (hu : us.length ≤ 1000000000) (s : ByteArray) (hN : nameB s = true) :
    Calls Tryz.prog 46 #[.pointer (some ⟨tb, 0, none⟩), .int .i64 2, .string s] w (RMade (EX := EX) w M tb ps us (newP 2 s ⟨#[]⟩)) := by
  obtain ⟨a, cap, rfl, hc, hm⟩ := h.nodes.shape
  have c0 := h.cell0
  have H : Hid (RLies (EX := EX) w M tb (.slice a ps.length cap) uv ps us) := h
  have HS : Hid (Small ps) := hs
  have hlt : tb < w.heap.size := lt_of_heap h.head
  unfold maxLen at hm
  clear h hs
  go_enter Tryz.func46, Tryz.ntmps46
  go_wp2_with (first
    | (go_at_call 26; refine (isName_any _ _).mono ?_; rintro e w' ⟨rfl, rfl⟩; rw [hN])
    | (go_at_call 92; refine (rkeep_any H.out HS.out (by omega) hu).mono ?_; rintro e w1 ⟨rfl, M1, uv1, v1, l1, m1⟩
       have H1 : Hid _ := And.intro l1 m1
       have q0 := l1.cell0
       have hl1 : tb < w1.heap.size := lt_of_heap l1.head
       clear l1 m1))
  go_region_law ((refine rstep_add H1.out.1 (by omega) 2 s ⟨#[]⟩ none 0 0 [] (Row.nil _ _ _ _ _) _ (by rfl) (by rfl) (by simp [Act.eval]) (by simp [Act.eval]) ?_; intro g cap1 w2 M2 HR hc0 hf0))
  all_goals (have hcc := HR.out.1.cell0)
  all_goals go_wp2
  all_goals go_ret2
  all_goals exact ⟨by go_light; first | rfl | (congr 3; done), M2, _, uv1, v1, HR.out.1, H1.out.2.trans HR.out.2⟩
set_option maxHeartbeats 4000000 in
set_option maxRecDepth 100000 in
theorem rmake_other {EX : Ext} {w : World} {M : Nat → Lab} {tb : Nat} {nv uv : Value} {ps : List Pn} {us : List Value} (h : RLies (EX := EX) w M tb nv uv ps us) (hs : Small ps) (hn : ps.length < 400) (hu : us.length ≤ 1000000000) (s : ByteArray) (kind : Int) (hk : ¬ kind = 2) (hN : s.size ≤ 20000) :
    Calls Tryz.prog 46 #[.pointer (some ⟨tb, 0, none⟩), .int .i64 kind, .string s] w (RMade (EX := EX) w M tb ps us (newP kind ⟨#[]⟩ s)) := by
  obtain ⟨a, cap, rfl, hc, hm⟩ := h.nodes.shape
  have c0 := h.cell0
  have hkb : (kind == 2) = false := by rw [beq_eq_false_iff_ne]; exact hk
  have H : Hid (RLies (EX := EX) w M tb (.slice a ps.length cap) uv ps us) := h
  have HS : Hid (Small ps) := hs
  have hlt : tb < w.heap.size := lt_of_heap h.head
  unfold maxLen at hm
  clear h hs
  go_enter Tryz.func46, Tryz.ntmps46
  go_wp2_with (first
    | (go_at_call 26; refine (isName_any _ _).mono ?_; rintro e w' ⟨rfl, rfl⟩; cases hq : nameB s)
    | (go_at_call 92; refine (rkeep_any H.out HS.out (by omega) hu).mono ?_; rintro e w1 ⟨rfl, M1, uv1, v1, l1, m1⟩
       have H1 : Hid _ := And.intro l1 m1
       have q0 := l1.cell0
       have hl1 : tb < w1.heap.size := lt_of_heap l1.head
       clear l1 m1))
  all_goals go_region_law ((refine rstep_add H1.out.1 (by omega) kind ⟨#[]⟩ s none 0 0 [] (Row.nil _ _ _ _ _) _ (by rfl) (by rfl) (by simp [Act.eval]) (by simp [Act.eval]) ?_; intro g cap1 w2 M2 HR hc0 hf0))
  all_goals (have hcc := HR.out.1.cell0)
  all_goals go_wp2
  all_goals go_ret2
  all_goals exact ⟨by go_light; first | rfl | (congr 3; done), M2, _, uv1, v1, HR.out.1, H1.out.2.trans HR.out.2⟩
end Go.Proofs.YtkaeenafejdkfaaGreatDoor
