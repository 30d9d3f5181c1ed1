/- The document's answer: new trees and new nodes, and the copy that is kept of what was. -/
import Derived.Test.YtoanbjdifddcoaaGreatDoorM03
import Derived.Test.YtoanbjdifddcoaaGreatDoorM04
namespace Go.Proofs.YtoanbjdifddcoaaGreatDoor
open Go.RowKit

theorem Tryz.infoRnode : (Tryz.prog.info? 46).map (fun i => (i.zero, i.size, i.bytes)) = some (some (.agg #[.int .i64 0, .string ⟨#[]⟩, .string ⟨#[]⟩, .slice none 0 0, .int .i64 0, .slice none 0 0]), 6, 96) := by kernel_rfl
theorem Tryz.infoRnodes : (Tryz.prog.info? 25).map (fun i => (i.zero, i.size, i.bytes)) = some (some (.slice none 0 0), 1, 24) := by kernel_rfl

/-- how much a tree holds: no list is too long to be copied -/
def Small (ps : List Pn) : Prop := ∀ (j : Nat) (p : Pn), ps[j]? = some p → p.n.attrs.length ≤ 1099511627776 ∧ p.n.kids.length ≤ 1099511627776




/-- a node's copy, as it lies in memory -/
def nodeBox (p : Pn) : Obj := .cells #[.int .i64 p.n.kind, .string p.n.tag, .string p.n.words, p.av, .int .i64 p.n.parent, p.kv] 46

theorem box_set {w : World} {B : Nat} {x0 x1 x2 x3 x4 x5 : Value} {t : TypeId} {fr : Nat × Nat} (h : w.heap[B]? = some (.cells #[x0, x1, x2, x3, x4, x5] t fr)) (v : Value) :
    (w.setCell ⟨B, 3, none⟩ v).heap[B]? = some (.cells #[x0, x1, x2, v, x4, x5] t fr) ∧ (w.setCell ⟨B, 5, none⟩ v).heap[B]? = some (.cells #[x0, x1, x2, x3, x4, v] t fr) :=
  ⟨setCell_heap w B 3 v _ _ _ h, setCell_heap w B 5 v _ _ _ h⟩
theorem box_frozen {w : World} {B : Nat} {cs : Array Value} {t : TypeId} (h : w.heap[B]? = some (.cells cs t (0, 0))) (o : Nat) : w.frozen? ⟨B, o, none⟩ = false := by
  simp [World.frozen?, h]


def CopiedPost (w : World) (e : Ending) (w' : World) : Prop := ∃ a n c, e = .returned (.slice a n c) ∧ Below w.heap.size w w'

set_option maxHeartbeats 8000000 in
set_option maxRecDepth 100000 in
theorem copied_any {w : World} {M : Nat → Lab} {tb : Nat} {nv uv : Value} {ps : List Pn} {us : List Value} (h : RLies w M tb nv uv ps us) (hs : Small ps) (hn : ps.length ≤ 1000000) :
    Calls Tryz.prog 77 #[nv] w (CopiedPost w) := by
  obtain ⟨i0, hi, hz0, hz1, hz2⟩ := info_parts Tryz.infoRnode
  obtain ⟨i1, hi1, hz10, hz11, hz12⟩ := info_parts Tryz.infoAttr
  obtain ⟨i2, hi2, hz20, hz21, hz22⟩ := info_parts Tryz.infoInt
  obtain ⟨a, cap, rfl, hc, hm⟩ := h.nodes.shape
  unfold maxLen at hm
  have H : Hid (∀ (k : Nat) p, ps[k]? = some p → ∃ nb, a = some ⟨nb, 0, none⟩ ∧ nb < w.heap.size ∧ (∀ f c, f < 6 → p.cells[f]? = some c → w.cell? ⟨nb, k * 6 + f, none⟩ = some c) ∧ SrcOf w 2 p.av p.n.attrs.length (attrCells p.n.attrs) ∧ SrcOf w 1 p.kv p.n.kids.length (p.n.kids.map intV) ∧ p.n.attrs.length ≤ 1099511627776 ∧ p.n.kids.length ≤ 1099511627776) := by
    intro k p hp
    obtain ⟨nb, c, hv, _, _, _, hl, _⟩ := h.form hp
    cases hv
    exact ⟨nb, rfl, hl, fun f c hf hc => (h.cellN rfl hp hf hc).1, (h.node k p hp).1.src (one_attr _), (h.node k p hp).2.src (one_int _), hs k p hp⟩
  clear h hs
  go_enter Tryz.func77, Tryz.ntmps77
  go_wp2
  go_loopw [3, 4] (fun out i wr => ∃ k : Nat, k ≤ ps.length ∧ i = .int .i64 k ∧ Hid (∃ xs, wr.ownsRow w.heap.size 46 6 out k xs) ∧ Hid (Below w.heap.size w wr)) (fun _ i _ => ps.length - (intOf i).toNat)
  case atStart => exact ⟨0, by omega, rfl, ⟨[], World.ownsRow_nil _ _ _ _⟩, Below.refl _ _⟩
  case round =>
    obtain ⟨k, hk, rfl, hown, hbel⟩ := hrel
    by_cases hlt : k < ps.length
    · obtain ⟨p, hp⟩ : ∃ p, ps[k]? = some p := ⟨_, List.getElem?_eq_getElem hlt⟩
      obtain ⟨nb, rfl, hnb, hcell, hsa, hsk, hla, hlk⟩ := H.out k p hp
      obtain ⟨xs, hxs⟩ := hown.out
      have HS : Hid (SrcOf w 2 p.av p.n.attrs.length (attrCells p.n.attrs) ∧ SrcOf w 1 p.kv p.n.kids.length (p.n.kids.map intV)) := ⟨hsa, hsk⟩
      obtain ⟨_, _, aa, ac, hav, _⟩ := hsa
      obtain ⟨_, _, ka, kc, hkv, _⟩ := hsk
      have cc : ∀ f c, f < 6 → p.cells[f]? = some c → wr.cell? ⟨nb, k * 6 + f, none⟩ = some c := fun f c hf hc => (hbel.out.cell (p := ⟨nb, k * 6 + f, none⟩) hnb).trans (hcell f c hf hc)
      have c0 := cc 0 _ (by omega) rfl
      rw [Nat.add_zero] at c0
      have c1 := cc 1 _ (by omega) rfl
      have c2 := cc 2 _ (by omega) rfl
      have c3 := cc 3 _ (by omega) rfl
      have c4 := cc 4 _ (by omega) rfl
      have c5 := cc 5 _ (by omega) rfl
      rw [hav] at c3
      rw [hkv] at c5
      have HO : Hid (wr.ownsRow w.heap.size 46 6 u3 k xs) := hxs
      have hsz := hbel.out.size
      have hnl := Nat.lt_of_lt_of_le hnb hsz
      obtain ⟨pn, pav, pkv⟩ := p
      dsimp only at hav hkv
      subst hav
      subst hkv
      dsimp only at c0 c1 c2 c3 c4 c5 hla hlk HS
      clear cc hcell hp hown hxs
      go_wp2_with (first
        | (at_builtin; refine wpList_app_own _ (by rfl) _ _ 37 (by rfl) wr.heap.size 79 i1 _ 2 32 Tryz.underlying37 hi1 hz10 hz11 hz12 rfl (by decide) (.slice none 0 0) 0 [] (by rfl) (World.ownsRow_nil _ _ _ _) (.slice aa pn.attrs.length ac) pn.attrs.length (attrCells pn.attrs) (by rfl) (HS.out.1.below (hbel.out.alloc hsz _)) (by unfold maxLen; omega) (by omega) (by simp) ?_
           intro v1 w1 hv1 hg1 _
           have hb1 := (below_grown hg1).block wr.heap.size (by simp)
           rw [heap_alloc_new wr] at hb1
           obtain ⟨d0, d1, d2, d3, d4, d5⟩ := six_cells hb1
           have df3 := box_frozen hb1 3
           rw [Nat.zero_add] at hv1
           obtain ⟨a1, e1, rfl⟩ := own_shape hv1
           obtain ⟨s0, s1, s2, s3, s4, s5⟩ := six_cells (box_set hb1 (.slice a1 pn.attrs.length e1)).1
           have HB1 : Hid (Below wr.heap.size wr w1) := ((Below.refl wr.heap.size wr).alloc (Nat.le_refl _) _).trans ((below_grown hg1).mono (by simp))
           have HX1 : Hid _ := (box_set hb1 (.slice a1 pn.attrs.length e1)).1
           clear hv1 hg1 hb1)
        | (at_builtin; refine wpList_app_own _ (by rfl) _ _ 38 (by rfl) wr.heap.size 3 i2 _ 1 8 Tryz.underlying38 hi2 hz20 hz21 hz22 rfl (by decide) (.slice none 0 0) 0 [] (by rfl) (World.ownsRow_nil _ _ _ _) (.slice ka pn.kids.length kc) pn.kids.length (pn.kids.map intV) (by rfl) (HS.out.2.below (hbel.out.trans ((HB1.out.setCell (Nat.le_refl _) _).mono hsz))) (by unfold maxLen; omega) (by omega) (by simpa using HB1.out.size) ?_
           intro v2 w2 hv2 hg2 _
           have hlx : wr.heap.size < w1.heap.size := World.block_lt_of_cell? w1 _ d0
           have hb2 := (below_grown hg2).block wr.heap.size (by simpa using hlx)
           rw [HX1.out] at hb2
           obtain ⟨t0, t1, t2, t3, t4, t5⟩ := six_cells hb2
           have df5 := box_frozen hb2 5
           rw [Nat.zero_add] at hv2
           obtain ⟨a2, e2, rfl⟩ := own_shape hv2
           obtain ⟨r0, r1, r2, r3, r4, r5⟩ := six_cells (box_set hb2 (.slice a2 pn.kids.length e2)).2
           have HB2 : Hid (Below wr.heap.size wr (w2.setCell ⟨wr.heap.size, 5, none⟩ (.slice a2 pn.kids.length e2))) := ((HB1.out.setCell (Nat.le_refl _) _).trans ((below_grown hg2).mono (by simpa using HB1.out.size))).setCell (Nat.le_refl _) _
           clear hv2 hg2 hb2)
        | (at_builtin; refine wpList_app_own _ (by rfl) _ _ 25 (by rfl) w.heap.size 46 i0 _ 6 96 Tryz.underlying25 hi hz0 hz1 hz2 rfl (by decide) u3 k xs (by rfl) ((own_below HO.out HB2.out (Nat.le_refl _)).alloc _) _ 1 [.int .i64 pn.kind, .string pn.tag, .string pn.words, .slice a1 pn.attrs.length e1, .int .i64 pn.parent, .slice a2 pn.kids.length e2] (by rfl) ⟨rfl, by simp [Value.oneCell'], _, _, rfl, .inr ⟨_, rfl, news_new _ #[.int .i64 pn.kind, .string pn.tag, .string pn.words, .slice a1 pn.attrs.length e1, .int .i64 pn.parent, .slice a2 pn.kids.length e2] 46 _ (by simp)⟩⟩ (by unfold maxLen; omega) (by omega) (by have := HB2.out.size; simp at this ⊢; omega) ?_
           intro v3 w3 hv3 hg3 hat3
           have HV : Hid (w3.ownsRow w.heap.size 46 6 v3 (k + 1) (xs ++ [.int .i64 pn.kind, .string pn.tag, .string pn.words, .slice a1 pn.attrs.length e1, .int .i64 pn.parent, .slice a2 pn.kids.length e2])) := hv3
           have HB3 : Hid (Below w.heap.size w w3) := ((hbel.out.trans (HB2.out.mono hsz)).alloc (Nat.le_trans hsz HB2.out.size) _).grown hg3 (by have := HB2.out.size; simp at this ⊢; omega) (fun b hb => (HO.out.lt b hb).1)
           clear hv3 hg3 hat3))
      go_roundw
      case rel => go_light; exact ⟨k + 1, by omega, by go_num, ⟨_, HV.out⟩, HB3⟩
      case measure => go_light; simp [intOf]; omega
    · obtain ⟨xs, hxs⟩ := hown.out
      obtain ⟨a3, c3, rfl⟩ : ∃ a3 c3, u3 = .slice a3 k c3 := by
        rcases hxs.2 with ⟨rfl, rfl⟩ | ⟨g, cap, cur, rfl, _⟩
        · exact ⟨none, 0, rfl⟩
        · exact ⟨_, _, rfl⟩
      go_wp2
      go_ret
      exact ⟨_, _, _, rfl, hbel.out⟩
end Go.Proofs.YtoanbjdifddcoaaGreatDoor
