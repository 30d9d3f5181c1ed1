/- standInRows: the items stand whose row alone is told. -/
import Derived.Test.YtbphlbohiifcmaaGTold
namespace Go.Proofs.Ytbphlbohiifcmaa
open Go.RowKit
set_option linter.unusedVariables false      -- bounds that are for the walk

theorem gsC_set : ∀ (its : List Gi) (k f : Nat) (i i' : Gi) (v : Value), its[k]? = some i → f < 4 → gC i' = (gC i).set f v → (gsC its).set (k * 4 + f) v = gsC (its.set k i')
  | [], k, f, i, i', v, h, _, _ => by simp at h
  | a :: r, 0, f, i, i', v, h, hf, e => by
    obtain rfl : a = i := by simpa using h
    rw [List.set_cons_zero]
    unfold gsC
    rw [List.flatMap_cons, List.flatMap_cons, Nat.zero_mul, Nat.zero_add, List.set_append_left _ _ (by simp [gC]; omega), e]
  | a :: r, k + 1, f, i, i', v, h, hf, e => by
    have ih := gsC_set r k f i i' v (by simpa using h) hf e
    rw [List.set_cons_succ]
    unfold gsC at ih ⊢
    rw [List.flatMap_cons, List.flatMap_cons, List.set_append_right _ _ (by simp [gC]; omega), show (k + 1) * 4 + f - (gC a).length = k * 4 + f by simp [gC]; omega, ih]
theorem own_setG {w : World} {B g cap n j : Nat} {e : TypeId} {xs : List Value} (h : w.ownsRow B e 4 (.slice (some ⟨g, 0, none⟩) n cap) n xs) (hj : j < n * 4) (u : Value) :
    (w.setCell ⟨g, j, none⟩ u).ownsRow B e 4 (.slice (some ⟨g, 0, none⟩) n cap) n (xs.set j u) := by
  obtain ⟨hl, ⟨h, _⟩ | ⟨g', cap', cur, hv, hg, hh, h1, h2, h3, h4⟩⟩ := h
  · cases h
  · cases hv
    refine ⟨by simpa using hl, .inr ⟨g, cap, _, rfl, hg, heap_setCell_same w g j cur e u hh, h1, h2, by simpa using h3, ?_⟩⟩
    rw [← h4]
    simp [Array.toList_setIfInBounds, List.take_set]
/-- a number of an item has changed -/
theorem TbAt.put {w wr : World} {tb mb g n c : Nat} {F : Tk} {cols : Int} {its : List Gi} {k f : Nat} {i i' : Gi} {v : Value} (h : TbAt w wr tb mb (.slice (some ⟨g, 0, none⟩) n c) F cols its) (hn : its.length = n) (hk : its[k]? = some i) (hf : f < 4) (e : gC i' = (gC i).set f v) : TbAt w (wr.setCell ⟨g, k * 4 + f, none⟩ v) tb mb (.slice (some ⟨g, 0, none⟩) n c) F cols (its.set k i') := by
  have hkl := (List.getElem?_eq_some_iff.1 hk).1
  have hlo : w.heap.size ≤ g := (h.row.lt g rfl).1
  have hrow := h.row
  rw [hn] at hrow
  refine ⟨h.below.setCell hlo _, (heap_setCell_other wr ⟨g, k * 4 + f, none⟩ tb _ (fun e2 => h.nst (by rw [show tb = g from e2]; rfl))).trans h.tab, h.lot, h.lom, ?_, h.map.keep (heap_setCell_other wr ⟨g, k * 4 + f, none⟩ mb _ (fun e2 => h.nsm (by rw [show mb = g from e2]; rfl))), h.ntm, h.nst, h.nsm⟩
  rw [List.length_set, hn, ← gsC_set its k f i i' v hk hf e]
  exact own_setG hrow (by omega) v

/-- the told ones stand, and those of a row ahead of place k -/
def PRow (l0 : List Gi) (k j : Nat) : Prop := ∃ o, l0[j]? = some o ∧ (o.told ∨ (j < k ∧ 0 < o.r))
theorem PRow.lt {l0 : List Gi} {k j : Nat} (h : PRow l0 k j) : j < l0.length := by
  obtain ⟨o, ho, _⟩ := h
  exact (List.getElem?_eq_some_iff.1 ho).1
theorem GInv.rows_start {l0 its : List Gi} {F : Tk} {cols B : Int} (h : GInv l0 its F cols B (PTold l0 l0.length)) : GInv l0 its F cols B (PRow l0 0) :=
  h.mono (fun j hj => ⟨fun ⟨_, o, h1, h2⟩ => ⟨o, h1, .inl h2⟩, fun ⟨o, h1, h2⟩ => ⟨hj, o, h1, by rcases h2 with h2 | ⟨h2, _⟩; exact h2; omega⟩⟩) (fun j hj => hj.lt)
theorem GInv.row_skip {l0 its : List Gi} {F : Tk} {cols B : Int} {k : Nat} {o : Gi} (h : GInv l0 its F cols B (PRow l0 k)) (hk : l0[k]? = some o) (ht : o.r = 0 ∨ 0 < o.c) (hr : 0 ≤ o.r) : GInv l0 its F cols B (PRow l0 (k + 1)) := by
  refine h.mono (fun j hj => ?_) (fun j hj => hj.lt)
  constructor
  · rintro ⟨q, h1, h2⟩
    exact ⟨q, h1, by rcases h2 with h2 | ⟨h2, h3⟩; exact .inl h2; exact .inr ⟨by omega, h3⟩⟩
  · rintro ⟨q, h1, h2⟩
    refine ⟨q, h1, ?_⟩
    rcases h2 with h2 | ⟨h2, h3⟩
    · exact .inl h2
    · by_cases e : j = k
      · subst e
        rw [hk] at h1
        cases h1
        exact .inl ⟨by omega, h3⟩
      · exact .inr ⟨by omega, h3⟩
theorem GInv.row_step {l0 its : List Gi} {F : Tk} {cols B c : Int} {k : Nat} {o : Gi} (h : GInv l0 its F cols B (PRow l0 k)) (hk : l0[k]? = some o) (h1 : 0 < o.r) (h2 : o.c = 0) (hB1 : 220 ≤ B) (hB2 : B ≤ 80000) (hc : ColIs F (o.atC 1) B c) :
    GInv l0 (its.set k (o.atC c)) (takeF F (o.atC c)) (max cols (o.atC c).lc) (B + 21) (PRow l0 (k + 1)) ∧ (o.atC c).Ok := by
  have hg := h.ok0 o (List.mem_of_getElem? hk)
  have hnP : ¬ PRow l0 k k := by
    rintro ⟨q, e1, e2⟩
    rw [hk] at e1
    cases e1
    rcases e2 with e2 | ⟨e2, _⟩
    · have := e2.1; omega
    · omega
  have hge := hc.ge
  have hle := hc.le
  simp only [Gi.atC] at hge hle
  have hok : (o.atC c).Ok := ⟨hge, by show c ≤ 100000; omega, hg.cs1, hg.cs2, h1, by have := hg.r2; show o.r ≤ 100000; omega, hg.rs1, hg.rs2⟩
  have := hg.cs2
  have := hg.rs2
  have := hg.r2
  refine ⟨?_, hok⟩
  have hfree : FreeAt F (o.atC c) := hc.free
  have hm := h.more (cols' := max cols (o.atC c).lc) (B' := B + 21) hk hnP hok ⟨rfl, rfl⟩ (.inl hfree) (by unfold Gi.lc Gi.atC; simp only; omega) (by unfold Gi.lr Gi.atC; simp only; omega) (by omega) (by omega) (by omega)
  refine hm.mono (fun j hj => ?_) (fun j hj => hj.lt)
  constructor
  · rintro (⟨q, e1, e2⟩ | rfl)
    · exact ⟨q, e1, by rcases e2 with e2 | ⟨e2, e3⟩; exact .inl e2; exact .inr ⟨by omega, e3⟩⟩
    · exact ⟨o, hk, .inr ⟨by omega, h1⟩⟩
  · rintro ⟨q, e1, e2⟩
    rcases e2 with e2 | ⟨e2, e3⟩
    · exact .inl ⟨q, e1, .inl e2⟩
    · by_cases e : j = k
      · exact .inr e
      · exact .inl ⟨q, e1, .inr ⟨by omega, e3⟩⟩
end Go.Proofs.Ytbphlbohiifcmaa
