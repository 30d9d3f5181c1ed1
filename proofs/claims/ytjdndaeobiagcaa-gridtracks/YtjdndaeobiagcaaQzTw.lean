/- The document's SizeTracks: its two lists while they grow; its answer is the program's. -/
import Derived.Test.YtjdndaeobiagcaaQzOwn
namespace Go.Proofs.Ytjdndaeobiagcaa
open Go.RowKit
set_option linter.unusedVariables false      -- bounds that are for the walk

/-- two lists of one's own -/
structure TwAt (w wr : World) (lv nv : Value) (c d : Nat) (ts : List Tr2) (nds : List Nd3) : Prop where
  below : Below w.heap.size w wr
  row1 : wr.ownsRow w.heap.size 56 2 lv c (trsC ts)
  row2 : wr.ownsRow w.heap.size 59 3 nv d (ndsC nds)
  ne : ∀ q, lv.ownBlock = some q → nv.ownBlock ≠ some q
section
variable {w wr W8 : World} {lv nv v8 : Value} {c d : Nat} {ts : List Tr2} {nds : List Nd3}
theorem TwAt.held (h : TwAt w wr lv nv c d ts nds) (hb : Below wr.heap.size wr W8) : TwAt w W8 lv nv c d ts nds :=
  ⟨h.below.trans (hb.mono h.below.size), h.row1.kept (row := none) ⟨hb.os, hb.tape, hb.output, hb.size, fun k hk _ => hb.block k hk⟩ (by cases lv.ownBlock <;> simp), h.row2.kept (row := none) ⟨hb.os, hb.tape, hb.output, hb.size, fun k hk _ => hb.block k hk⟩ (by cases nv.ownBlock <;> simp), h.ne⟩
theorem TwAt.drew (h : TwAt w wr lv nv c d ts nds) : TwAt w wr.drew lv nv c d ts nds := ⟨h.below.drew, h.row1, h.row2, h.ne⟩
theorem TwAt.alloc (h : TwAt w wr lv nv c d ts nds) (o : Obj) : TwAt w (wr.alloc o) lv nv c d ts nds := h.held ((Below.refl _ wr).alloc (Nat.le_refl _) o)
theorem TwAt.app1 (h : TwAt w wr lv nv c d ts nds) {t : Tr2} (hv : W8.ownsRow w.heap.size 56 2 v8 (c + 1) (trsC ts ++ trC t)) (hg : wr.grownBy W8 lv.ownBlock) (hx : v8.ownBlock = lv.ownBlock ∨ v8.ownBlock = some wr.heap.size) : TwAt w W8 v8 nv (c + 1) d (ts ++ [t]) nds := by
  refine ⟨h.below.grown hg h.below.size (fun q hq => (h.row1.lt q hq).1), by rw [trsC_snoc]; exact hv, h.row2.kept hg ?_, fun q hq e => ?_⟩
  · by_cases e : nv.ownBlock = none
    · exact .inl e
    · refine .inr fun e2 => ?_
      cases e3 : nv.ownBlock with
      | none => exact e e3
      | some b => exact h.ne b (by rw [← e2, e3]) e3
  · rcases hx with hx | hx
    · exact h.ne q (hx.symm.trans hq) e
    · rw [hx] at hq
      cases hq
      have := (h.row2.lt _ e).2
      omega
theorem TwAt.app2 (h : TwAt w wr lv nv c d ts nds) {x : Nd3} (hv : W8.ownsRow w.heap.size 59 3 v8 (d + 1) (ndsC nds ++ ndC x)) (hg : wr.grownBy W8 nv.ownBlock) (hx : v8.ownBlock = nv.ownBlock ∨ v8.ownBlock = some wr.heap.size) : TwAt w W8 lv v8 c (d + 1) ts (nds ++ [x]) := by
  refine ⟨h.below.grown hg h.below.size (fun q hq => (h.row2.lt q hq).1), h.row1.kept hg ?_, by rw [ndsC_snoc]; exact hv, fun q hq e => ?_⟩
  · by_cases e : lv.ownBlock = none
    · exact .inl e
    · refine .inr fun e2 => ?_
      cases e3 : lv.ownBlock with
      | none => exact e e3
      | some b => exact h.ne b e3 (by rw [← e2, e3])
  · rcases hx with hx | hx
    · exact h.ne q hq (hx.symm.trans e)
    · rw [hx] at e
      cases e
      have := (h.row1.lt _ hq).2
      omega
end
theorem own_shapeN {w : World} {B n size : Nat} {e : TypeId} {v : Value} {xs : List Value} (h : w.ownsRow B e size v n xs) : ∃ a c, v = .slice a n c ∧ n ≤ c ∧ c ≤ 9223372036854775807 := by
  obtain ⟨hl, ⟨rfl, hn⟩ | ⟨g, cap, cur, rfl, hg, hh, h1, h2, h3, h4⟩⟩ := h
  · exact ⟨none, 0, by rw [hn], by omega, by omega⟩
  · unfold maxLen at h2
    exact ⟨_, cap, rfl, h1, by omega⟩
theorem own_nsL {w : World} {B d : Nat} {e : TypeId} {v : Value} {xs : List Nd3} (hd : xs.length = d) (h : w.ownsRow B e 3 v d (ndsC xs)) : NsL w v xs := by
  obtain ⟨hl, ⟨rfl, h0⟩ | ⟨g, cap, cur, rfl, hg, hh, h1, h2, h3, h4⟩⟩ := h
  · refine ⟨none, 0, by rw [hd, h0], by omega, by omega, fun j x hj => ?_⟩
    have := (List.getElem?_eq_some_iff.1 hj).1
    omega
  · unfold maxLen at h2
    refine ⟨_, cap, by rw [hd], by omega, by omega, fun j x hj => ⟨g, 0, rfl, ltH hh, ?_⟩⟩
    have hc : ∀ (f : Nat) u, f < 3 → (ndC x)[f]? = some u → w.cell? ⟨g, 0 + j * 3 + f, none⟩ = some u := fun f u hf hu => by
      have e := ndsC_get xs j f _ hj hf
      rw [hu, ← h4, List.getElem?_take] at e
      rw [cell_of_row w g _ _ _ _ hh, Nat.zero_add]
      split at e
      · simpa using e
      · cases e
    exact ⟨hc 0 _ (by omega) rfl, hc 1 _ (by omega) rfl, hc 2 _ (by omega) rfl⟩
/-- the document's answer is the program's -/
theorem qz_same (l : List Tr2) (ns : List Nd3) (room gap : Int) {n : Nat} (hn : (rawT l ns).length = n) :
    (List.range n).map (dlE (atT ((List.range n).map fun j => kfx room (atT (rawT l ns) j))) (max (smF (atT ((List.range n).map fun j => kfx room (atT (rawT l ns) j))) n) 1000) (leftD n room gap (szQ room gap (atT (trP l ns room)) (needsP ns) 19 0)) (szQ room gap (atT (trP l ns room)) (needsP ns) 19 0) n) = tracksP l ns room gap := by
  have hl : (trP l ns room).length = n := by rw [trP_raw, List.length_map, hn]
  unfold tracksP
  rw [hl, szP_byspan (fun x hx => needsP_ok hx)]
  have h1 : ∀ j, atT (trP l ns room) j = cntT room (atT (rawT l ns) j) := fun j => by rw [trP_raw, atT_map (cntT_zero room)]
  have h2 : ∀ j, atT ((List.range n).map fun j => kfx room (atT (rawT l ns) j)) j = kfx room (atT (rawT l ns) j) := fun j => by
    by_cases e : j < n
    · unfold atT
      rw [List.getElem?_map, List.getElem?_range e]
      rfl
    · have e2 : atT (rawT l ns) j = ⟨0, 0⟩ := by unfold atT; rw [List.getElem?_eq_none (by omega)]; rfl
      rw [e2, kfx_zero]
      unfold atT
      rw [List.getElem?_eq_none (by simp; omega)]
      rfl
  apply List.map_congr_left
  intro j hj
  refine (deal_same (fun j => ?_) (fun j h3 => ?_) room gap _ (List.mem_range.1 hj)).symm
  · rw [h1, h2, kfx_k]
  · rw [h1] at h3 ⊢
    rw [h2, cntT_fac h3]
    rfl
end Go.Proofs.Ytjdndaeobiagcaa
