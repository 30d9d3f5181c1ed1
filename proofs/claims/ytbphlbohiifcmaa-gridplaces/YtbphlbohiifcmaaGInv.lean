/- Items that stand: each apart from all others, unless it was told where; what lies in memory. -/
import Derived.Test.YtbphlbohiifcmaaGOrd
namespace Go.Proofs.Ytbphlbohiifcmaa
open Go.RowKit
set_option linter.unusedVariables false      -- bounds that are for the walk

def Gi.told (i : Gi) : Prop := 0 < i.c ∧ 0 < i.r
instance (i : Gi) : Decidable i.told := by unfold Gi.told; infer_instance
def Apart (a b : Gi) : Prop := ∀ x y, ¬ (a.has x y ∧ b.has x y)
/-- items as they count -/
structure GOk (i : Gi) : Prop where
  c0 : 0 ≤ i.c
  c2 : i.c ≤ 200
  cs1 : 1 ≤ i.cs
  cs2 : i.cs ≤ 20
  r0 : 0 ≤ i.r
  r2 : i.r ≤ 200
  rs1 : 1 ≤ i.rs
  rs2 : i.rs ≤ 20
theorem cntN_ok (i : Gi) : GOk (cntN i) := by
  unfold cntN placeN spanN
  constructor <;> simp only <;> omega
/-- those of P stand -/
structure GInv (l0 its : List Gi) (F : Tk) (cols B : Int) (P : Nat → Prop) : Prop where
  len : its.length = l0.length
  ok0 : ∀ i ∈ l0, GOk i
  tk : TkOk F B
  b0 : 0 ≤ B
  cov : ∀ (k : Nat) i, P k → its[k]? = some i → ∀ x y, i.has x y → F x y ≠ none
  only : ∀ x y, F x y ≠ none → ∃ (k : Nat) (i : Gi), P k ∧ its[k]? = some i ∧ i.has x y
  apart : ∀ (j k : Nat) a b o, j ≠ k → P j → P k → its[j]? = some a → its[k]? = some b → l0[j]? = some o → ¬ o.told → Apart a b ∧ Apart b a
  st : ∀ (k : Nat) i, P k → its[k]? = some i → 1 ≤ i.c ∧ 1 ≤ i.r ∧ i.lc ≤ B ∧ i.lr ≤ B ∧ i.lc ≤ cols
  un : ∀ k : Nat, ¬ P k → its[k]? = l0[k]?
  sp : ∀ (k : Nat) i o, its[k]? = some i → l0[k]? = some o → i.cs = o.cs ∧ i.rs = o.rs
  co1 : 1 ≤ cols
  co2 : ∀ i ∈ l0, i.cs ≤ cols
  co3 : ∀ i ∈ l0, 0 < i.c → i.lc ≤ cols
  nP : ∀ k, P k → k < l0.length
theorem apart_free {F : Tk} {a b : Gi} (hf : FreeAt F a) (hc : ∀ x y, b.has x y → F x y ≠ none) : Apart a b ∧ Apart b a :=
  ⟨fun x y h => hc x y h.2 (hf x y h.1), fun x y h => hc x y h.1 (hf x y h.2)⟩
/-- one more stands where it is free, or was told -/
theorem GInv.more {l0 its : List Gi} {F : Tk} {cols cols' B B' : Int} {P : Nat → Prop} (h : GInv l0 its F cols B P) {k : Nat} {o i : Gi} (hk : l0[k]? = some o) (hP : ¬ P k) (hi : i.Ok) (hs : i.cs = o.cs ∧ i.rs = o.rs)
    (hf : FreeAt F i ∨ (o.told ∧ i = o ∧ ∀ j q, P j → l0[j]? = some q → q.told)) (h1 : i.lc ≤ B') (h2 : i.lr ≤ B') (hB : B ≤ B') (hc : cols ≤ cols') (hc2 : i.lc ≤ cols') : GInv l0 (its.set k i) (takeF F i) cols' B' (fun j => P j ∨ j = k) := by
  have hkl : k < l0.length := (List.getElem?_eq_some_iff.1 hk).1
  have hne : ∀ (j : Nat) q, P j → (its.set k i)[j]? = some q → its[j]? = some q := fun j q hj e => by
    rw [List.getElem?_set] at e
    by_cases ej : k = j
    · subst ej; exact absurd hj hP
    · rw [if_neg ej] at e; exact e
  have hkk : ∀ q, (its.set k i)[k]? = some q → q = i := fun q e => by
    rw [List.getElem?_set, if_pos rfl] at e
    split at e
    · exact (Option.some.inj e).symm
    · cases e
  have hself : ∀ x y, i.has x y → takeF F i x y ≠ none := fun x y hh => by unfold takeF; rw [if_pos hh]; simp
  have hold : ∀ x y, F x y ≠ none → takeF F i x y ≠ none := fun x y hh => by
    unfold takeF
    split
    · simp
    · exact hh
  refine ⟨by rw [List.length_set]; exact h.len, h.ok0, h.tk.take hi h1 h2 hB, by have := h.b0; omega, ?_, ?_, ?_, ?_, ?_, ?_, by have := h.co1; omega, fun q hq => by have := h.co2 q hq; omega, fun q hq e => by have := h.co3 q hq e; omega, ?_⟩
  · rintro j q (hj | rfl) hq x y hh
    · exact hold x y (h.cov j q hj (hne j q hj hq) x y hh)
    · rw [hkk q hq] at hh
      exact hself x y hh
  · intro x y hh
    unfold takeF at hh
    by_cases hx : i.has x y
    · exact ⟨k, i, .inr rfl, by rw [List.getElem?_set, if_pos rfl, if_pos (by rw [h.len]; exact hkl)], hx⟩
    · rw [if_neg hx] at hh
      obtain ⟨j, q, hj, hq, hhas⟩ := h.only x y hh
      refine ⟨j, q, .inl hj, ?_, hhas⟩
      rw [List.getElem?_set, if_neg (fun e => hP (by rw [e]; exact hj))]
      exact hq
  · rintro j m a b p hjm hj hm ha hb hp hnt
    rcases hj with hj | rfl
    · rcases hm with hm | rfl
      · exact h.apart j m a b p hjm hj hm (hne j a hj ha) (hne m b hm hb) hp hnt
      · rw [hkk b hb]
        rcases hf with hf | ⟨_, _, ht⟩
        · have := apart_free hf (h.cov j a hj (hne j a hj ha))
          exact ⟨this.2, this.1⟩
        · exact absurd (ht j p hj hp) hnt
    · rcases hm with hm | rfl
      · rw [hkk a ha]
        rcases hf with hf | ⟨hto, _, _⟩
        · exact apart_free hf (h.cov m b hm (hne m b hm hb))
        · rw [hk] at hp
          cases hp
          exact absurd hto hnt
      · exact absurd rfl hjm
  · rintro j q (hj | rfl) hq
    · have := h.st j q hj (hne j q hj hq)
      omega
    · rw [hkk q hq]
      exact ⟨hi.c1, hi.r1, h1, h2, hc2⟩
  · intro j hj
    have e : k ≠ j := fun e => hj (.inr e.symm)
    rw [List.getElem?_set, if_neg e]
    exact h.un j (fun e => hj (.inl e))
  · intro j q p hq hp
    by_cases e : j = k
    · subst e
      rw [hkk q hq]
      rw [hk] at hp
      cases hp
      exact hs
    · rw [List.getElem?_set, if_neg (Ne.symm e)] at hq
      exact h.sp j q p hq hp
  · rintro j (hj | rfl)
    · exact h.nP j hj
    · exact hkl
theorem GInv.mono {l0 its : List Gi} {F : Tk} {cols B : Int} {P P' : Nat → Prop} (h : GInv l0 its F cols B P) (hp : ∀ k, k < l0.length → (P k ↔ P' k)) (hn : ∀ k, P' k → k < l0.length) : GInv l0 its F cols B P' := by
  have f1 : ∀ k, P' k → P k := fun k hk => (hp k (hn k hk)).2 hk
  refine ⟨h.len, h.ok0, h.tk, h.b0, fun k i hk => h.cov k i (f1 k hk), fun x y e => ?_, fun j k a b o e hj hk => h.apart j k a b o e (f1 j hj) (f1 k hk), fun k i hk => h.st k i (f1 k hk), fun k hk => ?_, h.sp, h.co1, h.co2, h.co3, hn⟩
  · obtain ⟨k, i, h1, h2⟩ := h.only x y e
    exact ⟨k, i, (hp k (h.nP k h1)).1 h1, h2⟩
  · by_cases hl : k < l0.length
    · exact h.un k (fun e => hk ((hp k hl).1 e))
    · rw [List.getElem?_eq_none (by rw [h.len]; omega), List.getElem?_eq_none (by omega)]
theorem GInv.start {l0 : List Gi} {cols : Int} (h : ∀ i ∈ l0, GOk i) (c1 : 1 ≤ cols) (c2 : ∀ i ∈ l0, i.cs ≤ cols) (c3 : ∀ i ∈ l0, 0 < i.c → i.lc ≤ cols) : GInv l0 l0 (fun _ _ => none) cols 0 (fun _ => False) :=
  ⟨rfl, h, ⟨(fun _ _ _ e => by cases e), (fun _ _ _ e => by cases e)⟩, by omega, fun _ _ e => e.elim, fun _ _ e => absurd rfl e, fun _ _ _ _ _ _ e => e.elim, fun _ _ e => e.elim, fun _ _ => rfl, fun k i o e1 e2 => by rw [e1] at e2; cases e2; exact ⟨rfl, rfl⟩, c1, c2, c3, fun _ e => e.elim⟩

section
variable {w wr W : World} {tb mb : Nat} {sv : Value} {F F' : Tk} {cols : Int} {its : List Gi}
/-- an item of the table -/
theorem TbAt.at (h : TbAt w wr tb mb sv F cols its) {k : Nat} {i : Gi} (hk : its[k]? = some i) : ∃ g c, sv = .slice (some ⟨g, 0, none⟩) its.length c ∧ its.length ≤ c ∧ c ≤ 9223372036854775807 ∧ g < wr.heap.size ∧ wr.cell? ⟨g, k * 4, none⟩ = some (.int .i64 i.c) ∧ wr.cell? ⟨g, k * 4 + 1, none⟩ = some (.int .i64 i.cs) ∧ wr.cell? ⟨g, k * 4 + 2, none⟩ = some (.int .i64 i.r) ∧ wr.cell? ⟨g, k * 4 + 3, none⟩ = some (.int .i64 i.rs) ∧ (∀ f, wr.frozen? ⟨g, f, none⟩ = false) := by
  have hkl := (List.getElem?_eq_some_iff.1 hk).1
  obtain ⟨hl, ⟨_, hn⟩ | ⟨g, cap, cur, rfl, hg, hh, h1, h2, h3, h4⟩⟩ := h.row
  · omega
  · unfold maxLen at h2
    refine ⟨g, cap, rfl, h1, by omega, ltH hh, ?_⟩
    have hc : ∀ (f : Nat) u, f < 4 → (gC i)[f]? = some u → wr.cell? ⟨g, k * 4 + f, none⟩ = some u := fun f u hf hu => by
      have e := gsC_get its k f i hk hf
      rw [hu, ← h4, List.getElem?_take] at e
      rw [cell_of_row wr g _ _ _ _ hh]
      split at e
      · simpa using e
      · cases e
    exact ⟨hc 0 _ (by omega) rfl, hc 1 _ (by omega) rfl, hc 2 _ (by omega) rfl, hc 3 _ (by omega) rfl, fun f => by simp [World.frozen?, hh]⟩
theorem TbAt.shape (h : TbAt w wr tb mb sv F cols its) : ∃ a c, sv = .slice a its.length c ∧ its.length ≤ c ∧ c ≤ 9223372036854775807 := by
  obtain ⟨hl, ⟨rfl, hn⟩ | ⟨g, cap, cur, rfl, hg, hh, h1, h2, h3, h4⟩⟩ := h.row
  · exact ⟨none, 0, by rw [hn], by omega, by omega⟩
  · unfold maxLen at h2
    exact ⟨_, cap, rfl, h1, by omega⟩
/-- the map has changed -/
theorem TbAt.taken (h : TbAt w wr tb mb sv F cols its) (hm : MapF W mb F') (hk : KeepM wr mb W) : TbAt w W tb mb sv F' cols its := by
  have hown : W.ownsRow w.heap.size 47 4 sv its.length (gsC its) := by
    obtain ⟨hl, h0 | ⟨g, cap, cur, hv, hg, hh, h1, h2, h3, h4⟩⟩ := h.row
    · exact ⟨hl, .inl h0⟩
    · exact ⟨hl, .inr ⟨g, cap, cur, hv, hg, (hk.block g (ltH hh) (fun e => h.nsm (by rw [hv, ← e]; rfl))).trans hh, h1, h2, h3, h4⟩⟩
  exact ⟨⟨hk.os.trans h.below.os, hk.tape.trans h.below.tape, hk.output.trans h.below.output, Nat.le_trans h.below.size hk.size, fun b hb => (hk.block b (Nat.lt_of_lt_of_le hb h.below.size) (by have := h.lom; omega)).trans (h.below.block b hb)⟩, (hk.block tb (ltH h.tab) h.ntm).trans h.tab, h.lot, h.lom, hown, hm, h.ntm, h.nst, h.nsm⟩
/-- how many columns there are has changed -/
theorem TbAt.setCols (h : TbAt w wr tb mb sv F cols its) (x : Int) : TbAt w (wr.setCell ⟨tb, 2, none⟩ (.int .i64 x)) tb mb sv F x its := by
  have hown : (wr.setCell ⟨tb, 2, none⟩ (.int .i64 x)).ownsRow w.heap.size 47 4 sv its.length (gsC its) := by
    obtain ⟨hl, h0 | ⟨g, cap, cur, hv, hg, hh, h1, h2, h3, h4⟩⟩ := h.row
    · exact ⟨hl, .inl h0⟩
    · exact ⟨hl, .inr ⟨g, cap, cur, hv, hg, (heap_setCell_other wr ⟨tb, 2, none⟩ g _ (fun e => h.nst (by rw [hv, show g = tb from e]; rfl))).trans hh, h1, h2, h3, h4⟩⟩
  refine ⟨h.below.setCell h.lot _, ?_, h.lot, h.lom, hown, h.map.keep (heap_setCell_other wr ⟨tb, 2, none⟩ mb _ (Ne.symm h.ntm)), h.ntm, h.nst, h.nsm⟩
  rw [heap_setCell_same wr tb 2 _ 91 _ h.tab]
  rfl
end
end Go.Proofs.Ytbphlbohiifcmaa
