/- The document's PlaceCells: an item that is looked at, beside the others. -/
import Derived.Test.YtbphlbohiifcmaaQGMem
namespace Go.Proofs.Ytbphlbohiifcmaa
open Go.RowKit
set_option linter.unusedVariables false      -- bounds that are for the walk

/-- the number that lies at a place -/
def intAt (w : World) (g k : Nat) : Int := match w.cell? ⟨g, k, none⟩ with
  | some (.int _ n) => n
  | _ => 0
theorem PcAt.other {w wr : World} {lv : Value} {sb n g k : Nat} {its : List Gi} {st : Nat → Bool} {v : Value} (h : PcAt w wr lv sb n its st) (lo : w.heap.size ≤ g) (nl : lv.ownBlock ≠ some g) (ns : sb ≠ g) : PcAt w (wr.setCell ⟨g, k, none⟩ v) lv sb n its st := by
  refine ⟨h.below.setCell lo _, h.len, ?_, h.std.other ns _ _, h.lo, h.ne⟩
  obtain ⟨hl, h0 | ⟨g', cap, cur, hv, hg, hh, h1, h2, h3, h4⟩⟩ := h.row
  · exact ⟨hl, .inl h0⟩
  · exact ⟨hl, .inr ⟨g', cap, cur, hv, hg, (heap_setCell_other wr ⟨g, k, none⟩ g' _ (fun e => nl (by rw [hv, show g' = g from e]; rfl))).trans hh, h1, h2, h3, h4⟩⟩
structure CuSt (w wr : World) (lv : Value) (sb n g : Nat) (its : List Gi) (st : Nat → Bool) (i : Gi) : Prop where
  p : PcAt w wr lv sb n its st
  x : QxAt wr g i
  lo : w.heap.size ≤ g
  nl : lv.ownBlock ≠ some g
  ns : sb ≠ g
section
variable {w wr W : World} {lv : Value} {sb n g : Nat} {its : List Gi} {st : Nat → Bool} {i : Gi}
theorem CuSt.new (h : PcAt w wr lv sb n its st) (i : Gi) : CuSt w (wr.alloc (.cells #[.int .i64 i.c, .int .i64 i.cs, .int .i64 i.r, .int .i64 i.rs] 48)) lv sb n wr.heap.size its st i := by
  refine ⟨h.held ((Below.refl _ _).alloc (Nat.le_refl _) _), heap_alloc_new wr _, h.below.size, fun e => ?_, fun e => ?_⟩
  · have := (h.row.lt _ e).2; omega
  · have := h.std.lt; omega
theorem CuSt.held (h : CuSt w wr lv sb n g its st i) (hb : Below wr.heap.size wr W) : CuSt w W lv sb n g its st i :=
  ⟨h.p.held hb, h.x.held hb, h.lo, h.nl, h.ns⟩
theorem CuSt.setR (h : CuSt w wr lv sb n g its st i) (r : Int) : CuSt w (wr.setCell ⟨g, 2, none⟩ (.int .i64 r)) lv sb n g its st (i.atR r) :=
  ⟨h.p.other h.lo h.nl h.ns, h.x.setR r, h.lo, h.nl, h.ns⟩
theorem CuSt.set4 (h : CuSt w wr lv sb n g its st i) (a b c d : Int) : CuSt w ((((wr.setCell ⟨g, 0, none⟩ (.int .i64 a)).setCell ⟨g, 1, none⟩ (.int .i64 b)).setCell ⟨g, 2, none⟩ (.int .i64 c)).setCell ⟨g, 3, none⟩ (.int .i64 d)) lv sb n g its st ⟨a, b, c, d⟩ :=
  ⟨(((h.p.other h.lo h.nl h.ns).other h.lo h.nl h.ns).other h.lo h.nl h.ns).other h.lo h.nl h.ns, four_setQ h.x a b c d, h.lo, h.nl, h.ns⟩
theorem PcAt.free (h : PcAt w wr lv sb n its st) (hn : n ≤ 200) (hS : ∀ i ∈ its, i.Sm) (hi : i.Sm) : Calls Try.prog 49 #[lv, .slice (some ⟨sb, 0, none⟩) n n, gV i] wr fun e w' => ∃ v, e = .returned v ∧ IsB v (FreeL its (fun j => st j = true) i) ∧ Below wr.heap.size wr w' := by
  have hs : StL wr (.slice (some ⟨sb, 0, none⟩) n n) its.length st := by rw [h.len]; exact h.std.stL (by omega)
  exact free_any h.gsL hs hS hi (by rw [h.len]; exact hn)
theorem PcAt.found (h : PcAt w wr lv sb n its st) (hn : n ≤ 200) (hS : ∀ i ∈ its, i.Sm) (hi : i.Sm) {cols cc cr c r : Int} (hO : OrdL its (fun j => st j = true) i.cs i.rs cols cc cr c r) (q1 : 1 ≤ cc) (q2 : cc ≤ 80000) (q3 : 1 ≤ cr) (q4 : r ≤ 90000) (q5 : cols ≤ 80000) :
    Calls Try.prog 50 #[lv, .slice (some ⟨sb, 0, none⟩) n n, gV i, .int .i64 cr, .int .i64 cc, .int .i64 cols] wr fun e w' => e = .returned (gV ⟨c, i.cs, r, i.rs⟩) ∧ Below wr.heap.size wr w' := by
  have hs : StL wr (.slice (some ⟨sb, 0, none⟩) n n) its.length st := by rw [h.len]; exact h.std.stL (by omega)
  exact found_any h.gsL hs hS hi.cs1 hi.cs2 hi.rs1 hi.rs2 (by rw [h.len]; exact hn) hO q1 q2 q3 q4 q5
end
/-- those that stand, as the document marks them -/
def StP (n : Nat) (st : Nat → Bool) (P : Nat → Prop) : Prop := ∀ j, j < n → (st j = true ↔ P j)
theorem StP.free {n : Nat} {st : Nat → Bool} {P : Nat → Prop} {its : List Gi} {x : Gi} (h : StP n st P) (hl : its.length = n) : FreeL its (fun j => st j = true) x ↔ FreeL its P x := FreeL.congr (fun j hj => h j (by omega))
theorem StP.ord {n : Nat} {st : Nat → Bool} {P : Nat → Prop} {its : List Gi} {cs rs cols cc cr c r : Int} (h : StP n st P) (hl : its.length = n) (hO : OrdL its P cs rs cols cc cr c r) : OrdL its (fun j => st j = true) cs rs cols cc cr c r :=
  ⟨(h.free hl).2 hO.free, hO.within, hO.c1, hO.r1, hO.from_, fun y z a1 a2 a3 a4 a5 a6 hf => hO.least y z a1 a2 a3 a4 a5 a6 ((h.free hl).1 hf)⟩
theorem StP.more {n k : Nat} {st : Nat → Bool} {P P' : Nat → Prop} (h : StP n st P) (e : ∀ j, j < n → (P' j ↔ (P j ∨ j = k))) : StP n (fun j => if j = k then true else st j) P' := by
  intro j hj
  rw [e j hj]
  by_cases ejk : j = k
  · simp [ejk]
  · simp only [if_neg ejk]
    rw [h j hj]
    simp [ejk]
theorem PCur.succ {l0 : List Gi} {k : Nat} {o : Gi} (hk : l0[k]? = some o) (j : Nat) : PCur l0 (k + 1) j ↔ (PCur l0 k j ∨ j = k) := by
  constructor
  · rintro ⟨q, h1, h2⟩
    by_cases e : j = k
    · exact .inr e
    · exact .inl ⟨q, h1, by rcases h2 with h2 | h2; exact .inl h2; exact .inr (by omega)⟩
  · rintro (⟨q, h1, h2⟩ | rfl)
    · exact ⟨q, h1, by rcases h2 with h2 | h2; exact .inl h2; exact .inr (by omega)⟩
    · exact ⟨o, hk, .inr (by omega)⟩
theorem PRow.succ {l0 : List Gi} {k : Nat} {o : Gi} (hk : l0[k]? = some o) (h1 : 0 < o.r) (j : Nat) : PRow l0 (k + 1) j ↔ (PRow l0 k j ∨ j = k) := by
  constructor
  · rintro ⟨q, e1, e2⟩
    by_cases e : j = k
    · exact .inr e
    · exact .inl ⟨q, e1, by rcases e2 with e2 | ⟨e2, e3⟩; exact .inl e2; exact .inr ⟨by omega, e3⟩⟩
  · rintro (⟨q, e1, e2⟩ | rfl)
    · exact ⟨q, e1, by rcases e2 with e2 | ⟨e2, e3⟩; exact .inl e2; exact .inr ⟨by omega, e3⟩⟩
    · exact ⟨o, hk, .inr ⟨by omega, h1⟩⟩
theorem PRow.skip {l0 : List Gi} {k : Nat} {o : Gi} (hk : l0[k]? = some o) (h0 : 0 ≤ o.r) (h : o.r = 0 ∨ 0 < o.c) (j : Nat) : PRow l0 (k + 1) j ↔ PRow l0 k j := by
  constructor
  · rintro ⟨q, e1, e2⟩
    refine ⟨q, e1, ?_⟩
    rcases e2 with e2 | ⟨e2, e3⟩
    · exact .inl e2
    · by_cases e : j = k
      · subst e
        rw [hk] at e1
        cases e1
        exact .inl ⟨by omega, e3⟩
      · exact .inr ⟨by omega, e3⟩
  · rintro ⟨q, e1, e2⟩
    exact ⟨q, e1, by rcases e2 with e2 | ⟨e2, e3⟩; exact .inl e2; exact .inr ⟨by omega, e3⟩⟩
end Go.Proofs.Ytbphlbohiifcmaa
