/- What is kept to undo a change, as it lies in memory. -/
import Derived.Test.YtiikjflaonhfdaaDoorPutU
namespace Go.Proofs.YtiikjflaonhfdaaDoor
open Go.RowKit

/-- a cell that a kept function has captured -/
def Cap (w : World) (M : Nat → Lab) (b o : Nat) (v : Value) : Prop := M b = .other ∧ w.cell? ⟨b, o, none⟩ = some v
theorem Cap.moved {w w' : World} {M M' : Nat → Lab} {b o : Nat} {v : Value} (h : Cap w M b o v) (m : Moved w M w' M') : Cap w' M' b o v :=
  ⟨(m.lab b (World.block_lt_of_cell? w _ h.2)).trans h.1, moved_cell m h.1 h.2⟩

def at0 (b : Nat) : Value := .pointer (some ⟨b, 0, none⟩)

/-- a function that is kept, and what it has captured -/
def KeptF (w : World) (M : Nat → Lab) (tb : Nat) (f : Value) : Rec → Prop
  | .forget n => Frg w M f tb n
  | .move i fr wz => MvF w M f tb i fr (wz : Nat)
  | .cut i => ∃ b1 b2, f = .func (.func 49) #[] #[.pointer (some ⟨b1, 0, none⟩), .pointer (some ⟨b2, 0, none⟩)] ∧ Cap w M b1 0 (at0 tb) ∧ Cap w M b2 0 (.int .i64 i)
  | .back i k old => ∃ b0 b1 b2 b3, f = .func (.func 51) #[] #[.pointer (some ⟨b0, 0, none⟩), .pointer (some ⟨b1, 0, none⟩), .pointer (some ⟨b2, 0, none⟩), .pointer (some ⟨b3, 0, none⟩)] ∧ Cap w M b0 0 (.string old) ∧ Cap w M b1 0 (at0 tb) ∧ Cap w M b2 0 (.int .i64 i) ∧ Cap w M b3 0 (.int .i64 k)
  | .ins i k x => ∃ b1 b2 b3 b4, f = .func (.func 52) #[] #[.pointer (some ⟨b1, 0, none⟩), .pointer (some ⟨b2, 0, none⟩), .pointer (some ⟨b3, 0, none⟩), .pointer (some ⟨b4, 0, none⟩)] ∧ Cap w M b1 0 (at0 tb) ∧ Cap w M b2 0 (.int .i64 i) ∧ Cap w M b3 0 (.int .i64 k) ∧ Cap w M b4 0 (.string x.1) ∧ Cap w M b4 1 (.string x.2)
  | .say i old => ∃ b0 b1 b2, f = .func (.func 54) #[] #[.pointer (some ⟨b0, 0, none⟩), .pointer (some ⟨b1, 0, none⟩), .pointer (some ⟨b2, 0, none⟩)] ∧ Cap w M b0 0 (.string old) ∧ Cap w M b1 0 (at0 tb) ∧ Cap w M b2 0 (.int .i64 i)

theorem KeptF.moved {w w' : World} {M M' : Nat → Lab} {tb : Nat} {f : Value} {r : Rec} (h : KeptF w M tb f r) (m : Moved w M w' M') : KeptF w' M' tb f r := by
  cases r with
  | forget n => exact Frg.moved h m
  | move i fr wz => exact MvF.moved h m
  | cut i =>
    obtain ⟨b1, b2, h0, h1, h2⟩ := h
    exact ⟨b1, b2, h0, h1.moved m, h2.moved m⟩
  | back i k old =>
    obtain ⟨b0, b1, b2, b3, h0, h1, h2, h3, h4⟩ := h
    exact ⟨b0, b1, b2, b3, h0, h1.moved m, h2.moved m, h3.moved m, h4.moved m⟩
  | ins i k x =>
    obtain ⟨b1, b2, b3, b4, h0, h1, h2, h3, h4, h5⟩ := h
    exact ⟨b1, b2, b3, b4, h0, h1.moved m, h2.moved m, h3.moved m, h4.moved m, h5.moved m⟩
  | say i old =>
    obtain ⟨b0, b1, b2, h0, h1, h2, h3⟩ := h
    exact ⟨b0, b1, b2, h0, h1.moved m, h2.moved m, h3.moved m⟩

/-- a change was made, and what undoes it is kept -/
def Done (w : World) (M : Nat → Lab) (tb : Nat) (ps : List Pn) (us : List Value) (K : Nat) (w' : World) : Prop :=
  ∃ M' nv' uv' ps' f r, Lies w' M' tb nv' uv' ps' (us ++ [f]) ∧ KeptF w' M' tb f r ∧ WF (nodesOf ps') ∧ Undoes (nodesOf ps') (nodesOf ps) r ∧ Moved w M w' M' ∧ Few (nodesOf ps') (K + 1)

theorem few_of_attrs {ns ns' : List Nd} {K : Nat} (h : Few ns K) (he : ns'.map Nd.attrs = ns.map Nd.attrs) : Few ns' (K + 1) := by
  intro j n hn
  have : (ns'.map Nd.attrs)[j]? = some n.attrs := by simp [hn]
  rw [he, List.getElem?_map] at this
  obtain ⟨m, h1, h2⟩ := Option.map_eq_some_iff.1 this
  rw [← h2]
  exact Nat.le_succ_of_le (h j m h1)
theorem few_set {ns : List Nd} {K i : Nat} (h : Few ns K) {n' : Nd} (hn : n'.attrs.length ≤ K + 1) : Few (ns.set i n') (K + 1) := by
  intro j m hm
  by_cases hj : i = j
  · subst hj
    have hl : i < ns.length := by have := (List.getElem?_eq_some_iff.1 hm).1; simpa using this
    rw [List.getElem?_set_self hl] at hm
    cases hm
    exact hn
  · rw [List.getElem?_set_ne hj] at hm
    exact Nat.le_succ_of_le (h j m hm)

theorem WasMoved.done {w w' : World} {M : Nat → Lab} {tb : Nat} {nv : Value} {ps : List Pn} {us : List Value} {K : Nat} {e : Ending} (h : WasMoved w M tb nv ps us e w') (hf : Few (nodesOf ps) K) : Done w M tb ps us K w' := by
  obtain ⟨_, M', uv', ps', f, i, fr, wz, h1, h2, h3, h4, h5, h6⟩ := h
  exact ⟨M', nv, uv', ps', f, .move i fr wz, h1, h2, h3, h4, h5, few_of_attrs hf h6⟩
theorem Made.done {w w' : World} {M : Nat → Lab} {tb : Nat} {ps : List Pn} {us : List Value} {p : Pn} {K : Nat} {e : Ending} (h : Made w M tb ps us p e w') (hW : WF (nodesOf ps)) (hl : ps.length < 400) (hf : Few (nodesOf ps) K) (h1 : p.n.parent = -1) (h2 : p.n.kids = []) (h3 : p.n.attrs = []) : Done w M tb ps us K w' := by
  obtain ⟨_, M', nv', uv', f, g1, g2, g3⟩ := h
  have e : nodesOf (ps ++ [p]) = nodesOf ps ++ [p.n] := by simp [nodesOf]
  have hl' : (nodesOf ps).length = ps.length := by simp [nodesOf]
  refine ⟨M', nv', uv', _, f, .forget ps.length, g1, g2, ?_, ?_, g3, ?_⟩
  · rw [e]; exact hW.snoc (by omega) _ h1 h2
  · rw [e]; exact ⟨by simp [hl'], by rw [← hl', List.take_left]⟩
  · rw [e]
    intro j n hn
    by_cases hj : j < (nodesOf ps).length
    · rw [List.getElem?_append_left hj] at hn; exact Nat.le_succ_of_le (hf j n hn)
    · rw [List.getElem?_append_right (by omega)] at hn
      rcases Nat.eq_zero_or_pos (j - (nodesOf ps).length) with e | e
      · rw [e] at hn; cases hn; rw [h3]; simp
      · rw [List.getElem?_eq_none (by simp; omega)] at hn; cases hn
end Go.Proofs.YtiikjflaonhfdaaDoor
