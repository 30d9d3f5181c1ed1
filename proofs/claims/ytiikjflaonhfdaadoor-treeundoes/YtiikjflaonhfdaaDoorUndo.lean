/- What the kept functions do. -/
import Derived.Test.YtiikjflaonhfdaaDoorUnset
import Derived.Test.YtiikjflaonhfdaaDoorSay
import Derived.Test.YtiikjflaonhfdaaDoorMake3
namespace Go.Proofs.YtiikjflaonhfdaaDoor
open Go.RowKit

/-- a kept function has run -/
def Ran (w : World) (M : Nat → Lab) (tb : Nat) (us : List Value) (ns' : List Nd) (e : Ending) (w' : World) : Prop :=
  e = .returned (.tuple #[]) ∧ ∃ M' nv' uv' ps', Lies w' M' tb nv' uv' ps' us ∧ nodesOf ps' = ns' ∧ Moved w M w' M'

theorem set_nodes {ps : List Pn} {i : Nat} {q : Pn} : nodesOf (ps.set i q) = (nodesOf ps).set i q.n := by
  rw [nodesOf, List.map_set]; rfl

set_option maxHeartbeats 4000000 in
set_option maxRecDepth 100000 in
theorem say1_any {w : World} {M : Nat → Lab} {tb : Nat} {nv uv : Value} {ps : List Pn} {us : List Value} (h : Lies w M tb nv uv ps us) {i : Nat} {p : Pn} (hp : ps[i]? = some p) {old : ByteArray} {b0 b1 b2 : Nat} (k0 : Cap w M b0 0 (.string old)) (k1 : Cap w M b1 0 (at0 tb)) (k2 : Cap w M b2 0 (.int .i64 i)) :
    Calls Tryd.prog 54 #[.pointer (some ⟨b0, 0, none⟩), .pointer (some ⟨b1, 0, none⟩), .pointer (some ⟨b2, 0, none⟩)] w (Ran w M tb us ((nodesOf ps).set i { p.n with words := old })) := by
  obtain ⟨nb, nc, rfl, hc, hm, hnM, hnl, hil⟩ := h.form hp
  have c0 := h.cell0
  obtain ⟨c2, c2f⟩ := h.cellN rfl (f := 2) hp (by omega) rfl
  have HS : Hid _ := h.setNode rfl (f := 2) (c := .string old) hp (by omega) (p' := ⟨{ p.n with words := old }, p.av, p.kv⟩) rfl (h.node i p hp).1 (h.node i p hp).2
  have j0 := k0.2
  have j1 := k1.2
  have j2 := k2.2
  unfold at0 at j1
  have i1 : (0 : Int) ≤ (i : Int) := by omega
  have i2 : (i : Int) < (ps.length : Int) := by omega
  unfold maxLen at hm
  clear h hp k0 k1 k2
  go_enter Tryd.func54, Tryd.ntmps54
  go_wp2_with fail
  all_goals go_region
  all_goals go_wp2
  all_goals go_end0
  all_goals exact ⟨rfl, M, _, _, _, HS.out.1.drew, set_nodes, (HS.out.2.moved (by intro e; cases e)).drew⟩

set_option maxHeartbeats 4000000 in
set_option maxRecDepth 100000 in
theorem set2_any {w : World} {M : Nat → Lab} {tb : Nat} {nv uv : Value} {ps : List Pn} {us : List Value} (h : Lies w M tb nv uv ps us) {i k : Nat} {p : Pn} (hp : ps[i]? = some p) {x : ByteArray × ByteArray} (hx : p.n.attrs[k]? = some x) {old : ByteArray} {b0 b1 b2 b3 : Nat} (k0 : Cap w M b0 0 (.string old)) (k1 : Cap w M b1 0 (at0 tb)) (k2 : Cap w M b2 0 (.int .i64 i)) (k3 : Cap w M b3 0 (.int .i64 k)) :
    Calls Tryd.prog 51 #[.pointer (some ⟨b0, 0, none⟩), .pointer (some ⟨b1, 0, none⟩), .pointer (some ⟨b2, 0, none⟩), .pointer (some ⟨b3, 0, none⟩)] w (Ran w M tb us ((nodesOf ps).set i { p.n with attrs := p.n.attrs.set k (x.1, old) })) := by
  obtain ⟨nb, nc, rfl, hc, hm, hnM, hnl, hil⟩ := h.form hp
  have hkl : k < p.n.attrs.length := (List.getElem?_eq_some_iff.1 hx).1
  obtain ⟨ag, ac, hav, hac1, hac2, hagM, hagl⟩ := (h.node i p hp).1.form (by omega)
  have c0 := h.cell0
  obtain ⟨c3, c3f⟩ := h.cellN rfl (f := 3) hp (by omega) rfl
  rw [hav] at c3
  obtain ⟨cx, cxf⟩ := (h.node i p hp).1.cell hav (attrCells_get p.n.attrs k x hx).2
  have st : Step w M (w.setCell ⟨ag, k * 2 + 1, none⟩ (.string old)) M (.attrs i) := step_setCell _ hagM h.fresh
  have hrs := (h.node i p hp).1.set hav (k * 2 + 1) (.string old) (by rw [attrCells_length]; omega)
  have HQ : Hid _ := h.turnAttrs hp st (at' := p.n.attrs.set k (x.1, old)) (by rw [List.length_set, attrCells_set p.n.attrs k x old hx]; exact hrs)
  have j0 := k0.2
  have j1 := k1.2
  have j2 := k2.2
  have j3 := k3.2
  unfold at0 at j1
  have i1 : (0 : Int) ≤ (i : Int) := by omega
  have i2 : (i : Int) < (ps.length : Int) := by omega
  have i3 : (0 : Int) ≤ (k : Int) := by omega
  have i4 : (k : Int) < (p.n.attrs.length : Int) := by omega
  unfold maxLen at hm hac2
  clear h hp hx k0 k1 k2 k3 st hrs
  go_enter Tryd.func51, Tryd.ntmps51
  go_wp2_with fail
  all_goals go_region
  all_goals go_wp2
  all_goals go_end0
  all_goals exact ⟨rfl, M, _, _, _, HQ.out.1.drew, set_nodes, HQ.out.2.drew⟩

end Go.Proofs.YtiikjflaonhfdaaDoor
