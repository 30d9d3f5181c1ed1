/- The document's answer: a tree of a document alone. -/
import Derived.Test.YtlfepdecgfcifaaDoorRSet2
import Derived.Test.YtlfepdecgfcifaaDoorM21
import Derived.Test.YtlfepdecgfcifaaDoorM20
import Derived.Test.YtlfepdecgfcifaaDoorM08
namespace Go.Proofs.YtlfepdecgfcifaaDoor
open Go.RowKit

def docCells : Array Value := #[.int .i64 1, .string ⟨#[]⟩, .string ⟨#[]⟩, .slice none 0 0, .int .i64 (-1), .slice none 0 0]

theorem rlies_doc {w0 w : World} {tb nb : Nat} (hb : Below w0.heap.size w0 w) (ht : w.heap[tb]? = some (.cells #[.slice (some ⟨nb, 0, none⟩) 1 1, .slice none 0 0] 32 (0, 0))) (hn : w.heap[nb]? = some (.cells docCells 83 (0, 0))) (hne : tb ≠ nb) (h1 : w0.heap.size ≤ tb) (h2 : w0.heap.size ≤ nb) :
    ∃ M, RLies w M tb (.slice (some ⟨nb, 0, none⟩) 1 1) (.slice none 0 0) [docP] [] ∧ Moved w0 (fun _ => .other) w M := by
  have lt := lt_of_heap ht
  have ln := lt_of_heap hn
  refine ⟨fun b => if b = nb then .nodes else if b = tb then .tree else .other, ⟨?_, ?_, ht, ?_, Row.nil _ _ _ _ _, ?_⟩, ⟨hb.os, hb.tape, hb.output, hb.size, ?_, fun b hb' _ => hb.block b hb'⟩⟩
  · intro b hb'
    simp [show b ≠ nb by omega, show b ≠ tb by omega]
  · simp [hne]
  · exact ⟨rfl, some ⟨nb, 0, none⟩, 1, rfl, by decide, by unfold maxLen; omega, .inr ⟨nb, docCells, rfl, by simp, hn, by decide, rfl⟩⟩
  · intro i p hp
    have : i = 0 := by
      rcases Nat.eq_zero_or_pos i with e | e
      · exact e
      · rw [List.getElem?_eq_none (by simp; omega)] at hp; cases hp
    subst this
    cases hp
    exact ⟨Row.nil _ _ _ _ _, Row.nil _ _ _ _ _⟩
  · intro b hb'
    simp [show b ≠ nb by omega, show b ≠ tb by omega]

set_option maxHeartbeats 1000000 in
theorem newTree_any (w : World) : Calls Tryd.prog 26 #[] w fun e w' => ∃ nb, e = .returned (.agg #[.slice (some ⟨nb, 0, none⟩) 1 1, .slice none 0 0]) ∧ w'.heap[nb]? = some (.cells docCells 83 (0, 0)) ∧ w.heap.size ≤ nb ∧ nb < w'.heap.size ∧ Below w.heap.size w w' := by
  go_enter Tryd.func26, Tryd.ntmps26
  go_wp2
  refine bodyPost_ret (v := .agg #[.slice (some ⟨w.heap.size + 1, 0, none⟩) 1 1, .slice none 0 0]) ?_ rfl ⟨w.heap.size + 1, rfl, ?_, by omega, by simp, ((Below.refl _ _).alloc (Nat.le_refl _) _).alloc (by simp) _⟩
  · simp [results, Tryd.results26, go_sem]
  · have := heap_alloc_new (w.alloc (.cells #[.slice (some ⟨w.heap.size + 1, 0, none⟩) 1 1, .slice none 0 0] 32)) (.cells docCells 83)
    simpa [docCells] using this

/-- the node that Make makes -/
def makeN (kind : Int) (s : ByteArray) : Nd := if kind = 2 then ⟨2, s, ⟨#[]⟩, [], -1, []⟩ else ⟨kind, ⟨#[]⟩, s, [], -1, []⟩

theorem rmake_any {w : World} {M : Nat → Lab} {tb : Nat} {nv uv : Value} {ps : List Pn} {us : List Value} (h : RLies w M tb nv uv ps us) (hs : Small ps) (hn : ps.length < 400) (hu : us.length ≤ 1000000000) (kind : Int) (s : ByteArray) (hg : (kind = 2 ∧ nameB s = true) ∨ (¬ kind = 2 ∧ s.size ≤ 20000)) :
    Calls Tryd.prog 28 #[.pointer (some ⟨tb, 0, none⟩), .int .i64 kind, .string s] w (RMade w M tb ps us ⟨makeN kind s, .slice none 0 0, .slice none 0 0⟩) := by
  rcases hg with ⟨rfl, h1⟩ | ⟨h1, h2⟩
  · exact rmake_elem h hs hn hu s h1
  · unfold makeN
    rw [if_neg h1]
    exact rmake_other h hs hn hu s kind h1 h2

theorem rset_at {w : World} {M : Nat → Lab} {tb : Nat} {nv uv : Value} {ps : List Pn} {us : List Value} (h : RLies w M tb nv uv ps us) (hs : Small ps) (hn : ps.length ≤ 1000000) (hu : us.length ≤ 1000000000) {i : Nat} {p : Pn} (hp : ps[i]? = some p) (ha : p.n.attrs.length ≤ 1000000000) (name value : ByteArray) (hvs : value.size ≤ 9223372036854775807) (x : Int) (hx : x = i) :
    Calls Tryd.prog 29 #[.pointer (some ⟨tb, 0, none⟩), .int .i64 x, .string name, .string value, .bool false] w (RSetPost w M tb nv ps us i name value) := by
  subst hx
  exact rset_any h hs hn hu hp ha name value hvs

/-- a tree of these nodes lies there, and not too much was done -/
def RAt (B : World) (tb : Nat) (ns : List Nd) (U A K : Nat) (w : World) : Prop :=
  ∃ M nv uv ps us, RLies w M tb nv uv ps us ∧ Moved B (fun _ => .other) w M ∧ nodesOf ps = ns ∧ us.length ≤ U ∧ SizedN ns A K

theorem RAt.parts {B : World} {tb : Nat} {ns : List Nd} {U A K : Nat} {w : World} (h : RAt B tb ns U A K w) : ∃ M nv uv ps us, RLies w M tb nv uv ps us ∧ Moved B (fun _ => .other) w M ∧ nodesOf ps = ns ∧ us.length ≤ U ∧ SizedN ns A K ∧ ps.length = ns.length := by
  obtain ⟨M, nv, uv, ps, us, h1, h2, h3, h4, h5⟩ := h
  exact ⟨M, nv, uv, ps, us, h1, h2, h3, h4, h5, by rw [← h3]; simp [nodesOf]⟩
theorem RAt.below {B : World} {tb : Nat} {ns : List Nd} {U A K : Nat} {w w' : World} (h : RAt B tb ns U A K w) (hb : Below w.heap.size w w') : RAt B tb ns U A K w' := by
  obtain ⟨M, nv, uv, ps, us, h1, h2, h3, h4, h5⟩ := h
  exact ⟨M, nv, uv, ps, us, h1.below hb, h2.below hb, h3, h4, h5⟩
theorem RAt.old {B : World} {tb : Nat} {ns : List Nd} {U A K : Nat} {w : World} (h : RAt B tb ns U A K w) : Below B.heap.size B w := by
  obtain ⟨M, nv, uv, ps, us, h1, h2, _⟩ := h
  exact ⟨h2.os, h2.tape, h2.output, h2.size, fun b hb => h2.far b hb rfl⟩

/-- Set, of such a tree -/
theorem RAt.set {B : World} {tb : Nat} {ns : List Nd} {U A K : Nat} {w : World} (h : RAt B tb ns U A K w) (hl : ns.length ≤ 400) (hU : U ≤ 1000000) (hA : A ≤ 1000000) (hK : K ≤ 1000000) {i : Nat} (hi : i < ns.length) (name value : ByteArray) (hvs : value.size ≤ 9223372036854775807) (x : Int) (hx : x = i) :
    Calls Tryd.prog 29 #[.pointer (some ⟨tb, 0, none⟩), .int .i64 x, .string name, .string value, .bool false] w fun e w' => (∃ c, e = .returned (.int .i64 c)) ∧ RAt B tb (setS ns i name value) (U + 1) (A + 1) K w' := by
  obtain ⟨M, nv, uv, ps, us, h1, h2, h3, h4, h5, h6⟩ := h.parts
  obtain ⟨p, hp⟩ : ∃ p, ps[i]? = some p := ⟨ps[i]'(by omega), List.getElem?_eq_getElem _⟩
  have hsz := h5 i p.n (h3 ▸ nodes_get hp)
  refine (rset_at h1 (SizedN.small (h3 ▸ h5) (by omega) (by omega)) (by omega) (by omega) hp (by omega) name value hvs x hx).mono ?_
  rintro e w' ⟨⟨c, rfl⟩, M', uv', ps', us', g1, g2, g3, g4⟩
  exact ⟨⟨c, rfl⟩, M', nv, uv', ps', us', g1, h2.trans g2, by rw [g3, h3], by omega, h5.set i name value⟩

/-- Put, of such a tree -/
theorem RAt.put {B : World} {tb : Nat} {ns : List Nd} {U A K : Nat} {w : World} (h : RAt B tb ns U A K w) (hl : ns.length ≤ 400) (hU : U ≤ 1000000) (hA : A ≤ 1000000) (hK : K ≤ 1000000) {a b : Nat} {na nb : Nd} (hs : Sound ns) (hn : Neat ns) (ha : ns[a]? = some na) (hb : ns[b]? = some nb) (hab : a ≠ b) (hb0 : 0 < b) (hra : na.parent = -1) (hrb : nb.parent = -1) (x y : Int) (hx : x = a) (hy : y = b) :
    Calls Tryd.prog 30 #[.pointer (some ⟨tb, 0, none⟩), .int .i64 x, .int .i64 y, .int .i64 na.kids.length] w fun e w' => (∃ c, e = .returned (.int .i64 c)) ∧ RAt B tb (putS ns a b) (U + 1) A (K + 1) w' := by
  obtain ⟨M, nv, uv, ps, us, h1, h2, h3, h4, h5, h6⟩ := h.parts
  obtain ⟨pa, hpa, ea⟩ := nodesOf_get (ps := ps) (h3 ▸ ha)
  obtain ⟨pb, hpb, eb⟩ := nodesOf_get (ps := ps) (h3 ▸ hb)
  subst ea
  subst eb
  have hsz := h5 a pa.n ha
  refine (rput_any h1 (SizedN.small (h3 ▸ h5) (by omega) (by omega)) (by omega) (by omega) hpa hpb hab hb0 (by omega) hra hrb (hs.notKid ha hb hrb) (hn.kin a pa.n ha) x y hx hy).mono ?_
  rintro e w' ⟨⟨c, rfl⟩, M', uv', ps', us', g1, g2, g3, g4⟩
  exact ⟨⟨c, rfl⟩, M', nv, uv', ps', us', g1, h2.trans g2, by rw [g3, h3], by omega, h5.put a b⟩

/-- Make, of such a tree -/
theorem RAt.make {B : World} {tb : Nat} {ns : List Nd} {U A K : Nat} {w : World} (h : RAt B tb ns U A K w) (hl : ns.length < 400) (hU : U ≤ 1000000) (hA : A ≤ 1000000) (hK : K ≤ 1000000) (kind : Int) (s : ByteArray) (hg : (kind = 2 ∧ nameB s = true) ∨ (¬ kind = 2 ∧ s.size ≤ 20000)) :
    Calls Tryd.prog 28 #[.pointer (some ⟨tb, 0, none⟩), .int .i64 kind, .string s] w fun e w' => e = .returned (.tuple #[.int .i64 ns.length, .int .i64 0]) ∧ RAt B tb (ns ++ [makeN kind s]) (U + 1) A K w' := by
  obtain ⟨M, nv, uv, ps, us, h1, h2, h3, h4, h5, h6⟩ := h.parts
  refine (rmake_any h1 (SizedN.small (h3 ▸ h5) (by omega) (by omega)) (by omega) (by omega) kind s hg).mono ?_
  rintro e w' ⟨rfl, M', nv', uv', v, g1, g2⟩
  refine ⟨by rw [h6], M', nv', uv', _, _, g1, h2.trans g2, by rw [← h3]; simp [nodesOf], by simp; omega, h5.snoc _ ?_ ?_⟩
  · unfold makeN; split <;> rfl
  · unfold makeN; split <;> rfl

/-- what a walk reads of such a tree: where the nodes lie, and a field of one -/
theorem RAt.read {B : World} {tb : Nat} {ns : List Nd} {U A K : Nat} {w : World} (h : RAt B tb ns U A K w) {i : Nat} {n : Nd} (hi : ns[i]? = some n) :
    ∃ nb cap ka kc, w.cell? ⟨tb, 0, none⟩ = some (.slice (some ⟨nb, 0, none⟩) ns.length cap) ∧ ns.length ≤ cap ∧ cap ≤ 9223372036854775807 ∧ w.cell? ⟨nb, i * 6 + 4, none⟩ = some (.int .i64 n.parent) ∧ w.cell? ⟨nb, i * 6 + 5, none⟩ = some (.slice ka n.kids.length kc) := by
  obtain ⟨M, nv, uv, ps, us, h1, h2, h3, h4, h5, h6⟩ := h.parts
  obtain ⟨p, hp, e⟩ := nodesOf_get (ps := ps) (h3 ▸ hi)
  subst e
  obtain ⟨nb, cap, rfl, g1, g2, _⟩ := h1.form hp
  obtain ⟨ka, kc, hkv, _⟩ := (h1.node i p hp).2.shape
  have k5 := (h1.cellN rfl (f := 5) hp (by omega) rfl).1
  rw [hkv] at k5
  unfold maxLen at g2
  exact ⟨nb, cap, ka, kc, h6 ▸ h1.cell0, by omega, by omega, (h1.cellN rfl (f := 4) hp (by omega) rfl).1, k5⟩
end Go.Proofs.YtlfepdecgfcifaaDoor
