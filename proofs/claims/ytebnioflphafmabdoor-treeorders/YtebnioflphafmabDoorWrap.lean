/- The calls of package tree as package plain makes them: what holds of the tree goes on to hold. -/
import Derived.Test.YtebnioflphafmabDoorTwig
import Derived.Test.YtebnioflphafmabDoorMake3
namespace Go.Proofs.YtebnioflphafmabDoor
open Go.RowKit

theorem Lies.grown {w w' : World} {M : Nat → Lab} {tb : Nat} {nv uv : Value} {ps : List Pn} {us : List Value} {row : Option Nat} (h : Lies w M tb nv uv ps us) (hg : w.grownBy w' row) (hr : ∀ k, row = some k → M k = .other) : Lies w' M tb nv uv ps us :=
  h.far hg.size (fun b hb hne => hg.block b hb (fun e => hne (hr b e.symm)))
theorem Moved.grown {w w' w'' : World} {M M' : Nat → Lab} {row : Option Nat} (h : Moved w M w' M') (hg : w'.grownBy w'' row) (hr : ∀ k, row = some k → w.heap.size ≤ k) : Moved w M w'' M' :=
  ⟨hg.os.trans h.os, hg.tape.trans h.tape, hg.output.trans h.output, Nat.le_trans h.size hg.size, h.lab, fun b hb ho => (hg.block b (Nat.lt_of_lt_of_le hb h.size) (fun e => by have := hr b e.symm; omega)).trans (h.far b hb ho)⟩
theorem own_moved {w w' : World} {M M' : Nat → Lab} {B : Nat} {v : Value} {n : Nat} {xs : List Value} (h : w.ownsRow B 3 1 v n xs) (m : Moved w M w' M') (hl : ∀ k, v.ownBlock = some k → M k = .other) : w'.ownsRow B 3 1 v n xs ∧ ∀ k, v.ownBlock = some k → M' k = .other := by
  refine ⟨⟨h.1, ?_⟩, fun k hk => (m.lab k (h.lt k hk).2).trans (hl k hk)⟩
  rcases h.2 with h0 | ⟨g, cap, cur, rfl, h1, h2, h3⟩
  · exact .inl h0
  · exact .inr ⟨g, cap, cur, rfl, h1, (m.far g (lt_of_heap h2) (hl g rfl)).trans h2, h3⟩

/-- behind a Set, whatever it answers -/
def SetPost (w : World) (M : Nat → Lab) (tb : Nat) (ps : List Pn) (us : List Value) (i : Nat) (p : Pn) (e : Ending) (w' : World) : Prop :=
  (∃ v, e = .returned v) ∧ ∃ M' nv' uv' ps' us' q, Lies w' M' tb nv' uv' ps' us' ∧ Moved w M w' M' ∧ ps'.length = ps.length ∧ us'.length ≤ us.length + 1 ∧ (∀ B, Good ps B → Good ps' B) ∧ ps'[i]? = some q ∧ q.n.parent = p.n.parent ∧ q.n.kids = p.n.kids ∧ q.n.attrs.length ≤ p.n.attrs.length + 1

theorem setAttr_length (l : List (ByteArray × ByteArray)) (name value : ByteArray) : (setAttr l name value).length ≤ l.length + 1 := by
  unfold setAttr
  split
  · simp
  · simp

theorem WasSet.post {w : World} {M : Nat → Lab} {tb : Nat} {nv : Value} {ps : List Pn} {us : List Value} {i : Nat} {p : Pn} (hp : ps[i]? = some p) {name value : ByteArray} {e : Ending} {w' : World} (h : WasSet w M tb nv ps us i p name value e w') : SetPost w M tb ps us i p e w' := by
  obtain ⟨rfl, M', uv', av', f, h1, h2⟩ := h
  exact ⟨⟨_, rfl⟩, M', nv, uv', _, _, _, h1, h2, List.length_set .., by simp, fun B hB => hB.setAttrs hp _ _, List.getElem?_set_self (List.getElem?_eq_some_iff.1 hp).1, rfl, rfl, setAttr_length _ _ _⟩

theorem set_all {w : World} {M : Nat → Lab} {tb : Nat} {nv uv : Value} {ps : List Pn} {us : List Value} (h : Lies w M tb nv uv ps us) (hE : Errs w M) {i : Nat} {p : Pn} (hp : ps[i]? = some p) (name value : ByteArray) (hvs : value.size ≤ 9223372036854775807) (hu : us.length ≤ 1099511627776) (ha : p.n.attrs.length ≤ 1099511627776) :
    Calls Tryd.prog 15 #[.pointer (some ⟨tb, 0, none⟩), .int .i64 i, .string name, .string value] w (SetPost w M tb ps us i p) := by
  by_cases hbad : p.n.kind ≠ 2 ∨ nameB name = false ∨ 20000 < value.size
  · refine (set_bad h hE hp name value hvs hbad).mono ?_
    rintro e w' ⟨⟨v, rfl, _⟩, hB⟩
    exact ⟨⟨v, rfl⟩, M, nv, uv, ps, us, p, h.below hB, (Moved.refl w M).below hB, rfl, by omega, fun B hB => hB, hp, rfl, rfl, by omega⟩
  · have hk : p.n.kind = 2 := Classical.byContradiction fun h => hbad (.inl h)
    have hn : nameB name = true := by
      cases hn : nameB name
      · exact absurd (.inr (.inl hn)) hbad
      · rfl
    have hv : value.size ≤ 20000 := Nat.le_of_not_lt fun h => hbad (.inr (.inr h))
    cases hf : findA p.n.attrs name with
    | none => exact (set_new h hE hp name value hk hn hv hu ha hf).mono fun e w' hw => hw.post hp
    | some k => exact (set_old h hE hp name value hk hn hv hu hf).mono fun e w' hw => hw.post hp

/-- behind a Put, whatever it answers -/
def PutPost (w : World) (M : Nat → Lab) (tb : Nat) (ps : List Pn) (us : List Value) (a : Nat) (e : Ending) (w' : World) : Prop :=
  (∃ v, e = .returned v) ∧ ∃ M' nv' uv' ps' us' q, Lies w' M' tb nv' uv' ps' us' ∧ Moved w M w' M' ∧ ps'.length = ps.length ∧ us'.length ≤ us.length + 1 ∧ (∀ B, Good ps B → Good ps' (B + 1)) ∧ ps'[a]? = some q ∧ q.n.parent = -1

theorem put_all {w : World} {M : Nat → Lab} {tb : Nat} {nv uv : Value} {ps : List Pn} {us : List Value} (h : Lies w M tb nv uv ps us) (hE : Errs w M) {a b : Nat} {pa pb : Pn} (ha : ps[a]? = some pa) (hb : ps[b]? = some pb) (hab : b < a ∨ (a = 0 ∧ 0 < b)) (hb0 : 0 < b) (hk : pa.n.kids.length ≤ 1099511627776) (hra : pa.n.parent = -1) (hrb : pb.n.parent = -1) (hu : us.length ≤ 1099511627776) (x y : Int) (hx : x = a) (hy : y = b) :
    Calls Tryd.prog 17 #[.pointer (some ⟨tb, 0, none⟩), .int .i64 x, .int .i64 y, .int .i64 pa.n.kids.length] w (PutPost w M tb ps us a) := by
  subst hx
  subst hy
  have hne : a ≠ b := by omega
  cases hkd : kidsB pa.n.kind
  · refine (put_bad h hE ha hb hb0 _ hkd).mono ?_
    rintro e w' ⟨⟨v, rfl, _⟩, rfl⟩
    exact ⟨⟨v, rfl⟩, M, nv, uv, ps, us, pa, h, Moved.refl _ M, rfl, by omega, fun B hB => hB.mono (by omega), ha, hra⟩
  · refine (put_good h ha hb hne hb0 hk hra hrb hkd hu).mono ?_
    rintro e w' ⟨rfl, M', uv', kv', f, h1, h2⟩
    have ga : (putP ps a b pa pb kv')[a]? = some ⟨{ pa.n with kids := pa.n.kids ++ [(b : Int)] }, pa.av, kv'⟩ := by
      unfold putP
      rw [List.getElem?_set_ne (Ne.symm hne), List.getElem?_set_self (List.getElem?_eq_some_iff.1 ha).1]
    exact ⟨⟨_, rfl⟩, M', nv, uv', _, _, _, h1, h2, by simp [putP], by simp, fun B hB => hB.put ha hb hab hb0 hra kv', ga, hra⟩

theorem parent_at {w : World} {M : Nat → Lab} {tb : Nat} {nv uv : Value} {ps : List Pn} {us : List Value} (h : Lies w M tb nv uv ps us) {i : Nat} {p : Pn} (hp : ps[i]? = some p) (x : Int) (hx : x = i) :
    Calls Tryd.prog 16 #[.pointer (some ⟨tb, 0, none⟩), .int .i64 x] w fun e w' => e = .returned (.int .i64 p.n.parent) ∧ w' = w := by
  subst hx
  exact parent_any h hp

/-- a node's kids, cloned: how many -/
def KidsPost (w : World) (n : Nat) (e : Ending) (w' : World) : Prop := ∃ a c, e = .returned (.slice a n c) ∧ Below w.heap.size w w'
theorem kids_at {w : World} {M : Nat → Lab} {tb : Nat} {nv uv : Value} {ps : List Pn} {us : List Value} (h : Lies w M tb nv uv ps us) {i : Nat} {p : Pn} (hp : ps[i]? = some p) (hk : p.n.kids.length ≤ 1099511627776) (x : Int) (hx : x = i) :
    Calls Tryd.prog 18 #[.pointer (some ⟨tb, 0, none⟩), .int .i64 x] w (KidsPost w p.n.kids.length) := by
  subst hx
  refine (kids_any h hp hk).mono ?_
  rintro e w' ⟨v', rfl, ho, hB⟩
  obtain ⟨_, a, c, rfl, _⟩ := own_cell ho
  exact ⟨a, c, rfl, hB⟩

theorem Good.parent {ps : List Pn} {B j : Nat} {p : Pn} (h : Good ps B) (hp : ps[j]? = some p) : p.n.parent = -1 ∨ 0 ≤ p.n.parent := by
  rcases (h.2 j p hp).2 with k | ⟨q, m, k, _⟩
  · exact .inl k
  · exact .inr (by omega)
end Go.Proofs.YtebnioflphafmabDoor
