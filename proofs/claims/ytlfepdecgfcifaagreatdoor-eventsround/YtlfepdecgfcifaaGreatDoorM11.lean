/- What holds of every tree that a list makes: each node is a root or stands among its parent's kids, and who goes up comes to an end. -/
import Derived.Test.YtlfepdecgfcifaaGreatDoorM09
import Derived.Test.YtlfepdecgfcifaaGreatDoorM10
namespace Go.Proofs.YtlfepdecgfcifaaGreatDoor

def Good (ps : List Pn) (B : Nat) : Prop :=
  (∃ p0, ps[0]? = some p0 ∧ p0.n.kind = 1 ∧ p0.n.parent = -1) ∧
  ∀ j p, ps[j]? = some p → p.n.kids.length ≤ B ∧ (p.n.parent = -1 ∨ ∃ (q : Nat) (m : Pn), p.n.parent = (q : Int) ∧ (j < q ∨ (q = 0 ∧ 0 < j)) ∧ ps[q]? = some m ∧ (j : Int) ∈ m.n.kids)

theorem Good.doc : Good [docP] 0 := by
  refine ⟨⟨docP, rfl, rfl, rfl⟩, fun j p hp => ?_⟩
  have : j = 0 := by
    rcases Nat.eq_zero_or_pos j with e | e
    · exact e
    · rw [List.getElem?_eq_none (by simp; omega)] at hp; cases hp
  subst this
  cases hp
  exact ⟨Nat.le_refl _, .inl rfl⟩

theorem Good.mono {ps : List Pn} {B C : Nat} (h : Good ps B) (hBC : B ≤ C) : Good ps C :=
  ⟨h.1, fun j p hp => ⟨Nat.le_trans (h.2 j p hp).1 hBC, (h.2 j p hp).2⟩⟩

/-- the same nodes but for what no way sees -/
theorem Good.alike {ps qs : List Pn} {B : Nat} (h : Good ps B) (hl : qs.length = ps.length) (he : ∀ (j : Nat) (p q : Pn), ps[j]? = some p → qs[j]? = some q → q.n.kind = p.n.kind ∧ q.n.parent = p.n.parent ∧ q.n.kids = p.n.kids) : Good qs B := by
  have back : ∀ (j : Nat) q, qs[j]? = some q → ∃ p, ps[j]? = some p := fun j q hq => by
    have : j < ps.length := by rw [← hl]; exact (List.getElem?_eq_some_iff.1 hq).1
    exact ⟨_, List.getElem?_eq_getElem this⟩
  have forth : ∀ (j : Nat) p, ps[j]? = some p → ∃ q, qs[j]? = some q := fun j p hp => by
    have : j < qs.length := by rw [hl]; exact (List.getElem?_eq_some_iff.1 hp).1
    exact ⟨_, List.getElem?_eq_getElem this⟩
  obtain ⟨p0, h0, h1, h2⟩ := h.1
  obtain ⟨q0, g0⟩ := forth 0 p0 h0
  obtain ⟨e1, e2, e3⟩ := he 0 p0 q0 h0 g0
  refine ⟨⟨q0, g0, e1.trans h1, e2.trans h2⟩, fun j q hq => ?_⟩
  obtain ⟨p, hp⟩ := back j q hq
  obtain ⟨f1, f2, f3⟩ := he j p q hp hq
  obtain ⟨k1, k2⟩ := h.2 j p hp
  refine ⟨by rw [f3]; exact k1, ?_⟩
  rcases k2 with k2 | ⟨r, m, k2, k3, k4, k5⟩
  · exact .inl (f2.trans k2)
  · obtain ⟨m', hm'⟩ := forth r m k4
    obtain ⟨_, _, g3⟩ := he r m m' k4 hm'
    exact .inr ⟨r, m', f2.trans k2, k3, hm', by rw [g3]; exact k5⟩

theorem Good.setAttrs {ps : List Pn} {B i : Nat} {p : Pn} (h : Good ps B) (hp : ps[i]? = some p) (at' : List (ByteArray × ByteArray)) (av' : Value) : Good (ps.set i ⟨{ p.n with attrs := at' }, av', p.kv⟩) B := by
  refine h.alike (List.length_set ..) (fun j x y hx hy => ?_)
  by_cases hij : i = j
  · subst hij
    rw [List.getElem?_set_self (List.getElem?_eq_some_iff.1 hp).1] at hy
    cases hy
    obtain rfl := Option.some.inj (hx.symm.trans hp)
    exact ⟨rfl, rfl, rfl⟩
  · rw [List.getElem?_set_ne hij] at hy
    obtain rfl := Option.some.inj (hx.symm.trans hy)
    exact ⟨rfl, rfl, rfl⟩

theorem Good.snoc {ps : List Pn} {B : Nat} (h : Good ps B) (p : Pn) (hp : p.n.parent = -1) (hk : p.n.kids = []) : Good (ps ++ [p]) B := by
  have ext : ∀ (j : Nat) x, ps[j]? = some x → (ps ++ [p])[j]? = some x := fun j x hx => by
    rw [List.getElem?_append_left (List.getElem?_eq_some_iff.1 hx).1]; exact hx
  obtain ⟨p0, h0, h1, h2⟩ := h.1
  refine ⟨⟨p0, ext 0 p0 h0, h1, h2⟩, fun j x hx => ?_⟩
  by_cases hj : j < ps.length
  · rw [List.getElem?_append_left hj] at hx
    obtain ⟨k1, k2⟩ := h.2 j x hx
    refine ⟨k1, ?_⟩
    rcases k2 with k2 | ⟨r, m, k2, k3, k4, k5⟩
    · exact .inl k2
    · exact .inr ⟨r, m, k2, k3, ext r m k4, k5⟩
  · rw [List.getElem?_append_right (by omega)] at hx
    have : j - ps.length = 0 := by
      rcases Nat.eq_zero_or_pos (j - ps.length) with e | e
      · exact e
      · rw [List.getElem?_eq_none (by simp; omega)] at hx; cases hx
    rw [this] at hx
    cases hx
    exact ⟨by rw [hk]; exact Nat.zero_le _, .inl hp⟩

theorem Good.put {ps : List Pn} {B a b : Nat} {pa pb : Pn} (h : Good ps B) (ha : ps[a]? = some pa) (hb : ps[b]? = some pb) (hab : b < a ∨ (a = 0 ∧ 0 < b)) (hb0 : 0 < b) (hra : pa.n.parent = -1) (kv : Value) : Good (putP ps a b pa pb kv) (B + 1) := by
  have hne : a ≠ b := by omega
  have hal := (List.getElem?_eq_some_iff.1 ha).1
  have hbl := (List.getElem?_eq_some_iff.1 hb).1
  have gb : (putP ps a b pa pb kv)[b]? = some ⟨{ pb.n with parent := a }, pb.av, pb.kv⟩ := by
    unfold putP
    rw [List.getElem?_set_self (by rw [List.length_set]; exact hbl)]
  have ga : (putP ps a b pa pb kv)[a]? = some ⟨{ pa.n with kids := pa.n.kids ++ [(b : Int)] }, pa.av, kv⟩ := by
    unfold putP
    rw [List.getElem?_set_ne (Ne.symm hne), List.getElem?_set_self hal]
  have go : ∀ (j : Nat), j ≠ a → j ≠ b → (putP ps a b pa pb kv)[j]? = ps[j]? := fun j h1 h2 => by
    unfold putP
    rw [List.getElem?_set_ne (Ne.symm h2), List.getElem?_set_ne (Ne.symm h1)]
  -- a parent that was there, and has at least the kids that it had
  have par : ∀ (r : Nat) m x, ps[r]? = some m → x ∈ m.n.kids → ∃ m', (putP ps a b pa pb kv)[r]? = some m' ∧ x ∈ m'.n.kids := by
    intro r m x hm hx
    by_cases h1 : r = a
    · subst h1
      obtain rfl := Option.some.inj (hm.symm.trans ha)
      exact ⟨_, ga, List.mem_append_left _ hx⟩
    · by_cases h2 : r = b
      · subst h2
        obtain rfl := Option.some.inj (hm.symm.trans hb)
        exact ⟨_, gb, hx⟩
      · exact ⟨m, (go r h1 h2).trans hm, hx⟩
  obtain ⟨p0, h0, h1, h2⟩ := h.1
  refine ⟨?_, fun j x hx => ?_⟩
  · by_cases e1 : a = 0
    · subst e1
      obtain rfl := Option.some.inj (h0.symm.trans ha)
      exact ⟨_, ga, h1, h2⟩
    · exact ⟨p0, (go 0 (Ne.symm e1) (by omega)).trans h0, h1, h2⟩
  · by_cases h1 : j = a
    · subst h1
      obtain rfl := Option.some.inj (hx.symm.trans ga)
      exact ⟨by simp; exact (h.2 j pa ha).1, .inl hra⟩
    · by_cases h2 : j = b
      · subst h2
        obtain rfl := Option.some.inj (hx.symm.trans gb)
        exact ⟨Nat.le_succ_of_le (h.2 j pb hb).1, .inr ⟨a, _, rfl, by omega, ga, by simp⟩⟩
      · rw [go j h1 h2] at hx
        obtain ⟨k1, k2⟩ := h.2 j x hx
        refine ⟨Nat.le_succ_of_le k1, ?_⟩
        rcases k2 with k2 | ⟨r, m, k2, k3, k4, k5⟩
        · exact .inl k2
        · obtain ⟨m', hm', hk'⟩ := par r m _ k4 k5
          exact .inr ⟨r, m', k2, k3, hm', hk'⟩


theorem Good.way {ps : List Pn} {B : Nat} (h : Good ps B) : ∀ (d j : Nat), j < ps.length → (if j = 0 then 0 else ps.length - j) ≤ d → ∃ s r, Way (nodesOf ps) j s r ∧ s.length ≤ d := by
  intro d
  induction d with
  | zero =>
    intro j hj hd
    obtain rfl : j = 0 := by
      by_cases e : j = 0
      · exact e
      · rw [if_neg e] at hd; omega
    obtain ⟨p0, h0, _, h2⟩ := h.1
    exact ⟨[], 0, .root (nodes_get h0) h2, Nat.le_refl _⟩
  | succ d ih =>
    intro j hj hd
    have hp : ps[j]? = some ps[j] := List.getElem?_eq_getElem hj
    rcases (h.2 j _ hp).2 with k | ⟨q, m, k1, k2, k3, k4⟩
    · exact ⟨[], j, .root (nodes_get hp) k, Nat.zero_le _⟩
    · have hql := (List.getElem?_eq_some_iff.1 k3).1
      have hj0 : j ≠ 0 := by
        intro e
        subst e
        obtain ⟨p0, h0, _, h2⟩ := h.1
        obtain rfl := Option.some.inj (h0.symm.trans hp)
        rw [h2] at k1
        omega
      rw [if_neg hj0] at hd
      obtain ⟨s, r, hw, hs⟩ := ih q hql (by split <;> omega)
      exact ⟨_, r, .down (nodes_get hp) k1 (nodes_get k3) k4 hw, by simp; exact hs⟩

/-- every node has a way -/
theorem Good.ways {ps : List Pn} {B : Nat} (h : Good ps B) (j : Nat) (hj : j < ps.length) : ∃ s r, Way (nodesOf ps) j s r ∧ s.length ≤ ps.length :=
  h.way ps.length j hj (by split <;> omega)
open Go.RowKit in
theorem Lies.grown {w w' : World} {M : Nat → Lab} {tb : Nat} {nv uv : Value} {ps : List Pn} {us : List Value} {row : Option Nat} (h : Lies w M tb nv uv ps us) (hg : w.grownBy w' row) (hr : ∀ k, row = some k → M k = .other) : Lies w' M tb nv uv ps us :=
  h.far hg.size (fun b hb hne => hg.block b hb (fun e => hne (hr b e.symm)))
open Go.RowKit in
theorem Moved.grown {w w' w'' : World} {M M' : Nat → Lab} {row : Option Nat} (h : Moved w M w' M') (hg : w'.grownBy w'' row) (hr : ∀ k, row = some k → w.heap.size ≤ k) : Moved w M w'' M' :=
  ⟨hg.os.trans h.os, hg.tape.trans h.tape, hg.output.trans h.output, Nat.le_trans h.size hg.size, h.lab, fun b hb ho => (hg.block b (Nat.lt_of_lt_of_le hb h.size) (fun e => by have := hr b e.symm; omega)).trans (h.far b hb ho)⟩
open Go.RowKit in
theorem own_moved {w w' : World} {M M' : Nat → Lab} {B : Nat} {v : Value} {n : Nat} {xs : List Value} (h : w.ownsRow B 3 1 v n xs) (m : Moved w M w' M') (hl : ∀ k, v.ownBlock = some k → M k = .other) : w'.ownsRow B 3 1 v n xs ∧ ∀ k, v.ownBlock = some k → M' k = .other := by
  refine ⟨⟨h.1, ?_⟩, fun k hk => (m.lab k (h.lt k hk).2).trans (hl k hk)⟩
  rcases h.2 with h0 | ⟨g, cap, cur, rfl, h1, h2, h3⟩
  · exact .inl h0
  · exact .inr ⟨g, cap, cur, rfl, h1, (m.far g (lt_of_heap h2) (hl g rfl)).trans h2, h3⟩
end Go.Proofs.YtlfepdecgfcifaaGreatDoor
