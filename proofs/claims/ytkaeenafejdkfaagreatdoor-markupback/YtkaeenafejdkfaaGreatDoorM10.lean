/- A root is pushed among the kids of another node; what was moved is moved back. -/
import Derived.Test.YtkaeenafejdkfaaGreatDoorM09
import Derived.Test.YtkaeenafejdkfaaGreatDoorM03
import Derived.Deep.RegionLaw
import Derived.BigRegion
namespace Go.Proofs.YtkaeenafejdkfaaGreatDoor

theorem ins_mem {l : List Int} {x y : Int} {k : Nat} : y ∈ l.take k ++ x :: l.drop k ↔ y = x ∨ y ∈ l := by
  constructor
  · intro h
    rcases List.mem_append.1 h with h | h
    · exact .inr (List.mem_of_mem_take h)
    · rcases List.mem_cons.1 h with h | h
      · exact .inl h
      · exact .inr (List.mem_of_mem_drop h)
  · rintro (h | h)
    · subst h; simp
    · rw [← List.take_append_drop k l] at h
      rcases List.mem_append.1 h with h | h
      · exact List.mem_append_left _ h
      · exact List.mem_append_right _ (List.mem_cons_of_mem _ h)
theorem ins_nodup {l : List Int} {x : Int} {k : Nat} (h : l.Nodup) (hx : x ∉ l) : (l.take k ++ x :: l.drop k).Nodup := by
  have e := h
  rw [← List.take_append_drop k l, List.nodup_append] at e
  obtain ⟨n1, n2, n3⟩ := e
  rw [List.nodup_append]
  refine ⟨n1, List.nodup_cons.2 ⟨fun hm => hx (List.mem_of_mem_drop hm), n2⟩, ?_⟩
  intro a ha b hb hab
  rcases List.mem_cons.1 hb with hb | hb
  · subst hb; subst hab; exact hx (List.mem_of_mem_take ha)
  · exact n3 a ha b hb hab

theorem WF.pushed {ns : List Nd} {i a k : Nat} {n m : Nd} {la : List Nat} (h : WF ns) (hi : ns[i]? = some n) (hr : n.parent = -1) (h0 : i ≠ 0) (hm : ns[a]? = some m) (hu : Up ns a la) (hn : i ∉ la) : WF ((ns.set a { m with kids := m.kids.take k ++ (i : Int) :: m.kids.drop k }).set i { n with parent := a }) := by
  have hai : a ≠ i := fun e => hn (e ▸ hu.head)
  have hil := (List.getElem?_eq_some_iff.1 hi).1
  have hal := (List.getElem?_eq_some_iff.1 hm).1
  have G := get2 ns { m with kids := m.kids.take k ++ (i : Int) :: m.kids.drop k } { n with parent := a } hai hal hil
  generalize hN : (ns.set a { m with kids := m.kids.take k ++ (i : Int) :: m.kids.drop k }).set i { n with parent := a } = N at *
  have F : ∀ (c : Nat) (x : Nd), ns[c]? = some x → c ≠ i → ∃ x', N[c]? = some x' ∧ x'.parent = x.parent ∧ x'.kind = x.kind := by
    intro c x hc hci
    rw [G c, if_neg hci]
    by_cases hca : c = a
    · subst hca
      obtain rfl := Option.some.inj (hc.symm.trans hm)
      exact ⟨_, if_pos rfl, rfl, rfl⟩
    · rw [if_neg hca]
      exact ⟨x, hc, rfl, rfl⟩
  have Gi := G i
  rw [if_pos rfl] at Gi
  have Ga := G a
  rw [if_neg hai, if_pos rfl] at Ga
  have hnk := h.rootNotKid hm hi hr
  refine ⟨?_, by rw [← hN, List.length_set, List.length_set]; exact h.len, ?_, ?_, ?_, ?_⟩
  · obtain ⟨n0, g0, g1, g2⟩ := h.root
    obtain ⟨x', k1, k2, k3⟩ := F 0 n0 g0 (Ne.symm h0)
    exact ⟨x', k1, k3.trans g1, k2.trans g2⟩
  · intro j x hx
    rw [G j] at hx
    split at hx
    · cases hx; exact h.nodup i n hi
    · split at hx
      · cases hx; exact ins_nodup (h.nodup a m hm) hnk
      · exact h.nodup j x hx
  · intro j x hx y hy
    have main : ∀ y, (∃ x0, ns[j]? = some x0 ∧ y ∈ x0.kids) → ∃ (c : Nat) (m' : Nd), y = c ∧ N[c]? = some m' ∧ m'.parent = j := by
      rintro y ⟨x0, k1, k2⟩
      obtain ⟨c, m', e1, e2, e3⟩ := h.kid j x0 k1 y k2
      have hci : c ≠ i := by
        intro e
        subst e
        obtain rfl := Option.some.inj (e2.symm.trans hi)
        omega
      obtain ⟨x', g1, g2, _⟩ := F c m' e2 hci
      exact ⟨c, x', e1, g1, g2.trans e3⟩
    rw [G j] at hx
    split at hx
    · rename_i hji
      subst hji
      cases hx
      exact main y ⟨n, hi, hy⟩
    · split at hx
      · rename_i hja
        subst hja
        cases hx
        rcases ins_mem.1 hy with hy | hy
        · exact ⟨i, _, hy, Gi, rfl⟩
        · exact main y ⟨m, hm, hy⟩
      · exact main y ⟨x, hx, hy⟩
  · intro j x hx
    by_cases hji : j = i
    · subst hji
      rw [Gi] at hx
      cases hx
      exact .inr ⟨a, _, rfl, Ga, ins_mem.2 (.inl rfl)⟩
    · have hx0 : ∃ x0, ns[j]? = some x0 ∧ x.parent = x0.parent := by
        rw [G j, if_neg hji] at hx
        split at hx
        · rename_i hja
          subst hja
          cases hx
          exact ⟨m, hm, rfl⟩
        · exact ⟨x, hx, rfl⟩
      obtain ⟨x0, g0, g1⟩ := hx0
      rcases h.par j x0 g0 with e | ⟨r, y, e1, e2, e3⟩
      · exact .inl (g1.trans e)
      · refine .inr ?_
        by_cases hri : r = i
        · subst hri
          obtain rfl := Option.some.inj (e2.symm.trans hi)
          exact ⟨r, _, g1.trans e1, Gi, e3⟩
        · by_cases hra : r = a
          · subst hra
            obtain rfl := Option.some.inj (e2.symm.trans hm)
            exact ⟨r, _, g1.trans e1, Ga, ins_mem.2 (.inr e3)⟩
          · exact ⟨r, y, g1.trans e1, by rw [G r, if_neg hri, if_neg hra]; exact e2, e3⟩
  · have U0 : ∀ (j : Nat) l, Up ns j l → i ∉ l → Up N j l := by
      intro j l hl
      induction hl with
      | @root j x hx hp =>
        intro hno
        obtain ⟨x', g1, g2, _⟩ := F j x hx (fun e => hno (by simp [e]))
        exact .root g1 (g2.trans hp)
      | @up j p l x hx hp hu ih =>
        intro hno
        obtain ⟨x', g1, g2, _⟩ := F j x hx (fun e => hno (by simp [e]))
        exact .up g1 (g2.trans hp) (ih fun hm => hno (List.mem_cons_of_mem _ hm))
    have Ui : Up N i (i :: la) := .up Gi rfl (U0 a la hu hn)
    have U : ∀ (j : Nat) l, Up ns j l → ∃ l', Up N j l' := by
      intro j l hl
      induction hl with
      | @root j x hx hp =>
        by_cases hji : j = i
        · subst hji; exact ⟨_, Ui⟩
        · obtain ⟨x', g1, g2, _⟩ := F j x hx hji
          exact ⟨_, .root g1 (g2.trans hp)⟩
      | @up j p l x hx hp hu ih =>
        by_cases hji : j = i
        · subst hji; exact ⟨_, Ui⟩
        · obtain ⟨x', g1, g2, _⟩ := F j x hx hji
          obtain ⟨l', hl'⟩ := ih
          exact ⟨_, .up g1 (g2.trans hp) hl'⟩
    intro j x hx
    have hj : j < ns.length := by
      have := (List.getElem?_eq_some_iff.1 hx).1
      rw [← hN] at this
      simpa using this
    obtain ⟨l, hl⟩ := h.up j _ (List.getElem?_eq_getElem hj)
    exact U j l hl

/-- who is pulled out is a root then -/
theorem Pulled.isRoot {ns ns' : List Nd} {i w : Nat} {f : Int} (hp : Pulled ns i ns' f w) : ∃ n, ns'[i]? = some n ∧ n.parent = -1 := by
  cases hp with
  | root h hp => exact ⟨_, h, hp⟩
  | @kid n m q h hp hm hk hq =>
    refine ⟨{ n with parent := -1 }, ?_, rfl⟩
    rw [List.getElem?_set_self]
    rw [List.length_set]
    exact (List.getElem?_eq_some_iff.1 h).1
theorem Pulled.length {ns ns' : List Nd} {i w : Nat} {f : Int} (hp : Pulled ns i ns' f w) : ns'.length = ns.length := by
  cases hp <;> simp
/-- the other nodes are as they were, but for kids -/
theorem Pulled.get {ns ns' : List Nd} {i w : Nat} {f : Int} (hp : Pulled ns i ns' f w) {c : Nat} {x : Nd} (hc : ns[c]? = some x) (hci : c ≠ i) : ∃ x', ns'[c]? = some x' ∧ x'.parent = x.parent ∧ x'.kind = x.kind := by
  cases hp with
  | root _ _ => exact ⟨x, hc, rfl, rfl⟩
  | @kid n m q h hp hm hk hq =>
    rw [get2 ns _ _ hq (List.getElem?_eq_some_iff.1 hm).1 (List.getElem?_eq_some_iff.1 h).1 c, if_neg hci]
    split
    · rename_i e
      subst e
      obtain rfl := Option.some.inj (hc.symm.trans hm)
      exact ⟨_, rfl, rfl, rfl⟩
    · exact ⟨x, hc, rfl, rfl⟩
/-- the chain of a node that doesn't lie in it -/
theorem Pulled.chain {ns ns' : List Nd} {i w : Nat} {f : Int} (hp : Pulled ns i ns' f w) {j : Nat} {l : List Nat} (hu : Up ns j l) (hn : i ∉ l) : Up ns' j l := by
  induction hu with
  | @root j x hx hpx =>
    obtain ⟨x', g1, g2, _⟩ := hp.get hx (fun e => hn (by simp [e]))
    exact .root g1 (g2.trans hpx)
  | @up j p l x hx hpx hu ih =>
    obtain ⟨x', g1, g2, _⟩ := hp.get hx (fun e => hn (by simp [e]))
    exact .up g1 (g2.trans hpx) (ih fun hm => hn (List.mem_cons_of_mem _ hm))

theorem idx_ins {l : List Int} {x : Int} {k : Nat} (hx : x ∉ l) (hk : k ≤ l.length) : idx (l.take k ++ x :: l.drop k) x = k := by
  unfold idx
  have hl : (l.take k).length = k := by simp; omega
  have hno : ∀ y ∈ l.take k, ¬ ((y == x) = true) := by
    intro y hy e
    have e : y = x := by simpa using e
    exact hx (e ▸ List.mem_of_mem_take hy)
  rw [List.findIdx_append, List.findIdx_cons]
  have h1 : ¬ (List.findIdx (fun y => y == x) (l.take k) < (l.take k).length) := by
    rw [List.findIdx_lt_length]
    rintro ⟨y, hy, e⟩
    exact hno y hy e
  rw [if_neg h1]
  simp
  omega
theorem erase_ins {l : List Int} {x : Int} {k : Nat} (hk : k ≤ l.length) : (l.take k ++ x :: l.drop k).eraseIdx k = l := by
  have hl : (l.take k).length = k := by simp; omega
  rw [List.eraseIdx_append_of_length_le (by omega), hl, Nat.sub_self, List.eraseIdx_cons_zero, List.take_append_drop]
theorem ins_erase {l : List Int} {x : Int} (hx : x ∈ l) : (l.eraseIdx (idx l x)).take (idx l x) ++ x :: (l.eraseIdx (idx l x)).drop (idx l x) = l := by
  have hg := idx_get hx
  have hlt := idx_lt hx
  generalize idx l x = k at *
  obtain ⟨h1, h2⟩ := List.getElem?_eq_some_iff.1 hg
  have hl : (l.take k).length = k := by simp; omega
  rw [List.eraseIdx_eq_take_drop_succ]
  have e1 : (l.take k ++ l.drop (k + 1)).take k = l.take k := by rw [List.take_append_of_le_length (by omega), List.take_take, Nat.min_self]
  have e2 : (l.take k ++ l.drop (k + 1)).drop k = l.drop (k + 1) := by
    have : k = (l.take k).length := hl.symm
    conv => lhs; lhs; rw [this]
    rw [List.drop_left]
  rw [e1, e2, ← h2, ← List.drop_eq_getElem_cons h1, List.take_append_drop]

/-- what is pushed can be pulled out again -/
theorem push_pull {ns : List Nd} (h : WF ns) {i k : Nat} {a : Int} {ns' : List Nd} (hr : ∃ n, ns[i]? = some n ∧ n.parent = -1) (hp : Pushed ns i k a ns') : ∃ f w, Pulled ns' i ns f w := by
  obtain ⟨n, hi, hn⟩ := hr
  cases hp with
  | none => exact ⟨_, _, .root hi hn⟩
  | @kid n' m a hm h' ha hk =>
    obtain rfl := Option.some.inj (hi.symm.trans h')
    have hil := (List.getElem?_eq_some_iff.1 hi).1
    have hal := (List.getElem?_eq_some_iff.1 hm).1
    have hnk := h.rootNotKid hm hi hn
    have G := get2 ns { m with kids := m.kids.take k ++ (i : Int) :: m.kids.drop k } { n with parent := a } ha hal hil
    have Gi := G i
    rw [if_pos rfl] at Gi
    have Ga := G a
    rw [if_neg ha, if_pos rfl] at Ga
    have P := Pulled.kid (q := a) Gi rfl Ga (ins_mem.2 (.inl rfl)) ha
    have e : ((((ns.set a { m with kids := m.kids.take k ++ (i : Int) :: m.kids.drop k }).set i { n with parent := a }).set a { m with kids := (m.kids.take k ++ (i : Int) :: m.kids.drop k).eraseIdx (idx (m.kids.take k ++ (i : Int) :: m.kids.drop k) i) }).set i { n with parent := -1 }) = ns := by
      apply List.ext_getElem?
      intro j
      rw [idx_ins hnk hk, erase_ins hk, get2 _ _ _ ha (by simp; exact hal) (by simp; exact hil) j, G j]
      split
      · rename_i e; subst e; rw [hi]; rw [← hn]
      · split
        · rename_i e; subst e; rw [hm]
        · rfl
    rw [e] at P
    exact ⟨_, _, P⟩

/-- what was pulled out can be pushed back -/
theorem pull_push {ns mid : List Nd} {i w : Nat} {f : Int} (hp : Pulled ns i mid f w) : Pushed mid i w f ns := by
  cases hp with
  | root _ _ => exact .none
  | @kid n m q hi hq hm hk hqi =>
    have hil := (List.getElem?_eq_some_iff.1 hi).1
    have hql := (List.getElem?_eq_some_iff.1 hm).1
    have G := get2 ns { m with kids := m.kids.eraseIdx (idx m.kids i) } { n with parent := -1 } hqi hql hil
    have Gi := G i
    rw [if_pos rfl] at Gi
    have Gq := G q
    rw [if_neg hqi, if_pos rfl] at Gq
    have hlt := idx_lt hk
    have P := Pushed.kid (k := idx m.kids i) Gq Gi hqi (by simp only [List.length_eraseIdx, if_pos hlt]; omega)
    have e : (((ns.set q { m with kids := m.kids.eraseIdx (idx m.kids i) }).set i { n with parent := -1 }).set q { m with kids := (m.kids.eraseIdx (idx m.kids i)).take (idx m.kids i) ++ (i : Int) :: (m.kids.eraseIdx (idx m.kids i)).drop (idx m.kids i) }).set i { n with parent := (q : Int) } = ns := by
      apply List.ext_getElem?
      intro j
      rw [ins_erase hk, get2 _ _ _ hqi (by simp; exact hql) (by simp; exact hil) j, G j]
      split
      · rename_i e; subst e; rw [hi]; rw [← hq]
      · split
        · rename_i e; subst e; rw [hm]
        · rfl
    rw [e] at P
    exact P

/-- what a kept function does -/
inductive Rec where
  | forget (n : Nat)
  | move (i : Nat) (f : Int) (w : Nat)
  | cut (i : Nat)
  | back (i k : Nat) (old : ByteArray)
  | ins (i k : Nat) (x : ByteArray × ByteArray)
  | say (i : Nat) (old : ByteArray)

/-- what it makes of the nodes -/
def Undoes (ns ns' : List Nd) : Rec → Prop
  | .forget n => n < ns.length ∧ ns' = ns.take n
  | .move i f w => ∃ mid f' w', Pulled ns i mid f' w' ∧ Pushed mid i w f ns'
  | .cut i => ∃ n xs x, ns[i]? = some n ∧ n.attrs = xs ++ [x] ∧ ns' = ns.set i { n with attrs := xs }
  | .back i k old => ∃ n x, ns[i]? = some n ∧ n.attrs[k]? = some x ∧ ns' = ns.set i { n with attrs := n.attrs.set k (x.1, old) }
  | .ins i k x => ∃ n, ns[i]? = some n ∧ k ≤ n.attrs.length ∧ ns' = ns.set i { n with attrs := n.attrs.take k ++ x :: n.attrs.drop k }
  | .say i old => ∃ n, ns[i]? = some n ∧ ns' = ns.set i { n with words := old }

/-- no node has too many attributes -/
def Few (ns : List Nd) (K : Nat) : Prop := ∀ (j : Nat) (n : Nd), ns[j]? = some n → n.attrs.length ≤ K
theorem Few.mono {ns : List Nd} {K L : Nat} (h : Few ns K) (hKL : K ≤ L) : Few ns L := fun j n hn => Nat.le_trans (h j n hn) hKL

theorem undo_move {ns mid ns' : List Nd} (hm : WF mid) {i k w : Nat} {f a : Int} (hp : Pulled ns i mid f w) (hq : Pushed mid i k a ns') : Undoes ns' ns (.move i f w) := by
  obtain ⟨f', w', h⟩ := push_pull hm hp.isRoot hq
  exact ⟨mid, f', w', h, pull_push hp⟩

/-- a node's attributes or words turn -/
theorem WF.turn {ns : List Nd} (h : WF ns) {i : Nat} {n n' : Nd} (hi : ns[i]? = some n) (h1 : n'.kind = n.kind) (h2 : n'.parent = n.parent) (h3 : n'.kids = n.kids) : WF (ns.set i n') := by
  have hil := (List.getElem?_eq_some_iff.1 hi).1
  have G : ∀ j : Nat, (ns.set i n')[j]? = if j = i then some n' else ns[j]? := by
    intro j
    by_cases hj : j = i
    · subst hj; rw [if_pos rfl, List.getElem?_set_self hil]
    · rw [if_neg hj, List.getElem?_set_ne (Ne.symm hj)]
  have back : ∀ (j : Nat) x, (ns.set i n')[j]? = some x → ∃ x0, ns[j]? = some x0 ∧ x.kind = x0.kind ∧ x.parent = x0.parent ∧ x.kids = x0.kids := by
    intro j x hx
    rw [G j] at hx
    split at hx
    · rename_i e; subst e; cases hx; exact ⟨n, hi, h1, h2, h3⟩
    · exact ⟨x, hx, rfl, rfl, rfl⟩
  have forth : ∀ (j : Nat) x, ns[j]? = some x → ∃ x', (ns.set i n')[j]? = some x' ∧ x'.kind = x.kind ∧ x'.parent = x.parent ∧ x'.kids = x.kids := by
    intro j x hx
    rw [G j]
    split
    · rename_i e; subst e; obtain rfl := Option.some.inj (hx.symm.trans hi); exact ⟨n', rfl, h1, h2, h3⟩
    · exact ⟨x, hx, rfl, rfl, rfl⟩
  refine ⟨?_, by rw [List.length_set]; exact h.len, ?_, ?_, ?_, ?_⟩
  · obtain ⟨n0, g0, g1, g2⟩ := h.root
    obtain ⟨x', k1, k2, k3, _⟩ := forth 0 n0 g0
    exact ⟨x', k1, k2.trans g1, k3.trans g2⟩
  · intro j x hx
    obtain ⟨x0, k0, _, _, k3⟩ := back j x hx
    rw [k3]; exact h.nodup j x0 k0
  · intro j x hx y hy
    obtain ⟨x0, k0, _, _, k3⟩ := back j x hx
    rw [k3] at hy
    obtain ⟨c, m, e1, e2, e3⟩ := h.kid j x0 k0 y hy
    obtain ⟨m', g1, _, g3, _⟩ := forth c m e2
    exact ⟨c, m', e1, g1, g3.trans e3⟩
  · intro j x hx
    obtain ⟨x0, k0, _, k2, _⟩ := back j x hx
    rcases h.par j x0 k0 with e | ⟨r, y, e1, e2, e3⟩
    · exact .inl (k2.trans e)
    · obtain ⟨m', g1, _, _, g4⟩ := forth r y e2
      exact .inr ⟨r, m', k2.trans e1, g1, by rw [g4]; exact e3⟩
  · have U : ∀ (j : Nat) l, Up ns j l → Up (ns.set i n') j l := by
      intro j l hl
      induction hl with
      | @root j x hx hp =>
        obtain ⟨x', g1, _, g3, _⟩ := forth j x hx
        exact .root g1 (g3.trans hp)
      | @up j p l x hx hp hu ih =>
        obtain ⟨x', g1, _, g3, _⟩ := forth j x hx
        exact .up g1 (g3.trans hp) ih
    intro j x hx
    obtain ⟨x0, k0, _⟩ := back j x hx
    obtain ⟨l, hl⟩ := h.up j x0 k0
    exact ⟨l, U j l hl⟩

/-- a new root -/
theorem WF.snoc {ns : List Nd} (h : WF ns) (hl : ns.length < 400) (n : Nd) (hp : n.parent = -1) (hk : n.kids = []) : WF (ns ++ [n]) := by
  have ext : ∀ (j : Nat) x, ns[j]? = some x → (ns ++ [n])[j]? = some x := fun j x hx => by
    rw [List.getElem?_append_left (List.getElem?_eq_some_iff.1 hx).1]; exact hx
  have back : ∀ (j : Nat) x, (ns ++ [n])[j]? = some x → ns[j]? = some x ∨ (j = ns.length ∧ x = n) := fun j x hx => by
    by_cases hj : j < ns.length
    · rw [List.getElem?_append_left hj] at hx; exact .inl hx
    · rw [List.getElem?_append_right (by omega)] at hx
      rcases Nat.eq_zero_or_pos (j - ns.length) with e | e
      · rw [e] at hx; cases hx; exact .inr ⟨by omega, rfl⟩
      · rw [List.getElem?_eq_none (by simp; omega)] at hx; cases hx
  refine ⟨?_, by simp; omega, ?_, ?_, ?_, ?_⟩
  · obtain ⟨n0, g0, g1, g2⟩ := h.root
    exact ⟨n0, ext 0 n0 g0, g1, g2⟩
  · intro j x hx
    rcases back j x hx with hx | ⟨_, rfl⟩
    · exact h.nodup j x hx
    · rw [hk]; exact List.nodup_nil
  · intro j x hx y hy
    rcases back j x hx with hx | ⟨_, rfl⟩
    · obtain ⟨c, m, e1, e2, e3⟩ := h.kid j x hx y hy
      exact ⟨c, m, e1, ext c m e2, e3⟩
    · rw [hk] at hy; cases hy
  · intro j x hx
    rcases back j x hx with hx | ⟨_, rfl⟩
    · rcases h.par j x hx with e | ⟨r, y, e1, e2, e3⟩
      · exact .inl e
      · exact .inr ⟨r, y, e1, ext r y e2, e3⟩
    · exact .inl hp
  · have U : ∀ (j : Nat) l, Up ns j l → Up (ns ++ [n]) j l := by
      intro j l hl
      induction hl with
      | @root j x hx hp => exact .root (ext j x hx) hp
      | @up j p l x hx hp hu ih => exact .up (ext j x hx) hp ih
    intro j x hx
    rcases back j x hx with hx' | ⟨_, rfl⟩
    · obtain ⟨l, hl⟩ := h.up j x hx'
      exact ⟨l, U j l hl⟩
    · exact ⟨_, .root hx hp⟩
end Go.Proofs.YtkaeenafejdkfaaGreatDoor

/- What lies in a node of any tree: parents ahead of kids, no node twice. -/
namespace Go.Proofs.YtkaeenafejdkfaaGreatDoor

/-- what lies in a node, with it, in order -/
def und (ns : List Nd) : Nat → Nat → List Int
  | 0, _ => []
  | f + 1, i => (i : Int) :: (match ns[i]? with | some n => n.kids.flatMap fun x => und ns f x.toNat | none => [])
theorem und_succ {ns : List Nd} {i : Nat} {n : Nd} (h : ns[i]? = some n) (f : Nat) : und ns (f + 1) i = (i : Int) :: n.kids.flatMap fun x => und ns f x.toNat := by
  simp only [und, h]

/-- how far a node is from being the lowest -/
noncomputable def rkU (ns : List Nd) (i : Nat) : Nat := ns.length - (Classical.epsilon fun l => Up ns i l).length
theorem rkU_eq {ns : List Nd} {i : Nat} {l : List Nat} (h : Up ns i l) : rkU ns i = ns.length - l.length := by
  have := Classical.epsilon_spec (p := fun l => Up ns i l) ⟨l, h⟩
  unfold rkU
  rw [this.det h]
theorem WF.rank {ns : List Nd} (h : WF ns) {j : Nat} {n : Nd} (hj : ns[j]? = some n) {x : Int} (hx : x ∈ n.kids) : ∃ (b : Nat) (m : Nd), x = b ∧ b < ns.length ∧ ns[b]? = some m ∧ m.parent = j ∧ rkU ns b < rkU ns j := by
  obtain ⟨b, m, e1, e2, e3⟩ := h.kid j n hj x hx
  obtain ⟨l, hl⟩ := h.up j n hj
  have hb : Up ns b (b :: l) := .up e2 e3 hl
  have hs := hb.short
  simp at hs
  refine ⟨b, m, e1, (List.getElem?_eq_some_iff.1 e2).1, e2, e3, ?_⟩
  rw [rkU_eq hb, rkU_eq hl]
  simp
  omega
theorem rkU_le (ns : List Nd) (i : Nat) : rkU ns i ≤ ns.length := Nat.sub_le _ _

/-- a node lies in another one, or is it -/
inductive Anc (ns : List Nd) : Nat → Nat → Prop where
  | refl (i : Nat) : Anc ns i i
  | step {x p i : Nat} {n m : Nd} (hx : ns[x]? = some n) (hp : n.parent = p) (hm : ns[p]? = some m) (hk : (x : Int) ∈ m.kids) (h : Anc ns p i) : Anc ns x i
theorem Anc.trans {ns : List Nd} {x y z : Nat} (h : Anc ns x y) (k : Anc ns y z) : Anc ns x z := by
  induction h with
  | refl => exact k
  | step hx hp hm hk _ ih => exact .step hx hp hm hk (ih k)
theorem Anc.rank_le {ns : List Nd} (hs : WF ns) {x i : Nat} (h : Anc ns x i) : rkU ns x ≤ rkU ns i := by
  induction h with
  | refl => exact Nat.le_refl _
  | step hx hp hm hk _ ih =>
    obtain ⟨b, m, e1, _, _, _, e2⟩ := hs.rank hm hk
    have e3 := Int.ofNat.inj e1
    subst e3
    omega
theorem Anc.or {ns : List Nd} {x b c : Nat} (h : Anc ns x b) (k : Anc ns x c) : Anc ns b c ∨ Anc ns c b := by
  induction h with
  | refl => exact .inl k
  | step hx hp hm hk h ih =>
    cases k with
    | refl => exact .inr (.step hx hp hm hk h)
    | step hx' hp' hm' hk' k' =>
      obtain rfl := Option.some.inj (hx.symm.trans hx')
      have e := Int.ofNat.inj (hp.symm.trans hp')
      subst e
      exact ih k'
theorem und_anc {ns : List Nd} (hs : WF ns) : ∀ (f i : Nat), i < ns.length → ∀ x ∈ und ns f i, ∃ b : Nat, x = b ∧ b < ns.length ∧ Anc ns b i := by
  intro f
  induction f with
  | zero => intro i _ x hx; cases hx
  | succ f ih =>
    intro i hi x hx
    have hn : ns[i]? = some ns[i] := List.getElem?_eq_getElem hi
    rw [und_succ hn] at hx
    rcases List.mem_cons.1 hx with e | hx
    · exact ⟨i, e, hi, .refl i⟩
    · obtain ⟨y, hy, hxy⟩ := List.mem_flatMap.1 hx
      obtain ⟨b, m, e1, hb, e4, e5, _⟩ := hs.rank hn hy
      subst e1
      obtain ⟨c, f1, f2, f3⟩ := ih b hb x hxy
      exact ⟨c, f1, f2, f3.trans (.step e4 e5 hn hy (.refl i))⟩
theorem und_nodup {ns : List Nd} (hs : WF ns) : ∀ (f i : Nat), i < ns.length → (und ns f i).Nodup := by
  intro f
  induction f with
  | zero => intro i _; exact List.nodup_nil
  | succ f ih =>
    intro i hi
    have hg : ns[i]? = some ns[i] := List.getElem?_eq_getElem hi
    rw [und_succ hg, List.nodup_cons]
    have kid : ∀ y ∈ (ns[i]).kids, ∃ b : Nat, y = b ∧ b < ns.length ∧ rkU ns b < rkU ns i ∧ ∀ x ∈ und ns f y.toNat, ∃ c : Nat, x = c ∧ Anc ns c b := by
      intro y hy
      obtain ⟨b, m, e1, e2, _, _, e3⟩ := hs.rank hg hy
      refine ⟨b, e1, e2, e3, fun x hx => ?_⟩
      subst e1
      obtain ⟨c, f1, _, f3⟩ := und_anc hs f b e2 x hx
      exact ⟨c, f1, f3⟩
    refine ⟨fun hm => ?_, ?_⟩
    · obtain ⟨y, hy, hx⟩ := List.mem_flatMap.1 hm
      obtain ⟨b, _, _, e3, e4⟩ := kid y hy
      obtain ⟨c, f1, f2⟩ := e4 _ hx
      have e5 := Int.ofNat.inj f1
      subst e5
      have := f2.rank_le hs
      omega
    · have flat : ∀ l : List Int, l.Nodup → (∀ y ∈ l, y ∈ (ns[i]).kids) → (l.flatMap fun x => und ns f x.toNat).Nodup := by
        intro l
        induction l with
        | nil => intro _ _; exact List.nodup_nil
        | cons y l il =>
          intro hl hsub
          rw [List.flatMap_cons, List.nodup_append]
          obtain ⟨hy, hl'⟩ := List.nodup_cons.1 hl
          obtain ⟨b, e1, e2, e3, e4⟩ := kid y (hsub y (List.mem_cons_self ..))
          refine ⟨by subst e1; exact ih b e2, il hl' fun z hz => hsub z (List.mem_cons_of_mem _ hz), ?_⟩
          intro x hx z hz hxz
          subst hxz
          obtain ⟨u, hu, hxu⟩ := List.mem_flatMap.1 hz
          obtain ⟨c, g1, g2, g3, g4⟩ := kid u (hsub u (List.mem_cons_of_mem _ hu))
          obtain ⟨p, p1, p2⟩ := e4 x hx
          obtain ⟨q, q1, q2⟩ := g4 x hxu
          have epq := Int.ofNat.inj (p1.symm.trans q1)
          subst epq
          have hne : b ≠ c := fun e => hy (by rw [e1, e, ← g1]; exact hu)
          have no : ∀ b c : Nat, (b : Int) ∈ (ns[i]).kids → rkU ns c < rkU ns i → b ≠ c → ¬ Anc ns b c := by
            intro b c hb hc hbc ha
            cases ha with
            | refl => exact hbc rfl
            | step hx' hp' hm' hk' k' =>
              obtain ⟨b', m, r1, _, r4, r5, _⟩ := hs.rank hg hb
              have r6 := Int.ofNat.inj r1
              subst r6
              obtain rfl := Option.some.inj (hx'.symm.trans r4)
              have r7 := Int.ofNat.inj (hp'.symm.trans r5)
              subst r7
              have := k'.rank_le hs
              omega
          rcases p2.or q2 with h1 | h1
          · exact no b c (e1 ▸ hsub y (List.mem_cons_self ..)) g3 hne h1
          · exact no c b (g1 ▸ hsub u (List.mem_cons_of_mem _ hu)) e3 (Ne.symm hne) h1
      exact flat _ (hs.nodup i _ hg) fun _ h => h
theorem und_short {ns : List Nd} (hs : WF ns) (f i : Nat) (hi : i < ns.length) : (und ns f i).length ≤ ns.length :=
  short _ (und_nodup hs f i hi) fun x hx => by
    obtain ⟨b, e1, e2, _⟩ := und_anc hs f i hi x hx
    exact ⟨b, e1, e2⟩

/-- each but the first stands behind its parent -/
theorem und_pre {ns : List Nd} (hs : WF ns) : ∀ (f i : Nat), i < ns.length → ∀ (k : Nat) (x : Int), (und ns f i)[k]? = some x → 0 < k → ∃ (c : Nat) (n : Nd), x = c ∧ ns[c]? = some n ∧ n.parent ∈ (und ns f i).take k := by
  intro f
  induction f with
  | zero => intro i _ k x hx; simp [und] at hx
  | succ f ih =>
    intro i hi k x hx hk
    have hg : ns[i]? = some ns[i] := List.getElem?_eq_getElem hi
    rw [und_succ hg] at hx ⊢
    have flat : ∀ l : List Int, (∀ y ∈ l, y ∈ (ns[i]).kids) → ∀ (A : List Int), (i : Int) ∈ A → ∀ (k : Nat) (x : Int), (l.flatMap fun x => und ns f x.toNat)[k]? = some x → ∃ (c : Nat) (n : Nd), x = c ∧ ns[c]? = some n ∧ n.parent ∈ A ++ (l.flatMap fun x => und ns f x.toNat).take k := by
      intro l
      induction l with
      | nil => intro _ A _ k x hx; simp at hx
      | cons y l il =>
        intro hsub A hA k x hx
        rw [List.flatMap_cons] at hx ⊢
        obtain ⟨b, m, e1, e2, e3, e4, _⟩ := hs.rank hg (hsub y (List.mem_cons_self ..))
        subst e1
        rw [Int.toNat_natCast] at hx ⊢
        by_cases hlt : k < (und ns f b).length
        · rw [List.getElem?_append_left hlt] at hx
          rw [List.take_append_of_le_length (by omega)]
          rcases Nat.eq_zero_or_pos k with h0 | h0
          · subst h0
            cases f with
            | zero => simp [und] at hx
            | succ f =>
              have : x = b := by simpa [und] using hx.symm
              exact ⟨b, m, this, e3, List.mem_append_left _ (by rw [e4]; exact hA)⟩
          · obtain ⟨c, n, g1, g2, g3⟩ := ih b e2 k x hx h0
            exact ⟨c, n, g1, g2, List.mem_append_right _ g3⟩
        · rw [List.getElem?_append_right (by omega)] at hx
          obtain ⟨c, n, g1, g2, g3⟩ := il (fun z hz => hsub z (List.mem_cons_of_mem _ hz)) A hA _ x hx
          refine ⟨c, n, g1, g2, ?_⟩
          rw [List.take_append]
          rcases List.mem_append.1 g3 with g3 | g3
          · exact List.mem_append_left _ g3
          · exact List.mem_append_right _ (List.mem_append_right _ g3)
    obtain ⟨k', rfl⟩ : ∃ k', k = k' + 1 := ⟨k - 1, by omega⟩
    rw [List.getElem?_cons_succ] at hx
    obtain ⟨c, n, g1, g2, g3⟩ := flat _ (fun _ h => h) [(i : Int)] (by simp) k' x hx
    exact ⟨c, n, g1, g2, by simpa using g3⟩
end Go.Proofs.YtkaeenafejdkfaaGreatDoor

/- Where an attribute stands. -/
namespace Go.Proofs.YtkaeenafejdkfaaGreatDoor
open Go.RowKit

def eqS (a b : ByteArray) : Bool := a.toList == b.toList
def findA (l : List (ByteArray × ByteArray)) (name : ByteArray) : Option Nat := l.findIdx? fun x => eqS x.1 name
def findI (l : List (ByteArray × ByteArray)) (name : ByteArray) : Int := match findA l name with
  | some k => k
  | none => -1

set_option maxHeartbeats 1000000 in
theorem find1_any (n v name : ByteArray) (b : Nat) (w : World) (hb : w.cell? ⟨b, 0, none⟩ = some (.string name)) :
    Calls Tryz.prog 124 #[.agg #[.string n, .string v], .pointer (some ⟨b, 0, none⟩)] w fun e w' => e = .returned (.bool (eqS n name)) ∧ Below w.heap.size w w' := by
  have hlt : b < w.heap.size := World.block_lt_of_cell? w _ hb
  go_enter Tryz.func124, Tryz.ntmps124
  go_wp2
  go_ret
  exact ⟨rfl, (Below.refl _ _).alloc (Nat.le_refl _) _⟩

theorem findI_some {l : List (ByteArray × ByteArray)} {name : ByteArray} {k : Nat} {x : ByteArray × ByteArray} (hx : l[k]? = some x) (he : eqS x.1 name = true) (hb : ∀ j, j < k → ∀ y, l[j]? = some y → eqS y.1 name = false) : findA l name = some k := by
  unfold findA
  rw [List.findIdx?_eq_some_iff_getElem]
  obtain ⟨hk, rfl⟩ := List.getElem?_eq_some_iff.1 hx
  refine ⟨hk, he, fun j hj => ?_⟩
  have := hb j hj l[j] (List.getElem?_eq_getElem (by omega))
  simp [this]
theorem findI_none {l : List (ByteArray × ByteArray)} {name : ByteArray} (hb : ∀ j, j < l.length → ∀ y, l[j]? = some y → eqS y.1 name = false) : findA l name = none := by
  unfold findA
  rw [List.findIdx?_eq_none_iff]
  intro x hx
  obtain ⟨j, hj, rfl⟩ := List.getElem_of_mem hx
  exact hb j hj _ (List.getElem?_eq_getElem hj)

set_option maxHeartbeats 4000000 in
set_option maxRecDepth 100000 in
theorem indexFunc_any {w : World} {M : Nat → Lab} {l : Lab} {v : Value} {at_ : List (ByteArray × ByteArray)} (h : Row w M l 81 2 v at_.length (attrCells at_)) (name : ByteArray) (b : Nat) (hb : w.cell? ⟨b, 0, none⟩ = some (.string name)) :
    Calls Tryz.prog 123 #[v, .func (.func 124) #[] #[.pointer (some ⟨b, 0, none⟩)]] w fun e w' => e = .returned (.int .i64 (findI at_ name)) ∧ Below w.heap.size w w' := by
  obtain ⟨a, cap, rfl, h1, h2⟩ := h.shape
  have hcell : Hid (∀ k x, at_[k]? = some x → ∃ g, a = some ⟨g, 0, none⟩ ∧ g < w.heap.size ∧ w.cell? ⟨g, k * 2, none⟩ = some (.string x.1) ∧ w.cell? ⟨g, k * 2 + 1, none⟩ = some (.string x.2)) := by
    intro k x hk
    have hkl : k < at_.length := (List.getElem?_eq_some_iff.1 hk).1
    obtain ⟨g, c, hv, _, _, _, hg⟩ := h.form (by omega)
    cases hv
    obtain ⟨q1, q2⟩ := attrCells_get at_ k x hk
    exact ⟨g, rfl, hg, (h.cell rfl q1).1, (h.cell rfl q2).1⟩
  have hlt : b < w.heap.size := World.block_lt_of_cell? w _ hb
  unfold maxLen at h2
  clear h
  go_enter Tryz.func123, Tryz.ntmps123
  go_wp2
  go_loopw [8] (fun i wr => ∃ k : Nat, k ≤ at_.length ∧ i = .int .i64 k ∧ Hid (∀ j, j < k → ∀ y, at_[j]? = some y → eqS y.1 name = false) ∧ Hid (Below w.heap.size w wr)) (fun i _ => at_.length - (intOf i).toNat)
  case atStart => exact ⟨0, by omega, rfl, (fun j hj => absurd hj (by omega) : ∀ j, j < 0 → ∀ y, at_[j]? = some y → eqS y.1 name = false), Below.refl _ _⟩
  case round =>
    obtain ⟨k, hk, rfl, hno, hbel⟩ := hrel
    by_cases hkl : k < at_.length
    · obtain ⟨x, hx⟩ : ∃ x, at_[k]? = some x := ⟨_, List.getElem?_eq_getElem hkl⟩
      obtain ⟨g, rfl, hg, c1, c2⟩ := hcell.out k x hx
      have c1' := (hbel.out.cell (p := ⟨g, k * 2, none⟩) hg).trans c1
      have c2' := (hbel.out.cell (p := ⟨g, k * 2 + 1, none⟩) hg).trans c2
      have hb' := (hbel.out.cell (p := ⟨b, 0, none⟩) hlt).trans hb
      have HX : Hid (at_[k]? = some x) := hx
      clear hx c1 c2
      cases he : eqS x.1 name
      · go_wp2_with (go_at_call 124; refine (find1_any x.1 x.2 name b _ hb').mono ?_; rintro e w1 ⟨rfl, hB⟩; rw [he])
        go_roundw
        case rel =>
          go_light
          refine ⟨k + 1, by omega, by go_num, ?_, (hbel.out.trans (hB.mono hbel.out.size) : Below w.heap.size w w1)⟩
          intro j hj y hy
          by_cases hjk : j = k
          · subst hjk
            obtain rfl := Option.some.inj (hy.symm.trans HX.out)
            exact he
          · exact hno.out j (by omega) y hy
        case measure => go_light; simp [intOf]; omega
      · have HF : Hid (findI at_ name = k) := by
          show findI at_ name = k
          simp only [findI, findI_some HX.out he hno.out]
        go_wp2_with (go_at_call 124; refine (find1_any x.1 x.2 name b _ hb').mono ?_; rintro e w1 ⟨rfl, hB⟩; rw [he])
        go_ret
        exact ⟨ret_int HF.out.symm, hbel.out.trans (hB.mono hbel.out.size)⟩
    · have hke : k = at_.length := by omega
      have HF : Hid (findI at_ name = -1) := by
        show findI at_ name = -1
        simp only [findI, findI_none (hke ▸ hno.out)]
      go_wp2
      go_ret
      exact ⟨ret_int HF.out.symm, hbel.out⟩

set_option maxHeartbeats 2000000 in
theorem find_any {w : World} {M : Nat → Lab} {tb : Nat} {uv : Value} {ps : List Pn} {us : List Value} {nb nc : Nat} (h : Lies w M tb (.slice (some ⟨nb, 0, none⟩) ps.length nc) uv ps us) {i : Nat} {p : Pn} (hp : ps[i]? = some p) (name : ByteArray) :
    Calls Tryz.prog 83 #[.pointer (some ⟨nb, i * 6, none⟩), .string name] w fun e w' => e = .returned (.int .i64 (findI p.n.attrs name)) ∧ Below w.heap.size w w' := by
  have c3 := (h.cellN rfl (f := 3) hp (by omega) rfl).1
  have hlt : nb < w.heap.size := World.block_lt_of_cell? w _ c3
  have hr := (h.node i p hp).1
  obtain ⟨ka, kc, hkv, _, _⟩ := hr.shape
  rw [hkv] at c3
  have HR : Hid (Row (w.alloc (.cells #[.string name] 9)) M (.attrs i) 81 2 (.slice ka p.n.attrs.length kc) p.n.attrs.length (attrCells p.n.attrs)) := by
    rw [hkv] at hr
    exact hr.keep (fun b hb _ => Below.heap_alloc w _ b hb) (fun _ _ => rfl)
  clear h hr hkv
  go_enter Tryz.func83, Tryz.ntmps83
  go_wp2_with (go_at_call 123; refine (indexFunc_any HR.out name _ (by simp)).mono ?_; rintro e w1 ⟨rfl, hB⟩)
  go_ret
  exact ⟨rfl, ((Below.refl _ _).alloc (Nat.le_refl _) _).trans (hB.mono (by simp))⟩

set_option maxHeartbeats 2000000 in
theorem wantElement_any {w : World} {M : Nat → Lab} {tb : Nat} {nv uv : Value} {ps : List Pn} {us : List Value} (h : Lies w M tb nv uv ps us) (hE : Errs w M) {i : Nat} {p : Pn} (hp : ps[i]? = some p) :
    Calls Tryz.prog 82 #[.pointer (some ⟨tb, 0, none⟩), .int .i64 i] w fun e w' => (∃ v, e = .returned v ∧ (if p.n.kind = 2 then v = .nilIface else isErr v)) ∧ w' = w := by
  have hb := hasB_of hp
  obtain ⟨nb, cap, rfl, hc, hm, _, _, hi⟩ := h.form hp
  obtain ⟨t, a, hc3⟩ := hE.cell 1 (by decide)
  have c0 := h.cell0
  have c4 := (h.cellN rfl (f := 0) hp (by omega) rfl).1
  rw [Nat.add_zero] at c4
  have H : Hid (Lies w M tb (.slice (some ⟨nb, 0, none⟩) ps.length cap) uv ps us) := h
  unfold maxLen at hm
  clear h hE
  by_cases hk : p.n.kind = 2
  · rw [hk] at c4
    simp only [if_pos hk]
    go_enter Tryz.func82, Tryz.ntmps82
    go_wp2_with (go_at_call 73; refine (has_any H.out _).mono ?_; rintro e w' ⟨rfl, rfl⟩; rw [hb])
    go_ret
    exact ⟨⟨_, rfl, rfl⟩, rfl⟩
  · have hkb : (p.n.kind == 2) = false := by simpa using hk
    simp only [if_neg hk]
    go_enter Tryz.func82, Tryz.ntmps82
    go_wp2_with (go_at_call 73; refine (has_any H.out _).mono ?_; rintro e w' ⟨rfl, rfl⟩; rw [hb])
    go_ret
    exact ⟨⟨_, rfl, ⟨t, a, rfl⟩⟩, rfl⟩
end Go.Proofs.YtkaeenafejdkfaaGreatDoor

/- What Set makes of a tree. -/
namespace Go.Proofs.YtkaeenafejdkfaaGreatDoor
open Go.RowKit

/-- a node's attributes turn: their row, and where the node says that it lies -/
theorem Lies.setAttrs {w w1 : World} {M M1 : Nat → Lab} {tb : Nat} {nv uv : Value} {ps : List Pn} {us : List Value} (h : Lies w M tb nv uv ps us) {nb m c0 : Nat} (hv : nv = .slice (some ⟨nb, 0, none⟩) m c0) {i : Nat} {p : Pn} (hp : ps[i]? = some p) (st : Step w M w1 M1 (.attrs i))
    {av' : Value} {at' : List (ByteArray × ByteArray)} (hr : Row w1 M1 (.attrs i) 81 2 av' at'.length (attrCells at')) :
    Lies (w1.setCell ⟨nb, i * 6 + 3, none⟩ av') M1 tb nv uv (ps.set i ⟨{ p.n with attrs := at' }, av', p.kv⟩) us ∧ Moved w M (w1.setCell ⟨nb, i * 6 + 3, none⟩ av') M1 ∧ (∃ u, w1.cell? ⟨nb, i * 6 + 3, none⟩ = some u) ∧ w1.frozen? ⟨nb, i * 6 + 3, none⟩ = false := by
  have hi : i < ps.length := (List.getElem?_eq_some_iff.1 hp).1
  obtain ⟨g, cap, hg, _, _, hM, hgl⟩ := h.nodes.form (by omega)
  have e1 : g = nb := by rw [hv] at hg; cases hg; rfl
  subst e1
  have hn1 : Row w1 M1 .nodes 126 6 nv ps.length (flat ps) := h.nodes.step st (by intro e; cases e)
  have hM1 : M1 g = .nodes := (st.lab g hgl).trans hM
  have st2 : Step w1 M1 (w1.setCell ⟨g, i * 6 + 3, none⟩ av') M1 .nodes := step_setCell av' hM1 st.fresh
  have hc := hn1.cell hv (flat_get ps i 3 p hp (by omega))
  refine ⟨⟨st2.fresh, (st.lab tb (lt_of_heap h.head)).trans h.tree, ?_, ?_, (h.undos.step st (by intro e; cases e)).step st2 (by intro e; cases e), ?_⟩, (st.moved (by intro e; cases e)).trans (st2.moved (by intro e; cases e)), ⟨_, hc.1⟩, hc.2⟩
  · have ht : M1 tb = .tree := (st.lab tb (lt_of_heap h.head)).trans h.tree
    have hl : tb < w1.heap.size := Nat.lt_of_lt_of_le (lt_of_heap h.head) st.size
    exact ((st2.far tb hl (by rw [ht]; intro e; cases e)).trans (st.far tb (lt_of_heap h.head) (by rw [h.tree]; intro e; cases e))).trans h.head
  · rw [List.length_set, flat_set ps i 3 p ⟨{ p.n with attrs := at' }, av', p.kv⟩ av' hp (by omega) rfl]
    exact hn1.set hv _ _ (by rw [flat_length]; omega)
  · intro j q hq
    by_cases hij : i = j
    · subst hij
      rw [List.getElem?_set_self hi] at hq
      cases hq
      exact ⟨hr.step st2 (by intro e; cases e), ((h.node i p hp).2.step st (by intro e; cases e)).step st2 (by intro e; cases e)⟩
    · rw [List.getElem?_set_ne hij] at hq
      exact ⟨((h.node j q hq).1.step st (by intro e; cases e; exact hij rfl)).step st2 (by intro e; cases e), ((h.node j q hq).2.step st (by intro e; cases e)).step st2 (by intro e; cases e)⟩

theorem flat_same (ps : List Pn) : ∀ (i : Nat) (p p' : Pn), ps[i]? = some p → p'.cells = p.cells → flat (ps.set i p') = flat ps := by
  induction ps with
  | nil => intro i p p' h; simp at h
  | cons q ps ih =>
    intro i p p' h he
    cases i with
    | zero => simp at h; subst h; rw [List.set_cons_zero, flat_cons, flat_cons, he]
    | succ i => rw [List.set_cons_succ, flat_cons, flat_cons, ih i p p' (by simpa using h) he]

/-- a node's attributes turn in their place -/
theorem Lies.turnAttrs {w w1 : World} {M M1 : Nat → Lab} {tb : Nat} {nv uv : Value} {ps : List Pn} {us : List Value} (h : Lies w M tb nv uv ps us) {i : Nat} {p : Pn} (hp : ps[i]? = some p) (st : Step w M w1 M1 (.attrs i))
    {at' : List (ByteArray × ByteArray)} (hr : Row w1 M1 (.attrs i) 81 2 p.av at'.length (attrCells at')) :
    Lies w1 M1 tb nv uv (ps.set i ⟨{ p.n with attrs := at' }, p.av, p.kv⟩) us ∧ Moved w M w1 M1 := by
  have hi : i < ps.length := (List.getElem?_eq_some_iff.1 hp).1
  refine ⟨⟨st.fresh, (st.lab tb (lt_of_heap h.head)).trans h.tree, (st.far tb (lt_of_heap h.head) (by rw [h.tree]; intro e; cases e)).trans h.head, ?_, h.undos.step st (by intro e; cases e), ?_⟩, st.moved (by intro e; cases e)⟩
  · rw [List.length_set, flat_same ps i p ⟨{ p.n with attrs := at' }, p.av, p.kv⟩ hp rfl]
    exact h.nodes.step st (by intro e; cases e)
  · intro j q hq
    by_cases hij : i = j
    · subst hij
      rw [List.getElem?_set_self hi] at hq
      cases hq
      exact ⟨hr, (h.node i p hp).2.step st (by intro e; cases e)⟩
    · rw [List.getElem?_set_ne hij] at hq
      exact ⟨(h.node j q hq).1.step st (by intro e; cases e; exact hij rfl), (h.node j q hq).2.step st (by intro e; cases e)⟩

/-- what Set makes of a list of attributes -/
def setAttr (l : List (ByteArray × ByteArray)) (name value : ByteArray) : List (ByteArray × ByteArray) := match findA l name with
  | some k => l.set k ((l.getD k (name, value)).1, value)
  | none => l ++ [(name, value)]

theorem Tryz.infoAttr : (Tryz.prog.info? 81).map (fun i => (i.zero, i.size, i.bytes)) = some (some (.agg #[.string ⟨#[]⟩, .string ⟨#[]⟩]), 2, 32) := by kernel_rfl

set_option maxHeartbeats 4000000 in
set_option maxRecDepth 100000 in
theorem set_bad {w : World} {M : Nat → Lab} {tb : Nat} {nv uv : Value} {ps : List Pn} {us : List Value} (h : Lies w M tb nv uv ps us) (hE : Errs w M) {i : Nat} {p : Pn} (hp : ps[i]? = some p) (name value : ByteArray) (hv : value.size ≤ 9223372036854775807) (hbad : p.n.kind ≠ 2 ∨ nameB name = false ∨ 20000 < value.size) :
    Calls Tryz.prog 41 #[.pointer (some ⟨tb, 0, none⟩), .int .i64 i, .string name, .string value] w fun e w' => (∃ v, e = .returned v ∧ isErr v) ∧ Below w.heap.size w w' := by
  obtain ⟨t1, a1, hc1⟩ := hE.cell 5 (by decide)
  obtain ⟨t2, a2, hc2⟩ := hE.cell 0 (by decide)
  have l1 : 5 < w.heap.size := World.block_lt_of_cell? w _ hc1
  have l2 : 0 < w.heap.size := World.block_lt_of_cell? w _ hc2
  have W0 : Hid (∀ o1 o2, Lies ((w.alloc o1).alloc o2) M tb nv uv ps us ∧ Errs ((w.alloc o1).alloc o2) M) := fun o1 o2 => ⟨(h.alloc o1).alloc o2, hE.below (((Below.refl _ _).alloc (Nat.le_refl _) _).alloc (by simp) _)⟩
  clear h hE
  by_cases hk : p.n.kind = 2
  · cases hn : nameB name
    · go_enter Tryz.func41, Tryz.ntmps41
      go_wp2_with (first
        | (go_at_call 82; refine (wantElement_any (W0.out _ _).1 (W0.out _ _).2 hp).mono ?_; rintro e w' ⟨⟨v, rfl, hv⟩, rfl⟩; rw [if_pos hk] at hv; subst hv)
        | (go_at_call 80; refine (name_any _ _).mono ?_; rintro e w' ⟨rfl, rfl⟩; rw [hn]))
      all_goals go_ret
      all_goals exact ⟨⟨_, rfl, ⟨t1, a1, rfl⟩⟩, ((Below.refl _ _).alloc (Nat.le_refl _) _).alloc (by simp) _⟩
    · have hvs : 20000 < value.size := by
        rcases hbad with h | h | h
        · exact absurd hk h
        · rw [hn] at h; cases h
        · exact h
      go_enter Tryz.func41, Tryz.ntmps41
      go_wp2_with (first
        | (go_at_call 82; refine (wantElement_any (W0.out _ _).1 (W0.out _ _).2 hp).mono ?_; rintro e w' ⟨⟨v, rfl, hv⟩, rfl⟩; rw [if_pos hk] at hv; subst hv)
        | (go_at_call 80; refine (name_any _ _).mono ?_; rintro e w' ⟨rfl, rfl⟩; rw [hn]))
      all_goals go_ret
      all_goals exact ⟨⟨_, rfl, ⟨t2, a2, rfl⟩⟩, ((Below.refl _ _).alloc (Nat.le_refl _) _).alloc (by simp) _⟩
  · go_enter Tryz.func41, Tryz.ntmps41
    go_wp2_with (go_at_call 82; refine (wantElement_any (W0.out _ _).1 (W0.out _ _).2 hp).mono ?_; rintro e w' ⟨⟨v, rfl, hv⟩, rfl⟩; rw [if_neg hk] at hv; obtain ⟨t3, a3, rfl⟩ := hv)
    all_goals go_ret
    all_goals exact ⟨⟨_, rfl, ⟨t3, a3, rfl⟩⟩, ((Below.refl _ _).alloc (Nat.le_refl _) _).alloc (by simp) _⟩
end Go.Proofs.YtkaeenafejdkfaaGreatDoor
