/- A root is pushed among the kids of another node; what was moved is moved back. -/
import Derived.Test.YtoanbjdifddcoaaGreatDoorM15
import Derived.Test.YtoanbjdifddcoaaGreatDoorM12
import Derived.Test.YtoanbjdifddcoaaGreatDoorPush
namespace Go.Proofs.YtoanbjdifddcoaaGreatDoor

theorem ins_mem {l : List Int} {x y : Int} {k : Nat} : y ∈ l.take k ++ x :: l.drop k ↔ y = x ∨ y ∈ l := by
  constructor
  · intro h
    rcases List.mem_append.1 h with h | h
    · exact .inr (List.mem_of_mem_take h)
    · rcases List.mem_cons.1 h with h | h
      · exact .inl h
      · exact .inr (List.mem_of_mem_drop h)
  · rintro (h | h)
    · subst h; simp
    · rw [← List.take_append_drop k l] at h
      rcases List.mem_append.1 h with h | h
      · exact List.mem_append_left _ h
      · exact List.mem_append_right _ (List.mem_cons_of_mem _ h)
theorem ins_nodup {l : List Int} {x : Int} {k : Nat} (h : l.Nodup) (hx : x ∉ l) : (l.take k ++ x :: l.drop k).Nodup := by
  have e := h
  rw [← List.take_append_drop k l, List.nodup_append] at e
  obtain ⟨n1, n2, n3⟩ := e
  rw [List.nodup_append]
  refine ⟨n1, List.nodup_cons.2 ⟨fun hm => hx (List.mem_of_mem_drop hm), n2⟩, ?_⟩
  intro a ha b hb hab
  rcases List.mem_cons.1 hb with hb | hb
  · subst hb; subst hab; exact hx (List.mem_of_mem_take ha)
  · exact n3 a ha b hb hab

theorem WF.pushed {ns : List Nd} {i a k : Nat} {n m : Nd} {la : List Nat} (h : WF ns) (hi : ns[i]? = some n) (hr : n.parent = -1) (h0 : i ≠ 0) (hm : ns[a]? = some m) (hu : Up ns a la) (hn : i ∉ la) : WF ((ns.set a { m with kids := m.kids.take k ++ (i : Int) :: m.kids.drop k }).set i { n with parent := a }) := by
  have hai : a ≠ i := fun e => hn (e ▸ hu.head)
  have hil := (List.getElem?_eq_some_iff.1 hi).1
  have hal := (List.getElem?_eq_some_iff.1 hm).1
  have G := get2 ns { m with kids := m.kids.take k ++ (i : Int) :: m.kids.drop k } { n with parent := a } hai hal hil
  generalize hN : (ns.set a { m with kids := m.kids.take k ++ (i : Int) :: m.kids.drop k }).set i { n with parent := a } = N at *
  have F : ∀ (c : Nat) (x : Nd), ns[c]? = some x → c ≠ i → ∃ x', N[c]? = some x' ∧ x'.parent = x.parent ∧ x'.kind = x.kind := by
    intro c x hc hci
    rw [G c, if_neg hci]
    by_cases hca : c = a
    · subst hca
      obtain rfl := Option.some.inj (hc.symm.trans hm)
      exact ⟨_, if_pos rfl, rfl, rfl⟩
    · rw [if_neg hca]
      exact ⟨x, hc, rfl, rfl⟩
  have Gi := G i
  rw [if_pos rfl] at Gi
  have Ga := G a
  rw [if_neg hai, if_pos rfl] at Ga
  have hnk := h.rootNotKid hm hi hr
  refine ⟨?_, by rw [← hN, List.length_set, List.length_set]; exact h.len, ?_, ?_, ?_, ?_⟩
  · obtain ⟨n0, g0, g1, g2⟩ := h.root
    obtain ⟨x', k1, k2, k3⟩ := F 0 n0 g0 (Ne.symm h0)
    exact ⟨x', k1, k3.trans g1, k2.trans g2⟩
  · intro j x hx
    rw [G j] at hx
    split at hx
    · cases hx; exact h.nodup i n hi
    · split at hx
      · cases hx; exact ins_nodup (h.nodup a m hm) hnk
      · exact h.nodup j x hx
  · intro j x hx y hy
    have main : ∀ y, (∃ x0, ns[j]? = some x0 ∧ y ∈ x0.kids) → ∃ (c : Nat) (m' : Nd), y = c ∧ N[c]? = some m' ∧ m'.parent = j := by
      rintro y ⟨x0, k1, k2⟩
      obtain ⟨c, m', e1, e2, e3⟩ := h.kid j x0 k1 y k2
      have hci : c ≠ i := by
        intro e
        subst e
        obtain rfl := Option.some.inj (e2.symm.trans hi)
        omega
      obtain ⟨x', g1, g2, _⟩ := F c m' e2 hci
      exact ⟨c, x', e1, g1, g2.trans e3⟩
    rw [G j] at hx
    split at hx
    · rename_i hji
      subst hji
      cases hx
      exact main y ⟨n, hi, hy⟩
    · split at hx
      · rename_i hja
        subst hja
        cases hx
        rcases ins_mem.1 hy with hy | hy
        · exact ⟨i, _, hy, Gi, rfl⟩
        · exact main y ⟨m, hm, hy⟩
      · exact main y ⟨x, hx, hy⟩
  · intro j x hx
    by_cases hji : j = i
    · subst hji
      rw [Gi] at hx
      cases hx
      exact .inr ⟨a, _, rfl, Ga, ins_mem.2 (.inl rfl)⟩
    · have hx0 : ∃ x0, ns[j]? = some x0 ∧ x.parent = x0.parent := by
        rw [G j, if_neg hji] at hx
        split at hx
        · rename_i hja
          subst hja
          cases hx
          exact ⟨m, hm, rfl⟩
        · exact ⟨x, hx, rfl⟩
      obtain ⟨x0, g0, g1⟩ := hx0
      rcases h.par j x0 g0 with e | ⟨r, y, e1, e2, e3⟩
      · exact .inl (g1.trans e)
      · refine .inr ?_
        by_cases hri : r = i
        · subst hri
          obtain rfl := Option.some.inj (e2.symm.trans hi)
          exact ⟨r, _, g1.trans e1, Gi, e3⟩
        · by_cases hra : r = a
          · subst hra
            obtain rfl := Option.some.inj (e2.symm.trans hm)
            exact ⟨r, _, g1.trans e1, Ga, ins_mem.2 (.inr e3)⟩
          · exact ⟨r, y, g1.trans e1, by rw [G r, if_neg hri, if_neg hra]; exact e2, e3⟩
  · have U0 : ∀ (j : Nat) l, Up ns j l → i ∉ l → Up N j l := by
      intro j l hl
      induction hl with
      | @root j x hx hp =>
        intro hno
        obtain ⟨x', g1, g2, _⟩ := F j x hx (fun e => hno (by simp [e]))
        exact .root g1 (g2.trans hp)
      | @up j p l x hx hp hu ih =>
        intro hno
        obtain ⟨x', g1, g2, _⟩ := F j x hx (fun e => hno (by simp [e]))
        exact .up g1 (g2.trans hp) (ih fun hm => hno (List.mem_cons_of_mem _ hm))
    have Ui : Up N i (i :: la) := .up Gi rfl (U0 a la hu hn)
    have U : ∀ (j : Nat) l, Up ns j l → ∃ l', Up N j l' := by
      intro j l hl
      induction hl with
      | @root j x hx hp =>
        by_cases hji : j = i
        · subst hji; exact ⟨_, Ui⟩
        · obtain ⟨x', g1, g2, _⟩ := F j x hx hji
          exact ⟨_, .root g1 (g2.trans hp)⟩
      | @up j p l x hx hp hu ih =>
        by_cases hji : j = i
        · subst hji; exact ⟨_, Ui⟩
        · obtain ⟨x', g1, g2, _⟩ := F j x hx hji
          obtain ⟨l', hl'⟩ := ih
          exact ⟨_, .up g1 (g2.trans hp) hl'⟩
    intro j x hx
    have hj : j < ns.length := by
      have := (List.getElem?_eq_some_iff.1 hx).1
      rw [← hN] at this
      simpa using this
    obtain ⟨l, hl⟩ := h.up j _ (List.getElem?_eq_getElem hj)
    exact U j l hl

/-- who is pulled out is a root then -/
theorem Pulled.isRoot {ns ns' : List Nd} {i w : Nat} {f : Int} (hp : Pulled ns i ns' f w) : ∃ n, ns'[i]? = some n ∧ n.parent = -1 := by
  cases hp with
  | root h hp => exact ⟨_, h, hp⟩
  | @kid n m q h hp hm hk hq =>
    refine ⟨{ n with parent := -1 }, ?_, rfl⟩
    rw [List.getElem?_set_self]
    rw [List.length_set]
    exact (List.getElem?_eq_some_iff.1 h).1
theorem Pulled.length {ns ns' : List Nd} {i w : Nat} {f : Int} (hp : Pulled ns i ns' f w) : ns'.length = ns.length := by
  cases hp <;> simp
/-- the other nodes are as they were, but for kids -/
theorem Pulled.get {ns ns' : List Nd} {i w : Nat} {f : Int} (hp : Pulled ns i ns' f w) {c : Nat} {x : Nd} (hc : ns[c]? = some x) (hci : c ≠ i) : ∃ x', ns'[c]? = some x' ∧ x'.parent = x.parent ∧ x'.kind = x.kind := by
  cases hp with
  | root _ _ => exact ⟨x, hc, rfl, rfl⟩
  | @kid n m q h hp hm hk hq =>
    rw [get2 ns _ _ hq (List.getElem?_eq_some_iff.1 hm).1 (List.getElem?_eq_some_iff.1 h).1 c, if_neg hci]
    split
    · rename_i e
      subst e
      obtain rfl := Option.some.inj (hc.symm.trans hm)
      exact ⟨_, rfl, rfl, rfl⟩
    · exact ⟨x, hc, rfl, rfl⟩
/-- the chain of a node that doesn't lie in it -/
theorem Pulled.chain {ns ns' : List Nd} {i w : Nat} {f : Int} (hp : Pulled ns i ns' f w) {j : Nat} {l : List Nat} (hu : Up ns j l) (hn : i ∉ l) : Up ns' j l := by
  induction hu with
  | @root j x hx hpx =>
    obtain ⟨x', g1, g2, _⟩ := hp.get hx (fun e => hn (by simp [e]))
    exact .root g1 (g2.trans hpx)
  | @up j p l x hx hpx hu ih =>
    obtain ⟨x', g1, g2, _⟩ := hp.get hx (fun e => hn (by simp [e]))
    exact .up g1 (g2.trans hpx) (ih fun hm => hn (List.mem_cons_of_mem _ hm))

theorem idx_ins {l : List Int} {x : Int} {k : Nat} (hx : x ∉ l) (hk : k ≤ l.length) : idx (l.take k ++ x :: l.drop k) x = k := by
  unfold idx
  have hl : (l.take k).length = k := by simp; omega
  have hno : ∀ y ∈ l.take k, ¬ ((y == x) = true) := by
    intro y hy e
    have e : y = x := by simpa using e
    exact hx (e ▸ List.mem_of_mem_take hy)
  rw [List.findIdx_append, List.findIdx_cons]
  have h1 : ¬ (List.findIdx (fun y => y == x) (l.take k) < (l.take k).length) := by
    rw [List.findIdx_lt_length]
    rintro ⟨y, hy, e⟩
    exact hno y hy e
  rw [if_neg h1]
  simp
  omega
theorem erase_ins {l : List Int} {x : Int} {k : Nat} (hk : k ≤ l.length) : (l.take k ++ x :: l.drop k).eraseIdx k = l := by
  have hl : (l.take k).length = k := by simp; omega
  rw [List.eraseIdx_append_of_length_le (by omega), hl, Nat.sub_self, List.eraseIdx_cons_zero, List.take_append_drop]
theorem ins_erase {l : List Int} {x : Int} (hx : x ∈ l) : (l.eraseIdx (idx l x)).take (idx l x) ++ x :: (l.eraseIdx (idx l x)).drop (idx l x) = l := by
  have hg := idx_get hx
  have hlt := idx_lt hx
  generalize idx l x = k at *
  obtain ⟨h1, h2⟩ := List.getElem?_eq_some_iff.1 hg
  have hl : (l.take k).length = k := by simp; omega
  rw [List.eraseIdx_eq_take_drop_succ]
  have e1 : (l.take k ++ l.drop (k + 1)).take k = l.take k := by rw [List.take_append_of_le_length (by omega), List.take_take, Nat.min_self]
  have e2 : (l.take k ++ l.drop (k + 1)).drop k = l.drop (k + 1) := by
    have : k = (l.take k).length := hl.symm
    conv => lhs; lhs; rw [this]
    rw [List.drop_left]
  rw [e1, e2, ← h2, ← List.drop_eq_getElem_cons h1, List.take_append_drop]

/-- what is pushed can be pulled out again -/
theorem push_pull {ns : List Nd} (h : WF ns) {i k : Nat} {a : Int} {ns' : List Nd} (hr : ∃ n, ns[i]? = some n ∧ n.parent = -1) (hp : Pushed ns i k a ns') : ∃ f w, Pulled ns' i ns f w := by
  obtain ⟨n, hi, hn⟩ := hr
  cases hp with
  | none => exact ⟨_, _, .root hi hn⟩
  | @kid n' m a hm h' ha hk =>
    obtain rfl := Option.some.inj (hi.symm.trans h')
    have hil := (List.getElem?_eq_some_iff.1 hi).1
    have hal := (List.getElem?_eq_some_iff.1 hm).1
    have hnk := h.rootNotKid hm hi hn
    have G := get2 ns { m with kids := m.kids.take k ++ (i : Int) :: m.kids.drop k } { n with parent := a } ha hal hil
    have Gi := G i
    rw [if_pos rfl] at Gi
    have Ga := G a
    rw [if_neg ha, if_pos rfl] at Ga
    have P := Pulled.kid (q := a) Gi rfl Ga (ins_mem.2 (.inl rfl)) ha
    have e : ((((ns.set a { m with kids := m.kids.take k ++ (i : Int) :: m.kids.drop k }).set i { n with parent := a }).set a { m with kids := (m.kids.take k ++ (i : Int) :: m.kids.drop k).eraseIdx (idx (m.kids.take k ++ (i : Int) :: m.kids.drop k) i) }).set i { n with parent := -1 }) = ns := by
      apply List.ext_getElem?
      intro j
      rw [idx_ins hnk hk, erase_ins hk, get2 _ _ _ ha (by simp; exact hal) (by simp; exact hil) j, G j]
      split
      · rename_i e; subst e; rw [hi]; rw [← hn]
      · split
        · rename_i e; subst e; rw [hm]
        · rfl
    rw [e] at P
    exact ⟨_, _, P⟩

/-- what was pulled out can be pushed back -/
theorem pull_push {ns mid : List Nd} {i w : Nat} {f : Int} (hp : Pulled ns i mid f w) : Pushed mid i w f ns := by
  cases hp with
  | root _ _ => exact .none
  | @kid n m q hi hq hm hk hqi =>
    have hil := (List.getElem?_eq_some_iff.1 hi).1
    have hql := (List.getElem?_eq_some_iff.1 hm).1
    have G := get2 ns { m with kids := m.kids.eraseIdx (idx m.kids i) } { n with parent := -1 } hqi hql hil
    have Gi := G i
    rw [if_pos rfl] at Gi
    have Gq := G q
    rw [if_neg hqi, if_pos rfl] at Gq
    have hlt := idx_lt hk
    have P := Pushed.kid (k := idx m.kids i) Gq Gi hqi (by simp only [List.length_eraseIdx, if_pos hlt]; omega)
    have e : (((ns.set q { m with kids := m.kids.eraseIdx (idx m.kids i) }).set i { n with parent := -1 }).set q { m with kids := (m.kids.eraseIdx (idx m.kids i)).take (idx m.kids i) ++ (i : Int) :: (m.kids.eraseIdx (idx m.kids i)).drop (idx m.kids i) }).set i { n with parent := (q : Int) } = ns := by
      apply List.ext_getElem?
      intro j
      rw [ins_erase hk, get2 _ _ _ hqi (by simp; exact hql) (by simp; exact hil) j, G j]
      split
      · rename_i e; subst e; rw [hi]; rw [← hq]
      · split
        · rename_i e; subst e; rw [hm]
        · rfl
    rw [e] at P
    exact P

/-- what a kept function does -/
inductive Rec where
  | forget (n : Nat)
  | move (i : Nat) (f : Int) (w : Nat)
  | cut (i : Nat)
  | back (i k : Nat) (old : ByteArray)
  | ins (i k : Nat) (x : ByteArray × ByteArray)
  | say (i : Nat) (old : ByteArray)

/-- what it makes of the nodes -/
def Undoes (ns ns' : List Nd) : Rec → Prop
  | .forget n => n < ns.length ∧ ns' = ns.take n
  | .move i f w => ∃ mid f' w', Pulled ns i mid f' w' ∧ Pushed mid i w f ns'
  | .cut i => ∃ n xs x, ns[i]? = some n ∧ n.attrs = xs ++ [x] ∧ ns' = ns.set i { n with attrs := xs }
  | .back i k old => ∃ n x, ns[i]? = some n ∧ n.attrs[k]? = some x ∧ ns' = ns.set i { n with attrs := n.attrs.set k (x.1, old) }
  | .ins i k x => ∃ n, ns[i]? = some n ∧ k ≤ n.attrs.length ∧ ns' = ns.set i { n with attrs := n.attrs.take k ++ x :: n.attrs.drop k }
  | .say i old => ∃ n, ns[i]? = some n ∧ ns' = ns.set i { n with words := old }

/-- no node has too many attributes -/
def Few (ns : List Nd) (K : Nat) : Prop := ∀ (j : Nat) (n : Nd), ns[j]? = some n → n.attrs.length ≤ K
theorem Few.mono {ns : List Nd} {K L : Nat} (h : Few ns K) (hKL : K ≤ L) : Few ns L := fun j n hn => Nat.le_trans (h j n hn) hKL

theorem undo_move {ns mid ns' : List Nd} (hm : WF mid) {i k w : Nat} {f a : Int} (hp : Pulled ns i mid f w) (hq : Pushed mid i k a ns') : Undoes ns' ns (.move i f w) := by
  obtain ⟨f', w', h⟩ := push_pull hm hp.isRoot hq
  exact ⟨mid, f', w', h, pull_push hp⟩

/-- a node's attributes or words turn -/
theorem WF.turn {ns : List Nd} (h : WF ns) {i : Nat} {n n' : Nd} (hi : ns[i]? = some n) (h1 : n'.kind = n.kind) (h2 : n'.parent = n.parent) (h3 : n'.kids = n.kids) : WF (ns.set i n') := by
  have hil := (List.getElem?_eq_some_iff.1 hi).1
  have G : ∀ j : Nat, (ns.set i n')[j]? = if j = i then some n' else ns[j]? := by
    intro j
    by_cases hj : j = i
    · subst hj; rw [if_pos rfl, List.getElem?_set_self hil]
    · rw [if_neg hj, List.getElem?_set_ne (Ne.symm hj)]
  have back : ∀ (j : Nat) x, (ns.set i n')[j]? = some x → ∃ x0, ns[j]? = some x0 ∧ x.kind = x0.kind ∧ x.parent = x0.parent ∧ x.kids = x0.kids := by
    intro j x hx
    rw [G j] at hx
    split at hx
    · rename_i e; subst e; cases hx; exact ⟨n, hi, h1, h2, h3⟩
    · exact ⟨x, hx, rfl, rfl, rfl⟩
  have forth : ∀ (j : Nat) x, ns[j]? = some x → ∃ x', (ns.set i n')[j]? = some x' ∧ x'.kind = x.kind ∧ x'.parent = x.parent ∧ x'.kids = x.kids := by
    intro j x hx
    rw [G j]
    split
    · rename_i e; subst e; obtain rfl := Option.some.inj (hx.symm.trans hi); exact ⟨n', rfl, h1, h2, h3⟩
    · exact ⟨x, hx, rfl, rfl, rfl⟩
  refine ⟨?_, by rw [List.length_set]; exact h.len, ?_, ?_, ?_, ?_⟩
  · obtain ⟨n0, g0, g1, g2⟩ := h.root
    obtain ⟨x', k1, k2, k3, _⟩ := forth 0 n0 g0
    exact ⟨x', k1, k2.trans g1, k3.trans g2⟩
  · intro j x hx
    obtain ⟨x0, k0, _, _, k3⟩ := back j x hx
    rw [k3]; exact h.nodup j x0 k0
  · intro j x hx y hy
    obtain ⟨x0, k0, _, _, k3⟩ := back j x hx
    rw [k3] at hy
    obtain ⟨c, m, e1, e2, e3⟩ := h.kid j x0 k0 y hy
    obtain ⟨m', g1, _, g3, _⟩ := forth c m e2
    exact ⟨c, m', e1, g1, g3.trans e3⟩
  · intro j x hx
    obtain ⟨x0, k0, _, k2, _⟩ := back j x hx
    rcases h.par j x0 k0 with e | ⟨r, y, e1, e2, e3⟩
    · exact .inl (k2.trans e)
    · obtain ⟨m', g1, _, _, g4⟩ := forth r y e2
      exact .inr ⟨r, m', k2.trans e1, g1, by rw [g4]; exact e3⟩
  · have U : ∀ (j : Nat) l, Up ns j l → Up (ns.set i n') j l := by
      intro j l hl
      induction hl with
      | @root j x hx hp =>
        obtain ⟨x', g1, _, g3, _⟩ := forth j x hx
        exact .root g1 (g3.trans hp)
      | @up j p l x hx hp hu ih =>
        obtain ⟨x', g1, _, g3, _⟩ := forth j x hx
        exact .up g1 (g3.trans hp) ih
    intro j x hx
    obtain ⟨x0, k0, _⟩ := back j x hx
    obtain ⟨l, hl⟩ := h.up j x0 k0
    exact ⟨l, U j l hl⟩

/-- a new root -/
theorem WF.snoc {ns : List Nd} (h : WF ns) (hl : ns.length < 400) (n : Nd) (hp : n.parent = -1) (hk : n.kids = []) : WF (ns ++ [n]) := by
  have ext : ∀ (j : Nat) x, ns[j]? = some x → (ns ++ [n])[j]? = some x := fun j x hx => by
    rw [List.getElem?_append_left (List.getElem?_eq_some_iff.1 hx).1]; exact hx
  have back : ∀ (j : Nat) x, (ns ++ [n])[j]? = some x → ns[j]? = some x ∨ (j = ns.length ∧ x = n) := fun j x hx => by
    by_cases hj : j < ns.length
    · rw [List.getElem?_append_left hj] at hx; exact .inl hx
    · rw [List.getElem?_append_right (by omega)] at hx
      rcases Nat.eq_zero_or_pos (j - ns.length) with e | e
      · rw [e] at hx; cases hx; exact .inr ⟨by omega, rfl⟩
      · rw [List.getElem?_eq_none (by simp; omega)] at hx; cases hx
  refine ⟨?_, by simp; omega, ?_, ?_, ?_, ?_⟩
  · obtain ⟨n0, g0, g1, g2⟩ := h.root
    exact ⟨n0, ext 0 n0 g0, g1, g2⟩
  · intro j x hx
    rcases back j x hx with hx | ⟨_, rfl⟩
    · exact h.nodup j x hx
    · rw [hk]; exact List.nodup_nil
  · intro j x hx y hy
    rcases back j x hx with hx | ⟨_, rfl⟩
    · obtain ⟨c, m, e1, e2, e3⟩ := h.kid j x hx y hy
      exact ⟨c, m, e1, ext c m e2, e3⟩
    · rw [hk] at hy; cases hy
  · intro j x hx
    rcases back j x hx with hx | ⟨_, rfl⟩
    · rcases h.par j x hx with e | ⟨r, y, e1, e2, e3⟩
      · exact .inl e
      · exact .inr ⟨r, y, e1, ext r y e2, e3⟩
    · exact .inl hp
  · have U : ∀ (j : Nat) l, Up ns j l → Up (ns ++ [n]) j l := by
      intro j l hl
      induction hl with
      | @root j x hx hp => exact .root (ext j x hx) hp
      | @up j p l x hx hp hu ih => exact .up (ext j x hx) hp ih
    intro j x hx
    rcases back j x hx with hx' | ⟨_, rfl⟩
    · obtain ⟨l, hl⟩ := h.up j x hx'
      exact ⟨l, U j l hl⟩
    · exact ⟨_, .root hx hp⟩
end Go.Proofs.YtoanbjdifddcoaaGreatDoor

/- A node is moved, and moved back. -/
namespace Go.Proofs.YtoanbjdifddcoaaGreatDoor
open Go.RowKit

/-- no list of kids is too long -/
def KidsFew (ns : List Nd) : Prop := ∀ (j : Nat) (n : Nd), ns[j]? = some n → n.kids.length ≤ 1099511627776
theorem WF.kidsFew {ns : List Nd} (h : WF ns) : KidsFew ns := fun j n hn => Nat.le_trans (h.few hn) (by omega)

theorem pull_any {w : World} {M : Nat → Lab} {tb : Nat} {nv uv : Value} {ps : List Pn} {us : List Value} (h : Lies w M tb nv uv ps us) {i wz : Nat} {f : Int} {ns' : List Nd} (hp : Pulled (nodesOf ps) i ns' f wz) :
    Calls Tryz.prog 78 #[.pointer (some ⟨tb, 0, none⟩), .int .i64 i] w fun e w' => e = .returned (.tuple #[.int .i64 f, .int .i64 wz]) ∧ ∃ ps', Lies w' M tb nv uv ps' us ∧ nodesOf ps' = ns' ∧ Moved w M w' M := by
  cases hp with
  | root hi hr =>
    obtain ⟨p, hp, rfl⟩ := nodesOf_get hi
    refine (pull_root h hp hr).mono ?_
    rintro e w' ⟨rfl, rfl⟩
    exact ⟨rfl, ps, h, rfl, Moved.refl _ _⟩
  | kid hi hq hm hk hqi =>
    obtain ⟨p, hp, rfl⟩ := nodesOf_get hi
    obtain ⟨m, hm', rfl⟩ := nodesOf_get hm
    refine (pull_kid h hp hq hm' hk hqi).mono ?_
    rintro e w' ⟨rfl, kv', h1, h2⟩
    exact ⟨rfl, _, h1, by simp [nodesOf, pullP, List.map_set], h2⟩

theorem push_gen {w : World} {M : Nat → Lab} {tb : Nat} {nv uv : Value} {ps : List Pn} {us : List Value} (h : Lies w M tb nv uv ps us) {i k : Nat} {a : Int} {ns' : List Nd} (hp : Pushed (nodesOf ps) i k a ns') (hf : KidsFew (nodesOf ps)) :
    Calls Tryz.prog 79 #[.pointer (some ⟨tb, 0, none⟩), .int .i64 a, .int .i64 i, .int .i64 k] w fun e w' => e = .returned (.tuple #[]) ∧ ∃ M' ps', Lies w' M' tb nv uv ps' us ∧ nodesOf ps' = ns' ∧ Moved w M w' M' := by
  cases hp with
  | none =>
    refine (push_none tb _ _ _).mono ?_
    rintro e w' ⟨rfl, rfl⟩
    exact ⟨rfl, M, ps, h, rfl, Moved.refl _ _⟩
  | kid hm hi ha hk =>
    obtain ⟨p, hp, rfl⟩ := nodesOf_get hi
    obtain ⟨m, hm', rfl⟩ := nodesOf_get hm
    refine (push_all h hm' hp ha (hf _ _ hm) hk).mono ?_
    rintro e w' ⟨rfl, M', kv', h1, h2⟩
    exact ⟨rfl, M', _, h1, by simp [nodesOf, List.map_set], h2⟩

set_option maxHeartbeats 4000000 in
set_option maxRecDepth 100000 in
theorem move_any {w : World} {M : Nat → Lab} {tb : Nat} {nv uv : Value} {ps : List Pn} {us : List Value} (h : Lies w M tb nv uv ps us) {i k wz : Nat} {f a : Int} {mid ns' : List Nd} (hp : Pulled (nodesOf ps) i mid f wz) (hq : Pushed mid i k a ns') (hf : KidsFew mid) :
    Calls Tryz.prog 56 #[.pointer (some ⟨tb, 0, none⟩), .int .i64 a, .int .i64 i, .int .i64 k] w fun e w' => ∃ ca, e = .returned (.func (.func 80) #[] ca) ∧ ∃ M' ps', Lies w' M' tb nv uv ps' us ∧ nodesOf ps' = ns' ∧ Moved w M w' M' ∧ MvF w' M' (.func (.func 80) #[] ca) tb i f wz := by
  have HP : Hid (Pulled (nodesOf ps) i mid f wz) := hp
  have HQ : Hid (Pushed mid i k a ns') := hq
  have HF : Hid (KidsFew mid) := hf
  have H : Hid (Lies w M tb nv uv ps us) := h
  clear h hp hq hf
  go_enter Tryz.func56, Tryz.ntmps56
  go_wp2_with (first
    | (go_at_call 78; refine (pull_any ((H.out.alloc _).alloc _) HP.out).mono ?_; rintro e w1 ⟨rfl, ps1, hL1, hn1, hm1⟩
       have b0 : w1.cell? ⟨w.heap.size, 0, none⟩ = some (.pointer (some ⟨tb, 0, none⟩)) := moved_cell hm1 (H.out.fresh _ (Nat.le_refl _)) (by simp)
       have b1 : w1.cell? ⟨w.heap.size + 1, 0, none⟩ = some (.int .i64 i) := moved_cell hm1 (H.out.fresh _ (by omega)) (by simp)
       have l0 : w.heap.size + 1 < w1.heap.size := World.block_lt_of_cell? w1 _ b1
       have l1 : w.heap.size < w1.heap.size := by omega
       have H1 : Hid _ := And.intro hL1 (And.intro hm1 hn1)
       clear hL1 hm1 hn1)
    | (go_at_call 79; refine (push_gen ((H1.out.1.alloc _).alloc _) (H1.out.2.2.symm ▸ HQ.out) (H1.out.2.2.symm ▸ HF.out)).mono ?_; rintro e w2 ⟨rfl, M2, ps2, hL2, hn2, hm2⟩))
  go_ret
  have h0 := H.out.fresh w.heap.size (Nat.le_refl _)
  have h1 := H.out.fresh (w.heap.size + 1) (by omega)
  have h2 := H1.out.1.fresh w1.heap.size (Nat.le_refl _)
  have h3 := H1.out.1.fresh (w1.heap.size + 1) (by omega)
  have lb : ∀ {b : Nat}, b < w1.heap.size + 1 + 1 → M b = .other → M2 b = .other := fun {b} hb ho => (hm2.lab b (by simpa using hb)).trans ho
  refine ⟨_, rfl, M2, ps2, hL2, hn2, ((((((Moved.refl w M).alloc _).alloc _).trans H1.out.2.1).alloc _).alloc _).trans hm2, ⟨_, _, _, _, rfl, ⟨lb (by omega) h0, lb (by omega) h1, lb (by omega) h2, lb (by omega) h3⟩, ?_, ?_, ?_, ?_⟩⟩
  · exact moved_cell hm2 h0 (moved_cell (((Moved.refl w1 M).alloc _).alloc _) h0 b0)
  · exact moved_cell hm2 h1 (moved_cell (((Moved.refl w1 M).alloc _).alloc _) h1 b1)
  · exact moved_cell hm2 h2 (by simp)
  · exact moved_cell hm2 h3 (by simp)

set_option maxHeartbeats 4000000 in
set_option maxRecDepth 100000 in
theorem move1_any {w : World} {M : Nat → Lab} {tb : Nat} {nv uv : Value} {ps : List Pn} {us : List Value} (h : Lies w M tb nv uv ps us) {i wz wz' : Nat} {f f' : Int} {mid ns' : List Nd} {ca : Array Value} (hM : MvF w M (.func (.func 80) #[] ca) tb i f wz) (hp : Pulled (nodesOf ps) i mid f' wz') (hq : Pushed mid i wz f ns') (hf : KidsFew mid) :
    Calls Tryz.prog 80 ca w fun e w' => e = .returned (.tuple #[]) ∧ ∃ M' ps', Lies w' M' tb nv uv ps' us ∧ nodesOf ps' = ns' ∧ Moved w M w' M' := by
  obtain ⟨b1, b2, b3, b4, he, ⟨m1, m2, m3, m4⟩, k1, k2, k3, k4⟩ := hM
  cases he
  have HP : Hid (Pulled (nodesOf ps) i mid f' wz') := hp
  have HQ : Hid (Pushed mid i wz f ns') := hq
  have HF : Hid (KidsFew mid) := hf
  have H : Hid (Lies w M tb nv uv ps us) := h
  have HM : Hid (M b1 = .other ∧ M b2 = .other ∧ M b3 = .other ∧ M b4 = .other) := ⟨m1, m2, m3, m4⟩
  clear h hp hq hf m1 m2 m3 m4
  go_enter Tryz.func80, Tryz.ntmps80
  go_wp2_with (first
    | (go_at_call 78; refine (pull_any H.out HP.out).mono ?_; rintro e w1 ⟨rfl, ps1, hL1, hn1, hm1⟩
       have c1 := moved_cell hm1 HM.out.1 k1
       have c2 := moved_cell hm1 HM.out.2.1 k2
       have c3 := moved_cell hm1 HM.out.2.2.1 k3
       have c4 := moved_cell hm1 HM.out.2.2.2 k4
       have H1 : Hid _ := And.intro hL1 (And.intro hm1 hn1)
       clear hL1 hm1 hn1)
    | (go_at_call 79; refine (push_gen H1.out.1 (H1.out.2.2.symm ▸ HQ.out) (H1.out.2.2.symm ▸ HF.out)).mono ?_; rintro e w2 ⟨rfl, M2, ps2, hL2, hn2, hm2⟩))
  go_end0
  exact ⟨rfl, M2, ps2, hL2, hn2, H1.out.2.1.trans hm2⟩
end Go.Proofs.YtoanbjdifddcoaaGreatDoor
