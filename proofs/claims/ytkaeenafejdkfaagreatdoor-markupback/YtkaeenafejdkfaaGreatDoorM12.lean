/- Trees in general, and what undoes a change: plain mathematics. -/
import Derived.Test.YtkaeenafejdkfaaGreatDoorM11
namespace Go.Proofs.YtkaeenafejdkfaaGreatDoor

theorem Up.get {ns : List Nd} {j : Nat} {l : List Nat} (h : Up ns j l) : ∃ n, ns[j]? = some n := by
  cases h with
  | root h _ => exact ⟨_, h⟩
  | up h _ _ => exact ⟨_, h⟩
theorem Up.head {ns : List Nd} {j : Nat} {l : List Nat} (h : Up ns j l) : j ∈ l := by
  cases h <;> simp
theorem Up.det {ns : List Nd} {j : Nat} {l : List Nat} (h : Up ns j l) : ∀ {k : List Nat}, Up ns j k → l = k := by
  induction h with
  | root h hp =>
    intro k hk
    cases hk with
    | root _ _ => rfl
    | up h' hp' _ =>
      obtain rfl := Option.some.inj (h.symm.trans h')
      omega
  | up h hp hu ih =>
    intro k hk
    cases hk with
    | root h' hp' =>
      obtain rfl := Option.some.inj (h.symm.trans h')
      omega
    | up h' hp' hu' =>
      obtain rfl := Option.some.inj (h.symm.trans h')
      have e := Int.ofNat.inj (hp.symm.trans hp')
      subst e
      rw [ih hu']
theorem Up.lt {ns : List Nd} {j : Nat} {l : List Nat} (h : Up ns j l) : ∀ x ∈ l, x < ns.length := by
  induction h with
  | root h _ => intro x hx; simp at hx; subst hx; exact (List.getElem?_eq_some_iff.1 h).1
  | up h _ _ ih =>
    intro x hx
    rcases List.mem_cons.1 hx with rfl | hx
    · exact (List.getElem?_eq_some_iff.1 h).1
    · exact ih x hx
/-- from a node of a chain on, the rest is that node's chain -/
theorem Up.tail {ns : List Nd} {j : Nat} {l : List Nat} (h : Up ns j l) : ∀ x ∈ l, ∃ k, Up ns x k ∧ k.length ≤ l.length := by
  induction h with
  | root h hp => intro x hx; simp at hx; subst hx; exact ⟨_, .root h hp, Nat.le_refl _⟩
  | up h hp hu ih =>
    intro x hx
    rcases List.mem_cons.1 hx with rfl | hx
    · exact ⟨_, .up h hp hu, Nat.le_refl _⟩
    · obtain ⟨k, h1, h2⟩ := ih x hx
      exact ⟨k, h1, by simp; omega⟩
theorem Up.nodup {ns : List Nd} {j : Nat} {l : List Nat} (h : Up ns j l) : l.Nodup := by
  induction h with
  | root h hp => simp
  | @up i p l n h hp hu ih =>
    rw [List.nodup_cons]
    refine ⟨fun hm => ?_, ih⟩
    obtain ⟨k, h1, h2⟩ := hu.tail _ hm
    have := h1.det (.up h hp hu)
    rw [this] at h2
    simp at h2
    omega

theorem short {N : Nat} : ∀ (l : List Int), l.Nodup → (∀ x ∈ l, ∃ b : Nat, x = b ∧ b < N) → l.length ≤ N := by
  induction N with
  | zero =>
    intro l _ h
    cases l with
    | nil => exact Nat.le_refl _
    | cons x l => obtain ⟨b, _, h2⟩ := h x (List.mem_cons_self ..); omega
  | succ N ih =>
    intro l hl h
    have h1 := ih (l.erase (N : Int)) (hl.erase _) (fun x hx => by
      have hx' := (List.Nodup.mem_erase_iff hl).1 hx
      obtain ⟨b, e1, e2⟩ := h x hx'.2
      refine ⟨b, e1, ?_⟩
      have : b ≠ N := fun e => hx'.1 (by rw [e1, e])
      omega)
    by_cases hm : (N : Int) ∈ l
    · rw [List.length_erase_of_mem hm] at h1
      omega
    · rw [List.erase_of_not_mem hm] at h1
      omega
theorem nodup_cast : ∀ (l : List Nat), l.Nodup → (l.map fun (x : Nat) => (x : Int)).Nodup
  | [], _ => List.nodup_nil
  | x :: l, h => by
    obtain ⟨h1, h2⟩ := List.nodup_cons.1 h
    rw [List.map_cons, List.nodup_cons]
    refine ⟨fun hm => ?_, nodup_cast l h2⟩
    obtain ⟨y, hy, e⟩ := List.mem_map.1 hm
    have e := Int.ofNat.inj e
    subst e
    exact h1 hy
theorem Up.short {ns : List Nd} {j : Nat} {l : List Nat} (h : Up ns j l) : l.length ≤ ns.length := by
  have := Go.Proofs.YtkaeenafejdkfaaGreatDoor.short (N := ns.length) (l.map fun (x : Nat) => (x : Int)) (nodup_cast l h.nodup) (by
    intro x hx
    obtain ⟨y, hy, e⟩ := List.mem_map.1 hx
    exact ⟨y, e.symm, h.lt y hy⟩)
  simpa using this

/-- what holds of every tree -/
structure WF (ns : List Nd) : Prop where
  root : ∃ n, ns[0]? = some n ∧ n.kind = 1 ∧ n.parent = -1
  len : ns.length ≤ 400
  nodup : ∀ (j : Nat) (n : Nd), ns[j]? = some n → n.kids.Nodup
  kid : ∀ (j : Nat) (n : Nd), ns[j]? = some n → ∀ x ∈ n.kids, ∃ (c : Nat) (m : Nd), x = c ∧ ns[c]? = some m ∧ m.parent = j
  par : ∀ (j : Nat) (n : Nd), ns[j]? = some n → n.parent = -1 ∨ ∃ (q : Nat) (m : Nd), n.parent = q ∧ ns[q]? = some m ∧ (j : Int) ∈ m.kids
  up : ∀ (j : Nat) (n : Nd), ns[j]? = some n → ∃ l, Up ns j l

theorem WF.pne {ns : List Nd} (h : WF ns) {j q : Nat} {n : Nd} (hj : ns[j]? = some n) (hq : n.parent = q) : q ≠ j := by
  intro e
  subst e
  obtain ⟨l, hl⟩ := h.up q n hj
  cases hl with
  | root h' hp' =>
    obtain rfl := Option.some.inj (hj.symm.trans h')
    omega
  | @up _ p l2 _ h' hp' hu =>
    obtain rfl := Option.some.inj (hj.symm.trans h')
    have e := Int.ofNat.inj (hq.symm.trans hp')
    subst e
    have := hu.det (.up h' hp' hu)
    have := congrArg List.length this
    simp at this
theorem WF.few {ns : List Nd} (h : WF ns) {j : Nat} {n : Nd} (hj : ns[j]? = some n) : n.kids.length ≤ 400 := by
  refine Nat.le_trans (short (N := ns.length) n.kids (h.nodup j n hj) fun x hx => ?_) h.len
  obtain ⟨c, m, e1, e2, _⟩ := h.kid j n hj x hx
  exact ⟨c, e1, (List.getElem?_eq_some_iff.1 e2).1⟩
theorem WF.rootNotKid {ns : List Nd} (h : WF ns) {a i : Nat} {m n : Nd} (ha : ns[a]? = some m) (hi : ns[i]? = some n) (hr : n.parent = -1) : (i : Int) ∉ m.kids := by
  intro hm
  obtain ⟨c, k, e1, e2, e3⟩ := h.kid a m ha _ hm
  have e := Int.ofNat.inj e1
  subst e
  obtain rfl := Option.some.inj (e2.symm.trans hi)
  omega

theorem get2 (ns : List Nd) {a i : Nat} (x y : Nd) (hai : a ≠ i) (ha : a < ns.length) (hi : i < ns.length) (j : Nat) : ((ns.set a x).set i y)[j]? = if j = i then some y else if j = a then some x else ns[j]? := by
  by_cases h1 : j = i
  · subst h1
    rw [if_pos rfl, List.getElem?_set_self (by rw [List.length_set]; exact hi)]
  · rw [if_neg h1, List.getElem?_set_ne (Ne.symm h1)]
    by_cases h2 : j = a
    · subst h2
      rw [if_pos rfl, List.getElem?_set_self ha]
    · rw [if_neg h2, List.getElem?_set_ne (Ne.symm h2)]

/-- a node was pulled out of where it was -/
inductive Pulled (ns : List Nd) (i : Nat) : List Nd → Int → Nat → Prop where
  | root {n : Nd} (h : ns[i]? = some n) (hp : n.parent = -1) : Pulled ns i ns (-1) 0
  | kid {n m : Nd} {q : Nat} (h : ns[i]? = some n) (hp : n.parent = q) (hm : ns[q]? = some m) (hk : (i : Int) ∈ m.kids) (hq : q ≠ i) : Pulled ns i ((ns.set q { m with kids := m.kids.eraseIdx (idx m.kids i) }).set i { n with parent := -1 }) q (idx m.kids i)
/-- a root was pushed among the kids of another node -/
inductive Pushed (ns : List Nd) (i k : Nat) : Int → List Nd → Prop where
  | none : Pushed ns i k (-1) ns
  | kid {n m : Nd} {a : Nat} (hm : ns[a]? = some m) (h : ns[i]? = some n) (ha : a ≠ i) (hk : k ≤ m.kids.length) : Pushed ns i k a ((ns.set a { m with kids := m.kids.take k ++ (i : Int) :: m.kids.drop k }).set i { n with parent := a })

theorem WF.pulls {ns : List Nd} (h : WF ns) {i : Nat} {n : Nd} (hi : ns[i]? = some n) : ∃ ns' f w, Pulled ns i ns' f w := by
  rcases h.par i n hi with e | ⟨q, m, e1, e2, e3⟩
  · exact ⟨_, _, _, .root hi e⟩
  · exact ⟨_, _, _, .kid hi e1 e2 e3 (h.pne hi e1)⟩

theorem idx_lt {l : List Int} {x : Int} (h : x ∈ l) : idx l x < l.length := List.findIdx_lt_length.2 ⟨x, h, by simp⟩

theorem erase_mem {l : List Int} {x y : Int} (hn : l.Nodup) (hx : x ∈ l) : y ∈ l.eraseIdx (idx l x) ↔ y ∈ l ∧ y ≠ x := by
  have hg := idx_get hx
  have hlt := idx_lt hx
  generalize idx l x = k at *
  have e : l = l.take k ++ x :: l.drop (k + 1) := by
    have := List.getElem?_eq_some_iff.1 hg
    obtain ⟨h1, h2⟩ := this
    rw [← h2, ← List.drop_eq_getElem_cons h1, List.take_append_drop]
  have en := hn
  rw [e, List.nodup_append] at en
  obtain ⟨n1, n2, n3⟩ := en
  obtain ⟨n4, n5⟩ := List.nodup_cons.1 n2
  rw [List.eraseIdx_eq_take_drop_succ]
  constructor
  · intro hy
    rcases List.mem_append.1 hy with hy | hy
    · exact ⟨List.mem_of_mem_take hy, n3 y hy x (List.mem_cons_self ..)⟩
    · refine ⟨List.mem_of_mem_drop hy, fun e => ?_⟩
      subst e
      exact n4 hy
  · rintro ⟨hy, hne⟩
    rw [e] at hy
    rcases List.mem_append.1 hy with hy | hy
    · exact List.mem_append_left _ hy
    · rcases List.mem_cons.1 hy with hy | hy
      · exact absurd hy hne
      · exact List.mem_append_right _ hy

theorem WF.pulled {ns ns' : List Nd} {i w : Nat} {f : Int} (h : WF ns) (hp : Pulled ns i ns' f w) : WF ns' := by
  cases hp with
  | root _ _ => exact h
  | @kid n m q hi hq hm hk hqi =>
    have hil := (List.getElem?_eq_some_iff.1 hi).1
    have hql := (List.getElem?_eq_some_iff.1 hm).1
    have G := get2 ns { m with kids := m.kids.eraseIdx (idx m.kids i) } { n with parent := -1 } hqi hql hil
    -- every node that was there is there, with its parent (but for i)
    have F : ∀ (c : Nat) (x : Nd), ns[c]? = some x → c ≠ i → ∃ x', ((ns.set q { m with kids := m.kids.eraseIdx (idx m.kids i) }).set i { n with parent := -1 })[c]? = some x' ∧ x'.parent = x.parent ∧ x'.kind = x.kind ∧ (c ≠ q → x'.kids = x.kids) := by
      intro c x hc hci
      rw [G c, if_neg hci]
      by_cases hcq : c = q
      · subst hcq
        obtain rfl := Option.some.inj (hc.symm.trans hm)
        exact ⟨_, if_pos rfl, rfl, rfl, fun e => absurd rfl e⟩
      · rw [if_neg hcq]
        exact ⟨x, hc, rfl, rfl, fun _ => rfl⟩
    have Gi := G i
    rw [if_pos rfl] at Gi
    have Gq := G q
    rw [if_neg hqi, if_pos rfl] at Gq
    refine ⟨?_, by rw [List.length_set, List.length_set]; exact h.len, ?_, ?_, ?_, ?_⟩
    · obtain ⟨n0, h0, h1, h2⟩ := h.root
      have h0i : 0 ≠ i := by
        intro e
        subst e
        obtain rfl := Option.some.inj (h0.symm.trans hi)
        omega
      obtain ⟨x', g1, g2, g3, _⟩ := F 0 n0 h0 h0i
      exact ⟨x', g1, g3.trans h1, g2.trans h2⟩
    · intro j x hx
      rw [G j] at hx
      split at hx
      · cases hx; exact h.nodup i n hi
      · split at hx
        · cases hx; exact List.Nodup.sublist (List.eraseIdx_sublist ..) (h.nodup q m hm)
        · exact h.nodup j x hx
    · intro j x hx y hy
      rw [G j] at hx
      have main : ∀ y, (∃ x0, ns[j]? = some x0 ∧ y ∈ x0.kids) → y ≠ i → ∃ (c : Nat) (m' : Nd), y = c ∧ ((ns.set q { m with kids := m.kids.eraseIdx (idx m.kids i) }).set i { n with parent := -1 })[c]? = some m' ∧ m'.parent = j := by
        rintro y ⟨x0, k1, k2⟩ hne
        obtain ⟨c, m', e1, e2, e3⟩ := h.kid j x0 k1 y k2
        have hci : c ≠ i := fun e => hne (by rw [e1, e])
        obtain ⟨x', g1, g2, _, _⟩ := F c m' e2 hci
        exact ⟨c, x', e1, g1, g2.trans e3⟩
      split at hx
      · rename_i hji
        subst hji
        cases hx
        refine main y ⟨n, hi, hy⟩ ?_
        intro e
        subst e
        obtain ⟨c, m', e1, e2, e3⟩ := h.kid j n hi _ hy
        have e := Int.ofNat.inj e1
        subst e
        exact h.pne e2 e3 rfl
      · split at hx
        · rename_i hjq
          subst hjq
          cases hx
          have := (erase_mem (h.nodup j m hm) hk).1 hy
          exact main y ⟨m, hm, this.1⟩ this.2
        · refine main y ⟨x, hx, hy⟩ ?_
          intro e
          subst e
          obtain ⟨c, m', e1, e2, e3⟩ := h.kid j x hx _ hy
          have e := Int.ofNat.inj e1
          subst e
          obtain rfl := Option.some.inj (e2.symm.trans hi)
          have := Int.ofNat.inj (hq.symm.trans e3)
          omega
    · intro j x hx
      by_cases hji : j = i
      · subst hji
        rw [Gi] at hx
        cases hx
        exact .inl rfl
      · have hx0 : ∃ x0, ns[j]? = some x0 ∧ x.parent = x0.parent := by
          rw [G j, if_neg hji] at hx
          split at hx
          · rename_i hjq
            subst hjq
            cases hx
            exact ⟨m, hm, rfl⟩
          · exact ⟨x, hx, rfl⟩
        obtain ⟨x0, h0, h1⟩ := hx0
        rcases h.par j x0 h0 with e | ⟨r, y, e1, e2, e3⟩
        · exact .inl (h1.trans e)
        · refine .inr ?_
          by_cases hri : r = i
          · subst hri
            obtain rfl := Option.some.inj (e2.symm.trans hi)
            exact ⟨r, _, h1.trans e1, Gi, e3⟩
          · by_cases hrq : r = q
            · subst hrq
              obtain rfl := Option.some.inj (e2.symm.trans hm)
              exact ⟨r, _, h1.trans e1, Gq, (erase_mem (h.nodup r y hm) hk).2 ⟨e3, by omega⟩⟩
            · exact ⟨r, y, h1.trans e1, by rw [G r, if_neg hri, if_neg hrq]; exact e2, e3⟩
    · have U : ∀ (j : Nat) l, Up ns j l → ∃ l', Up ((ns.set q { m with kids := m.kids.eraseIdx (idx m.kids i) }).set i { n with parent := -1 }) j l' := by
        intro j l hl
        induction hl with
        | @root j x hx hp =>
          by_cases hji : j = i
          · subst hji; exact ⟨_, .root Gi rfl⟩
          · obtain ⟨x', g1, g2, _⟩ := F j x hx hji
            exact ⟨_, .root g1 (g2.trans hp)⟩
        | @up j p l x hx hp hu ih =>
          by_cases hji : j = i
          · subst hji; exact ⟨_, .root Gi rfl⟩
          · obtain ⟨x', g1, g2, _⟩ := F j x hx hji
            obtain ⟨l', hl'⟩ := ih
            exact ⟨_, .up g1 (g2.trans hp) hl'⟩
      intro j x hx
      have hj : j < ns.length := by
        have := (List.getElem?_eq_some_iff.1 hx).1
        simpa using this
      obtain ⟨l, hl⟩ := h.up j _ (List.getElem?_eq_getElem hj)
      exact U j l hl
end Go.Proofs.YtkaeenafejdkfaaGreatDoor

/- A root is pushed among the kids of another node; what was moved is moved back. -/
namespace Go.Proofs.YtkaeenafejdkfaaGreatDoor

theorem ins_mem {l : List Int} {x y : Int} {k : Nat} : y ∈ l.take k ++ x :: l.drop k ↔ y = x ∨ y ∈ l := by
  constructor
  · intro h
    rcases List.mem_append.1 h with h | h
    · exact .inr (List.mem_of_mem_take h)
    · rcases List.mem_cons.1 h with h | h
      · exact .inl h
      · exact .inr (List.mem_of_mem_drop h)
  · rintro (h | h)
    · subst h; simp
    · rw [← List.take_append_drop k l] at h
      rcases List.mem_append.1 h with h | h
      · exact List.mem_append_left _ h
      · exact List.mem_append_right _ (List.mem_cons_of_mem _ h)
theorem ins_nodup {l : List Int} {x : Int} {k : Nat} (h : l.Nodup) (hx : x ∉ l) : (l.take k ++ x :: l.drop k).Nodup := by
  have e := h
  rw [← List.take_append_drop k l, List.nodup_append] at e
  obtain ⟨n1, n2, n3⟩ := e
  rw [List.nodup_append]
  refine ⟨n1, List.nodup_cons.2 ⟨fun hm => hx (List.mem_of_mem_drop hm), n2⟩, ?_⟩
  intro a ha b hb hab
  rcases List.mem_cons.1 hb with hb | hb
  · subst hb; subst hab; exact hx (List.mem_of_mem_take ha)
  · exact n3 a ha b hb hab

theorem WF.pushed {ns : List Nd} {i a k : Nat} {n m : Nd} {la : List Nat} (h : WF ns) (hi : ns[i]? = some n) (hr : n.parent = -1) (h0 : i ≠ 0) (hm : ns[a]? = some m) (hu : Up ns a la) (hn : i ∉ la) : WF ((ns.set a { m with kids := m.kids.take k ++ (i : Int) :: m.kids.drop k }).set i { n with parent := a }) := by
  have hai : a ≠ i := fun e => hn (e ▸ hu.head)
  have hil := (List.getElem?_eq_some_iff.1 hi).1
  have hal := (List.getElem?_eq_some_iff.1 hm).1
  have G := get2 ns { m with kids := m.kids.take k ++ (i : Int) :: m.kids.drop k } { n with parent := a } hai hal hil
  generalize hN : (ns.set a { m with kids := m.kids.take k ++ (i : Int) :: m.kids.drop k }).set i { n with parent := a } = N at *
  have F : ∀ (c : Nat) (x : Nd), ns[c]? = some x → c ≠ i → ∃ x', N[c]? = some x' ∧ x'.parent = x.parent ∧ x'.kind = x.kind := by
    intro c x hc hci
    rw [G c, if_neg hci]
    by_cases hca : c = a
    · subst hca
      obtain rfl := Option.some.inj (hc.symm.trans hm)
      exact ⟨_, if_pos rfl, rfl, rfl⟩
    · rw [if_neg hca]
      exact ⟨x, hc, rfl, rfl⟩
  have Gi := G i
  rw [if_pos rfl] at Gi
  have Ga := G a
  rw [if_neg hai, if_pos rfl] at Ga
  have hnk := h.rootNotKid hm hi hr
  refine ⟨?_, by rw [← hN, List.length_set, List.length_set]; exact h.len, ?_, ?_, ?_, ?_⟩
  · obtain ⟨n0, g0, g1, g2⟩ := h.root
    obtain ⟨x', k1, k2, k3⟩ := F 0 n0 g0 (Ne.symm h0)
    exact ⟨x', k1, k3.trans g1, k2.trans g2⟩
  · intro j x hx
    rw [G j] at hx
    split at hx
    · cases hx; exact h.nodup i n hi
    · split at hx
      · cases hx; exact ins_nodup (h.nodup a m hm) hnk
      · exact h.nodup j x hx
  · intro j x hx y hy
    have main : ∀ y, (∃ x0, ns[j]? = some x0 ∧ y ∈ x0.kids) → ∃ (c : Nat) (m' : Nd), y = c ∧ N[c]? = some m' ∧ m'.parent = j := by
      rintro y ⟨x0, k1, k2⟩
      obtain ⟨c, m', e1, e2, e3⟩ := h.kid j x0 k1 y k2
      have hci : c ≠ i := by
        intro e
        subst e
        obtain rfl := Option.some.inj (e2.symm.trans hi)
        omega
      obtain ⟨x', g1, g2, _⟩ := F c m' e2 hci
      exact ⟨c, x', e1, g1, g2.trans e3⟩
    rw [G j] at hx
    split at hx
    · rename_i hji
      subst hji
      cases hx
      exact main y ⟨n, hi, hy⟩
    · split at hx
      · rename_i hja
        subst hja
        cases hx
        rcases ins_mem.1 hy with hy | hy
        · exact ⟨i, _, hy, Gi, rfl⟩
        · exact main y ⟨m, hm, hy⟩
      · exact main y ⟨x, hx, hy⟩
  · intro j x hx
    by_cases hji : j = i
    · subst hji
      rw [Gi] at hx
      cases hx
      exact .inr ⟨a, _, rfl, Ga, ins_mem.2 (.inl rfl)⟩
    · have hx0 : ∃ x0, ns[j]? = some x0 ∧ x.parent = x0.parent := by
        rw [G j, if_neg hji] at hx
        split at hx
        · rename_i hja
          subst hja
          cases hx
          exact ⟨m, hm, rfl⟩
        · exact ⟨x, hx, rfl⟩
      obtain ⟨x0, g0, g1⟩ := hx0
      rcases h.par j x0 g0 with e | ⟨r, y, e1, e2, e3⟩
      · exact .inl (g1.trans e)
      · refine .inr ?_
        by_cases hri : r = i
        · subst hri
          obtain rfl := Option.some.inj (e2.symm.trans hi)
          exact ⟨r, _, g1.trans e1, Gi, e3⟩
        · by_cases hra : r = a
          · subst hra
            obtain rfl := Option.some.inj (e2.symm.trans hm)
            exact ⟨r, _, g1.trans e1, Ga, ins_mem.2 (.inr e3)⟩
          · exact ⟨r, y, g1.trans e1, by rw [G r, if_neg hri, if_neg hra]; exact e2, e3⟩
  · have U0 : ∀ (j : Nat) l, Up ns j l → i ∉ l → Up N j l := by
      intro j l hl
      induction hl with
      | @root j x hx hp =>
        intro hno
        obtain ⟨x', g1, g2, _⟩ := F j x hx (fun e => hno (by simp [e]))
        exact .root g1 (g2.trans hp)
      | @up j p l x hx hp hu ih =>
        intro hno
        obtain ⟨x', g1, g2, _⟩ := F j x hx (fun e => hno (by simp [e]))
        exact .up g1 (g2.trans hp) (ih fun hm => hno (List.mem_cons_of_mem _ hm))
    have Ui : Up N i (i :: la) := .up Gi rfl (U0 a la hu hn)
    have U : ∀ (j : Nat) l, Up ns j l → ∃ l', Up N j l' := by
      intro j l hl
      induction hl with
      | @root j x hx hp =>
        by_cases hji : j = i
        · subst hji; exact ⟨_, Ui⟩
        · obtain ⟨x', g1, g2, _⟩ := F j x hx hji
          exact ⟨_, .root g1 (g2.trans hp)⟩
      | @up j p l x hx hp hu ih =>
        by_cases hji : j = i
        · subst hji; exact ⟨_, Ui⟩
        · obtain ⟨x', g1, g2, _⟩ := F j x hx hji
          obtain ⟨l', hl'⟩ := ih
          exact ⟨_, .up g1 (g2.trans hp) hl'⟩
    intro j x hx
    have hj : j < ns.length := by
      have := (List.getElem?_eq_some_iff.1 hx).1
      rw [← hN] at this
      simpa using this
    obtain ⟨l, hl⟩ := h.up j _ (List.getElem?_eq_getElem hj)
    exact U j l hl

/-- who is pulled out is a root then -/
theorem Pulled.isRoot {ns ns' : List Nd} {i w : Nat} {f : Int} (hp : Pulled ns i ns' f w) : ∃ n, ns'[i]? = some n ∧ n.parent = -1 := by
  cases hp with
  | root h hp => exact ⟨_, h, hp⟩
  | @kid n m q h hp hm hk hq =>
    refine ⟨{ n with parent := -1 }, ?_, rfl⟩
    rw [List.getElem?_set_self]
    rw [List.length_set]
    exact (List.getElem?_eq_some_iff.1 h).1
theorem Pulled.length {ns ns' : List Nd} {i w : Nat} {f : Int} (hp : Pulled ns i ns' f w) : ns'.length = ns.length := by
  cases hp <;> simp
/-- the other nodes are as they were, but for kids -/
theorem Pulled.get {ns ns' : List Nd} {i w : Nat} {f : Int} (hp : Pulled ns i ns' f w) {c : Nat} {x : Nd} (hc : ns[c]? = some x) (hci : c ≠ i) : ∃ x', ns'[c]? = some x' ∧ x'.parent = x.parent ∧ x'.kind = x.kind := by
  cases hp with
  | root _ _ => exact ⟨x, hc, rfl, rfl⟩
  | @kid n m q h hp hm hk hq =>
    rw [get2 ns _ _ hq (List.getElem?_eq_some_iff.1 hm).1 (List.getElem?_eq_some_iff.1 h).1 c, if_neg hci]
    split
    · rename_i e
      subst e
      obtain rfl := Option.some.inj (hc.symm.trans hm)
      exact ⟨_, rfl, rfl, rfl⟩
    · exact ⟨x, hc, rfl, rfl⟩
/-- the chain of a node that doesn't lie in it -/
theorem Pulled.chain {ns ns' : List Nd} {i w : Nat} {f : Int} (hp : Pulled ns i ns' f w) {j : Nat} {l : List Nat} (hu : Up ns j l) (hn : i ∉ l) : Up ns' j l := by
  induction hu with
  | @root j x hx hpx =>
    obtain ⟨x', g1, g2, _⟩ := hp.get hx (fun e => hn (by simp [e]))
    exact .root g1 (g2.trans hpx)
  | @up j p l x hx hpx hu ih =>
    obtain ⟨x', g1, g2, _⟩ := hp.get hx (fun e => hn (by simp [e]))
    exact .up g1 (g2.trans hpx) (ih fun hm => hn (List.mem_cons_of_mem _ hm))

theorem idx_ins {l : List Int} {x : Int} {k : Nat} (hx : x ∉ l) (hk : k ≤ l.length) : idx (l.take k ++ x :: l.drop k) x = k := by
  unfold idx
  have hl : (l.take k).length = k := by simp; omega
  have hno : ∀ y ∈ l.take k, ¬ ((y == x) = true) := by
    intro y hy e
    have e : y = x := by simpa using e
    exact hx (e ▸ List.mem_of_mem_take hy)
  rw [List.findIdx_append, List.findIdx_cons]
  have h1 : ¬ (List.findIdx (fun y => y == x) (l.take k) < (l.take k).length) := by
    rw [List.findIdx_lt_length]
    rintro ⟨y, hy, e⟩
    exact hno y hy e
  rw [if_neg h1]
  simp
  omega
theorem erase_ins {l : List Int} {x : Int} {k : Nat} (hk : k ≤ l.length) : (l.take k ++ x :: l.drop k).eraseIdx k = l := by
  have hl : (l.take k).length = k := by simp; omega
  rw [List.eraseIdx_append_of_length_le (by omega), hl, Nat.sub_self, List.eraseIdx_cons_zero, List.take_append_drop]
theorem ins_erase {l : List Int} {x : Int} (hx : x ∈ l) : (l.eraseIdx (idx l x)).take (idx l x) ++ x :: (l.eraseIdx (idx l x)).drop (idx l x) = l := by
  have hg := idx_get hx
  have hlt := idx_lt hx
  generalize idx l x = k at *
  obtain ⟨h1, h2⟩ := List.getElem?_eq_some_iff.1 hg
  have hl : (l.take k).length = k := by simp; omega
  rw [List.eraseIdx_eq_take_drop_succ]
  have e1 : (l.take k ++ l.drop (k + 1)).take k = l.take k := by rw [List.take_append_of_le_length (by omega), List.take_take, Nat.min_self]
  have e2 : (l.take k ++ l.drop (k + 1)).drop k = l.drop (k + 1) := by
    have : k = (l.take k).length := hl.symm
    conv => lhs; lhs; rw [this]
    rw [List.drop_left]
  rw [e1, e2, ← h2, ← List.drop_eq_getElem_cons h1, List.take_append_drop]

/-- what is pushed can be pulled out again -/
theorem push_pull {ns : List Nd} (h : WF ns) {i k : Nat} {a : Int} {ns' : List Nd} (hr : ∃ n, ns[i]? = some n ∧ n.parent = -1) (hp : Pushed ns i k a ns') : ∃ f w, Pulled ns' i ns f w := by
  obtain ⟨n, hi, hn⟩ := hr
  cases hp with
  | none => exact ⟨_, _, .root hi hn⟩
  | @kid n' m a hm h' ha hk =>
    obtain rfl := Option.some.inj (hi.symm.trans h')
    have hil := (List.getElem?_eq_some_iff.1 hi).1
    have hal := (List.getElem?_eq_some_iff.1 hm).1
    have hnk := h.rootNotKid hm hi hn
    have G := get2 ns { m with kids := m.kids.take k ++ (i : Int) :: m.kids.drop k } { n with parent := a } ha hal hil
    have Gi := G i
    rw [if_pos rfl] at Gi
    have Ga := G a
    rw [if_neg ha, if_pos rfl] at Ga
    have P := Pulled.kid (q := a) Gi rfl Ga (ins_mem.2 (.inl rfl)) ha
    have e : ((((ns.set a { m with kids := m.kids.take k ++ (i : Int) :: m.kids.drop k }).set i { n with parent := a }).set a { m with kids := (m.kids.take k ++ (i : Int) :: m.kids.drop k).eraseIdx (idx (m.kids.take k ++ (i : Int) :: m.kids.drop k) i) }).set i { n with parent := -1 }) = ns := by
      apply List.ext_getElem?
      intro j
      rw [idx_ins hnk hk, erase_ins hk, get2 _ _ _ ha (by simp; exact hal) (by simp; exact hil) j, G j]
      split
      · rename_i e; subst e; rw [hi]; rw [← hn]
      · split
        · rename_i e; subst e; rw [hm]
        · rfl
    rw [e] at P
    exact ⟨_, _, P⟩

/-- what was pulled out can be pushed back -/
theorem pull_push {ns mid : List Nd} {i w : Nat} {f : Int} (hp : Pulled ns i mid f w) : Pushed mid i w f ns := by
  cases hp with
  | root _ _ => exact .none
  | @kid n m q hi hq hm hk hqi =>
    have hil := (List.getElem?_eq_some_iff.1 hi).1
    have hql := (List.getElem?_eq_some_iff.1 hm).1
    have G := get2 ns { m with kids := m.kids.eraseIdx (idx m.kids i) } { n with parent := -1 } hqi hql hil
    have Gi := G i
    rw [if_pos rfl] at Gi
    have Gq := G q
    rw [if_neg hqi, if_pos rfl] at Gq
    have hlt := idx_lt hk
    have P := Pushed.kid (k := idx m.kids i) Gq Gi hqi (by simp only [List.length_eraseIdx, if_pos hlt]; omega)
    have e : (((ns.set q { m with kids := m.kids.eraseIdx (idx m.kids i) }).set i { n with parent := -1 }).set q { m with kids := (m.kids.eraseIdx (idx m.kids i)).take (idx m.kids i) ++ (i : Int) :: (m.kids.eraseIdx (idx m.kids i)).drop (idx m.kids i) }).set i { n with parent := (q : Int) } = ns := by
      apply List.ext_getElem?
      intro j
      rw [ins_erase hk, get2 _ _ _ hqi (by simp; exact hql) (by simp; exact hil) j, G j]
      split
      · rename_i e; subst e; rw [hi]; rw [← hq]
      · split
        · rename_i e; subst e; rw [hm]
        · rfl
    rw [e] at P
    exact P

/-- what a kept function does -/
inductive Rec where
  | forget (n : Nat)
  | move (i : Nat) (f : Int) (w : Nat)
  | cut (i : Nat)
  | back (i k : Nat) (old : ByteArray)
  | ins (i k : Nat) (x : ByteArray × ByteArray)
  | say (i : Nat) (old : ByteArray)

/-- what it makes of the nodes -/
def Undoes (ns ns' : List Nd) : Rec → Prop
  | .forget n => n < ns.length ∧ ns' = ns.take n
  | .move i f w => ∃ mid f' w', Pulled ns i mid f' w' ∧ Pushed mid i w f ns'
  | .cut i => ∃ n xs x, ns[i]? = some n ∧ n.attrs = xs ++ [x] ∧ ns' = ns.set i { n with attrs := xs }
  | .back i k old => ∃ n x, ns[i]? = some n ∧ n.attrs[k]? = some x ∧ ns' = ns.set i { n with attrs := n.attrs.set k (x.1, old) }
  | .ins i k x => ∃ n, ns[i]? = some n ∧ k ≤ n.attrs.length ∧ ns' = ns.set i { n with attrs := n.attrs.take k ++ x :: n.attrs.drop k }
  | .say i old => ∃ n, ns[i]? = some n ∧ ns' = ns.set i { n with words := old }

/-- no node has too many attributes -/
def Few (ns : List Nd) (K : Nat) : Prop := ∀ (j : Nat) (n : Nd), ns[j]? = some n → n.attrs.length ≤ K
theorem Few.mono {ns : List Nd} {K L : Nat} (h : Few ns K) (hKL : K ≤ L) : Few ns L := fun j n hn => Nat.le_trans (h j n hn) hKL

theorem undo_move {ns mid ns' : List Nd} (hm : WF mid) {i k w : Nat} {f a : Int} (hp : Pulled ns i mid f w) (hq : Pushed mid i k a ns') : Undoes ns' ns (.move i f w) := by
  obtain ⟨f', w', h⟩ := push_pull hm hp.isRoot hq
  exact ⟨mid, f', w', h, pull_push hp⟩

/-- a node's attributes or words turn -/
theorem WF.turn {ns : List Nd} (h : WF ns) {i : Nat} {n n' : Nd} (hi : ns[i]? = some n) (h1 : n'.kind = n.kind) (h2 : n'.parent = n.parent) (h3 : n'.kids = n.kids) : WF (ns.set i n') := by
  have hil := (List.getElem?_eq_some_iff.1 hi).1
  have G : ∀ j : Nat, (ns.set i n')[j]? = if j = i then some n' else ns[j]? := by
    intro j
    by_cases hj : j = i
    · subst hj; rw [if_pos rfl, List.getElem?_set_self hil]
    · rw [if_neg hj, List.getElem?_set_ne (Ne.symm hj)]
  have back : ∀ (j : Nat) x, (ns.set i n')[j]? = some x → ∃ x0, ns[j]? = some x0 ∧ x.kind = x0.kind ∧ x.parent = x0.parent ∧ x.kids = x0.kids := by
    intro j x hx
    rw [G j] at hx
    split at hx
    · rename_i e; subst e; cases hx; exact ⟨n, hi, h1, h2, h3⟩
    · exact ⟨x, hx, rfl, rfl, rfl⟩
  have forth : ∀ (j : Nat) x, ns[j]? = some x → ∃ x', (ns.set i n')[j]? = some x' ∧ x'.kind = x.kind ∧ x'.parent = x.parent ∧ x'.kids = x.kids := by
    intro j x hx
    rw [G j]
    split
    · rename_i e; subst e; obtain rfl := Option.some.inj (hx.symm.trans hi); exact ⟨n', rfl, h1, h2, h3⟩
    · exact ⟨x, hx, rfl, rfl, rfl⟩
  refine ⟨?_, by rw [List.length_set]; exact h.len, ?_, ?_, ?_, ?_⟩
  · obtain ⟨n0, g0, g1, g2⟩ := h.root
    obtain ⟨x', k1, k2, k3, _⟩ := forth 0 n0 g0
    exact ⟨x', k1, k2.trans g1, k3.trans g2⟩
  · intro j x hx
    obtain ⟨x0, k0, _, _, k3⟩ := back j x hx
    rw [k3]; exact h.nodup j x0 k0
  · intro j x hx y hy
    obtain ⟨x0, k0, _, _, k3⟩ := back j x hx
    rw [k3] at hy
    obtain ⟨c, m, e1, e2, e3⟩ := h.kid j x0 k0 y hy
    obtain ⟨m', g1, _, g3, _⟩ := forth c m e2
    exact ⟨c, m', e1, g1, g3.trans e3⟩
  · intro j x hx
    obtain ⟨x0, k0, _, k2, _⟩ := back j x hx
    rcases h.par j x0 k0 with e | ⟨r, y, e1, e2, e3⟩
    · exact .inl (k2.trans e)
    · obtain ⟨m', g1, _, _, g4⟩ := forth r y e2
      exact .inr ⟨r, m', k2.trans e1, g1, by rw [g4]; exact e3⟩
  · have U : ∀ (j : Nat) l, Up ns j l → Up (ns.set i n') j l := by
      intro j l hl
      induction hl with
      | @root j x hx hp =>
        obtain ⟨x', g1, _, g3, _⟩ := forth j x hx
        exact .root g1 (g3.trans hp)
      | @up j p l x hx hp hu ih =>
        obtain ⟨x', g1, _, g3, _⟩ := forth j x hx
        exact .up g1 (g3.trans hp) ih
    intro j x hx
    obtain ⟨x0, k0, _⟩ := back j x hx
    obtain ⟨l, hl⟩ := h.up j x0 k0
    exact ⟨l, U j l hl⟩

/-- a new root -/
theorem WF.snoc {ns : List Nd} (h : WF ns) (hl : ns.length < 400) (n : Nd) (hp : n.parent = -1) (hk : n.kids = []) : WF (ns ++ [n]) := by
  have ext : ∀ (j : Nat) x, ns[j]? = some x → (ns ++ [n])[j]? = some x := fun j x hx => by
    rw [List.getElem?_append_left (List.getElem?_eq_some_iff.1 hx).1]; exact hx
  have back : ∀ (j : Nat) x, (ns ++ [n])[j]? = some x → ns[j]? = some x ∨ (j = ns.length ∧ x = n) := fun j x hx => by
    by_cases hj : j < ns.length
    · rw [List.getElem?_append_left hj] at hx; exact .inl hx
    · rw [List.getElem?_append_right (by omega)] at hx
      rcases Nat.eq_zero_or_pos (j - ns.length) with e | e
      · rw [e] at hx; cases hx; exact .inr ⟨by omega, rfl⟩
      · rw [List.getElem?_eq_none (by simp; omega)] at hx; cases hx
  refine ⟨?_, by simp; omega, ?_, ?_, ?_, ?_⟩
  · obtain ⟨n0, g0, g1, g2⟩ := h.root
    exact ⟨n0, ext 0 n0 g0, g1, g2⟩
  · intro j x hx
    rcases back j x hx with hx | ⟨_, rfl⟩
    · exact h.nodup j x hx
    · rw [hk]; exact List.nodup_nil
  · intro j x hx y hy
    rcases back j x hx with hx | ⟨_, rfl⟩
    · obtain ⟨c, m, e1, e2, e3⟩ := h.kid j x hx y hy
      exact ⟨c, m, e1, ext c m e2, e3⟩
    · rw [hk] at hy; cases hy
  · intro j x hx
    rcases back j x hx with hx | ⟨_, rfl⟩
    · rcases h.par j x hx with e | ⟨r, y, e1, e2, e3⟩
      · exact .inl e
      · exact .inr ⟨r, y, e1, ext r y e2, e3⟩
    · exact .inl hp
  · have U : ∀ (j : Nat) l, Up ns j l → Up (ns ++ [n]) j l := by
      intro j l hl
      induction hl with
      | @root j x hx hp => exact .root (ext j x hx) hp
      | @up j p l x hx hp hu ih => exact .up (ext j x hx) hp ih
    intro j x hx
    rcases back j x hx with hx' | ⟨_, rfl⟩
    · obtain ⟨l, hl⟩ := h.up j x hx'
      exact ⟨l, U j l hl⟩
    · exact ⟨_, .root hx hp⟩
end Go.Proofs.YtkaeenafejdkfaaGreatDoor
