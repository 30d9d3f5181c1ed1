/- What pieces make of a tree, as plain mathematics. -/
import Derived.Test.YtnoaojjljcbflaaGreatDoorM15
import Derived.Test.YtnoaojjljcbflaaGreatDoorM09
namespace Go.Proofs.YtnoaojjljcbflaaGreatDoor

def inn (op : List Nat) : Nat := op.headD 0
/-- a new last kid -/
def addN (ns : List Nd) (p : Nat) (n : Nd) : List Nd := match ns[p]? with
  | some m => (ns.set p { m with kids := m.kids ++ [(ns.length : Int)] }) ++ [{ n with parent := p }]
  | none => ns
/-- the text to which one that comes now is joined -/
def textAt (ns : List Nd) (i : Nat) : Option Nat := match ns[i]? with
  | some m => match m.kids.getLast? with
    | some k => match ns[k.toNat]? with
      | some n => if n.kind = 3 then some k.toNat else none
      | none => none
    | none => none
  | none => none
def textN (t : ByteArray) : Nd := ⟨3, ⟨#[]⟩, t, [], -1, []⟩
def comN (t : ByteArray) : Nd := ⟨4, ⟨#[]⟩, t, [], -1, []⟩
def elN (name : ByteArray) (attrs : List (ByteArray × ByteArray)) : Nd := ⟨2, name, ⟨#[]⟩, attrs, -1, []⟩
def joinT (ns : List Nd) (k : Nat) (t : ByteArray) : List Nd := match ns[k]? with
  | some n => ns.set k { n with words := n.words ++ t }
  | none => ns
def textM (ns : List Nd) (p : Nat) (t : ByteArray) : Option (List Nd) := match textAt ns p with
  | some k => some (joinT ns k t)
  | none => if ns.length < 400 then some (addN ns p (textN t)) else none
def comM (ns : List Nd) (p : Nat) (t : ByteArray) : Option (List Nd) := if ns.length < 400 then some (addN ns p (comN t)) else none
def tagOf (ns : List Nd) (i : Nat) : ByteArray := match ns[i]? with
  | some n => n.tag
  | none => ⟨#[]⟩
/-- the innermost open one of some tags is shut, if none of others lies further in -/
def shutM (ns : List Nd) (A B : ByteArray → Bool) (op0 : List Nat) : List Nat → List Nat
  | [] => op0
  | k :: l => if A (tagOf ns k) = true then l else if B (tagOf ns k) = true then op0 else shutM ns A B op0 l

theorem add_get {ns : List Nd} {p : Nat} {n m : Nd} (hp : ns[p]? = some m) (j : Nat) : (addN ns p n)[j]? = if j = ns.length then some { n with parent := p } else if j = p then some { m with kids := m.kids ++ [(ns.length : Int)] } else ns[j]? := by
  have hlt : p < ns.length := (List.getElem?_eq_some_iff.1 hp).1
  unfold addN
  rw [hp]
  simp only
  by_cases hj : j = ns.length
  · subst hj
    rw [if_pos rfl, List.getElem?_append_right (by simp)]
    simp
  · rw [if_neg hj]
    by_cases hj2 : j = p
    · subst hj2
      rw [if_pos rfl, List.getElem?_append_left (by simpa using hlt), List.getElem?_set_self hlt]
    · rw [if_neg hj2]
      rcases Nat.lt_or_ge j ns.length with h | h
      · rw [List.getElem?_append_left (by simpa using h), List.getElem?_set_ne (Ne.symm hj2)]
      · rw [List.getElem?_append_right (by simpa using h), List.getElem?_eq_none (by simp; omega), List.getElem?_eq_none h]
theorem add_len {ns : List Nd} {p : Nat} {n m : Nd} (hp : ns[p]? = some m) : (addN ns p n).length = ns.length + 1 := by
  unfold addN; rw [hp]; simp
/-- made, and put last -/
theorem add_is {ns mid ns' : List Nd} {p c wz : Nat} {fr : Int} {n m : Nd} (hp : ns[p]? = some m) (hn : n.parent = -1) (h1 : Pulled (ns ++ [n]) ns.length mid fr wz) (h2 : Pushed mid ns.length c p ns') (hc : c = m.kids.length) : ns' = addN ns p n := by
  have hlt : p < ns.length := (List.getElem?_eq_some_iff.1 hp).1
  have hnew : (ns ++ [n])[ns.length]? = some n := by simp
  have hmid : mid = ns ++ [n] := by
    cases h1 with
    | root h _ => rfl
    | kid h hp' _ _ _ =>
      obtain rfl := Option.some.inj (hnew.symm.trans h)
      omega
  subst hmid
  cases h2 with
  | @kid n2 m2 _ hm h ha hk =>
    obtain rfl := Option.some.inj (hnew.symm.trans h)
    have hm2 : (ns ++ [n])[p]? = some m := by rw [List.getElem?_append_left hlt]; exact hp
    obtain rfl := Option.some.inj (hm2.symm.trans hm)
    subst hc
    unfold addN
    rw [hp]
    simp only
    rw [List.take_length, List.drop_length, List.set_append_left _ _ hlt]
    have e : ns.length = (ns.set p { m with kids := m.kids ++ [(ns.length : Int)] }).length := by simp
    rw [List.set_append_right _ _ (by simp)]
    simp
theorem WF.chainNew {ns : List Nd} (h : WF ns) {p : Nat} {m : Nd} (hp : ns[p]? = some m) (n : Nd) : ∃ la, Up (ns ++ [n]) p la ∧ ns.length ∉ la := by
  obtain ⟨la, hu⟩ := h.up p m hp
  refine ⟨la, ?_, fun hm => Nat.lt_irrefl _ (hu.lt _ hm)⟩
  clear hp
  induction hu with
  | root h' hp' => exact .root (by rw [List.getElem?_append_left (List.getElem?_eq_some_iff.1 h').1]; exact h') hp'
  | up h' hp' _ ih => exact .up (by rw [List.getElem?_append_left (List.getElem?_eq_some_iff.1 h').1]; exact h') hp' ih
theorem WF.added {ns : List Nd} (h : WF ns) (hl : ns.length < 400) {p : Nat} {m : Nd} (hp : ns[p]? = some m) (n : Nd) (hn : n.parent = -1) (hk : n.kids = []) : WF (addN ns p n) := by
  have hlt : p < ns.length := (List.getElem?_eq_some_iff.1 hp).1
  have h0 : 0 < ns.length := by omega
  have hs := h.snoc hl n hn hk
  obtain ⟨la, hu, hno⟩ := h.chainNew hp n
  have hm2 : (ns ++ [n])[p]? = some m := by rw [List.getElem?_append_left hlt]; exact hp
  have hnew : (ns ++ [n])[ns.length]? = some n := by simp
  have := hs.pushed (k := m.kids.length) hnew hn (by omega) hm2 hu hno
  have e := add_is hp hn (.root hnew hn) (.kid hm2 hnew (by omega) (Nat.le_refl _)) rfl
  rw [← e]; exact this

/-- the open elements, the innermost first: each is the last kid of the next -/
inductive Chain (ns : List Nd) : List Nat → Prop where
  | nil : Chain ns []
  | cons {k : Nat} {n m : Nd} {l : List Nat} (hk : ns[k]? = some n) (h2 : n.kind = 2) (hp : n.parent = inn l) (hm : ns[inn l]? = some m) (hl : m.kids.getLast? = some (k : Int)) (hc : Chain ns l) : Chain ns (k :: l)
theorem Chain.up {ns : List Nd} (hW : WF ns) : ∀ {op : List Nat}, Chain ns op → Up ns (inn op) (op ++ [0])
  | _, .nil => by
    obtain ⟨n, h1, _, h3⟩ := hW.root
    exact .root h1 h3
  | _, .cons hk _ hp _ _ hc => .up hk hp (hc.up hW)
theorem Chain.inner {ns : List Nd} (hW : WF ns) {op : List Nat} (h : Chain ns op) : ∃ m, ns[inn op]? = some m ∧ (m.kind = 1 ∨ m.kind = 2) := by
  cases h with
  | nil =>
    obtain ⟨n, h1, h2, _⟩ := hW.root
    exact ⟨n, h1, .inl h2⟩
  | cons hk h2 _ _ _ _ => exact ⟨_, hk, .inr h2⟩
/-- a new last kid of a node that is none of these -/
theorem Chain.grow {ns : List Nd} {p : Nat} {m : Nd} (hp : ns[p]? = some m) (n : Nd) : ∀ {op : List Nat}, Chain ns op → (∀ x ∈ op.tail ++ [0], op ≠ [] → x ≠ p) → Chain (addN ns p n) op
  | _, .nil, _ => .nil
  | _, .cons (k := k) (n := nk) (m := mk) (l := l) hk h2 hpar hm hl hc, hno => by
    have hkl : k < ns.length := (List.getElem?_eq_some_iff.1 hk).1
    have hil : inn l < ns.length := (List.getElem?_eq_some_iff.1 hm).1
    have hne : inn l ≠ p := hno (inn l) (by cases l <;> simp [inn]) (by simp)
    have hm2 : (addN ns p n)[inn l]? = some mk := by rw [add_get hp, if_neg (by omega), if_neg hne]; exact hm
    have hc2 : Chain (addN ns p n) l := Chain.grow hp n hc (fun x hx hl0 => hno x (by
      cases l with
      | nil => exact absurd rfl hl0
      | cons a b => simp at hx ⊢; exact .inr hx) (by simp))
    by_cases hkp : k = p
    · subst hkp
      obtain rfl := Option.some.inj (hp.symm.trans hk)
      exact .cons (n := { m with kids := m.kids ++ [(ns.length : Int)] }) (by rw [add_get hp, if_neg (by omega), if_pos rfl]) h2 hpar hm2 hl hc2
    · exact .cons (by rw [add_get hp, if_neg (by omega), if_neg hkp]; exact hk) h2 hpar hm2 hl hc2
theorem Chain.add {ns : List Nd} (hW : WF ns) {op : List Nat} (h : Chain ns op) {m : Nd} (hp : ns[inn op]? = some m) (n : Nd) : Chain (addN ns (inn op) n) op := by
  refine h.grow hp n (fun x hx hne => ?_)
  have hnd := (h.up hW).nodup
  cases op with
  | nil => exact absurd rfl hne
  | cons k l =>
    rw [List.cons_append, List.nodup_cons] at hnd
    rintro rfl
    exact hnd.1 hx
/-- the new kid is open -/
theorem Chain.open {ns : List Nd} (hW : WF ns) {op : List Nat} (h : Chain ns op) {m : Nd} (hp : ns[inn op]? = some m) (n : Nd) (hn : n.kind = 2) : Chain (addN ns (inn op) n) (ns.length :: op) := by
  have hlt : inn op < ns.length := (List.getElem?_eq_some_iff.1 hp).1
  refine .cons (n := { n with parent := (inn op : Nat) }) (m := { m with kids := m.kids ++ [(ns.length : Int)] }) ?_ hn rfl ?_ ?_ (h.add hW hp n)
  · rw [add_get hp, if_pos rfl]
  · rw [add_get hp, if_neg (by omega), if_pos rfl]
  · simp
/-- attributes or words turn -/
theorem Chain.same {ns ns' : List Nd} (hs : ∀ (j : Nat) (n : Nd), ns[j]? = some n → ∃ n' : Nd, ns'[j]? = some n' ∧ n'.kind = n.kind ∧ n'.parent = n.parent ∧ n'.kids = n.kids) : ∀ {op : List Nat}, Chain ns op → Chain ns' op
  | _, .nil => .nil
  | _, .cons hk h2 hp hm hl hc => by
    obtain ⟨n', a1, a2, a3, _⟩ := hs _ _ hk
    obtain ⟨m', b1, _, _, b4⟩ := hs _ _ hm
    exact .cons a1 (a2.trans h2) (a3.trans hp) b1 (by rw [b4]; exact hl) (hc.same hs)
theorem set_same3 {ns : List Nd} {i : Nat} {n n' : Nd} (hi : ns[i]? = some n) (h1 : n'.kind = n.kind) (h2 : n'.parent = n.parent) (h3 : n'.kids = n.kids) : ∀ (j : Nat) (x : Nd), ns[j]? = some x → ∃ x' : Nd, (ns.set i n')[j]? = some x' ∧ x'.kind = x.kind ∧ x'.parent = x.parent ∧ x'.kids = x.kids := by
  intro j x hj
  by_cases h : i = j
  · subst h
    obtain rfl := Option.some.inj (hi.symm.trans hj)
    exact ⟨n', List.getElem?_set_self (List.getElem?_eq_some_iff.1 hi).1, h1, h2, h3⟩
  · exact ⟨x, by rw [List.getElem?_set_ne h]; exact hj, rfl, rfl, rfl⟩
/-- where an element was shut no text is joined -/
theorem Chain.noText {ns : List Nd} {k : Nat} {l : List Nat} (h : Chain ns (k :: l)) : textAt ns (inn l) = none := by
  cases h with
  | cons hk h2 hp hm hl hc =>
    unfold textAt
    rw [hm]
    simp only [hl, Int.toNat_natCast, hk]
    rw [if_neg (by omega)]
theorem shut_chain {ns : List Nd} {A B : ByteArray → Bool} {op0 : List Nat} (h0 : Chain ns op0) : ∀ {l : List Nat}, Chain ns l → l.length ≤ op0.length → Chain ns (shutM ns A B op0 l) ∧ (shutM ns A B op0 l).length ≤ op0.length ∧ (shutM ns A B op0 l = op0 ∨ textAt ns (inn (shutM ns A B op0 l)) = none)
  | _, .nil, _ => ⟨h0, Nat.le_refl _, .inl rfl⟩
  | _, .cons (k := k) (l := l) hk h2 hp hm hl hc, hlen => by
    unfold shutM
    simp only [List.length_cons] at hlen
    split
    · exact ⟨hc, by omega, .inr (Chain.noText (.cons hk h2 hp hm hl hc))⟩
    · split
      · exact ⟨h0, Nat.le_refl _, .inl rfl⟩
      · exact shut_chain h0 hc (by omega)
end Go.Proofs.YtnoaojjljcbflaaGreatDoor
