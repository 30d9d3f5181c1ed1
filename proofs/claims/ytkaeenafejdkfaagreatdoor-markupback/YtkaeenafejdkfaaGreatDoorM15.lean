/- What pieces make of a tree, as plain mathematics. -/
import Derived.Test.YtkaeenafejdkfaaGreatDoorM14
import Derived.Test.YtkaeenafejdkfaaGreatDoorM12
import Derived.Test.YtkaeenafejdkfaaGreatDoorShelf
import Derived.Test.YtkaeenafejdkfaaGreatDoorChecked
import Derived.RangeFuncNested
import Derived.RangeFuncBound
import Derived.RangeFuncCalls
import Derived.RangeFuncLeaves
import Derived.RangeFuncBox
import Derived.Shelf.Abstract
import Derived.Shelf.RegionOpen
import Derived.WalkKit
import Derived.OwnWalkIn
import Derived.TacticsInMore
import Derived.LoopNIn
import Derived.LoopIn
import Derived.Test.YtkaeenafejdkfaaGreatDoorM02
namespace Go.Proofs.YtkaeenafejdkfaaGreatDoor

def inn (op : List Nat) : Nat := op.headD 0
/-- a new last kid -/
def addN (ns : List Nd) (p : Nat) (n : Nd) : List Nd := match ns[p]? with
  | some m => (ns.set p { m with kids := m.kids ++ [(ns.length : Int)] }) ++ [{ n with parent := p }]
  | none => ns
/-- the text to which one that comes now is joined -/
def textAt (ns : List Nd) (i : Nat) : Option Nat := match ns[i]? with
  | some m => match m.kids.getLast? with
    | some k => match ns[k.toNat]? with
      | some n => if n.kind = 3 then some k.toNat else none
      | none => none
    | none => none
  | none => none
def textN (t : ByteArray) : Nd := ⟨3, ⟨#[]⟩, t, [], -1, []⟩
def comN (t : ByteArray) : Nd := ⟨4, ⟨#[]⟩, t, [], -1, []⟩
def elN (name : ByteArray) (attrs : List (ByteArray × ByteArray)) : Nd := ⟨2, name, ⟨#[]⟩, attrs, -1, []⟩
def joinT (ns : List Nd) (k : Nat) (t : ByteArray) : List Nd := match ns[k]? with
  | some n => ns.set k { n with words := n.words ++ t }
  | none => ns
def textM (ns : List Nd) (p : Nat) (t : ByteArray) : Option (List Nd) := match textAt ns p with
  | some k => some (joinT ns k t)
  | none => if ns.length < 400 then some (addN ns p (textN t)) else none
def comM (ns : List Nd) (p : Nat) (t : ByteArray) : Option (List Nd) := if ns.length < 400 then some (addN ns p (comN t)) else none
def tagOf (ns : List Nd) (i : Nat) : ByteArray := match ns[i]? with
  | some n => n.tag
  | none => ⟨#[]⟩
/-- the innermost open one of some tags is shut, if none of others lies further in -/
def shutM (ns : List Nd) (A B : ByteArray → Bool) (op0 : List Nat) : List Nat → List Nat
  | [] => op0
  | k :: l => if A (tagOf ns k) = true then l else if B (tagOf ns k) = true then op0 else shutM ns A B op0 l

theorem add_get {ns : List Nd} {p : Nat} {n m : Nd} (hp : ns[p]? = some m) (j : Nat) : (addN ns p n)[j]? = if j = ns.length then some { n with parent := p } else if j = p then some { m with kids := m.kids ++ [(ns.length : Int)] } else ns[j]? := by
  have hlt : p < ns.length := (List.getElem?_eq_some_iff.1 hp).1
  unfold addN
  rw [hp]
  simp only
  by_cases hj : j = ns.length
  · subst hj
    rw [if_pos rfl, List.getElem?_append_right (by simp)]
    simp
  · rw [if_neg hj]
    by_cases hj2 : j = p
    · subst hj2
      rw [if_pos rfl, List.getElem?_append_left (by simpa using hlt), List.getElem?_set_self hlt]
    · rw [if_neg hj2]
      rcases Nat.lt_or_ge j ns.length with h | h
      · rw [List.getElem?_append_left (by simpa using h), List.getElem?_set_ne (Ne.symm hj2)]
      · rw [List.getElem?_append_right (by simpa using h), List.getElem?_eq_none (by simp; omega), List.getElem?_eq_none h]
theorem add_len {ns : List Nd} {p : Nat} {n m : Nd} (hp : ns[p]? = some m) : (addN ns p n).length = ns.length + 1 := by
  unfold addN; rw [hp]; simp
/-- made, and put last -/
theorem add_is {ns mid ns' : List Nd} {p c wz : Nat} {fr : Int} {n m : Nd} (hp : ns[p]? = some m) (hn : n.parent = -1) (h1 : Pulled (ns ++ [n]) ns.length mid fr wz) (h2 : Pushed mid ns.length c p ns') (hc : c = m.kids.length) : ns' = addN ns p n := by
  have hlt : p < ns.length := (List.getElem?_eq_some_iff.1 hp).1
  have hnew : (ns ++ [n])[ns.length]? = some n := by simp
  have hmid : mid = ns ++ [n] := by
    cases h1 with
    | root h _ => rfl
    | kid h hp' _ _ _ =>
      obtain rfl := Option.some.inj (hnew.symm.trans h)
      omega
  subst hmid
  cases h2 with
  | @kid n2 m2 _ hm h ha hk =>
    obtain rfl := Option.some.inj (hnew.symm.trans h)
    have hm2 : (ns ++ [n])[p]? = some m := by rw [List.getElem?_append_left hlt]; exact hp
    obtain rfl := Option.some.inj (hm2.symm.trans hm)
    subst hc
    unfold addN
    rw [hp]
    simp only
    rw [List.take_length, List.drop_length, List.set_append_left _ _ hlt]
    have e : ns.length = (ns.set p { m with kids := m.kids ++ [(ns.length : Int)] }).length := by simp
    rw [List.set_append_right _ _ (by simp)]
    simp
theorem WF.chainNew {ns : List Nd} (h : WF ns) {p : Nat} {m : Nd} (hp : ns[p]? = some m) (n : Nd) : ∃ la, Up (ns ++ [n]) p la ∧ ns.length ∉ la := by
  obtain ⟨la, hu⟩ := h.up p m hp
  refine ⟨la, ?_, fun hm => Nat.lt_irrefl _ (hu.lt _ hm)⟩
  clear hp
  induction hu with
  | root h' hp' => exact .root (by rw [List.getElem?_append_left (List.getElem?_eq_some_iff.1 h').1]; exact h') hp'
  | up h' hp' _ ih => exact .up (by rw [List.getElem?_append_left (List.getElem?_eq_some_iff.1 h').1]; exact h') hp' ih
theorem WF.added {ns : List Nd} (h : WF ns) (hl : ns.length < 400) {p : Nat} {m : Nd} (hp : ns[p]? = some m) (n : Nd) (hn : n.parent = -1) (hk : n.kids = []) : WF (addN ns p n) := by
  have hlt : p < ns.length := (List.getElem?_eq_some_iff.1 hp).1
  have h0 : 0 < ns.length := by omega
  have hs := h.snoc hl n hn hk
  obtain ⟨la, hu, hno⟩ := h.chainNew hp n
  have hm2 : (ns ++ [n])[p]? = some m := by rw [List.getElem?_append_left hlt]; exact hp
  have hnew : (ns ++ [n])[ns.length]? = some n := by simp
  have := hs.pushed (k := m.kids.length) hnew hn (by omega) hm2 hu hno
  have e := add_is hp hn (.root hnew hn) (.kid hm2 hnew (by omega) (Nat.le_refl _)) rfl
  rw [← e]; exact this

/-- the open elements, the innermost first: each is the last kid of the next -/
inductive Chain (ns : List Nd) : List Nat → Prop where
  | nil : Chain ns []
  | cons {k : Nat} {n m : Nd} {l : List Nat} (hk : ns[k]? = some n) (h2 : n.kind = 2) (hp : n.parent = inn l) (hm : ns[inn l]? = some m) (hl : m.kids.getLast? = some (k : Int)) (hc : Chain ns l) : Chain ns (k :: l)
theorem Chain.up {ns : List Nd} (hW : WF ns) : ∀ {op : List Nat}, Chain ns op → Up ns (inn op) (op ++ [0])
  | _, .nil => by
    obtain ⟨n, h1, _, h3⟩ := hW.root
    exact .root h1 h3
  | _, .cons hk _ hp _ _ hc => .up hk hp (hc.up hW)
theorem Chain.inner {ns : List Nd} (hW : WF ns) {op : List Nat} (h : Chain ns op) : ∃ m, ns[inn op]? = some m ∧ (m.kind = 1 ∨ m.kind = 2) := by
  cases h with
  | nil =>
    obtain ⟨n, h1, h2, _⟩ := hW.root
    exact ⟨n, h1, .inl h2⟩
  | cons hk h2 _ _ _ _ => exact ⟨_, hk, .inr h2⟩
/-- a new last kid of a node that is none of these -/
theorem Chain.grow {ns : List Nd} {p : Nat} {m : Nd} (hp : ns[p]? = some m) (n : Nd) : ∀ {op : List Nat}, Chain ns op → (∀ x ∈ op.tail ++ [0], op ≠ [] → x ≠ p) → Chain (addN ns p n) op
  | _, .nil, _ => .nil
  | _, .cons (k := k) (n := nk) (m := mk) (l := l) hk h2 hpar hm hl hc, hno => by
    have hkl : k < ns.length := (List.getElem?_eq_some_iff.1 hk).1
    have hil : inn l < ns.length := (List.getElem?_eq_some_iff.1 hm).1
    have hne : inn l ≠ p := hno (inn l) (by cases l <;> simp [inn]) (by simp)
    have hm2 : (addN ns p n)[inn l]? = some mk := by rw [add_get hp, if_neg (by omega), if_neg hne]; exact hm
    have hc2 : Chain (addN ns p n) l := Chain.grow hp n hc (fun x hx hl0 => hno x (by
      cases l with
      | nil => exact absurd rfl hl0
      | cons a b => simp at hx ⊢; exact .inr hx) (by simp))
    by_cases hkp : k = p
    · subst hkp
      obtain rfl := Option.some.inj (hp.symm.trans hk)
      exact .cons (n := { m with kids := m.kids ++ [(ns.length : Int)] }) (by rw [add_get hp, if_neg (by omega), if_pos rfl]) h2 hpar hm2 hl hc2
    · exact .cons (by rw [add_get hp, if_neg (by omega), if_neg hkp]; exact hk) h2 hpar hm2 hl hc2
theorem Chain.add {ns : List Nd} (hW : WF ns) {op : List Nat} (h : Chain ns op) {m : Nd} (hp : ns[inn op]? = some m) (n : Nd) : Chain (addN ns (inn op) n) op := by
  refine h.grow hp n (fun x hx hne => ?_)
  have hnd := (h.up hW).nodup
  cases op with
  | nil => exact absurd rfl hne
  | cons k l =>
    rw [List.cons_append, List.nodup_cons] at hnd
    rintro rfl
    exact hnd.1 hx
/-- the new kid is open -/
theorem Chain.open {ns : List Nd} (hW : WF ns) {op : List Nat} (h : Chain ns op) {m : Nd} (hp : ns[inn op]? = some m) (n : Nd) (hn : n.kind = 2) : Chain (addN ns (inn op) n) (ns.length :: op) := by
  have hlt : inn op < ns.length := (List.getElem?_eq_some_iff.1 hp).1
  refine .cons (n := { n with parent := (inn op : Nat) }) (m := { m with kids := m.kids ++ [(ns.length : Int)] }) ?_ hn rfl ?_ ?_ (h.add hW hp n)
  · rw [add_get hp, if_pos rfl]
  · rw [add_get hp, if_neg (by omega), if_pos rfl]
  · simp
/-- attributes or words turn -/
theorem Chain.same {ns ns' : List Nd} (hs : ∀ (j : Nat) (n : Nd), ns[j]? = some n → ∃ n' : Nd, ns'[j]? = some n' ∧ n'.kind = n.kind ∧ n'.parent = n.parent ∧ n'.kids = n.kids) : ∀ {op : List Nat}, Chain ns op → Chain ns' op
  | _, .nil => .nil
  | _, .cons hk h2 hp hm hl hc => by
    obtain ⟨n', a1, a2, a3, _⟩ := hs _ _ hk
    obtain ⟨m', b1, _, _, b4⟩ := hs _ _ hm
    exact .cons a1 (a2.trans h2) (a3.trans hp) b1 (by rw [b4]; exact hl) (hc.same hs)
theorem set_same3 {ns : List Nd} {i : Nat} {n n' : Nd} (hi : ns[i]? = some n) (h1 : n'.kind = n.kind) (h2 : n'.parent = n.parent) (h3 : n'.kids = n.kids) : ∀ (j : Nat) (x : Nd), ns[j]? = some x → ∃ x' : Nd, (ns.set i n')[j]? = some x' ∧ x'.kind = x.kind ∧ x'.parent = x.parent ∧ x'.kids = x.kids := by
  intro j x hj
  by_cases h : i = j
  · subst h
    obtain rfl := Option.some.inj (hi.symm.trans hj)
    exact ⟨n', List.getElem?_set_self (List.getElem?_eq_some_iff.1 hi).1, h1, h2, h3⟩
  · exact ⟨x, by rw [List.getElem?_set_ne h]; exact hj, rfl, rfl, rfl⟩
/-- where an element was shut no text is joined -/
theorem Chain.noText {ns : List Nd} {k : Nat} {l : List Nat} (h : Chain ns (k :: l)) : textAt ns (inn l) = none := by
  cases h with
  | cons hk h2 hp hm hl hc =>
    unfold textAt
    rw [hm]
    simp only [hl, Int.toNat_natCast, hk]
    rw [if_neg (by omega)]
theorem shut_chain {ns : List Nd} {A B : ByteArray → Bool} {op0 : List Nat} (h0 : Chain ns op0) : ∀ {l : List Nat}, Chain ns l → l.length ≤ op0.length → Chain ns (shutM ns A B op0 l) ∧ (shutM ns A B op0 l).length ≤ op0.length ∧ (shutM ns A B op0 l = op0 ∨ textAt ns (inn (shutM ns A B op0 l)) = none)
  | _, .nil, _ => ⟨h0, Nat.le_refl _, .inl rfl⟩
  | _, .cons (k := k) (l := l) hk h2 hp hm hl hc, hlen => by
    unfold shutM
    simp only [List.length_cons] at hlen
    split
    · exact ⟨hc, by omega, .inr (Chain.noText (.cons hk h2 hp hm hl hc))⟩
    · split
      · exact ⟨h0, Nat.le_refl _, .inl rfl⟩
      · exact shut_chain h0 hc (by omega)
end Go.Proofs.YtkaeenafejdkfaaGreatDoor

/- Nodes that lie in their tree's order, each ahead of what lies in it. -/
namespace Go.Proofs.YtkaeenafejdkfaaGreatDoor

/-- these kids, and all that lies in them, are just the nodes from one number up to another one -/
inductive Cover (ns : List Nd) : List Int → Nat → Nat → Prop where
  | nil (a : Nat) : Cover ns [] a a
  | cons {k : Nat} {n : Nd} {ks : List Int} {m b : Nat} (hk : ns[k]? = some n) (h1 : Cover ns n.kids (k + 1) m) (h2 : Cover ns ks m b) : Cover ns ((k : Int) :: ks) k b
theorem Cover.le {ns : List Nd} {ks : List Int} {a b : Nat} (h : Cover ns ks a b) : a ≤ b := by
  induction h with
  | nil => exact Nat.le_refl _
  | cons _ _ _ i1 i2 => omega
theorem Cover.same {ns ns' : List Nd} {ks : List Int} {a b : Nat} (h : Cover ns ks a b) (hs : ∀ (j : Nat) (n : Nd), a ≤ j → j < b → ns[j]? = some n → ∃ n' : Nd, ns'[j]? = some n' ∧ n'.kids = n.kids) : Cover ns' ks a b := by
  induction h with
  | nil => exact .nil _
  | cons hk h1 h2 i1 i2 =>
    have l1 := h1.le
    have l2 := h2.le
    obtain ⟨n', e1, e2⟩ := hs _ _ (Nat.le_refl _) (by omega) hk
    exact .cons e1 (by rw [e2]; exact i1 (fun j n q1 q2 q3 => hs j n (by omega) (by omega) q3)) (i2 (fun j n q1 q2 q3 => hs j n (by omega) (by omega) q3))
theorem Cover.app {ns : List Nd} {ks ls : List Int} {a m b : Nat} (h : Cover ns ks a m) (h2 : Cover ns ls m b) : Cover ns (ks ++ ls) a b := by
  induction h with
  | nil => exact h2
  | cons hk q1 _ _ i2 => exact .cons hk q1 (i2 h2)
theorem Cover.last {ns : List Nd} : ∀ {ks : List Int} {k : Int} {a b : Nat}, Cover ns (ks ++ [k]) a b → ∃ (c : Nat) (n : Nd), k = c ∧ ns[c]? = some n ∧ Cover ns ks a c ∧ Cover ns n.kids (c + 1) b
  | [], _, _, _, h => by
    cases h with
    | cons hk h1 h2 =>
      cases h2
      exact ⟨_, _, rfl, hk, .nil _, h1⟩
  | _ :: ks, _, _, _, h => by
    cases h with
    | cons hk h1 h2 =>
      obtain ⟨c, n, e1, e2, e3, e4⟩ := Cover.last (ks := ks) h2
      exact ⟨c, n, e1, e2, .cons hk h1 e3, e4⟩
/-- what lies in a node goes on up to a number -/
def Cov (ns : List Nd) (id b : Nat) : Prop := ∃ n, ns[id]? = some n ∧ Cover ns n.kids (id + 1) b
theorem cov_inner {ns : List Nd} : ∀ {op : List Nat}, Chain ns op → Cov ns 0 ns.length → Cov ns (inn op) ns.length
  | _, .nil, h => h
  | _, .cons (k := k) (n := n) (m := m) hk h2 hp hm hl hc, h => by
    obtain ⟨m', e1, e2⟩ := cov_inner hc h
    obtain rfl := Option.some.inj (e1.symm.trans hm)
    rw [List.getLast?_eq_some_iff] at hl
    obtain ⟨ks, hks⟩ := hl
    rw [hks] at e2
    obtain ⟨c, n', q1, q2, _, q4⟩ := e2.last
    obtain rfl : c = k := by omega
    exact ⟨n', q2, q4⟩
/-- each open one has a greater number than the next -/
theorem chain_lt {ns : List Nd} {k : Nat} {l : List Nat} (h : Chain ns (k :: l)) (h0 : Cov ns 0 ns.length) : inn l < k := by
  cases h with
  | cons hk h2 hp hm hl hc =>
    obtain ⟨m', e1, e2⟩ := cov_inner hc h0
    obtain rfl := Option.some.inj (e1.symm.trans hm)
    rw [List.getLast?_eq_some_iff] at hl
    obtain ⟨ks, hks⟩ := hl
    rw [hks] at e2
    obtain ⟨c, n', q1, q2, q3, q4⟩ := e2.last
    have := q3.le
    omega
theorem cov_up {ns : List Nd} {p : Nat} {m : Nd} {x : Nd} (hp : ns[p]? = some m) (h0 : Cov ns 0 ns.length) : ∀ {op : List Nat}, Chain ns op → inn op ≤ p → (inn op = p ∨ ∃ y, (addN ns p x)[inn op]? = some y ∧ ns[inn op]? = some y) → Cov (addN ns p x) (inn op) (ns.length + 1) → Cov (addN ns p x) 0 (ns.length + 1)
  | _, .nil, _, _, h => h
  | _, .cons (k := k) (n := n) (m := mm) (l := l) hk h2 hpar hm hl hc, hle, _, h => by
    have hlt := chain_lt (.cons hk h2 hpar hm hl hc) h0
    have hle' : k ≤ p := hle
    have hne : inn l ≠ p := by omega
    have hplt : p < ns.length := (List.getElem?_eq_some_iff.1 hp).1
    have hm2 : (addN ns p x)[inn l]? = some mm := by rw [add_get hp, if_neg (by omega), if_neg hne]; exact hm
    refine cov_up hp h0 hc (by omega) (.inr ⟨mm, hm2, hm⟩) ?_
    obtain ⟨m', e1, e2⟩ := cov_inner hc h0
    obtain rfl := Option.some.inj (e1.symm.trans hm)
    have hl' := hl
    rw [List.getLast?_eq_some_iff] at hl'
    obtain ⟨ks, hks⟩ := hl'
    rw [hks] at e2
    obtain ⟨c, n', q1, q2, q3, q4⟩ := e2.last
    obtain rfl : c = k := by omega
    obtain ⟨y, f1, f2⟩ := h
    refine ⟨_, hm2, ?_⟩
    rw [hks]
    refine Cover.app (q3.same ?_) (.cons f1 f2 (.nil _))
    intro j z g1 g2 g3
    exact ⟨z, by rw [add_get hp, if_neg (by omega), if_neg (by omega)]; exact g3, rfl⟩
/-- a new last kid of the innermost open one -/
theorem cov_add {ns : List Nd} {op : List Nat} {m : Nd} {x : Nd} (hc : Chain ns op) (hp : ns[inn op]? = some m) (hx : x.kids = []) (h0 : Cov ns 0 ns.length) : Cov (addN ns (inn op) x) 0 (addN ns (inn op) x).length := by
  rw [add_len hp]
  refine cov_up hp h0 hc (Nat.le_refl _) (.inl rfl) ?_
  obtain ⟨m', e1, e2⟩ := cov_inner hc h0
  obtain rfl := Option.some.inj (e1.symm.trans hp)
  have hlt : inn op < ns.length := (List.getElem?_eq_some_iff.1 hp).1
  refine ⟨_, by rw [add_get hp, if_neg (by omega), if_pos rfl], ?_⟩
  refine Cover.app (e2.same ?_) (.cons (n := { x with parent := (inn op : Int) }) (by rw [add_get hp, if_pos rfl]) (by show Cover _ x.kids _ _; rw [hx]; exact .nil _) (.nil _))
  intro j z g1 g2 g3
  exact ⟨z, by rw [add_get hp, if_neg (by omega), if_neg (by omega)]; exact g3, rfl⟩
end Go.Proofs.YtkaeenafejdkfaaGreatDoor

/- The program: slices.Backward over whole numbers, and slices.Contains of texts. -/
namespace Go.Proofs.YtkaeenafejdkfaaGreatDoor
open Go.RowKit Go.Shelf
attribute [local go_sem] Oper.semAt_some

/-- texts that lie in a slice -/
def StrsAt (w : World) (v : Value) (A : List ByteArray) : Prop :=
  (A = [] ∧ ∃ a c, v = .slice a 0 c) ∨ ∃ b c, v = .slice (some ⟨b, 0, none⟩) A.length c ∧ A.length ≤ 100 ∧ b < w.heap.size ∧ ∀ j, j < A.length → w.cell? ⟨b, j, none⟩ = some (.string (A.getD j ByteArray.empty))
theorem StrsAt.below {w w' : World} {v : Value} {A : List ByteArray} (h : StrsAt w v A) (hb : Below w.heap.size w w') : StrsAt w' v A := by
  rcases h with h | ⟨b, c, h1, h2, h3, h4⟩
  · exact .inl h
  · exact .inr ⟨b, c, h1, h2, Nat.lt_of_lt_of_le h3 hb.size, fun j hj => (hb.cell (p := ⟨b, j, none⟩) h3).trans (h4 j hj)⟩
theorem contains_any {w : World} {v : Value} {A : List ByteArray} (h : StrsAt w v A) (x : ByteArray) :
    Calls Tryz.prog 144 #[v, .string x] w fun e w' => e = .returned (.bool (Lib.containsS A x)) ∧ w' = w := by
  rcases h with ⟨rfl, a, c, rfl⟩ | ⟨b, c, rfl, h2, _, h4⟩
  · exact Tryz.slices_Contains_string_empty a c x w
  · have := Tryz.slices_Contains_string b 0 A.length c A x w (Nat.le_refl _) (by omega) (fun j hj => by rw [Nat.zero_add]; exact h4 j hj)
    rw [List.take_length] at this
    exact this

/-- the k-th of what comes -/
def bkF (zs : List Int) (k : Nat) : Int × Int := ((zs.length : Int) - 1 - k, zs[zs.length - 1 - k]?.getD 0)
abbrev BkA (zs : List Int) : Type := { x : Int × Int // ∃ k : Nat, k < zs.length ∧ x = bkF zs k }
def upto {α : Type} (f : Nat → α) (k : Nat) : List α := (List.range k).map f
theorem upto_succ {α : Type} (f : Nat → α) (k : Nat) : upto f (k + 1) = upto f k ++ [f k] := by simp [upto, List.range_succ]
theorem upto_length {α : Type} (f : Nat → α) (k : Nat) : (upto f k).length = k := by simp [upto]

set_option maxRecDepth 100000 in
set_option maxHeartbeats 4000000 in
theorem back1_in (F : Fence) (n : Nat) (h8 : F.fn 167) (hro : F.round = none) (hn : 1 ≤ n) (l Bs n₀ b cap : Nat) (zs : List Int) (hreach : zs.length ≤ 100000) (hb : b < n₀) (J Jx : List (BkA zs) → World → Prop)
    (hY : ∀ pre (x : BkA zs) W, J pre W → pre.length < zs.length → YieldAt F (n - 1) Tryz.prog l #[.int .i64 x.1.1, .int .i64 x.1.2] W fun e W' =>
      (e = .returned (.bool true) ∧ J (pre ++ [x]) W' ∧ Below n₀ W W') ∨ (e = .returned (.bool false) ∧ Jx (pre ++ [x]) W'))
    (W : World) (hBl : Bs < n₀) (hBs : W.cell? ⟨Bs, 0, none⟩ = some (.slice (some ⟨b, 0, none⟩) zs.length cap)) (hc : ∀ j, j < zs.length → W.cell? ⟨b, j, none⟩ = some (.int .i64 (zs[j]?.getD 0))) (h0 : J [] W) :
    CallsIn F n Tryz.prog 167 #[.func (.yield l) #[] #[], .pointer (some ⟨Bs, 0, none⟩)] W fun e W' => (∃ v, e = .returned v) ∧
      ((∃ ys, ys.map Subtype.val = upto (bkF zs) zs.length ∧ J ys W') ∨ (∃ pre, (∃ k, k ≤ zs.length ∧ pre.map Subtype.val = upto (bkF zs) k) ∧ Jx pre W')) := by
  refine callsIn_of_wp Tryz.func167 rfl h8 ?_ hro
  simp only [Tryz.ntmps167, List.size_toArray, List.length_cons, List.length_nil, Nat.reduceAdd, Nat.reduceSub, Array.replicate_succ, Array.replicate_zero, List.push_toArray, List.append_toArray, List.nil_append, List.cons_append]
  gi_wp2
  gi_loopw [3] (fun i wr => ∃ k : Nat, k ≤ zs.length ∧ i = .int .i64 ((zs.length : Int) - 1 - k) ∧ (∃ pre, pre.map Subtype.val = upto (bkF zs) k ∧ J pre wr) ∧ Below n₀ W wr)
    (fun i _ => (intOf i + 1).toNat)
  case atStart => exact ⟨0, Nat.zero_le _, by simp, ⟨[], rfl, h0⟩, Below.refl _ _⟩
  case round =>
    obtain ⟨k, hk, rfl, ⟨pre, hpre, hJs⟩, hnx⟩ := hrel
    have hBs' := (hnx.cell (p := ⟨Bs, 0, none⟩) hBl).trans hBs
    have hpl : pre.length = k := by
      have e := congrArg List.length hpre
      rw [List.length_map, upto_length] at e
      exact e
    by_cases hlt : k < zs.length
    · have hcx' : wr.cell? ⟨b, zs.length - 1 - k, none⟩ = some (.int .i64 (zs[zs.length - 1 - k]?.getD 0)) := (hnx.cell (p := ⟨b, zs.length - 1 - k, none⟩) hb).trans (hc _ (by omega))
      obtain ⟨fn, tmps, assign, body, hy, hR⟩ := hY pre ⟨bkF zs k, k, hlt, rfl⟩ wr hJs (by omega)
      dsimp only [bkF] at hy
      have hi : ((zs.length : Int) - 1 - k).toNat = zs.length - 1 - k := by omega
      have hge : (0 : Int) ≤ (zs.length : Int) - 1 - k := by omega
      have hlt2 : (zs.length : Int) - 1 - k < (zs.length : Int) := by omega
      gi_wp2
      refine hR.mono ?_
      have hmap : (pre ++ [(⟨bkF zs k, k, hlt, rfl⟩ : BkA zs)]).map Subtype.val = upto (bkF zs) (k + 1) := by
        rw [upto_succ, List.map_append, hpre]; rfl
      rintro e W3 (⟨rfl, hJ3, hk3⟩ | ⟨rfl, hJx3⟩)
      · gi_wp2
        go_roundw
        case rel => exact ⟨k + 1, by omega, by simp; omega, ⟨_, hmap, hJ3⟩, hnx.trans hk3⟩
        case measure => simp [intOf]; omega
      · gi_wp2
        refine bodyPost_ret (results_none rfl _ _ _) rfl ?_
        exact ⟨⟨_, rfl⟩, .inr ⟨_, ⟨k + 1, by omega, hmap⟩, hJx3⟩⟩
    · obtain rfl : k = zs.length := by omega
      have hneg : ¬ (0 : Int) ≤ (zs.length : Int) - 1 - zs.length := by omega
      gi_wp2
      go_end0
      exact ⟨⟨_, rfl⟩, .inl ⟨_, hpre, hJs⟩⟩

set_option maxRecDepth 100000 in
set_option maxHeartbeats 1000000 in
theorem back0_in (F : Fence) (n : Nat) (h8 : F.fn 167) (hro : F.round = none) (l Bs : Nat) (a : Option Addr) (cap : Nat) (J : List (BkA []) → World → Prop) (W : World) (hBs : W.cell? ⟨Bs, 0, none⟩ = some (.slice a 0 cap)) (h0 : J [] W) :
    CallsIn F n Tryz.prog 167 #[.func (.yield l) #[] #[], .pointer (some ⟨Bs, 0, none⟩)] W fun e W' => (∃ v, e = .returned v) ∧ J [] W' := by
  refine callsIn_of_wp Tryz.func167 rfl h8 ?_ hro
  simp only [Tryz.ntmps167, List.size_toArray, List.length_cons, List.length_nil, Nat.reduceAdd, Nat.reduceSub, Array.replicate_succ, Array.replicate_zero, List.push_toArray, List.append_toArray, List.nil_append, List.cons_append]
  gi_wp2
  gi_loopw [3] (fun i wr => i = .int .i64 (-1) ∧ J [] wr) (fun _ _ => 0)
  case atStart => exact ⟨rfl, h0⟩
  case round =>
    obtain ⟨rfl, hJs⟩ := hrel
    gi_wp2
    go_end0
    exact ⟨⟨_, rfl⟩, hJs⟩

set_option maxHeartbeats 1000000 in
/-- slices.Backward(s): the slice is boxed, the function value captures the box -/
theorem back_in (F : Fence) (n : Nat) (h5 : F.fn 143) (hro : F.round = none) (a : Option Addr) (len cap : Nat) (w : World) :
    CallsIn F n Tryz.prog 143 #[.slice a len cap] w fun e w' => e = .returned (.func (.func 167) #[] #[.pointer (some ⟨w.heap.size, 0, none⟩)]) ∧ w' = w.alloc (.cells #[.slice a len cap] 48) := by
  refine callsIn_of_wp Tryz.func143 rfl h5 ?_ hro
  simp only [Tryz.ntmps143, List.size_toArray, List.length_cons, List.length_nil, Nat.reduceAdd, Nat.reduceSub, Array.replicate_succ, Array.replicate_zero, List.push_toArray, List.append_toArray, List.nil_append, List.cons_append]
  gi_wp2
  go_ret
  exact ⟨rfl, rfl⟩

/-- whole numbers that lie in a slice below a block -/
def IntsIn (n₀ : Nat) (W : World) (sv : Value) (zs : List Int) : Prop :=
  (zs = [] ∧ ∃ a c, sv = .slice a 0 c) ∨ ∃ b cap, sv = .slice (some ⟨b, 0, none⟩) zs.length cap ∧ b < n₀ ∧ ∀ j, j < zs.length → W.cell? ⟨b, j, none⟩ = some (.int .i64 (zs[j]?.getD 0))
theorem IntsIn.below {n₀ : Nat} {A B : World} (h : Below n₀ A B) {sv : Value} {zs : List Int} : IntsIn n₀ A sv zs → IntsIn n₀ B sv zs
  | .inl e => .inl e
  | .inr ⟨b, cap, e, hb, hc⟩ => .inr ⟨b, cap, e, hb, fun j hj => (h.cell (p := ⟨b, j, none⟩) hb).trans (hc j hj)⟩
theorem back_stops (F : Fence) (n : Nat) (h8 : F.fn 167) (hro : F.round = none) (hn : 1 ≤ n) (Bs n₀ : Nat) (sv : Value) (zs : List Int) (hreach : zs.length ≤ 100000) (w : World) (hBs : Bs < n₀) (hn₀ : n₀ ≤ w.heap.size)
    (hc : w.cell? ⟨Bs, 0, none⟩ = some sv) (hI : IntsIn n₀ w sv zs) :
    SeqStopsK F n Tryz.prog 167 #[.pointer (some ⟨Bs, 0, none⟩)] (fun x : BkA zs => #[Value.int .i64 x.1.1, Value.int .i64 x.1.2]) (Below n₀) (fun ys => ys.map Subtype.val = upto (bkF zs) zs.length)
      (fun pre => ∃ k, k ≤ zs.length ∧ pre.map Subtype.val = upto (bkF zs) k) zs.length w := fun l J Jx W hW _ _ hY h0 => by
  have hc' := (hW.cell (p := ⟨Bs, 0, none⟩) (by show Bs < w.heap.size; omega)).trans hc
  rcases hI.below (hW.mono hn₀) with ⟨rfl, a, c, rfl⟩ | ⟨b, cap, rfl, hb, hcs⟩
  · exact (back0_in F n h8 hro l Bs a c J W hc' h0).mono fun e W' ⟨he, hj⟩ => ⟨he, .inl ⟨_, rfl, hj⟩⟩
  · exact back1_in F n h8 hro hn l Bs n₀ b cap zs hreach hb J Jx hY W hBs hc' hcs h0
end Go.Proofs.YtkaeenafejdkfaaGreatDoor

/- The end of a row is cleared, and cut off. -/
namespace Go.Proofs.YtkaeenafejdkfaaGreatDoor
open Go.RowKit

section
variable {P : Program}
theorem clear_tail (w : World) (M : Nat → Lab) (l : Lab) (t e : TypeId) (z : Value) (size : Nat) (ht : P.underlying t = some (.slice e)) (hv : ∀ w, (zeroValue e).run P w = .ok z w) (hzs : z.cells.size = size) (hz1 : ∀ u ∈ z.cells.toList, u.oneCell' = true) (hsz : 0 < size)
    (g n k cap c : Nat) (xs ys : List Value) (hr : Row w M l e size (.slice (some ⟨g, 0, none⟩) (n + k) cap) (n + k) (xs ++ ys)) (hx : xs.length = n * size) (hk : 0 < k) (hfr : ∀ b, w.heap.size ≤ b → M b = .other) :
    ∃ w', (∀ ty, (Builtin.clear_ #[t] ty #[.slice (some ⟨g, n * size, none⟩) k c]).run P w = .ok (.tuple #[]) w') ∧ Row w' M l e size (.slice (some ⟨g, 0, none⟩) n cap) n xs ∧ Step w M w' M l := by
  obtain ⟨hl, a, cap', hv', h1, h2, h3⟩ := hr
  cases hv'
  rcases h3 with ⟨h3, _⟩ | ⟨g', cur, ha, hM, hg, h4, h5⟩
  · omega
  · cases ha
    have hzl : (Builtin.zeroCells z.cells k).toList.length = k * size := by simp [size_zeroCells, hzs]
    have hfit : n * size + k * size ≤ cur.size := by
      rw [← Nat.add_mul]
      exact Nat.le_trans (Nat.mul_le_mul_right _ h1) h4
    have hone : ∀ u ∈ (Builtin.zeroCells z.cells k).toList, u.oneCell' = true := by
      intro u hu
      simp only [Builtin.zeroCells, Array.toList_map, List.mem_map] at hu
      obtain ⟨j, hj, rfl⟩ := hu
      have hjs : j % z.cells.size < z.cells.size := Nat.mod_lt _ (by omega)
      rw [getElem!_pos z.cells _ hjs]
      exact hz1 _ (by simp)
    have hst := run_storeCells_at P g (n * size) e (Builtin.zeroCells z.cells k).toList 0 cur w hg (by rw [hzl]; simpa using hfit) hone
    rw [Nat.add_zero, hzl] at hst
    refine ⟨w.setRow g (cur.toList.take (n * size) ++ (Builtin.zeroCells z.cells k).toList ++ cur.toList.drop (n * size + k * size)).toArray, fun ty => ?_, ⟨hx, _, cap, rfl, by omega, h2, .inr ⟨g, _, rfl, hM, setRow_heap w g cur _ e _ hg, ?_, ?_⟩⟩, ⟨rfl, rfl, rfl, by simp [World.setRow], fun _ _ => rfl, ?_, ?_⟩⟩
    · obtain ⟨k', rfl⟩ : ∃ k', k = k' + 1 := ⟨k - 1, by omega⟩
      simp [Builtin.clear_, run_underlying ht, hv, hst]
    · simp only [List.size_toArray, List.length_append, List.length_take, List.length_drop, Array.length_toList, hzl]
      omega
    · have := congrArg (List.take (n * size)) h5
      rw [List.take_take, List.take_append_of_le_length (by omega), List.take_of_length_le (l := xs) (by omega), Nat.min_eq_left (Nat.mul_le_mul_right _ (by omega))] at this
      simp only [List.append_assoc]
      rw [List.take_append_of_le_length (by simp; omega), List.take_take, Nat.min_self, this]
    · intro b hb
      exact hfr b (by simpa [World.setRow] using hb)
    · intro b hb hne
      exact setRow_other w g b _ (fun e => hne (by rw [e]; exact hM))

theorem step_clear (w : World) {ops : Array Oper} {o : Oper} {a : Act} {K : Act → World → Prop} {Q : Exit → Act → World → Prop} {E : Prop} (hgd : o.guard = none) (x : Operand) (t : TypeId)
    (ho : o.op = .call { callee := .builtin .clear, args := #[x], argTypes := #[t] }) (v : Value) (hx : a.eval x = v) (w' : World) (hr : ∀ ty, (Builtin.clear_ #[t] ty #[v]).run P w = .ok (.tuple #[]) w')
    (h : K (a.put o.dst (.tuple #[])) w') : if Region.wanted o (yielded ops a.tmps) = true then Oper.wp P o a w K Q else E := by
  have hw : Region.wanted o (yielded ops a.tmps) = true := by simp [Region.wanted, hgd]
  rw [if_pos hw]
  unfold Oper.wp execOp
  simp only [ho, resolve, invoke, builtin, Sem.run_bind, Sem.run_pure, Result.andThen_ok, List.map_toArray, List.map_cons, List.map_nil, hx, hr]
  exact h
end
end Go.Proofs.YtkaeenafejdkfaaGreatDoor
