/- The tree of a list of twigs, as plain mathematics, and what holds of it. -/
import Derived.Test.YtlfepdecgfcifaaGreatDoorM07
import Derived.Test.YtlfepdecgfcifaaGreatDoorM05
import Derived.BigRegion
namespace Go.Proofs.YtlfepdecgfcifaaGreatDoor

/-- the nodes behind a Set that may set or not -/
def setS (ns : List Nd) (i : Nat) (name value : ByteArray) : List Nd := match ns[i]? with
  | none => ns
  | some n => if n.kind = 2 ∧ nameB name = true ∧ value.size ≤ 20000 then ns.set i { n with attrs := setAttr n.attrs name value } else ns
/-- the nodes behind a Put of a root as the last kid -/
def putS (ns : List Nd) (a b : Nat) : List Nd := match ns[a]?, ns[b]? with
  | some na, some nb => if kidsB na.kind = true then (ns.set a { na with kids := na.kids ++ [(b : Int)] }).set b { nb with parent := a } else ns
  | _, _ => ns
/-- a twig's node, when it is made -/
def headS (kind : Int) (tag text : ByteArray) : Nd :=
  if kind = 2 ∧ nameB tag = true then ⟨2, tag, ⟨#[]⟩, [], -1, []⟩ else if kind = 4 then ⟨4, ⟨#[]⟩, text, [], -1, []⟩ else ⟨3, ⟨#[]⟩, text, [], -1, []⟩
def attrsS (i : Nat) (ns : List Nd) (l : List (ByteArray × ByteArray)) : List Nd := l.foldl (fun ns x => setS ns i x.1 x.2) ns
/-- whether a node is there, and a root -/
def rootB (ns : List Nd) (i : Nat) : Bool := match ns[i]? with
  | some n => decide (n.parent < 0)
  | none => false
def kidS (k : Nat) (ns : List Nd) (x : Int) : List Nd := if 0 ≤ x ∧ x < (k : Int) ∧ rootB ns (x.toNat + 1) = true then putS ns (k + 1) (x.toNat + 1) else ns
def kidsS (k : Nat) (ns : List Nd) (l : List Int) : List Nd := l.foldl (kidS k) ns
def twigS (ns : List Nd) (k : Nat) (t : Tw) : List Nd := kidsS k (attrsS (k + 1) (ns ++ [headS t.kind t.tag t.text]) t.attrs) t.kids
/-- so many twigs -/
def bodyS (ts : List Tw) : Nat → List Nd
  | 0 => [⟨1, ⟨#[]⟩, ⟨#[]⟩, [], -1, []⟩]
  | k + 1 => match ts[k]? with
    | some t => twigS (bodyS ts k) k t
    | none => bodyS ts k
def rootS (ns : List Nd) (j : Nat) : List Nd := if rootB ns (j + 1) = true then putS ns 0 (j + 1) else ns
/-- so many roots stand in the document -/
def lastS (ts : List Tw) : Nat → List Nd
  | 0 => bodyS ts ts.length
  | j + 1 => rootS (lastS ts j) j
def treeS (ts : List Tw) : List Nd := lastS ts ts.length

theorem attrsS_succ {l : List (ByteArray × ByteArray)} {j : Nat} {x : ByteArray × ByteArray} (h : l[j]? = some x) (i : Nat) (ns : List Nd) : attrsS i ns (l.take (j + 1)) = setS (attrsS i ns (l.take j)) i x.1 x.2 := by
  obtain ⟨hj, rfl⟩ := List.getElem?_eq_some_iff.1 h
  rw [List.take_succ_eq_append_getElem hj, attrsS, List.foldl_append]
  rfl
theorem kidsS_succ {l : List Int} {j : Nat} {x : Int} (h : l[j]? = some x) (k : Nat) (ns : List Nd) : kidsS k ns (l.take (j + 1)) = kidS k (kidsS k ns (l.take j)) x := by
  obtain ⟨hj, rfl⟩ := List.getElem?_eq_some_iff.1 h
  rw [List.take_succ_eq_append_getElem hj, kidsS, List.foldl_append]
  rfl

theorem setS_length (ns : List Nd) (i : Nat) (a b : ByteArray) : (setS ns i a b).length = ns.length := by
  unfold setS; split
  · rfl
  · split <;> simp
theorem putS_length (ns : List Nd) (a b : Nat) : (putS ns a b).length = ns.length := by
  unfold putS; split
  · split <;> simp
  · rfl
theorem attrsS_length (i : Nat) (l : List (ByteArray × ByteArray)) : ∀ ns : List Nd, (attrsS i ns l).length = ns.length := by
  induction l with
  | nil => intro ns; rfl
  | cons x l ih => intro ns; exact (ih _).trans (setS_length ..)
theorem kidS_length (k : Nat) (ns : List Nd) (x : Int) : (kidS k ns x).length = ns.length := by
  unfold kidS; split
  · exact putS_length ..
  · rfl
theorem kidsS_length (k : Nat) (l : List Int) : ∀ ns : List Nd, (kidsS k ns l).length = ns.length := by
  induction l with
  | nil => intro ns; rfl
  | cons x l ih => intro ns; exact (ih _).trans (kidS_length ..)
theorem twigS_length (ns : List Nd) (k : Nat) (t : Tw) : (twigS ns k t).length = ns.length + 1 := by
  unfold twigS; rw [kidsS_length, attrsS_length]; simp
theorem bodyS_length (ts : List Tw) : ∀ k, k ≤ ts.length → (bodyS ts k).length = k + 1
  | 0, _ => rfl
  | k + 1, h => by
    have e : ts[k]? = some ts[k] := List.getElem?_eq_getElem (by omega)
    unfold bodyS
    simp only [e]
    rw [twigS_length, bodyS_length ts k (by omega)]
theorem rootS_length (ns : List Nd) (j : Nat) : (rootS ns j).length = ns.length := by
  unfold rootS; split
  · exact putS_length ..
  · rfl
theorem lastS_length (ts : List Tw) : ∀ j, (lastS ts j).length = ts.length + 1
  | 0 => bodyS_length ts _ (Nat.le_refl _)
  | j + 1 => (rootS_length _ _).trans (lastS_length ts j)

/-- what holds of the kids: each is a node whose parent this is, and stands lower; the document is the first -/
structure Sound (ns : List Nd) : Prop where
  doc : ∃ n, ns[0]? = some n ∧ n.kind = 1 ∧ n.parent = -1
  par : ∀ (j : Nat) (n : Nd), ns[j]? = some n → n.parent = -1 ∨ ∃ q : Nat, n.parent = q ∧ q < ns.length
  kid : ∀ (j : Nat) (n : Nd), ns[j]? = some n → ∀ x ∈ n.kids, ∃ (b : Nat) (m : Nd), x = b ∧ 0 < b ∧ (j = 0 ∨ b < j) ∧ ns[b]? = some m ∧ m.parent = j

theorem Sound.start : Sound [⟨1, ⟨#[]⟩, ⟨#[]⟩, [], -1, []⟩] := by
  refine ⟨⟨_, rfl, rfl, rfl⟩, fun j n h => ?_, fun j n h => ?_⟩
  all_goals
    rcases Nat.eq_zero_or_pos j with e | e
    · subst e; cases h; simp
    · rw [List.getElem?_eq_none (by simp; omega)] at h; cases h

theorem Sound.snoc {ns : List Nd} (h : Sound ns) (n : Nd) (hp : n.parent = -1) (hk : n.kids = []) : Sound (ns ++ [n]) := by
  have ext : ∀ (j : Nat) x, ns[j]? = some x → (ns ++ [n])[j]? = some x := fun j x hx => by
    rw [List.getElem?_append_left (List.getElem?_eq_some_iff.1 hx).1]; exact hx
  have back : ∀ (j : Nat) x, (ns ++ [n])[j]? = some x → ns[j]? = some x ∨ x = n := fun j x hx => by
    by_cases hj : j < ns.length
    · rw [List.getElem?_append_left hj] at hx; exact .inl hx
    · rw [List.getElem?_append_right (by omega)] at hx
      have : j - ns.length = 0 := by
        rcases Nat.eq_zero_or_pos (j - ns.length) with e | e
        · exact e
        · rw [List.getElem?_eq_none (by simp; omega)] at hx; cases hx
      rw [this] at hx
      cases hx
      exact .inr rfl
  obtain ⟨d, h0, h1, h2⟩ := h.doc
  refine ⟨⟨d, ext 0 d h0, h1, h2⟩, fun j x hx => ?_, fun j x hx y hy => ?_⟩
  · rcases back j x hx with e | e
    · rcases h.par j x e with k | ⟨q, k1, k2⟩
      · exact .inl k
      · exact .inr ⟨q, k1, by simp; omega⟩
    · subst e; exact .inl hp
  · rcases back j x hx with e | e
    · obtain ⟨b, m, k1, k2, k3, k4, k5⟩ := h.kid j x e y hy
      exact ⟨b, m, k1, k2, k3, ext b m k4, k5⟩
    · subst e; rw [hk] at hy; cases hy

/-- the same nodes but for attributes -/
theorem Sound.setAttrs {ns : List Nd} (h : Sound ns) {i : Nat} {n : Nd} (hi : ns[i]? = some n) (l : List (ByteArray × ByteArray)) : Sound (ns.set i { n with attrs := l }) := by
  have hl := (List.getElem?_eq_some_iff.1 hi).1
  have back : ∀ (j : Nat) x, (ns.set i { n with attrs := l })[j]? = some x → ∃ y, ns[j]? = some y ∧ x.kind = y.kind ∧ x.parent = y.parent ∧ x.kids = y.kids := fun j x hx => by
    by_cases e : i = j
    · subst e; rw [List.getElem?_set_self hl] at hx; cases hx; exact ⟨n, hi, rfl, rfl, rfl⟩
    · rw [List.getElem?_set_ne e] at hx; exact ⟨x, hx, rfl, rfl, rfl⟩
  have forth : ∀ (j : Nat) y, ns[j]? = some y → ∃ x, (ns.set i { n with attrs := l })[j]? = some x ∧ x.kind = y.kind ∧ x.parent = y.parent := fun j y hy => by
    by_cases e : i = j
    · subst e; obtain rfl := Option.some.inj (hy.symm.trans hi); exact ⟨_, List.getElem?_set_self hl, rfl, rfl⟩
    · exact ⟨y, by rw [List.getElem?_set_ne e]; exact hy, rfl, rfl⟩
  obtain ⟨d, h0, h1, h2⟩ := h.doc
  refine ⟨?_, fun j x hx => ?_, fun j x hx y hy => ?_⟩
  · obtain ⟨x, e1, e2, e3⟩ := forth 0 d h0
    exact ⟨x, e1, e2.trans h1, e3.trans h2⟩
  · obtain ⟨y, e1, _, e2, _⟩ := back j x hx
    rw [e2, List.length_set]
    exact h.par j y e1
  · obtain ⟨z, e1, _, _, e3⟩ := back j x hx
    rw [e3] at hy
    obtain ⟨b, m, k1, k2, k3, k4, k5⟩ := h.kid j z e1 y hy
    obtain ⟨m', f1, _, f2⟩ := forth b m k4
    exact ⟨b, m', k1, k2, k3, f1, f2.trans k5⟩
theorem Sound.set {ns : List Nd} (h : Sound ns) (i : Nat) (a b : ByteArray) : Sound (setS ns i a b) := by
  unfold setS
  cases e : ns[i]? with
  | none => exact h
  | some n =>
    dsimp only
    split
    · exact h.setAttrs e _
    · exact h

theorem Sound.put {ns : List Nd} (h : Sound ns) {a b : Nat} {na nb : Nd} (ha : ns[a]? = some na) (hb : ns[b]? = some nb) (hab : b < a ∨ a = 0) (hb0 : 0 < b) (hra : na.parent = -1) (hrb : nb.parent = -1) : Sound (putS ns a b) := by
  unfold putS
  rw [ha, hb]
  dsimp only
  split
  · have hne : a ≠ b := by omega
    have hal := (List.getElem?_eq_some_iff.1 ha).1
    have hbl := (List.getElem?_eq_some_iff.1 hb).1
    have gb : ((ns.set a { na with kids := na.kids ++ [(b : Int)] }).set b { nb with parent := a })[b]? = some { nb with parent := a } := List.getElem?_set_self (by rw [List.length_set]; exact hbl)
    have ga : ((ns.set a { na with kids := na.kids ++ [(b : Int)] }).set b { nb with parent := a })[a]? = some { na with kids := na.kids ++ [(b : Int)] } := by
      rw [List.getElem?_set_ne (Ne.symm hne), List.getElem?_set_self hal]
    have go : ∀ (j : Nat), j ≠ a → j ≠ b → ((ns.set a { na with kids := na.kids ++ [(b : Int)] }).set b { nb with parent := a })[j]? = ns[j]? := fun j h1 h2 => by
      rw [List.getElem?_set_ne (Ne.symm h2), List.getElem?_set_ne (Ne.symm h1)]
    -- a kid that was one
    have old : ∀ (j : Nat) (x : Int) (c : Nat) (m : Nd), x = c → ns[c]? = some m → m.parent = j → ∃ m', ((ns.set a { na with kids := na.kids ++ [(b : Int)] }).set b { nb with parent := a })[c]? = some m' ∧ m'.parent = j := by
      intro j x c m e1 e2 e3
      by_cases h1 : c = a
      · subst h1; obtain rfl := Option.some.inj (e2.symm.trans ha); exact ⟨_, ga, e3⟩
      · by_cases h2 : c = b
        · subst h2; obtain rfl := Option.some.inj (e2.symm.trans hb); rw [hrb] at e3; omega
        · exact ⟨m, (go c h1 h2).trans e2, e3⟩
    obtain ⟨d, h0, h1, h2⟩ := h.doc
    refine ⟨?_, fun j x hx => ?_, fun j x hx y hy => ?_⟩
    · by_cases e1 : a = 0
      · subst e1; obtain rfl := Option.some.inj (h0.symm.trans ha); exact ⟨_, ga, h1, h2⟩
      · exact ⟨d, (go 0 (Ne.symm e1) (by omega)).trans h0, h1, h2⟩
    · simp only [List.length_set]
      by_cases h1 : j = a
      · subst h1; obtain rfl := Option.some.inj (hx.symm.trans ga); exact .inl hra
      · by_cases h2 : j = b
        · subst h2; obtain rfl := Option.some.inj (hx.symm.trans gb); exact .inr ⟨a, rfl, hal⟩
        · rw [go j h1 h2] at hx; exact h.par j x hx
    · by_cases h1 : j = a
      · subst h1
        obtain rfl := Option.some.inj (hx.symm.trans ga)
        rcases List.mem_append.1 hy with hy | hy
        · obtain ⟨c, m, k1, k2, k3, k4, k5⟩ := h.kid j na ha y hy
          obtain ⟨m', f1, f2⟩ := old j y c m k1 k4 k5
          exact ⟨c, m', k1, k2, k3, f1, f2⟩
        · obtain rfl : y = (b : Int) := by simpa using hy
          exact ⟨b, _, rfl, hb0, by omega, gb, rfl⟩
      · have hx' : ∃ x', ns[j]? = some x' ∧ x'.kids = x.kids := by
          by_cases h2 : j = b
          · subst h2; obtain rfl := Option.some.inj (hx.symm.trans gb); exact ⟨nb, hb, rfl⟩
          · rw [go j h1 h2] at hx; exact ⟨x, hx, rfl⟩
        obtain ⟨x', e1, e2⟩ := hx'
        rw [← e2] at hy
        obtain ⟨c, m, k1, k2, k3, k4, k5⟩ := h.kid j x' e1 y hy
        obtain ⟨m', f1, f2⟩ := old j y c m k1 k4 k5
        exact ⟨c, m', k1, k2, k3, f1, f2⟩
  · exact h

theorem rootB_some {ns : List Nd} {i : Nat} (h : Sound ns) (hr : rootB ns i = true) : ∃ n, ns[i]? = some n ∧ n.parent = -1 := by
  unfold rootB at hr
  cases e : ns[i]? with
  | none => rw [e] at hr; cases hr
  | some n =>
    rw [e] at hr
    have hr' : n.parent < 0 := by simpa using hr
    refine ⟨n, rfl, ?_⟩
    rcases h.par i n e with k | ⟨q, k, _⟩
    · exact k
    · omega

/-- the parent of a node behind a Put that is not its own -/
theorem putS_parent {ns : List Nd} {a b c : Nat} {n : Nd} (hc : ns[c]? = some n) (hcb : c ≠ b) : ∃ n', (putS ns a b)[c]? = some n' ∧ n'.parent = n.parent ∧ n'.kind = n.kind := by
  unfold putS
  split
  · rename_i na nb ha hb
    split
    · by_cases e : c = a
      · subst e
        obtain rfl := Option.some.inj (hc.symm.trans ha)
        exact ⟨{ n with kids := n.kids ++ [(b : Int)] }, by rw [List.getElem?_set_ne (Ne.symm hcb), List.getElem?_set_self (List.getElem?_eq_some_iff.1 ha).1], rfl, rfl⟩
      · exact ⟨n, by rw [List.getElem?_set_ne (Ne.symm hcb), List.getElem?_set_ne (Ne.symm e)]; exact hc, rfl, rfl⟩
    · exact ⟨n, hc, rfl, rfl⟩
  · exact ⟨n, hc, rfl, rfl⟩
theorem setS_parent {ns : List Nd} {i c : Nat} {n : Nd} (hc : ns[c]? = some n) (a b : ByteArray) : ∃ n', (setS ns i a b)[c]? = some n' ∧ n'.parent = n.parent ∧ n'.kids = n.kids ∧ n'.kind = n.kind := by
  unfold setS
  cases e : ns[i]? with
  | none => exact ⟨n, hc, rfl, rfl, rfl⟩
  | some m =>
    dsimp only
    split
    · by_cases h : i = c
      · subst h
        obtain rfl := Option.some.inj (hc.symm.trans e)
        exact ⟨_, List.getElem?_set_self (List.getElem?_eq_some_iff.1 e).1, rfl, rfl, rfl⟩
      · exact ⟨n, by rw [List.getElem?_set_ne h]; exact hc, rfl, rfl, rfl⟩
    · exact ⟨n, hc, rfl, rfl, rfl⟩

/-- sound, and the newest is a root -/
def SoundAt (ns : List Nd) (k : Nat) : Prop := Sound ns ∧ ns.length = k + 1 + 1 ∧ ∃ n, ns[k + 1]? = some n ∧ n.parent = -1

theorem SoundAt.set {ns : List Nd} {k : Nat} (h : SoundAt ns k) (i : Nat) (a b : ByteArray) : SoundAt (setS ns i a b) k := by
  obtain ⟨h1, h2, n, h3, h4⟩ := h
  obtain ⟨n', e1, e2, _⟩ := setS_parent h3 a b (i := i)
  exact ⟨h1.set i a b, (setS_length ..).trans h2, n', e1, e2.trans h4⟩
theorem SoundAt.attrs {k i : Nat} (l : List (ByteArray × ByteArray)) : ∀ {ns : List Nd}, SoundAt ns k → SoundAt (attrsS i ns l) k := by
  induction l with
  | nil => intro ns h; exact h
  | cons x l ih => intro ns h; exact ih (h.set i x.1 x.2)
theorem SoundAt.kid {ns : List Nd} {k : Nat} (h : SoundAt ns k) (x : Int) : SoundAt (kidS k ns x) k := by
  obtain ⟨h1, h2, n, h3, h4⟩ := h
  unfold kidS
  split
  · rename_i hc
    obtain ⟨c1, c2, c3⟩ := hc
    obtain ⟨m, e1, e2⟩ := rootB_some h1 c3
    obtain ⟨n', f1, f2, _⟩ := putS_parent (a := k + 1) (b := x.toNat + 1) h3 (by omega)
    exact ⟨h1.put h3 e1 (.inl (by omega)) (by omega) h4 e2, (putS_length ..).trans h2, n', f1, f2.trans h4⟩
  · exact ⟨h1, h2, n, h3, h4⟩
theorem SoundAt.kids {k : Nat} (l : List Int) : ∀ {ns : List Nd}, SoundAt ns k → SoundAt (kidsS k ns l) k := by
  induction l with
  | nil => intro ns h; exact h
  | cons x l ih => intro ns h; exact ih (h.kid x)

theorem headS_root (kind : Int) (tag text : ByteArray) : (headS kind tag text).parent = -1 ∧ (headS kind tag text).kids = [] ∧ (headS kind tag text).attrs = [] := by
  unfold headS
  split
  · exact ⟨rfl, rfl, rfl⟩
  · split <;> exact ⟨rfl, rfl, rfl⟩
theorem SoundAt.head {ns : List Nd} {k : Nat} (h : Sound ns) (hl : ns.length = k + 1) (kind : Int) (tag text : ByteArray) : SoundAt (ns ++ [headS kind tag text]) k :=
  ⟨h.snoc _ (headS_root ..).1 (headS_root ..).2.1, by simp [hl], headS kind tag text, by rw [List.getElem?_append_right (by omega), hl]; simp, (headS_root ..).1⟩
theorem bodyS_sound (ts : List Tw) : ∀ k, k ≤ ts.length → Sound (bodyS ts k)
  | 0, _ => Sound.start
  | k + 1, h => by
    have e : ts[k]? = some ts[k] := List.getElem?_eq_getElem (by omega)
    unfold bodyS
    simp only [e]
    exact (SoundAt.kids _ (SoundAt.attrs _ (SoundAt.head (bodyS_sound ts k (by omega)) (bodyS_length ts k (by omega)) ..))).1
theorem rootS_sound {ns : List Nd} (h : Sound ns) (j : Nat) : Sound (rootS ns j) := by
  unfold rootS
  split
  · rename_i hc
    obtain ⟨m, e1, e2⟩ := rootB_some h hc
    obtain ⟨d, h0, _, h2⟩ := h.doc
    exact h.put h0 e1 (.inr rfl) (by omega) h2 e2
  · exact h
theorem lastS_sound (ts : List Tw) : ∀ j, Sound (lastS ts j)
  | 0 => bodyS_sound ts _ (Nat.le_refl _)
  | j + 1 => rootS_sound (lastS_sound ts j) j

/-- a root is nobody's kid -/
theorem Sound.notKid {ns : List Nd} (h : Sound ns) {a b : Nat} {na nb : Nd} (ha : ns[a]? = some na) (hb : ns[b]? = some nb) (hr : nb.parent = -1) : (b : Int) ∉ na.kids := by
  intro hm
  obtain ⟨c, m, e1, _, _, e2, e3⟩ := h.kid a na ha _ hm
  obtain rfl : c = b := by omega
  obtain rfl := Option.some.inj (e2.symm.trans hb)
  omega

/-- what lies in a node, with it, in order -/
def und (ns : List Nd) : Nat → Nat → List Int
  | 0, _ => []
  | f + 1, i => (i : Int) :: (match ns[i]? with | some n => n.kids.flatMap fun x => und ns f x.toNat | none => [])
def rank (ns : List Nd) (i : Nat) : Nat := if i = 0 then ns.length else i
theorem Sound.rank {ns : List Nd} (h : Sound ns) {j : Nat} {n : Nd} (hj : ns[j]? = some n) {x : Int} (hx : x ∈ n.kids) : ∃ b : Nat, x = b ∧ b < ns.length ∧ rank ns b < rank ns j := by
  obtain ⟨b, m, e1, e2, e3, e4, _⟩ := h.kid j n hj x hx
  have hb := (List.getElem?_eq_some_iff.1 e4).1
  refine ⟨b, e1, hb, ?_⟩
  unfold Go.Proofs.YtlfepdecgfcifaaGreatDoor.rank
  rw [if_neg (by omega)]
  split
  · exact hb
  · omega
/-- how much lies in a node: enough room -/
theorem und_succ {ns : List Nd} {i : Nat} {n : Nd} (h : ns[i]? = some n) (f : Nat) : und ns (f + 1) i = (i : Int) :: n.kids.flatMap fun x => und ns f x.toNat := by
  simp only [und, h]
end Go.Proofs.YtlfepdecgfcifaaGreatDoor

/- The document's answer: where an attribute stands, and what Set makes of a tree. -/
namespace Go.Proofs.YtlfepdecgfcifaaGreatDoor
open Go.RowKit

/-- how much the nodes hold at most -/
def SizedN (ns : List Nd) (A K : Nat) : Prop := ∀ (j : Nat) (n : Nd), ns[j]? = some n → n.attrs.length ≤ A ∧ n.kids.length ≤ K
theorem SizedN.mono {ns : List Nd} {A K A' K' : Nat} (h : SizedN ns A K) (ha : A ≤ A') (hk : K ≤ K') : SizedN ns A' K' := fun j n hj => ⟨Nat.le_trans (h j n hj).1 ha, Nat.le_trans (h j n hj).2 hk⟩
theorem SizedN.small {ps : List Pn} {A K : Nat} (h : SizedN (nodesOf ps) A K) (ha : A ≤ 1099511627776) (hk : K ≤ 1099511627776) : Small ps := fun j p hp =>
  ⟨Nat.le_trans (h j p.n (nodes_get hp)).1 ha, Nat.le_trans (h j p.n (nodes_get hp)).2 hk⟩
theorem SizedN.snoc {ns : List Nd} {A K : Nat} (h : SizedN ns A K) (n : Nd) (ha : n.attrs = []) (hk : n.kids = []) : SizedN (ns ++ [n]) A K := by
  intro j x hx
  by_cases hj : j < ns.length
  · rw [List.getElem?_append_left hj] at hx; exact h j x hx
  · rw [List.getElem?_append_right (by omega)] at hx
    have : x = n := by
      cases hq : j - ns.length with
      | zero => rw [hq] at hx; simpa using hx.symm
      | succ q => rw [hq] at hx; simp at hx
    subst this
    rw [ha, hk]
    exact ⟨Nat.zero_le _, Nat.zero_le _⟩
theorem setAttr_le (l : List (ByteArray × ByteArray)) (name value : ByteArray) : (setAttr l name value).length ≤ l.length + 1 := by
  unfold setAttr
  split <;> simp
theorem SizedN.set {ns : List Nd} {A K : Nat} (h : SizedN ns A K) (i : Nat) (a b : ByteArray) : SizedN (setS ns i a b) (A + 1) K := by
  unfold setS
  cases e : ns[i]? with
  | none => exact h.mono (by omega) (Nat.le_refl _)
  | some n =>
    dsimp only
    split
    · intro j x hx
      by_cases hij : i = j
      · subst hij
        rw [List.getElem?_set_self (List.getElem?_eq_some_iff.1 e).1] at hx
        cases hx
        exact ⟨Nat.le_trans (setAttr_le _ _ _) (by have := (h i n e).1; omega), (h i n e).2⟩
      · rw [List.getElem?_set_ne hij] at hx
        exact (h.mono (by omega) (Nat.le_refl _)) j x hx
    · exact h.mono (by omega) (Nat.le_refl _)
theorem SizedN.put {ns : List Nd} {A K : Nat} (h : SizedN ns A K) (a b : Nat) : SizedN (putS ns a b) A (K + 1) := by
  unfold putS
  split
  · rename_i na nb ha hb
    split
    · intro j x hx
      by_cases hjb : b = j
      · subst hjb
        rw [List.getElem?_set_self (by rw [List.length_set]; exact (List.getElem?_eq_some_iff.1 hb).1)] at hx
        cases hx
        exact ⟨(h b nb hb).1, Nat.le_succ_of_le (h b nb hb).2⟩
      · rw [List.getElem?_set_ne hjb] at hx
        by_cases hja : a = j
        · subst hja
          rw [List.getElem?_set_self (List.getElem?_eq_some_iff.1 ha).1] at hx
          cases hx
          exact ⟨(h a na ha).1, by simp; exact (h a na ha).2⟩
        · rw [List.getElem?_set_ne hja] at hx
          exact (h.mono (Nat.le_refl _) (by omega)) j x hx
    · exact h.mono (Nat.le_refl _) (by omega)
  · exact h.mono (Nat.le_refl _) (by omega)

/-- behind a Set, whatever it answers -/
def RSetPost (w : World) (M : Nat → Lab) (tb : Nat) (nv : Value) (ps : List Pn) (us : List Value) (i : Nat) (name value : ByteArray) (e : Ending) (w' : World) : Prop :=
  (∃ c, e = .returned (.int .i64 c)) ∧ ∃ M' uv' ps' us', RLies w' M' tb nv uv' ps' us' ∧ Moved w M w' M' ∧ nodesOf ps' = setS (nodesOf ps) i name value ∧ us'.length ≤ us.length + 1

theorem RSetPost.stay {w : World} {M : Nat → Lab} {tb : Nat} {nv uv : Value} {ps : List Pn} {us : List Value} (h : RLies w M tb nv uv ps us) {i : Nat} {p : Pn} (hp : ps[i]? = some p) {name value : ByteArray} (hbad : ¬ (p.n.kind = 2 ∧ nameB name = true ∧ value.size ≤ 20000)) (c : Int) : RSetPost w M tb nv ps us i name value (.returned (.int .i64 c)) w :=
  ⟨⟨c, rfl⟩, M, uv, ps, us, h, Moved.refl _ _, by unfold setS; rw [nodes_get hp]; simp only [if_neg hbad], by omega⟩

theorem RSetPost.done {w w' : World} {M M' : Nat → Lab} {tb : Nat} {nv uv' : Value} {ps : List Pn} {us us' : List Value} {i : Nat} {p : Pn} (hp : ps[i]? = some p) {name value : ByteArray} (hgood : p.n.kind = 2 ∧ nameB name = true ∧ value.size ≤ 20000) {av' : Value} (h : RLies w' M' tb nv uv' (ps.set i ⟨{ p.n with attrs := setAttr p.n.attrs name value }, av', p.kv⟩) us') (m : Moved w M w' M') (hu : us'.length ≤ us.length + 1) (c : Int) : RSetPost w M tb nv ps us i name value (.returned (.int .i64 c)) w' := by
  refine ⟨⟨c, rfl⟩, M', uv', _, us', h, m, ?_, hu⟩
  unfold setS
  rw [nodes_get hp]
  simp only [if_pos hgood]
  simp [nodesOf, List.map_set]
end Go.Proofs.YtlfepdecgfcifaaGreatDoor
