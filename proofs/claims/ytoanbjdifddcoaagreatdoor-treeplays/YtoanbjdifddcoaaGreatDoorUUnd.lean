/- What lies in a node of any tree: parents ahead of kids, no node twice. -/
import Derived.Test.YtoanbjdifddcoaaGreatDoorM16
namespace Go.Proofs.YtoanbjdifddcoaaGreatDoor

/-- what lies in a node, with it, in order -/
def und (ns : List Nd) : Nat → Nat → List Int
  | 0, _ => []
  | f + 1, i => (i : Int) :: (match ns[i]? with | some n => n.kids.flatMap fun x => und ns f x.toNat | none => [])
theorem und_succ {ns : List Nd} {i : Nat} {n : Nd} (h : ns[i]? = some n) (f : Nat) : und ns (f + 1) i = (i : Int) :: n.kids.flatMap fun x => und ns f x.toNat := by
  simp only [und, h]

/-- how far a node is from being the lowest -/
noncomputable def rkU (ns : List Nd) (i : Nat) : Nat := ns.length - (Classical.epsilon fun l => Up ns i l).length
theorem rkU_eq {ns : List Nd} {i : Nat} {l : List Nat} (h : Up ns i l) : rkU ns i = ns.length - l.length := by
  have := Classical.epsilon_spec (p := fun l => Up ns i l) ⟨l, h⟩
  unfold rkU
  rw [this.det h]
theorem WF.rank {ns : List Nd} (h : WF ns) {j : Nat} {n : Nd} (hj : ns[j]? = some n) {x : Int} (hx : x ∈ n.kids) : ∃ (b : Nat) (m : Nd), x = b ∧ b < ns.length ∧ ns[b]? = some m ∧ m.parent = j ∧ rkU ns b < rkU ns j := by
  obtain ⟨b, m, e1, e2, e3⟩ := h.kid j n hj x hx
  obtain ⟨l, hl⟩ := h.up j n hj
  have hb : Up ns b (b :: l) := .up e2 e3 hl
  have hs := hb.short
  simp at hs
  refine ⟨b, m, e1, (List.getElem?_eq_some_iff.1 e2).1, e2, e3, ?_⟩
  rw [rkU_eq hb, rkU_eq hl]
  simp
  omega
theorem rkU_le (ns : List Nd) (i : Nat) : rkU ns i ≤ ns.length := Nat.sub_le _ _

/-- a node lies in another one, or is it -/
inductive Anc (ns : List Nd) : Nat → Nat → Prop where
  | refl (i : Nat) : Anc ns i i
  | step {x p i : Nat} {n m : Nd} (hx : ns[x]? = some n) (hp : n.parent = p) (hm : ns[p]? = some m) (hk : (x : Int) ∈ m.kids) (h : Anc ns p i) : Anc ns x i
theorem Anc.trans {ns : List Nd} {x y z : Nat} (h : Anc ns x y) (k : Anc ns y z) : Anc ns x z := by
  induction h with
  | refl => exact k
  | step hx hp hm hk _ ih => exact .step hx hp hm hk (ih k)
theorem Anc.rank_le {ns : List Nd} (hs : WF ns) {x i : Nat} (h : Anc ns x i) : rkU ns x ≤ rkU ns i := by
  induction h with
  | refl => exact Nat.le_refl _
  | step hx hp hm hk _ ih =>
    obtain ⟨b, m, e1, _, _, _, e2⟩ := hs.rank hm hk
    have e3 := Int.ofNat.inj e1
    subst e3
    omega
theorem Anc.or {ns : List Nd} {x b c : Nat} (h : Anc ns x b) (k : Anc ns x c) : Anc ns b c ∨ Anc ns c b := by
  induction h with
  | refl => exact .inl k
  | step hx hp hm hk h ih =>
    cases k with
    | refl => exact .inr (.step hx hp hm hk h)
    | step hx' hp' hm' hk' k' =>
      obtain rfl := Option.some.inj (hx.symm.trans hx')
      have e := Int.ofNat.inj (hp.symm.trans hp')
      subst e
      exact ih k'
theorem und_anc {ns : List Nd} (hs : WF ns) : ∀ (f i : Nat), i < ns.length → ∀ x ∈ und ns f i, ∃ b : Nat, x = b ∧ b < ns.length ∧ Anc ns b i := by
  intro f
  induction f with
  | zero => intro i _ x hx; cases hx
  | succ f ih =>
    intro i hi x hx
    have hn : ns[i]? = some ns[i] := List.getElem?_eq_getElem hi
    rw [und_succ hn] at hx
    rcases List.mem_cons.1 hx with e | hx
    · exact ⟨i, e, hi, .refl i⟩
    · obtain ⟨y, hy, hxy⟩ := List.mem_flatMap.1 hx
      obtain ⟨b, m, e1, hb, e4, e5, _⟩ := hs.rank hn hy
      subst e1
      obtain ⟨c, f1, f2, f3⟩ := ih b hb x hxy
      exact ⟨c, f1, f2, f3.trans (.step e4 e5 hn hy (.refl i))⟩
theorem und_nodup {ns : List Nd} (hs : WF ns) : ∀ (f i : Nat), i < ns.length → (und ns f i).Nodup := by
  intro f
  induction f with
  | zero => intro i _; exact List.nodup_nil
  | succ f ih =>
    intro i hi
    have hg : ns[i]? = some ns[i] := List.getElem?_eq_getElem hi
    rw [und_succ hg, List.nodup_cons]
    have kid : ∀ y ∈ (ns[i]).kids, ∃ b : Nat, y = b ∧ b < ns.length ∧ rkU ns b < rkU ns i ∧ ∀ x ∈ und ns f y.toNat, ∃ c : Nat, x = c ∧ Anc ns c b := by
      intro y hy
      obtain ⟨b, m, e1, e2, _, _, e3⟩ := hs.rank hg hy
      refine ⟨b, e1, e2, e3, fun x hx => ?_⟩
      subst e1
      obtain ⟨c, f1, _, f3⟩ := und_anc hs f b e2 x hx
      exact ⟨c, f1, f3⟩
    refine ⟨fun hm => ?_, ?_⟩
    · obtain ⟨y, hy, hx⟩ := List.mem_flatMap.1 hm
      obtain ⟨b, _, _, e3, e4⟩ := kid y hy
      obtain ⟨c, f1, f2⟩ := e4 _ hx
      have e5 := Int.ofNat.inj f1
      subst e5
      have := f2.rank_le hs
      omega
    · have flat : ∀ l : List Int, l.Nodup → (∀ y ∈ l, y ∈ (ns[i]).kids) → (l.flatMap fun x => und ns f x.toNat).Nodup := by
        intro l
        induction l with
        | nil => intro _ _; exact List.nodup_nil
        | cons y l il =>
          intro hl hsub
          rw [List.flatMap_cons, List.nodup_append]
          obtain ⟨hy, hl'⟩ := List.nodup_cons.1 hl
          obtain ⟨b, e1, e2, e3, e4⟩ := kid y (hsub y (List.mem_cons_self ..))
          refine ⟨by subst e1; exact ih b e2, il hl' fun z hz => hsub z (List.mem_cons_of_mem _ hz), ?_⟩
          intro x hx z hz hxz
          subst hxz
          obtain ⟨u, hu, hxu⟩ := List.mem_flatMap.1 hz
          obtain ⟨c, g1, g2, g3, g4⟩ := kid u (hsub u (List.mem_cons_of_mem _ hu))
          obtain ⟨p, p1, p2⟩ := e4 x hx
          obtain ⟨q, q1, q2⟩ := g4 x hxu
          have epq := Int.ofNat.inj (p1.symm.trans q1)
          subst epq
          have hne : b ≠ c := fun e => hy (by rw [e1, e, ← g1]; exact hu)
          have no : ∀ b c : Nat, (b : Int) ∈ (ns[i]).kids → rkU ns c < rkU ns i → b ≠ c → ¬ Anc ns b c := by
            intro b c hb hc hbc ha
            cases ha with
            | refl => exact hbc rfl
            | step hx' hp' hm' hk' k' =>
              obtain ⟨b', m, r1, _, r4, r5, _⟩ := hs.rank hg hb
              have r6 := Int.ofNat.inj r1
              subst r6
              obtain rfl := Option.some.inj (hx'.symm.trans r4)
              have r7 := Int.ofNat.inj (hp'.symm.trans r5)
              subst r7
              have := k'.rank_le hs
              omega
          rcases p2.or q2 with h1 | h1
          · exact no b c (e1 ▸ hsub y (List.mem_cons_self ..)) g3 hne h1
          · exact no c b (g1 ▸ hsub u (List.mem_cons_of_mem _ hu)) e3 (Ne.symm hne) h1
      exact flat _ (hs.nodup i _ hg) fun _ h => h
theorem und_short {ns : List Nd} (hs : WF ns) (f i : Nat) (hi : i < ns.length) : (und ns f i).length ≤ ns.length :=
  short _ (und_nodup hs f i hi) fun x hx => by
    obtain ⟨b, e1, e2, _⟩ := und_anc hs f i hi x hx
    exact ⟨b, e1, e2⟩

/-- each but the first stands behind its parent -/
theorem und_pre {ns : List Nd} (hs : WF ns) : ∀ (f i : Nat), i < ns.length → ∀ (k : Nat) (x : Int), (und ns f i)[k]? = some x → 0 < k → ∃ (c : Nat) (n : Nd), x = c ∧ ns[c]? = some n ∧ n.parent ∈ (und ns f i).take k := by
  intro f
  induction f with
  | zero => intro i _ k x hx; simp [und] at hx
  | succ f ih =>
    intro i hi k x hx hk
    have hg : ns[i]? = some ns[i] := List.getElem?_eq_getElem hi
    rw [und_succ hg] at hx ⊢
    have flat : ∀ l : List Int, (∀ y ∈ l, y ∈ (ns[i]).kids) → ∀ (A : List Int), (i : Int) ∈ A → ∀ (k : Nat) (x : Int), (l.flatMap fun x => und ns f x.toNat)[k]? = some x → ∃ (c : Nat) (n : Nd), x = c ∧ ns[c]? = some n ∧ n.parent ∈ A ++ (l.flatMap fun x => und ns f x.toNat).take k := by
      intro l
      induction l with
      | nil => intro _ A _ k x hx; simp at hx
      | cons y l il =>
        intro hsub A hA k x hx
        rw [List.flatMap_cons] at hx ⊢
        obtain ⟨b, m, e1, e2, e3, e4, _⟩ := hs.rank hg (hsub y (List.mem_cons_self ..))
        subst e1
        rw [Int.toNat_natCast] at hx ⊢
        by_cases hlt : k < (und ns f b).length
        · rw [List.getElem?_append_left hlt] at hx
          rw [List.take_append_of_le_length (by omega)]
          rcases Nat.eq_zero_or_pos k with h0 | h0
          · subst h0
            cases f with
            | zero => simp [und] at hx
            | succ f =>
              have : x = b := by simpa [und] using hx.symm
              exact ⟨b, m, this, e3, List.mem_append_left _ (by rw [e4]; exact hA)⟩
          · obtain ⟨c, n, g1, g2, g3⟩ := ih b e2 k x hx h0
            exact ⟨c, n, g1, g2, List.mem_append_right _ g3⟩
        · rw [List.getElem?_append_right (by omega)] at hx
          obtain ⟨c, n, g1, g2, g3⟩ := il (fun z hz => hsub z (List.mem_cons_of_mem _ hz)) A hA _ x hx
          refine ⟨c, n, g1, g2, ?_⟩
          rw [List.take_append]
          rcases List.mem_append.1 g3 with g3 | g3
          · exact List.mem_append_left _ g3
          · exact List.mem_append_right _ (List.mem_append_right _ g3)
    obtain ⟨k', rfl⟩ : ∃ k', k = k' + 1 := ⟨k - 1, by omega⟩
    rw [List.getElem?_cons_succ] at hx
    obtain ⟨c, n, g1, g2, g3⟩ := flat _ (fun _ h => h) [(i : Int)] (by simp) k' x hx
    exact ⟨c, n, g1, g2, by simpa using g3⟩
end Go.Proofs.YtoanbjdifddcoaaGreatDoor
