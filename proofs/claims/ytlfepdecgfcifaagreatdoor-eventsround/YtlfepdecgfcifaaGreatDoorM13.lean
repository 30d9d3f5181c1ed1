/- What else holds of the tree of a list of twigs: no kid stands twice, every kind is one of four, and no node lies in another one twice. -/
import Derived.Test.YtlfepdecgfcifaaGreatDoorM12
import Derived.LoopN
namespace Go.Proofs.YtlfepdecgfcifaaGreatDoor

structure Neat (ns : List Nd) : Prop where
  nod : ∀ (j : Nat) (n : Nd), ns[j]? = some n → n.kids.Nodup
  kin : ∀ (j : Nat) (n : Nd), ns[j]? = some n → n.kind = 1 ∨ n.kind = 2 ∨ n.kind = 3 ∨ n.kind = 4

theorem Neat.snoc {ns : List Nd} (h : Neat ns) (n : Nd) (hk : n.kids = []) (hn : n.kind = 1 ∨ n.kind = 2 ∨ n.kind = 3 ∨ n.kind = 4) : Neat (ns ++ [n]) := by
  have back : ∀ (j : Nat) x, (ns ++ [n])[j]? = some x → ns[j]? = some x ∨ x = n := fun j x hx => by
    by_cases hj : j < ns.length
    · rw [List.getElem?_append_left hj] at hx; exact .inl hx
    · rw [List.getElem?_append_right (by omega)] at hx
      cases hq : j - ns.length with
      | zero => rw [hq] at hx; exact .inr (by simpa using hx.symm)
      | succ q => rw [hq] at hx; simp at hx
  refine ⟨fun j x hx => ?_, fun j x hx => ?_⟩
  · rcases back j x hx with e | e
    · exact h.nod j x e
    · subst e; rw [hk]; exact List.nodup_nil
  · rcases back j x hx with e | e
    · exact h.kin j x e
    · subst e; exact hn
theorem Neat.set {ns : List Nd} (h : Neat ns) (i : Nat) (a b : ByteArray) : Neat (setS ns i a b) := by
  unfold setS
  cases e : ns[i]? with
  | none => exact h
  | some n =>
    dsimp only
    split
    · refine ⟨fun j x hx => ?_, fun j x hx => ?_⟩
      all_goals
        by_cases hij : i = j
        · subst hij
          rw [List.getElem?_set_self (List.getElem?_eq_some_iff.1 e).1] at hx
          cases hx
          first | exact h.nod i n e | exact h.kin i n e
        · rw [List.getElem?_set_ne hij] at hx
          first | exact h.nod j x hx | exact h.kin j x hx
    · exact h
theorem Neat.put {ns : List Nd} (h : Neat ns) (a b : Nat) (hb : ∀ na, ns[a]? = some na → (b : Int) ∉ na.kids) : Neat (putS ns a b) := by
  unfold putS
  split
  · rename_i na nb ha hb'
    split
    · refine ⟨fun j x hx => ?_, fun j x hx => ?_⟩
      all_goals
        by_cases hjb : b = j
        · subst hjb
          rw [List.getElem?_set_self (by rw [List.length_set]; exact (List.getElem?_eq_some_iff.1 hb').1)] at hx
          cases hx
          first | exact h.nod b nb hb' | exact h.kin b nb hb'
        · rw [List.getElem?_set_ne hjb] at hx
          by_cases hja : a = j
          · subst hja
            rw [List.getElem?_set_self (List.getElem?_eq_some_iff.1 ha).1] at hx
            cases hx
            first
              | exact h.kin a na ha
              | (refine List.nodup_append.2 ⟨h.nod a na ha, by simp, fun x hx y hy e => ?_⟩; simp at hy; subst hy; subst e; exact hb na ha hx)
          · rw [List.getElem?_set_ne hja] at hx
            first | exact h.nod j x hx | exact h.kin j x hx
    · exact h
  · exact h

theorem Neat.kid {ns : List Nd} {k : Nat} (h : Neat ns) (hs : SoundAt ns k) (x : Int) : Neat (kidS k ns x) := by
  unfold kidS
  split
  · rename_i hc
    obtain ⟨m, e1, e2⟩ := rootB_some hs.1 hc.2.2
    exact h.put _ _ fun na ha => hs.1.notKid ha e1 e2
  · exact h
theorem Neat.root {ns : List Nd} (h : Neat ns) (hs : Sound ns) (j : Nat) : Neat (rootS ns j) := by
  unfold rootS
  split
  · rename_i hc
    obtain ⟨m, e1, e2⟩ := rootB_some hs hc
    exact h.put _ _ fun na ha => hs.notKid ha e1 e2
  · exact h
theorem Neat.attrs {i : Nat} (l : List (ByteArray × ByteArray)) : ∀ {ns : List Nd}, Neat ns → Neat (attrsS i ns l) := by
  induction l with
  | nil => intro ns h; exact h
  | cons x l ih => intro ns h; exact ih (h.set i x.1 x.2)
theorem Neat.kids {k : Nat} (l : List Int) : ∀ {ns : List Nd}, Neat ns → SoundAt ns k → Neat (kidsS k ns l) := by
  induction l with
  | nil => intro ns h _; exact h
  | cons x l ih => intro ns h hs; exact ih (h.kid hs x) (hs.kid x)
theorem headS_kind (kind : Int) (tag text : ByteArray) : (headS kind tag text).kind = 1 ∨ (headS kind tag text).kind = 2 ∨ (headS kind tag text).kind = 3 ∨ (headS kind tag text).kind = 4 := by
  unfold headS
  split
  · simp
  · split <;> simp
theorem bodyS_neat (ts : List Tw) : ∀ k, k ≤ ts.length → Neat (bodyS ts k)
  | 0, _ => by
    refine ⟨fun j n h => ?_, fun j n h => ?_⟩
    all_goals
      rcases Nat.eq_zero_or_pos j with e | e
      · subst e; cases h; simp
      · unfold bodyS at h; rw [List.getElem?_eq_none (by simp; omega)] at h; cases h
  | k + 1, h => by
    have e : ts[k]? = some ts[k] := List.getElem?_eq_getElem (by omega)
    unfold bodyS
    simp only [e]
    have s1 := SoundAt.head (bodyS_sound ts k (by omega)) (bodyS_length ts k (by omega)) (ts[k]).kind (ts[k]).tag (ts[k]).text
    exact Neat.kids _ (Neat.attrs _ ((bodyS_neat ts k (by omega)).snoc _ (headS_root ..).2.1 (headS_kind ..))) (SoundAt.attrs _ s1)
theorem lastS_neat (ts : List Tw) : ∀ j, Neat (lastS ts j)
  | 0 => bodyS_neat ts _ (Nat.le_refl _)
  | j + 1 => (lastS_neat ts j).root (lastS_sound ts j) j

/-- a node lies in another one, or is it -/
inductive Anc (ns : List Nd) : Nat → Nat → Prop where
  | refl (i : Nat) : Anc ns i i
  | step {x p i : Nat} {n m : Nd} (hx : ns[x]? = some n) (hp : n.parent = p) (hm : ns[p]? = some m) (hk : (x : Int) ∈ m.kids) (h : Anc ns p i) : Anc ns x i

theorem Anc.trans {ns : List Nd} {x y z : Nat} (h : Anc ns x y) (k : Anc ns y z) : Anc ns x z := by
  induction h with
  | refl => exact k
  | step hx hp hm hk _ ih => exact .step hx hp hm hk (ih k)
theorem Anc.rank_le {ns : List Nd} (hs : Sound ns) {x i : Nat} (h : Anc ns x i) : rank ns x ≤ rank ns i := by
  induction h with
  | refl => exact Nat.le_refl _
  | step hx hp hm hk _ ih =>
    obtain ⟨b, e1, _, e2⟩ := hs.rank hm hk
    have e3 := Int.ofNat.inj e1
    subst e3
    omega
theorem Anc.or {ns : List Nd} {x b c : Nat} (h : Anc ns x b) (k : Anc ns x c) : Anc ns b c ∨ Anc ns c b := by
  induction h with
  | refl => exact .inl k
  | step hx hp hm hk h ih =>
    cases k with
    | refl => exact .inr (.step hx hp hm hk h)
    | step hx' hp' hm' hk' k' =>
      obtain rfl := Option.some.inj (hx.symm.trans hx')
      have e := Int.ofNat.inj (hp.symm.trans hp')
      subst e
      exact ih k'

theorem und_anc {ns : List Nd} (hs : Sound ns) : ∀ (f i : Nat), i < ns.length → ∀ x ∈ und ns f i, ∃ b : Nat, x = b ∧ b < ns.length ∧ Anc ns b i := by
  intro f
  induction f with
  | zero => intro i _ x hx; cases hx
  | succ f ih =>
    intro i hi x hx
    have hn : ns[i]? = some ns[i] := List.getElem?_eq_getElem hi
    rw [und_succ hn] at hx
    rcases List.mem_cons.1 hx with e | hx
    · exact ⟨i, e, hi, .refl i⟩
    · obtain ⟨y, hy, hxy⟩ := List.mem_flatMap.1 hx
      obtain ⟨b, m, e1, e2, e3, e4, e5⟩ := hs.kid i _ hn y hy
      subst e1
      have hb := (List.getElem?_eq_some_iff.1 e4).1
      obtain ⟨c, f1, f2, f3⟩ := ih b hb x hxy
      exact ⟨c, f1, f2, f3.trans (.step e4 e5 hn hy (.refl i))⟩

theorem und_nodup {ns : List Nd} (hs : Sound ns) (hn : Neat ns) : ∀ (f i : Nat), i < ns.length → (und ns f i).Nodup := by
  intro f
  induction f with
  | zero => intro i _; exact List.nodup_nil
  | succ f ih =>
    intro i hi
    have hg : ns[i]? = some ns[i] := List.getElem?_eq_getElem hi
    rw [und_succ hg, List.nodup_cons]
    -- a kid, and what lies in it
    have kid : ∀ y ∈ (ns[i]).kids, ∃ b : Nat, y = b ∧ b < ns.length ∧ rank ns b < rank ns i ∧ ∀ x ∈ und ns f y.toNat, ∃ c : Nat, x = c ∧ Anc ns c b := by
      intro y hy
      obtain ⟨b, e1, e2, e3⟩ := hs.rank hg hy
      refine ⟨b, e1, e2, e3, fun x hx => ?_⟩
      subst e1
      obtain ⟨c, f1, _, f3⟩ := und_anc hs f b e2 x hx
      exact ⟨c, f1, f3⟩
    refine ⟨fun hm => ?_, ?_⟩
    · obtain ⟨y, hy, hx⟩ := List.mem_flatMap.1 hm
      obtain ⟨b, _, _, e3, e4⟩ := kid y hy
      obtain ⟨c, f1, f2⟩ := e4 _ hx
      have e5 := Int.ofNat.inj f1
      subst e5
      have := f2.rank_le hs
      omega
    · have flat : ∀ l : List Int, l.Nodup → (∀ y ∈ l, y ∈ (ns[i]).kids) → (l.flatMap fun x => und ns f x.toNat).Nodup := by
        intro l
        induction l with
        | nil => intro _ _; exact List.nodup_nil
        | cons y l il =>
          intro hl hsub
          rw [List.flatMap_cons, List.nodup_append]
          obtain ⟨hy, hl'⟩ := List.nodup_cons.1 hl
          obtain ⟨b, e1, e2, e3, e4⟩ := kid y (hsub y (List.mem_cons_self ..))
          refine ⟨by subst e1; exact ih b e2, il hl' fun z hz => hsub z (List.mem_cons_of_mem _ hz), ?_⟩
          intro x hx z hz hxz
          subst hxz
          obtain ⟨u, hu, hxu⟩ := List.mem_flatMap.1 hz
          obtain ⟨c, g1, g2, g3, g4⟩ := kid u (hsub u (List.mem_cons_of_mem _ hu))
          obtain ⟨p, p1, p2⟩ := e4 x hx
          obtain ⟨q, q1, q2⟩ := g4 x hxu
          have epq := Int.ofNat.inj (p1.symm.trans q1)
          subst epq
          have hne : b ≠ c := fun e => hy (by rw [e1, e, ← g1]; exact hu)
          -- two kids of one node, one in the other
          have no : ∀ b c : Nat, (b : Int) ∈ (ns[i]).kids → rank ns c < rank ns i → b ≠ c → ¬ Anc ns b c := by
            intro b c hb hc hbc ha
            cases ha with
            | refl => exact hbc rfl
            | step hx' hp' hm' hk' k' =>
              obtain ⟨b', m, r1, _, _, r4, r5⟩ := hs.kid i _ hg _ hb
              have r6 := Int.ofNat.inj r1
              subst r6
              obtain rfl := Option.some.inj (hx'.symm.trans r4)
              have r7 := Int.ofNat.inj (hp'.symm.trans r5)
              subst r7
              have := k'.rank_le hs
              omega
          rcases p2.or q2 with h1 | h1
          · exact no b c (e1 ▸ hsub y (List.mem_cons_self ..)) g3 hne h1
          · exact no c b (g1 ▸ hsub u (List.mem_cons_of_mem _ hu)) e3 (Ne.symm hne) h1
      exact flat _ (hn.nod i _ hg) fun _ h => h

theorem short {N : Nat} : ∀ (l : List Int), l.Nodup → (∀ x ∈ l, ∃ b : Nat, x = b ∧ b < N) → l.length ≤ N := by
  induction N with
  | zero =>
    intro l _ h
    cases l with
    | nil => exact Nat.le_refl _
    | cons x l => obtain ⟨b, _, h2⟩ := h x (List.mem_cons_self ..); omega
  | succ N ih =>
    intro l hl h
    have h1 := ih (l.erase (N : Int)) (hl.erase _) (fun x hx => by
      have hx' := (List.Nodup.mem_erase_iff hl).1 hx
      obtain ⟨b, e1, e2⟩ := h x hx'.2
      refine ⟨b, e1, ?_⟩
      have : b ≠ N := fun e => hx'.1 (by rw [e1, e])
      omega)
    by_cases hm : (N : Int) ∈ l
    · rw [List.length_erase_of_mem hm] at h1
      omega
    · rw [List.erase_of_not_mem hm] at h1
      omega

theorem und_short {ns : List Nd} (hs : Sound ns) (hn : Neat ns) (f i : Nat) (hi : i < ns.length) : (und ns f i).length ≤ ns.length :=
  short _ (und_nodup hs hn f i hi) fun x hx => by
    obtain ⟨b, e1, e2, _⟩ := und_anc hs f i hi x hx
    exact ⟨b, e1, e2⟩
end Go.Proofs.YtlfepdecgfcifaaGreatDoor

/- The document's answer: a root becomes the last kid of another root. -/
namespace Go.Proofs.YtlfepdecgfcifaaGreatDoor
open Go.RowKit
attribute [local go_sem ↓] Go.wp_at_zero Go.wp_at_succ

set_option maxHeartbeats 1000000 in
theorem in_root {w : World} {M : Nat → Lab} {tb : Nat} {nv uv : Value} {ps : List Pn} {us : List Value} (h : RLies w M tb nv uv ps us) {a b : Nat} {pa : Pn} (ha : ps[a]? = some pa) (hab : a ≠ b) (hr : pa.n.parent = -1) :
    Calls Tryz.prog 61 #[.pointer (some ⟨tb, 0, none⟩), .int .i64 a, .int .i64 b] w fun e w' => e = .returned (.bool false) ∧ w' = w := by
  obtain ⟨nb, cap, rfl, hc, hm, _, _, hal⟩ := h.form ha
  have c0 := h.cell0
  have c4 := (h.cellN rfl (f := 4) ha (by omega) rfl).1
  rw [hr] at c4
  have i1 : (0 : Int) ≤ (a : Int) := by omega
  have i2 : (a : Int) < (ps.length : Int) := by omega
  have hne : ((a : Int) == (b : Int)) = false := by rw [beq_eq_false_iff_ne]; omega
  have hne' : ¬ ((a : Int) = (b : Int)) := by omega
  unfold maxLen at hm
  clear h ha
  go_enter Tryz.func61, Tryz.ntmps61
  go_wp2
  refine wp_loop_rounds 2 ?_
  rw [rounds_succ]
  go_wp2
  rw [rounds_succ]
  go_wp2
  go_ret
  exact ⟨rfl, rfl⟩

end Go.Proofs.YtlfepdecgfcifaaGreatDoor
