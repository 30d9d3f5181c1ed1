/- What else holds of the tree of a list of twigs: no kid stands twice, every kind is one of four, and no node lies in another one twice. -/
import Derived.Test.YtlfepdecgfcifaaGreatDoorM08
import Derived.LoopN
namespace Go.Proofs.YtlfepdecgfcifaaGreatDoor

structure Neat (ns : List Nd) : Prop where
  nod : ∀ (j : Nat) (n : Nd), ns[j]? = some n → n.kids.Nodup
  kin : ∀ (j : Nat) (n : Nd), ns[j]? = some n → n.kind = 1 ∨ n.kind = 2 ∨ n.kind = 3 ∨ n.kind = 4

theorem Neat.snoc {ns : List Nd} (h : Neat ns) (n : Nd) (hk : n.kids = []) (hn : n.kind = 1 ∨ n.kind = 2 ∨ n.kind = 3 ∨ n.kind = 4) : Neat (ns ++ [n]) := by
  have back : ∀ (j : Nat) x, (ns ++ [n])[j]? = some x → ns[j]? = some x ∨ x = n := fun j x hx => by
    by_cases hj : j < ns.length
    · rw [List.getElem?_append_left hj] at hx; exact .inl hx
    · rw [List.getElem?_append_right (by omega)] at hx
      cases hq : j - ns.length with
      | zero => rw [hq] at hx; exact .inr (by simpa using hx.symm)
      | succ q => rw [hq] at hx; simp at hx
  refine ⟨fun j x hx => ?_, fun j x hx => ?_⟩
  · rcases back j x hx with e | e
    · exact h.nod j x e
    · subst e; rw [hk]; exact List.nodup_nil
  · rcases back j x hx with e | e
    · exact h.kin j x e
    · subst e; exact hn
theorem Neat.set {ns : List Nd} (h : Neat ns) (i : Nat) (a b : ByteArray) : Neat (setS ns i a b) := by
  unfold setS
  cases e : ns[i]? with
  | none => exact h
  | some n =>
    dsimp only
    split
    · refine ⟨fun j x hx => ?_, fun j x hx => ?_⟩
      all_goals
        by_cases hij : i = j
        · subst hij
          rw [List.getElem?_set_self (List.getElem?_eq_some_iff.1 e).1] at hx
          cases hx
          first | exact h.nod i n e | exact h.kin i n e
        · rw [List.getElem?_set_ne hij] at hx
          first | exact h.nod j x hx | exact h.kin j x hx
    · exact h
theorem Neat.put {ns : List Nd} (h : Neat ns) (a b : Nat) (hb : ∀ na, ns[a]? = some na → (b : Int) ∉ na.kids) : Neat (putS ns a b) := by
  unfold putS
  split
  · rename_i na nb ha hb'
    split
    · refine ⟨fun j x hx => ?_, fun j x hx => ?_⟩
      all_goals
        by_cases hjb : b = j
        · subst hjb
          rw [List.getElem?_set_self (by rw [List.length_set]; exact (List.getElem?_eq_some_iff.1 hb').1)] at hx
          cases hx
          first | exact h.nod b nb hb' | exact h.kin b nb hb'
        · rw [List.getElem?_set_ne hjb] at hx
          by_cases hja : a = j
          · subst hja
            rw [List.getElem?_set_self (List.getElem?_eq_some_iff.1 ha).1] at hx
            cases hx
            first
              | exact h.kin a na ha
              | (refine List.nodup_append.2 ⟨h.nod a na ha, by simp, fun x hx y hy e => ?_⟩; simp at hy; subst hy; subst e; exact hb na ha hx)
          · rw [List.getElem?_set_ne hja] at hx
            first | exact h.nod j x hx | exact h.kin j x hx
    · exact h
  · exact h

theorem Neat.kid {ns : List Nd} {k : Nat} (h : Neat ns) (hs : SoundAt ns k) (x : Int) : Neat (kidS k ns x) := by
  unfold kidS
  split
  · rename_i hc
    obtain ⟨m, e1, e2⟩ := rootB_some hs.1 hc.2.2
    exact h.put _ _ fun na ha => hs.1.notKid ha e1 e2
  · exact h
theorem Neat.root {ns : List Nd} (h : Neat ns) (hs : Sound ns) (j : Nat) : Neat (rootS ns j) := by
  unfold rootS
  split
  · rename_i hc
    obtain ⟨m, e1, e2⟩ := rootB_some hs hc
    exact h.put _ _ fun na ha => hs.notKid ha e1 e2
  · exact h
theorem Neat.attrs {i : Nat} (l : List (ByteArray × ByteArray)) : ∀ {ns : List Nd}, Neat ns → Neat (attrsS i ns l) := by
  induction l with
  | nil => intro ns h; exact h
  | cons x l ih => intro ns h; exact ih (h.set i x.1 x.2)
theorem Neat.kids {k : Nat} (l : List Int) : ∀ {ns : List Nd}, Neat ns → SoundAt ns k → Neat (kidsS k ns l) := by
  induction l with
  | nil => intro ns h _; exact h
  | cons x l ih => intro ns h hs; exact ih (h.kid hs x) (hs.kid x)
theorem headS_kind (kind : Int) (tag text : ByteArray) : (headS kind tag text).kind = 1 ∨ (headS kind tag text).kind = 2 ∨ (headS kind tag text).kind = 3 ∨ (headS kind tag text).kind = 4 := by
  unfold headS
  split
  · simp
  · split <;> simp
theorem bodyS_neat (ts : List Tw) : ∀ k, k ≤ ts.length → Neat (bodyS ts k)
  | 0, _ => by
    refine ⟨fun j n h => ?_, fun j n h => ?_⟩
    all_goals
      rcases Nat.eq_zero_or_pos j with e | e
      · subst e; cases h; simp
      · unfold bodyS at h; rw [List.getElem?_eq_none (by simp; omega)] at h; cases h
  | k + 1, h => by
    have e : ts[k]? = some ts[k] := List.getElem?_eq_getElem (by omega)
    unfold bodyS
    simp only [e]
    have s1 := SoundAt.head (bodyS_sound ts k (by omega)) (bodyS_length ts k (by omega)) (ts[k]).kind (ts[k]).tag (ts[k]).text
    exact Neat.kids _ (Neat.attrs _ ((bodyS_neat ts k (by omega)).snoc _ (headS_root ..).2.1 (headS_kind ..))) (SoundAt.attrs _ s1)
theorem lastS_neat (ts : List Tw) : ∀ j, Neat (lastS ts j)
  | 0 => bodyS_neat ts _ (Nat.le_refl _)
  | j + 1 => (lastS_neat ts j).root (lastS_sound ts j) j

/-- a node lies in another one, or is it -/
inductive Anc (ns : List Nd) : Nat → Nat → Prop where
  | refl (i : Nat) : Anc ns i i
  | step {x p i : Nat} {n m : Nd} (hx : ns[x]? = some n) (hp : n.parent = p) (hm : ns[p]? = some m) (hk : (x : Int) ∈ m.kids) (h : Anc ns p i) : Anc ns x i

theorem Anc.trans {ns : List Nd} {x y z : Nat} (h : Anc ns x y) (k : Anc ns y z) : Anc ns x z := by
  induction h with
  | refl => exact k
  | step hx hp hm hk _ ih => exact .step hx hp hm hk (ih k)
theorem Anc.rank_le {ns : List Nd} (hs : Sound ns) {x i : Nat} (h : Anc ns x i) : rank ns x ≤ rank ns i := by
  induction h with
  | refl => exact Nat.le_refl _
  | step hx hp hm hk _ ih =>
    obtain ⟨b, e1, _, e2⟩ := hs.rank hm hk
    have e3 := Int.ofNat.inj e1
    subst e3
    omega
theorem Anc.or {ns : List Nd} {x b c : Nat} (h : Anc ns x b) (k : Anc ns x c) : Anc ns b c ∨ Anc ns c b := by
  induction h with
  | refl => exact .inl k
  | step hx hp hm hk h ih =>
    cases k with
    | refl => exact .inr (.step hx hp hm hk h)
    | step hx' hp' hm' hk' k' =>
      obtain rfl := Option.some.inj (hx.symm.trans hx')
      have e := Int.ofNat.inj (hp.symm.trans hp')
      subst e
      exact ih k'

theorem und_anc {ns : List Nd} (hs : Sound ns) : ∀ (f i : Nat), i < ns.length → ∀ x ∈ und ns f i, ∃ b : Nat, x = b ∧ b < ns.length ∧ Anc ns b i := by
  intro f
  induction f with
  | zero => intro i _ x hx; cases hx
  | succ f ih =>
    intro i hi x hx
    have hn : ns[i]? = some ns[i] := List.getElem?_eq_getElem hi
    rw [und_succ hn] at hx
    rcases List.mem_cons.1 hx with e | hx
    · exact ⟨i, e, hi, .refl i⟩
    · obtain ⟨y, hy, hxy⟩ := List.mem_flatMap.1 hx
      obtain ⟨b, m, e1, e2, e3, e4, e5⟩ := hs.kid i _ hn y hy
      subst e1
      have hb := (List.getElem?_eq_some_iff.1 e4).1
      obtain ⟨c, f1, f2, f3⟩ := ih b hb x hxy
      exact ⟨c, f1, f2, f3.trans (.step e4 e5 hn hy (.refl i))⟩

theorem und_nodup {ns : List Nd} (hs : Sound ns) (hn : Neat ns) : ∀ (f i : Nat), i < ns.length → (und ns f i).Nodup := by
  intro f
  induction f with
  | zero => intro i _; exact List.nodup_nil
  | succ f ih =>
    intro i hi
    have hg : ns[i]? = some ns[i] := List.getElem?_eq_getElem hi
    rw [und_succ hg, List.nodup_cons]
    -- a kid, and what lies in it
    have kid : ∀ y ∈ (ns[i]).kids, ∃ b : Nat, y = b ∧ b < ns.length ∧ rank ns b < rank ns i ∧ ∀ x ∈ und ns f y.toNat, ∃ c : Nat, x = c ∧ Anc ns c b := by
      intro y hy
      obtain ⟨b, e1, e2, e3⟩ := hs.rank hg hy
      refine ⟨b, e1, e2, e3, fun x hx => ?_⟩
      subst e1
      obtain ⟨c, f1, _, f3⟩ := und_anc hs f b e2 x hx
      exact ⟨c, f1, f3⟩
    refine ⟨fun hm => ?_, ?_⟩
    · obtain ⟨y, hy, hx⟩ := List.mem_flatMap.1 hm
      obtain ⟨b, _, _, e3, e4⟩ := kid y hy
      obtain ⟨c, f1, f2⟩ := e4 _ hx
      have e5 := Int.ofNat.inj f1
      subst e5
      have := f2.rank_le hs
      omega
    · have flat : ∀ l : List Int, l.Nodup → (∀ y ∈ l, y ∈ (ns[i]).kids) → (l.flatMap fun x => und ns f x.toNat).Nodup := by
        intro l
        induction l with
        | nil => intro _ _; exact List.nodup_nil
        | cons y l il =>
          intro hl hsub
          rw [List.flatMap_cons, List.nodup_append]
          obtain ⟨hy, hl'⟩ := List.nodup_cons.1 hl
          obtain ⟨b, e1, e2, e3, e4⟩ := kid y (hsub y (List.mem_cons_self ..))
          refine ⟨by subst e1; exact ih b e2, il hl' fun z hz => hsub z (List.mem_cons_of_mem _ hz), ?_⟩
          intro x hx z hz hxz
          subst hxz
          obtain ⟨u, hu, hxu⟩ := List.mem_flatMap.1 hz
          obtain ⟨c, g1, g2, g3, g4⟩ := kid u (hsub u (List.mem_cons_of_mem _ hu))
          obtain ⟨p, p1, p2⟩ := e4 x hx
          obtain ⟨q, q1, q2⟩ := g4 x hxu
          have epq := Int.ofNat.inj (p1.symm.trans q1)
          subst epq
          have hne : b ≠ c := fun e => hy (by rw [e1, e, ← g1]; exact hu)
          -- two kids of one node, one in the other
          have no : ∀ b c : Nat, (b : Int) ∈ (ns[i]).kids → rank ns c < rank ns i → b ≠ c → ¬ Anc ns b c := by
            intro b c hb hc hbc ha
            cases ha with
            | refl => exact hbc rfl
            | step hx' hp' hm' hk' k' =>
              obtain ⟨b', m, r1, _, _, r4, r5⟩ := hs.kid i _ hg _ hb
              have r6 := Int.ofNat.inj r1
              subst r6
              obtain rfl := Option.some.inj (hx'.symm.trans r4)
              have r7 := Int.ofNat.inj (hp'.symm.trans r5)
              subst r7
              have := k'.rank_le hs
              omega
          rcases p2.or q2 with h1 | h1
          · exact no b c (e1 ▸ hsub y (List.mem_cons_self ..)) g3 hne h1
          · exact no c b (g1 ▸ hsub u (List.mem_cons_of_mem _ hu)) e3 (Ne.symm hne) h1
      exact flat _ (hn.nod i _ hg) fun _ h => h

theorem short {N : Nat} : ∀ (l : List Int), l.Nodup → (∀ x ∈ l, ∃ b : Nat, x = b ∧ b < N) → l.length ≤ N := by
  induction N with
  | zero =>
    intro l _ h
    cases l with
    | nil => exact Nat.le_refl _
    | cons x l => obtain ⟨b, _, h2⟩ := h x (List.mem_cons_self ..); omega
  | succ N ih =>
    intro l hl h
    have h1 := ih (l.erase (N : Int)) (hl.erase _) (fun x hx => by
      have hx' := (List.Nodup.mem_erase_iff hl).1 hx
      obtain ⟨b, e1, e2⟩ := h x hx'.2
      refine ⟨b, e1, ?_⟩
      have : b ≠ N := fun e => hx'.1 (by rw [e1, e])
      omega)
    by_cases hm : (N : Int) ∈ l
    · rw [List.length_erase_of_mem hm] at h1
      omega
    · rw [List.erase_of_not_mem hm] at h1
      omega

theorem und_short {ns : List Nd} (hs : Sound ns) (hn : Neat ns) (f i : Nat) (hi : i < ns.length) : (und ns f i).length ≤ ns.length :=
  short _ (und_nodup hs hn f i hi) fun x hx => by
    obtain ⟨b, e1, e2, _⟩ := und_anc hs f i hi x hx
    exact ⟨b, e1, e2⟩
end Go.Proofs.YtlfepdecgfcifaaGreatDoor

/- The document's answer: a root becomes the last kid of another root. -/
namespace Go.Proofs.YtlfepdecgfcifaaGreatDoor
open Go.RowKit
attribute [local go_sem ↓] Go.wp_at_zero Go.wp_at_succ

set_option maxHeartbeats 1000000 in
theorem in_root {w : World} {M : Nat → Lab} {tb : Nat} {nv uv : Value} {ps : List Pn} {us : List Value} (h : RLies w M tb nv uv ps us) {a b : Nat} {pa : Pn} (ha : ps[a]? = some pa) (hab : a ≠ b) (hr : pa.n.parent = -1) :
    Calls Tryz.prog 61 #[.pointer (some ⟨tb, 0, none⟩), .int .i64 a, .int .i64 b] w fun e w' => e = .returned (.bool false) ∧ w' = w := by
  obtain ⟨nb, cap, rfl, hc, hm, _, _, hal⟩ := h.form ha
  have c0 := h.cell0
  have c4 := (h.cellN rfl (f := 4) ha (by omega) rfl).1
  rw [hr] at c4
  have i1 : (0 : Int) ≤ (a : Int) := by omega
  have i2 : (a : Int) < (ps.length : Int) := by omega
  have hne : ((a : Int) == (b : Int)) = false := by rw [beq_eq_false_iff_ne]; omega
  have hne' : ¬ ((a : Int) = (b : Int)) := by omega
  unfold maxLen at hm
  clear h ha
  go_enter Tryz.func61, Tryz.ntmps61
  go_wp2
  refine wp_loop_rounds 2 ?_
  rw [rounds_succ]
  go_wp2
  rw [rounds_succ]
  go_wp2
  go_ret
  exact ⟨rfl, rfl⟩

end Go.Proofs.YtlfepdecgfcifaaGreatDoor

/- The document's answer: what Put makes of a tree, where a root becomes the last kid of a root. -/
namespace Go.Proofs.YtlfepdecgfcifaaGreatDoor
open Go.RowKit

/-- behind a Put, whatever it answers -/
def RPutPost (w : World) (M : Nat → Lab) (tb : Nat) (nv : Value) (ps : List Pn) (us : List Value) (a b : Nat) (e : Ending) (w' : World) : Prop :=
  (∃ c, e = .returned (.int .i64 c)) ∧ ∃ M' uv' ps' us', RLies w' M' tb nv uv' ps' us' ∧ Moved w M w' M' ∧ nodesOf ps' = putS (nodesOf ps) a b ∧ us'.length ≤ us.length + 1

theorem RPutPost.stay {w : World} {M : Nat → Lab} {tb : Nat} {nv uv : Value} {ps : List Pn} {us : List Value} (h : RLies w M tb nv uv ps us) {a b : Nat} {pa pb : Pn} (ha : ps[a]? = some pa) (hb : ps[b]? = some pb) (hbad : kidsB pa.n.kind = false) (c : Int) : RPutPost w M tb nv ps us a b (.returned (.int .i64 c)) w :=
  ⟨⟨c, rfl⟩, M, uv, ps, us, h, Moved.refl _ _, by unfold putS; rw [nodes_get ha, nodes_get hb]; simp [hbad], by omega⟩

theorem RPutPost.done {w w' : World} {M M' : Nat → Lab} {tb : Nat} {nv uv' : Value} {ps : List Pn} {us us' : List Value} {a b : Nat} {pa pb : Pn} (ha : ps[a]? = some pa) (hb : ps[b]? = some pb) (hgood : kidsB pa.n.kind = true) {kv' : Value} (h : RLies w' M' tb nv uv' (putP ps a b pa pb kv') us') (m : Moved w M w' M') (hu : us'.length ≤ us.length + 1) (c : Int) : RPutPost w M tb nv ps us a b (.returned (.int .i64 c)) w' := by
  refine ⟨⟨c, rfl⟩, M', uv', _, us', h, m, ?_, hu⟩
  unfold putS
  rw [nodes_get ha, nodes_get hb]
  simp [hgood, nodesOf, putP, List.map_set]

theorem srcOf_zero (w : World) (size : Nat) (a : Option Addr) (c : Nat) : SrcOf w size (.slice a 0 c) 0 [] := by
  refine ⟨by simp, by simp, a, c, rfl, ?_⟩
  cases a with
  | none => exact .inl ⟨rfl, rfl⟩
  | some ad => exact .inr ⟨ad, rfl, by simp⟩

set_option maxHeartbeats 8000000 in
set_option maxRecDepth 100000 in
theorem rput_any {w : World} {M : Nat → Lab} {tb : Nat} {nv uv : Value} {ps : List Pn} {us : List Value} (h : RLies w M tb nv uv ps us) (hs : Small ps) (hn : ps.length ≤ 1000000) (hu : us.length ≤ 1000000000) {a b : Nat} {pa pb : Pn} (ha : ps[a]? = some pa) (hb : ps[b]? = some pb) (hab : a ≠ b) (hb0 : 0 < b) (hk : pa.n.kids.length ≤ 1000000000) (hra : pa.n.parent = -1) (hrb : pb.n.parent = -1)
    (hnk : (b : Int) ∉ pa.n.kids) (hkd : pa.n.kind = 1 ∨ pa.n.kind = 2 ∨ pa.n.kind = 3 ∨ pa.n.kind = 4) (x y : Int) (hx : x = a) (hy : y = b) :
    Calls Tryz.prog 30 #[.pointer (some ⟨tb, 0, none⟩), .int .i64 x, .int .i64 y, .int .i64 pa.n.kids.length] w (RPutPost w M tb nv ps us a b) := by
  subst hx
  subst hy
  obtain ⟨i0, hi, hz0, hz1, hz2⟩ := info_parts Tryz.infoInt
  have hha : hasB ps.length a = true := hasB_of ha
  have hhb : hasB ps.length b = true := hasB_of hb
  obtain ⟨nb, nc, rfl, hc, hm, hnM, hnl, hal⟩ := h.form ha
  have hbl : b < ps.length := (List.getElem?_eq_some_iff.1 hb).1
  have c0 := h.cell0
  have k0 := (h.cellN rfl (f := 0) ha (by omega) rfl).1
  rw [Nat.add_zero] at k0
  have k5 := (h.cellN rfl (f := 5) ha (by omega) rfl).1
  obtain ⟨ka, kc, hkv, _, _⟩ := (h.node a pa ha).2.shape
  rw [hkv] at k5
  have HRow : Hid (Row w M (.kids a) 3 1 (.slice ka pa.n.kids.length kc) pa.n.kids.length (pa.n.kids.map intV)) := hkv ▸ (h.node a pa ha).2
  have hlt : tb < w.heap.size := lt_of_heap h.head
  have H : Hid (RLies w M tb (.slice (some ⟨nb, 0, none⟩) ps.length nc) uv ps us) := h
  have HS : Hid (Small ps) := hs
  have HA : Hid (ps[a]? = some pa) := ha
  have HB : Hid (ps[b]? = some pb) := hb
  have HO : Hid (outOf pa.n.kids b = pa.n.kids) := outOf_none hnk
  have i1 : (0 : Int) ≤ (a : Int) := by omega
  have i2 : (a : Int) < (ps.length : Int) := by omega
  have i3 : (0 : Int) ≤ (b : Int) := by omega
  have i4 : (b : Int) < (ps.length : Int) := by omega
  have b0 : ((b : Int) == 0) = false := by rw [beq_eq_false_iff_ne]; omega
  have b0' : ¬ ((b : Int) = 0) := by omega
  unfold maxLen at hm
  clear h hs ha hb hnk
  by_cases hkb : kidsB pa.n.kind = true
  case neg =>
    have hkf : kidsB pa.n.kind = false := by simpa using hkb
    have h34 : pa.n.kind = 3 ∨ pa.n.kind = 4 := by
      unfold kidsB at hkf
      simp at hkf
      omega
    rcases h34 with e | e
    all_goals rw [e] at k0
    all_goals go_enter Tryz.func30, Tryz.ntmps30
    all_goals go_wp2_with (go_at_call 45; refine (rhas_any H.out _).mono ?_; rintro e w' ⟨rfl, rfl⟩; first | rw [hha] | rw [hhb])
    all_goals go_ret
    all_goals exact RPutPost.stay H.out HA.out HB.out hkf _
  have n3 : (pa.n.kind == 3) = false := by
    unfold kidsB at hkb
    simp at hkb
    rw [beq_eq_false_iff_ne]
    omega
  have n4 : (pa.n.kind == 4) = false := by
    unfold kidsB at hkb
    simp at hkb
    rw [beq_eq_false_iff_ne]
    omega
  go_enter Tryz.func30, Tryz.ntmps30
  go_wp2_with (first
    | (go_at_call 45; refine (rhas_any H.out _).mono ?_; rintro e w' ⟨rfl, hw'⟩; subst hw'; first | rw [hha] | rw [hhb])
    | (go_at_call 61; refine (in_root H.out HA.out hab hra).mono ?_; rintro e w' ⟨rfl, hw'⟩; subst hw'))
  refine (without_any HRow.out b (by omega)).mono ?_
  rintro e w2 ⟨v13, rfl, ho, hBq⟩
  rw [HO.out] at ho
  obtain ⟨a13, c13, hv13⟩ := own_shape ho
  subst hv13
  have HO2 : Hid (w2.ownsRow w'.heap.size 3 1 (.slice a13 pa.n.kids.length c13) pa.n.kids.length (pa.n.kids.map intV)) := ho
  have HL2 : Hid (RLies w2 M tb (.slice (some ⟨nb, 0, none⟩) ps.length nc) uv ps us ∧ Below w'.heap.size w' w2) := ⟨H.out.below hBq, hBq⟩
  have hc13 : pa.n.kids.length ≤ c13 ∧ c13 ≤ 9223372036854775807 ∧ (a13 = none → pa.n.kids.length = 0 ∧ c13 = 0) ∧ (∀ ad, a13 = some ad → ∃ g, ad = ⟨g, 0, none⟩ ∧ w'.heap.size ≤ g) := by
    rcases ho.2 with ⟨e, e0⟩ | ⟨g, cap, cur, e, hbg, _, e1, e2, _⟩
    · injection e with f1 f2 f3
      subst f1
      subst f3
      exact ⟨by omega, by omega, fun _ => ⟨e0, rfl⟩, fun ad h => by cases h⟩
    · injection e with f1 f2 f3
      subst f1
      subst f3
      exact ⟨e1, by unfold maxLen at e2; omega, fun h => (by cases h), fun ad h => ⟨g, by cases h; rfl, hbg⟩⟩
  obtain ⟨t1, t2, t3, t4⟩ := hc13
  clear ho hBq
  go_wp2_with fail
  refine (rkeep_any HL2.out.1 HS.out hn hu).mono ?_
  rintro e w3 ⟨rfl, M3, uv3, v3, l3, m3⟩
  have HO3 : Hid (w3.ownsRow w'.heap.size 3 1 (.slice a13 pa.n.kids.length c13) pa.n.kids.length (pa.n.kids.map intV)) := (own_moved HO2.out m3 (fun k hk => H.out.fresh k (HO2.out.lt k hk).1)).1
  have hw2 : w'.heap.size ≤ w2.heap.size := HL2.out.2.size
  have hw3 : w2.heap.size ≤ w3.heap.size := m3.size
  have H3 : Hid (RLies w3 M3 tb (.slice (some ⟨nb, 0, none⟩) ps.length nc) uv3 ps (us ++ [v3]) ∧ Moved w' M w3 M3) := ⟨l3, ((Moved.refl w' M).below HL2.out.2).trans m3⟩
  have d0 := l3.cell0
  have d4 := (l3.cellN rfl (f := 4) HB.out (by omega) rfl).1
  rw [hrb] at d4
  have HSrc : Hid (SrcOf w3 1 (.slice a13 pa.n.kids.length c13) pa.n.kids.length (pa.n.kids.map intV)) := own_src HO3.out (one_int _)
  clear l3 m3
  have fin : ∀ (v5 : Value) (w5 : World), w5.ownsRow w3.heap.size 3 1 v5 (pa.n.kids.length + 1) (pa.n.kids.map intV ++ [.int .i64 b]) → Below w3.heap.size w3 w5 → ∃ g5 c5, v5 = .slice (some ⟨g5, 0, none⟩) (pa.n.kids.length + 1) c5 ∧ w5.cell? ⟨tb, 0, none⟩ = some (.slice (some ⟨nb, 0, none⟩) ps.length nc) ∧ w5.cell? ⟨nb, a * 6 + 5, none⟩ = some (.slice ka pa.n.kids.length kc) ∧ w5.frozen? ⟨nb, a * 6 + 5, none⟩ = false ∧
      ∃ M6, RLies (w5.setCell ⟨nb, a * 6 + 5, none⟩ (.slice (some ⟨g5, 0, none⟩) (pa.n.kids.length + 1) c5)) M6 tb (.slice (some ⟨nb, 0, none⟩) ps.length nc) uv3 (ps.set a ⟨{ pa.n with kids := pa.n.kids ++ [(b : Int)] }, pa.av, .slice (some ⟨g5, 0, none⟩) (pa.n.kids.length + 1) c5⟩) (us ++ [v3]) ∧ Moved w' M (w5.setCell ⟨nb, a * 6 + 5, none⟩ (.slice (some ⟨g5, 0, none⟩) (pa.n.kids.length + 1) c5)) M6 := by
    intro v5 w5 hv5 hb5
    obtain ⟨g5, c5, rfl⟩ : ∃ g5 c5, v5 = .slice (some ⟨g5, 0, none⟩) (pa.n.kids.length + 1) c5 := by
      rcases hv5.2 with ⟨_, e⟩ | ⟨g, cap, cur, rfl, _⟩
      · omega
      · exact ⟨g, cap, rfl⟩
    have l5 := H3.out.1.below hb5
    obtain ⟨f1, f2⟩ := l5.cellN rfl (f := 5) HA.out (by omega) rfl
    rw [hkv] at f1
    have e5 : (pa.n.kids ++ [(b : Int)]).length = pa.n.kids.length + 1 := by simp
    have hv5' : w5.ownsRow w3.heap.size 3 1 (.slice (some ⟨g5, 0, none⟩) (pa.n.kids ++ [(b : Int)]).length c5) (pa.n.kids ++ [(b : Int)]).length ((pa.n.kids ++ [(b : Int)]).map intV) := by
      rw [e5, List.map_append]
      exact hv5
    obtain ⟨M6, r1, r2⟩ := l5.ownKids (H3.out.2.below hb5) rfl HA.out hv5' (by omega) (H3.out.1.fresh g5 (hv5.lt g5 rfl).1)
    rw [e5] at r1 r2
    exact ⟨g5, c5, rfl, l5.cell0, f1, f2, M6, r1, r2⟩
  have FIN : Hid _ := fin
  clear fin
  cases a13 with
  | none =>
    obtain ⟨z1, z2⟩ := t3 rfl
    subst z2
    obtain ⟨⟨kind, tag, words, attrs, parent, kids⟩, pav, pkv⟩ := pa
    dsimp only at z1 hkb n3 n4 hkd hra hk
    obtain rfl : kids = [] := List.length_eq_zero_iff.1 z1
    clear t1 t2 t3 t4 z1
    have fin := FIN.out
    simp only [List.length_nil, Nat.zero_add, List.map_nil, List.nil_append] at fin
    have FIN2 : Hid _ := fin
    clear fin FIN
    go_wp2_with (first
      | (at_builtin; refine wpList_app_own _ (by rfl) _ _ 32 (by rfl) w3.heap.size 3 i0 (.int .i64 0) 1 8 Tryz.underlying32 hi hz0 hz1 hz2 rfl (by decide) (.slice none 0 0) 0 [] (by rfl) (World.ownsRow_nil _ _ _ _) (.slice none 0 0) 0 [] (by rfl) (srcOf_zero _ _ _ _) (by unfold maxLen; omega) (by omega) (Nat.le_refl _) ?_
         intro v4 w4 hv4 hg4 _
         rw [Nat.zero_add, List.nil_append] at hv4
         have HV4 : Hid (w4.ownsRow w3.heap.size 3 1 v4 0 [] ∧ Below w3.heap.size w3 w4) := ⟨hv4, below_grown hg4⟩
         have hw4 : w3.heap.size ≤ w4.heap.size := hg4.size
         clear hv4 hg4)
      | (at_builtin; refine wpList_app_own _ (by rfl) _ _ 32 (by rfl) w3.heap.size 3 i0 (.int .i64 0) 1 8 Tryz.underlying32 hi hz0 hz1 hz2 rfl (by decide) v4 0 [] (by rfl) (HV4.out.1.alloc _) _ 1 [.int .i64 b] (by rfl) ⟨rfl, by simp [Value.oneCell'], _, _, rfl, .inr ⟨_, rfl, cell_one_new _ _ _⟩⟩ (by unfold maxLen; omega) (by omega) (by simp; omega) ?_
         intro v5 w5 hv5 hg5 _
         have HV5 : Hid (w5.ownsRow w3.heap.size 3 1 v5 (1) ([.int .i64 b]) ∧ Below w3.heap.size w3 w5) := ⟨hv5, (HV4.out.2.alloc hw4 _).grown hg5 (by simp; omega) (fun k hk => (HV4.out.1.lt k hk).1)⟩
         have hw5 : w3.heap.size ≤ w5.heap.size := HV5.out.2.size
         clear hv5 hg5)
      | (at_builtin; refine wpList_app_own _ (by rfl) _ _ 32 (by rfl) w3.heap.size 3 i0 (.int .i64 0) 1 8 Tryz.underlying32 hi hz0 hz1 hz2 rfl (by decide) v5 (1) ([.int .i64 b]) (by rfl) HV5.out.1 _ 0 [] (by rfl) (srcOf_zero _ _ _ _) (by unfold maxLen; omega) (by omega) hw5 ?_
         intro v6 w6 hv6 hg6 _
         obtain ⟨g5, c5, hv5', f0, f1, f2, M6, r1, r2⟩ := FIN2.out v6 w6 hv6 (HV5.out.2.grown hg6 hw5 (fun k hk => (HV5.out.1.lt k hk).1))
         subst hv5'
         have hb2 : (ps.set a ⟨⟨kind, tag, words, attrs, parent, [(b : Int)]⟩, pav, .slice (some ⟨g5, 0, none⟩) (1) c5⟩)[b]? = some pb := (by rw [List.getElem?_set_ne hab]; exact HB.out)
         have y0 := r1.cell0
         obtain ⟨y4, y4f⟩ := r1.cellN rfl (f := 4) hb2 (by omega) rfl
         have HQ : Hid _ := And.intro (r1.setNode rfl (f := 4) (c := .int .i64 a) hb2 (by omega) (p' := ⟨{ pb.n with parent := a }, pb.av, pb.kv⟩) rfl (r1.node b pb hb2).1 (r1.node b pb hb2).2) r2
         clear hv6 hg6 r1 r2 hb2))
    go_ret
    exact RPutPost.done HA.out HB.out hkb HQ.out.1.1 (HQ.out.2.trans (HQ.out.1.2.moved (by intro e; cases e))) (by simp) _
  | some ad =>
    obtain ⟨g13, rfl, hg13⟩ := t4 ad rfl
    clear t3 t4
    go_wp2_with (first
      | (at_builtin; refine wpList_app_own _ (by rfl) _ _ 32 (by rfl) w3.heap.size 3 i0 (.int .i64 0) 1 8 Tryz.underlying32 hi hz0 hz1 hz2 rfl (by decide) (.slice none 0 0) 0 [] (by rfl) (World.ownsRow_nil _ _ _ _) (.slice (some ⟨g13, 0, none⟩) pa.n.kids.length c13) pa.n.kids.length (pa.n.kids.map intV) (by rfl) HSrc.out (by unfold maxLen; omega) (by omega) (Nat.le_refl _) ?_
         intro v4 w4 hv4 hg4 _
         rw [Nat.zero_add, List.nil_append] at hv4
         have HV4 : Hid (w4.ownsRow w3.heap.size 3 1 v4 pa.n.kids.length (pa.n.kids.map intV) ∧ Below w3.heap.size w3 w4) := ⟨hv4, below_grown hg4⟩
         have hw4 : w3.heap.size ≤ w4.heap.size := hg4.size
         clear hv4 hg4)
      | (at_builtin; refine wpList_app_own _ (by rfl) _ _ 32 (by rfl) w3.heap.size 3 i0 (.int .i64 0) 1 8 Tryz.underlying32 hi hz0 hz1 hz2 rfl (by decide) v4 pa.n.kids.length (pa.n.kids.map intV) (by rfl) (HV4.out.1.alloc _) _ 1 [.int .i64 b] (by rfl) ⟨rfl, by simp [Value.oneCell'], _, _, rfl, .inr ⟨_, rfl, cell_one_new _ _ _⟩⟩ (by unfold maxLen; omega) (by omega) (by simp; omega) ?_
         intro v5 w5 hv5 hg5 _
         have HV5 : Hid (w5.ownsRow w3.heap.size 3 1 v5 (pa.n.kids.length + 1) (pa.n.kids.map intV ++ [.int .i64 b]) ∧ Below w3.heap.size w3 w5) := ⟨hv5, (HV4.out.2.alloc hw4 _).grown hg5 (by simp; omega) (fun k hk => (HV4.out.1.lt k hk).1)⟩
         have hw5 : w3.heap.size ≤ w5.heap.size := HV5.out.2.size
         clear hv5 hg5)
      | (at_builtin; refine wpList_app_own _ (by rfl) _ _ 32 (by rfl) w3.heap.size 3 i0 (.int .i64 0) 1 8 Tryz.underlying32 hi hz0 hz1 hz2 rfl (by decide) v5 (pa.n.kids.length + 1) (pa.n.kids.map intV ++ [.int .i64 b]) (by rfl) HV5.out.1 _ 0 [] (by rfl) (by simp [Act.eval]; exact srcOf_zero _ _ _ _) (by unfold maxLen; omega) (by omega) hw5 ?_
         intro v6 w6 hv6 hg6 _
         rw [List.append_nil] at hv6
         obtain ⟨g5, c5, hv5', f0, f1, f2, M6, r1, r2⟩ := FIN.out v6 w6 hv6 (HV5.out.2.grown hg6 hw5 (fun k hk => (HV5.out.1.lt k hk).1))
         subst hv5'
         have hb2 : (ps.set a ⟨{ pa.n with kids := pa.n.kids ++ [(b : Int)] }, pa.av, .slice (some ⟨g5, 0, none⟩) (pa.n.kids.length + 1) c5⟩)[b]? = some pb := (by rw [List.getElem?_set_ne hab]; exact HB.out)
         have y0 := r1.cell0
         obtain ⟨y4, y4f⟩ := r1.cellN rfl (f := 4) hb2 (by omega) rfl
         have HQ : Hid _ := And.intro (r1.setNode rfl (f := 4) (c := .int .i64 a) hb2 (by omega) (p' := ⟨{ pb.n with parent := a }, pb.av, pb.kv⟩) rfl (r1.node b pb hb2).1 (r1.node b pb hb2).2) r2
         clear hv6 hg6 r1 r2 hb2))
    all_goals go_ret
    all_goals exact RPutPost.done HA.out HB.out hkb HQ.out.1.1 (HQ.out.2.trans (HQ.out.1.2.moved (by intro e; cases e))) (by simp) _
end Go.Proofs.YtlfepdecgfcifaaGreatDoor
