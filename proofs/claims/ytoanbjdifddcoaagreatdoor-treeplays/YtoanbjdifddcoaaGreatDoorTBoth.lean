/- The program's tree beside the document's: both of the same nodes, and both with the same past. -/
import Derived.Test.YtoanbjdifddcoaaGreatDoorM09
import Derived.Test.YtoanbjdifddcoaaGreatDoorPutX
import Derived.Test.YtoanbjdifddcoaaGreatDoorM25
namespace Go.Proofs.YtoanbjdifddcoaaGreatDoor
open Go.RowKit

/-- a function has captured a block -/
def Capt (f : Value) (b : Nat) : Prop := ∃ F xs, ∃ cs : Array Value, f = .func F xs cs ∧ Value.pointer (some ⟨b, 0, none⟩) ∈ cs.toList
theorem NewF.capt {B b : Nat} {f : Value} (h : NewF B f) (hc : Capt f b) : B ≤ b := by
  obtain ⟨F, xs, cs, h1, h2⟩ := hc
  exact h F xs cs h1 b h2
theorem KeptF.unjoinC {w w' : World} {M N M' N' : Nat → Lab} {tb : Nat} {f : Value} {r : Rec} (h : KeptF w (join M N) tb f r) (hb : ∀ b, Capt f b → b < w.heap.size → M b = .other → N b = .other → w'.heap[b]? = w.heap[b]? ∧ M' b = .other ∧ N' b = .other) : KeptF w' (join M' N') tb f r := by
  have c : ∀ {b o : Nat} {v : Value}, Capt f b → join M N b = .other → w.cell? ⟨b, o, none⟩ = some v → join M' N' b = .other ∧ w'.cell? ⟨b, o, none⟩ = some v := fun {b o v} hp hj hc => by
    obtain ⟨j1, j2⟩ := join_parts hj
    obtain ⟨k1, k2, k3⟩ := hb b hp (World.block_lt_of_cell? w _ hc) j1 j2
    exact ⟨join_other k2 k3, (World.cell?_of_block (a := ⟨b, o, none⟩) k1).trans hc⟩
  cases r with
  | forget n =>
    obtain ⟨b1, b2, rfl, h1, h2, h3, h4⟩ := h
    exact ⟨b1, b2, rfl, (c ⟨_, _, _, rfl, by simp⟩ h1 h3).1, (c ⟨_, _, _, rfl, by simp⟩ h2 h4).1, (c ⟨_, _, _, rfl, by simp⟩ h1 h3).2, (c ⟨_, _, _, rfl, by simp⟩ h2 h4).2⟩
  | move i fr wz =>
    obtain ⟨b1, b2, b3, b4, rfl, ⟨h1, h2, h3, h4⟩, k1, k2, k3, k4⟩ := h
    exact ⟨b1, b2, b3, b4, rfl, ⟨(c ⟨_, _, _, rfl, by simp⟩ h1 k1).1, (c ⟨_, _, _, rfl, by simp⟩ h2 k2).1, (c ⟨_, _, _, rfl, by simp⟩ h3 k3).1, (c ⟨_, _, _, rfl, by simp⟩ h4 k4).1⟩, (c ⟨_, _, _, rfl, by simp⟩ h1 k1).2, (c ⟨_, _, _, rfl, by simp⟩ h2 k2).2, (c ⟨_, _, _, rfl, by simp⟩ h3 k3).2, (c ⟨_, _, _, rfl, by simp⟩ h4 k4).2⟩
  | cut i =>
    obtain ⟨b1, b2, rfl, h1, h2⟩ := h
    exact ⟨b1, b2, rfl, c ⟨_, _, _, rfl, by simp⟩ h1.1 h1.2, c ⟨_, _, _, rfl, by simp⟩ h2.1 h2.2⟩
  | back i k' old =>
    obtain ⟨b0, b1, b2, b3, rfl, h0, h1, h2, h3⟩ := h
    exact ⟨b0, b1, b2, b3, rfl, c ⟨_, _, _, rfl, by simp⟩ h0.1 h0.2, c ⟨_, _, _, rfl, by simp⟩ h1.1 h1.2, c ⟨_, _, _, rfl, by simp⟩ h2.1 h2.2, c ⟨_, _, _, rfl, by simp⟩ h3.1 h3.2⟩
  | ins i k' x =>
    obtain ⟨b1, b2, b3, b4, rfl, h1, h2, h3, h4, h5⟩ := h
    exact ⟨b1, b2, b3, b4, rfl, c ⟨_, _, _, rfl, by simp⟩ h1.1 h1.2, c ⟨_, _, _, rfl, by simp⟩ h2.1 h2.2, c ⟨_, _, _, rfl, by simp⟩ h3.1 h3.2, c ⟨_, _, _, rfl, by simp⟩ h4.1 h4.2, c ⟨_, _, _, rfl, by simp⟩ h5.1 h5.2⟩
  | say i old =>
    obtain ⟨b0, b1, b2, rfl, h0, h1, h2⟩ := h
    exact ⟨b0, b1, b2, rfl, c ⟨_, _, _, rfl, by simp⟩ h0.1 h0.2, c ⟨_, _, _, rfl, by simp⟩ h1.1 h1.2, c ⟨_, _, _, rfl, by simp⟩ h2.1 h2.2⟩
theorem KeptF.captLt {w : World} {M : Nat → Lab} {tb b : Nat} {f : Value} {r : Rec} (h : KeptF w M tb f r) (hc : Capt f b) : b < w.heap.size := by
  have c : ∀ {b o : Nat} {v : Value}, w.cell? ⟨b, o, none⟩ = some v → b < w.heap.size := fun hc => World.block_lt_of_cell? w _ hc
  obtain ⟨F, xs, cs, e, hm⟩ := hc
  cases r with
  | forget n =>
    obtain ⟨b1, b2, rfl, h1, h2, h3, h4⟩ := h
    cases e
    simp at hm
    rcases hm with rfl | rfl
    · exact c h3
    · exact c h4
  | move i fr wz =>
    obtain ⟨b1, b2, b3, b4, rfl, _, k1, k2, k3, k4⟩ := h
    cases e
    simp at hm
    rcases hm with rfl | rfl | rfl | rfl
    · exact c k1
    · exact c k2
    · exact c k3
    · exact c k4
  | cut i =>
    obtain ⟨b1, b2, rfl, h1, h2⟩ := h
    cases e
    simp at hm
    rcases hm with rfl | rfl
    · exact c h1.2
    · exact c h2.2
  | back i k' old =>
    obtain ⟨b0, b1, b2, b3, rfl, h0, h1, h2, h3⟩ := h
    cases e
    simp at hm
    rcases hm with rfl | rfl | rfl | rfl
    · exact c h0.2
    · exact c h1.2
    · exact c h2.2
    · exact c h3.2
  | ins i k' x =>
    obtain ⟨b1, b2, b3, b4, rfl, h1, h2, h3, h4, h5⟩ := h
    cases e
    simp at hm
    rcases hm with rfl | rfl | rfl | rfl
    · exact c h1.2
    · exact c h2.2
    · exact c h3.2
    · exact c h4.2
  | say i old =>
    obtain ⟨b0, b1, b2, rfl, h0, h1, h2⟩ := h
    cases e
    simp at hm
    rcases hm with rfl | rfl | rfl
    · exact c h0.2
    · exact c h1.2
    · exact c h2.2
/-- one of these functions has captured a block -/
def CaptL (us : List Value) (b : Nat) : Prop := ∃ f ∈ us, Capt f b

/-- of which kinds nodes are -/
def Kinds (ns : List Nd) : Prop := ∀ (j : Nat) (n : Nd), ns[j]? = some n → n.kind = 1 ∨ n.kind = 2 ∨ n.kind = 3 ∨ n.kind = 4
/-- what is kept, the last one first, undoes into these -/
def StkX (w : World) (M : Nat → Lab) (tb K : Nat) : List Value → List Nd → List (List Nd) → Prop
  | [], _, [] => True
  | f :: fs, ns, ns' :: past => ∃ r, KeptF w M tb f r ∧ Undoes ns ns' r ∧ (WF ns' ∧ Kinds ns') ∧ Few ns' K ∧ StkX w M tb K fs ns' past
  | _, _, _ => False
theorem StkX.map {w w' : World} {M M' : Nat → Lab} {tb K L : Nat} (hKL : K ≤ L) : ∀ {fs : List Value} {ns : List Nd} {past : List (List Nd)}, (∀ f r, f ∈ fs → KeptF w M tb f r → KeptF w' M' tb f r) → StkX w M tb K fs ns past → StkX w' M' tb L fs ns past
  | [], _, [], _, _ => trivial
  | [], _, _ :: _, _, h => h.elim
  | _ :: _, _, [], _, h => h.elim
  | f :: _, _, _ :: _, hk, h => by
    obtain ⟨r, h1, h2, h3, h4, h5⟩ := h
    exact ⟨r, hk f r (List.mem_cons_self ..) h1, h2, h3, h4.mono hKL, StkX.map hKL (fun g r hg => hk g r (List.mem_cons_of_mem _ hg)) h5⟩
theorem StkX.captLt {w : World} {M : Nat → Lab} {tb K b : Nat} : ∀ {fs : List Value} {ns : List Nd} {past : List (List Nd)}, StkX w M tb K fs ns past → CaptL fs b → b < w.heap.size
  | [], _, [], _, hc => by obtain ⟨f, hf, _⟩ := hc; cases hf
  | [], _, _ :: _, h, _ => h.elim
  | _ :: _, _, [], h, _ => h.elim
  | g :: _, _, _ :: _, h, hc => by
    obtain ⟨r, h1, h2, h3, h4, h5⟩ := h
    obtain ⟨f, hf, hfc⟩ := hc
    rcases List.mem_cons.1 hf with e | e
    · subst e; exact h1.captLt hfc
    · exact StkX.captLt h5 ⟨f, e, hfc⟩
theorem StkX.len {w : World} {M : Nat → Lab} {tb K : Nat} : ∀ {fs : List Value} {ns : List Nd} {past : List (List Nd)}, StkX w M tb K fs ns past → fs.length = past.length
  | [], _, [], _ => rfl
  | [], _, _ :: _, h => h.elim
  | _ :: _, _, [], h => h.elim
  | _ :: _, _, _ :: _, h => by
    obtain ⟨r, h1, h2, h3, h4, h5⟩ := h
    simp [StkX.len h5]
theorem CopyStk.len {w : World} : ∀ {free : Nat → Prop} {vs : List Value} {nss : List (List Nd)}, CopyStk w free vs nss → vs.length = nss.length
  | _, [], [], _ => rfl
  | _, [], _ :: _, h => h.elim
  | _, _ :: _, [], h => h.elim
  | _, _ :: _, _ :: _, h => by
    obtain ⟨L, _, _, h3⟩ := h
    simp [CopyStk.len h3]

structure BothS (W : World) (X : List (Nat × Obj)) (tb rb K : Nat) (ns : List Nd) (past : List (List Nd)) (ms : List Nd) (mp : List (List Nd)) (w : World) (M N : Nat → Lab) (nv uv nv2 uv2 : Value) (ps qs : List Pn) (us vs : List Value) : Prop where
  lies : Lies w M tb nv uv ps us
  rlies : RLies w N rb nv2 uv2 qs vs
  below : Below W.heap.size W w
  labM : ∀ b, b < W.heap.size → M b = .other
  labN : ∀ b, b < W.heap.size → N b = .other
  apart : ∀ b, N b ≠ .other → M b = .other
  held : ∀ x ∈ X, M x.1 = .other ∧ N x.1 = .other ∧ w.heap[x.1]? = some x.2
  eqp : nodesOf ps = ns
  eqr : nodesOf qs = ms
  wf : WF ns
  kin : Kinds ns
  wfr : WF ms
  few : Few ns K
  fewr : Few ms K
  lu : us.length ≤ K
  lv : vs.length ≤ K
  stk : StkX w (join M N) tb K us.reverse ns past
  cop : CopyStk w (fun b => (N b = .other ∧ M b = .other) ∧ W.heap.size ≤ b ∧ (∀ x ∈ X, b ≠ x.1) ∧ ¬ CaptL us b) vs.reverse mp
/-- both trees, the program's of these nodes with this past, the document's of those with that one -/
def Both (W : World) (X : List (Nat × Obj)) (tb rb K : Nat) (ns : List Nd) (past : List (List Nd)) (ms : List Nd) (mp : List (List Nd)) (w : World) : Prop :=
  ∃ M N nv uv nv2 uv2 ps qs us vs, BothS W X tb rb K ns past ms mp w M N nv uv nv2 uv2 ps qs us vs

section
variable {W : World} {X : List (Nat × Obj)} {tb rb K : Nat} {ns ms : List Nd} {past mp : List (List Nd)} {w w' : World} {M N : Nat → Lab} {nv uv nv2 uv2 : Value} {ps qs : List Pn} {us vs : List Value}

theorem BothS.prog (h : BothS W X tb rb K ns past ms mp w M N nv uv nv2 uv2 ps qs us vs) {ns' : List Nd} (hd : DoneX w M tb us ns ns' w') (hW : WF ns') (hKi : Kinds ns') (hF : Few ns' (K + 1)) : Both W X tb rb (K + 1) ns' (ns :: past) ms mp w' := by
  obtain ⟨M', nv', uv', ps', f, r, g1, g2, g3, g4, g5, g6⟩ := hd
  have hwW := h.below.size
  have hNlt : ∀ b, N b ≠ .other → b < w.heap.size := fun b hb => by
    rcases Nat.lt_or_ge b w.heap.size with e | e
    · exact e
    · exact absurd (h.rlies.fresh b e) hb
  have hb' : Below W.heap.size w w' := ⟨g5.os, g5.tape, g5.output, g5.size, fun b hb => g5.far b (Nat.lt_of_lt_of_le hb hwW) (h.labM b hb)⟩
  refine ⟨M', N, nv', uv', nv2, uv2, ps', qs, us ++ [f], vs, g1, h.rlies.far g5.size (fun b hb hne => g5.far b hb (h.apart b hne)), h.below.trans hb', fun b hb => (g5.lab b (Nat.lt_of_lt_of_le hb hwW)).trans (h.labM b hb), h.labN, fun b hb => (g5.lab b (hNlt b hb)).trans (h.apart b hb), fun x hx => ⟨(g5.lab _ (lt_of_heap (h.held x hx).2.2)).trans (h.held x hx).1, (h.held x hx).2.1, (g5.far _ (lt_of_heap (h.held x hx).2.2) (h.held x hx).1).trans (h.held x hx).2.2⟩, g2, h.eqr, hW, hKi, h.wfr, hF, h.fewr.mono (Nat.le_succ _), by have := h.lu; simp; omega, Nat.le_succ_of_le h.lv, ?_, ?_⟩
  · rw [List.reverse_append]
    refine ⟨r, g3.joined g6 (fun b hb => h.rlies.fresh b hb), g4, ⟨h.wf, h.kin⟩, h.few.mono (Nat.le_succ _), StkX.map (Nat.le_succ _) (fun _ _ _ hk => hk.unjoin fun b hb h1 h2 => ⟨g5.far b hb h1, (g5.lab b hb).trans h1, h2⟩) h.stk⟩
  · refine CopyStk.keep g5.size h.cop fun b hb hf => ⟨g5.far b hb hf.1.2, ⟨hf.1.1, (g5.lab b hb).trans hf.1.2⟩, hf.2.1, hf.2.2.1, ?_⟩
    rintro ⟨f', hf', hc⟩
    rcases List.mem_append.1 hf' with e | e
    · exact hf.2.2.2 ⟨f', e, hc⟩
    · have e := List.mem_singleton.1 e
      subst e
      have := g6.capt hc
      omega

theorem BothS.doc (h : BothS W X tb rb K ns past ms mp w M N nv uv nv2 uv2 ps qs us vs) {ms' : List Nd} (hd : RDone w N rb vs ms ms' w') (hW : WF ms') (hF : Few ms' (K + 1)) : Both W X tb rb (K + 1) ns past ms' (ms :: mp) w' := by
  obtain ⟨N', nv', uv', ps', v, g1, g2, g3, g4⟩ := hd
  have hwW := h.below.size
  have hb' : Below W.heap.size w w' := ⟨g3.os, g3.tape, g3.output, g3.size, fun b hb => g3.far b (Nat.lt_of_lt_of_le hb hwW) (h.labN b hb)⟩
  refine ⟨M, N', nv, uv, nv', uv', ps, ps', us, vs ++ [v], h.lies.beside g3 h.apart, g1, h.below.trans hb', h.labM, fun b hb => (g3.lab b (Nat.lt_of_lt_of_le hb hwW)).trans (h.labN b hb), fun b hb => ?_, fun x hx => ⟨(h.held x hx).1, (g3.lab _ (lt_of_heap (h.held x hx).2.2)).trans (h.held x hx).2.1, (g3.far _ (lt_of_heap (h.held x hx).2.2) (h.held x hx).2.1).trans (h.held x hx).2.2⟩, h.eqp, g2, h.wf, h.kin, hW, h.few.mono (Nat.le_succ _), hF, Nat.le_succ_of_le h.lu, by have := h.lv; simp; omega, ?_, ?_⟩
  · rcases Nat.lt_or_ge b w.heap.size with e | e
    · exact h.apart b (by rw [← g3.lab b e]; exact hb)
    · exact h.lies.fresh b e
  · exact StkX.map (Nat.le_succ _) (fun _ _ _ hk => hk.unjoin fun b hb h1 h2 => ⟨g3.far b hb h2, h1, (g3.lab b hb).trans h2⟩) h.stk
  · rw [List.reverse_append]
    refine CopyStk.push g3.size h.cop g4 (fun b hb hh => ⟨g3.far b hb hh.1.1, ⟨(g3.lab b hb).trans hh.1.1, hh.1.2⟩, hh.2⟩) (fun b hb hh => ⟨⟨hh, h.lies.fresh b hb⟩, Nat.le_trans hwW hb, fun x hx e => (by have := lt_of_heap (h.held x hx).2.2; omega), fun hc => ?_⟩)
    obtain ⟨f, hf, hfc⟩ := hc
    have := h.stk.captLt ⟨f, List.mem_reverse.2 hf, hfc⟩
    omega

/-- the program's tree is another one of its past, or has none any more -/
theorem BothS.turned (h : BothS W X tb rb K ns past ms mp w M N nv uv nv2 uv2 ps qs us vs) {M' : Nat → Lab} {nv' uv' : Value} {ps' : List Pn} {us' : List Value} {ns' : List Nd} {past' : List (List Nd)} (g1 : Lies w' M' tb nv' uv' ps' us') (g2 : nodesOf ps' = ns') (g5 : Moved w M w' M') (hW : WF ns') (hKi : Kinds ns') (hF : Few ns' K) (hsub : ∀ f ∈ us', f ∈ us) (hlu : us'.length ≤ K) (hst : StkX w (join M N) tb K us'.reverse ns' past') : Both W X tb rb K ns' past' ms mp w' := by
  have hwW := h.below.size
  have hNlt : ∀ b, N b ≠ .other → b < w.heap.size := fun b hb => by
    rcases Nat.lt_or_ge b w.heap.size with e | e
    · exact e
    · exact absurd (h.rlies.fresh b e) hb
  have hb' : Below W.heap.size w w' := ⟨g5.os, g5.tape, g5.output, g5.size, fun b hb => g5.far b (Nat.lt_of_lt_of_le hb hwW) (h.labM b hb)⟩
  refine ⟨M', N, nv', uv', nv2, uv2, ps', qs, us', vs, g1, h.rlies.far g5.size (fun b hb hne => g5.far b hb (h.apart b hne)), h.below.trans hb', fun b hb => (g5.lab b (Nat.lt_of_lt_of_le hb hwW)).trans (h.labM b hb), h.labN, fun b hb => (g5.lab b (hNlt b hb)).trans (h.apart b hb), fun x hx => ⟨(g5.lab _ (lt_of_heap (h.held x hx).2.2)).trans (h.held x hx).1, (h.held x hx).2.1, (g5.far _ (lt_of_heap (h.held x hx).2.2) (h.held x hx).1).trans (h.held x hx).2.2⟩, g2, h.eqr, hW, hKi, h.wfr, hF, h.fewr, hlu, h.lv, ?_, ?_⟩
  · exact StkX.map (Nat.le_refl _) (fun _ _ _ hk => hk.unjoin fun b hb h1 h2 => ⟨g5.far b hb h1, (g5.lab b hb).trans h1, h2⟩) hst
  · refine CopyStk.keep g5.size h.cop fun b hb hf => ⟨g5.far b hb hf.1.2, ⟨hf.1.1, (g5.lab b hb).trans hf.1.2⟩, hf.2.1, hf.2.2.1, ?_⟩
    rintro ⟨f', hf', hc⟩
    exact hf.2.2.2 ⟨f', hsub f' hf', hc⟩

/-- the document's tree is the last one of its past -/
theorem BothS.back (h : BothS W X tb rb K ns past ms mp w M N nv uv nv2 uv2 ps qs us vs) {L : Nat → Lab} {vs' : List Value} {ms' : List Nd} {mp' : List (List Nd)} (hd : RBack w N L rb vs' ms' w') (hL : ∀ b, L b ≠ .other → (N b = .other ∧ M b = .other) ∧ W.heap.size ≤ b ∧ (∀ x ∈ X, b ≠ x.1) ∧ ¬ CaptL us b) (hW : WF ms') (hF : Few ms' K) (hlv : vs'.length ≤ K)
    (hc : CopyStk w (fun b => ((N b = .other ∧ M b = .other) ∧ W.heap.size ≤ b ∧ (∀ x ∈ X, b ≠ x.1) ∧ ¬ CaptL us b) ∧ L b = .other) vs'.reverse mp') : Both W X tb rb K ns past ms' mp' w' := by
  obtain ⟨nv', uv', ps', g1, g2, k1, k2, k3, g6, g7⟩ := hd
  have hrb : N rb = .tree := h.rlies.tree
  have hMrb : M rb = .other := h.apart rb (by rw [hrb]; intro e; cases e)
  have hWrb : W.heap.size ≤ rb := by
    rcases Nat.lt_or_ge rb W.heap.size with e | e
    · have := h.labN rb e; rw [hrb] at this; cases this
    · exact e
  have hov : ∀ b, L b = .other → over L N b = N b := fun b e => by unfold over; rw [if_pos e]
  have hb' : Below W.heap.size w w' := ⟨k1, k2, k3, Nat.le_of_eq g6.symm, fun b hb => g7 b (by omega)⟩
  refine ⟨M, over L N, nv, uv, nv', uv', ps, ps', us, vs', h.lies.far (Nat.le_of_eq g6.symm) (fun b hb hne => g7 b (fun e => hne (by rw [e]; exact hMrb))), g1, h.below.trans hb', h.labM, fun b hb => ?_, fun b hb => ?_, fun x hx => ⟨(h.held x hx).1, ?_, ?_⟩, h.eqp, g2, h.wf, h.kin, hW, h.few, hF, h.lu, hlv, ?_, ?_⟩
  · by_cases e : L b = .other
    · rw [hov b e]; exact h.labN b hb
    · have := (hL b e).2.1; omega
  · by_cases e : L b = .other
    · rw [hov b e] at hb; exact h.apart b hb
    · exact (hL b e).1.2
  · by_cases e : L x.1 = .other
    · rw [hov _ e]; exact (h.held x hx).2.1
    · exact absurd rfl ((hL _ e).2.2.1 x hx)
  · refine (g7 _ (fun e => ?_)).trans (h.held x hx).2.2
    have := (h.held x hx).2.1
    rw [e, hrb] at this
    cases this
  · refine StkX.map (Nat.le_refl _) (fun f r hf hk => hk.unjoinC fun b hcb hb h1 h2 => ⟨g7 b (fun e => ?_), h1, ?_⟩) h.stk
    · subst e; rw [hrb] at h2; cases h2
    · by_cases e : L b = .other
      · rw [hov b e]; exact h2
      · exact absurd ⟨f, List.mem_reverse.1 hf, hcb⟩ (hL b e).2.2.2
  · refine CopyStk.keep (Nat.le_of_eq g6.symm) hc fun b hb hf => ⟨g7 b (fun e => ?_), ⟨?_, hf.1.1.2⟩, hf.1.2⟩
    · subst e
      have := hf.1.1.1
      rw [hrb] at this
      cases this
    · show over L N b = .other
      rw [hov b hf.2]
      exact hf.1.1.1

theorem Both.below (h : Both W X tb rb K ns past ms mp w) (hb : Below w.heap.size w w') : Both W X tb rb K ns past ms mp w' := by
  obtain ⟨M, N, nv, uv, nv2, uv2, ps, qs, us, vs, h⟩ := h
  exact ⟨M, N, nv, uv, nv2, uv2, ps, qs, us, vs, h.lies.below hb, h.rlies.below hb, h.below.trans (hb.mono h.below.size), h.labM, h.labN, h.apart, fun x hx => ⟨(h.held x hx).1, (h.held x hx).2.1, (hb.block _ (lt_of_heap (h.held x hx).2.2)).trans (h.held x hx).2.2⟩, h.eqp, h.eqr, h.wf, h.kin, h.wfr, h.few, h.fewr, h.lu, h.lv, StkX.map (Nat.le_refl _) (fun _ _ _ hk => hk.unjoin fun b hb' h1 h2 => ⟨hb.block b hb', h1, h2⟩) h.stk, CopyStk.keep hb.size h.cop fun b hb' hf => ⟨hb.block b hb', hf⟩⟩
/-- one more block is held -/
theorem Both.hold (h : Both W X tb rb K ns past ms mp w) (o : Obj) : Both W ((w.heap.size, o) :: X) tb rb K ns past ms mp (w.alloc o) := by
  obtain ⟨M, N, nv, uv, nv2, uv2, ps, qs, us, vs, h⟩ := h
  have hb : Below w.heap.size w (w.alloc o) := (Below.refl w.heap.size w).alloc (Nat.le_refl _) o
  refine ⟨M, N, nv, uv, nv2, uv2, ps, qs, us, vs, h.lies.below hb, h.rlies.below hb, h.below.trans (hb.mono h.below.size), h.labM, h.labN, h.apart, fun x hx => ?_, h.eqp, h.eqr, h.wf, h.kin, h.wfr, h.few, h.fewr, h.lu, h.lv, StkX.map (Nat.le_refl _) (fun _ _ _ hk => hk.unjoin fun b hb' h1 h2 => ⟨hb.block b hb', h1, h2⟩) h.stk, CopyStk.keep hb.size h.cop fun b hb' hf => ⟨hb.block b hb', hf.1, hf.2.1, fun x hx => ?_, hf.2.2.2⟩⟩
  · rcases List.mem_cons.1 hx with e | e
    · subst e
      exact ⟨h.lies.fresh _ (Nat.le_refl _), h.rlies.fresh _ (Nat.le_refl _), heap_alloc_new w o⟩
    · exact ⟨(h.held x e).1, (h.held x e).2.1, (hb.block _ (lt_of_heap (h.held x e).2.2)).trans (h.held x e).2.2⟩
  · rcases List.mem_cons.1 hx with e | e
    · subst e; show b ≠ w.heap.size; omega
    · exact hf.2.2.1 x e
theorem Both.heldAt (h : Both W X tb rb K ns past ms mp w) {b : Nat} {o : Obj} (hx : (b, o) ∈ X) : w.heap[b]? = some o := by
  obtain ⟨M, N, nv, uv, nv2, uv2, ps, qs, us, vs, h⟩ := h
  exact (h.held _ hx).2.2
theorem Both.loose (h : Both W X tb rb K ns past ms mp w) : Both W [] tb rb K ns past ms mp w := by
  obtain ⟨M, N, nv, uv, nv2, uv2, ps, qs, us, vs, h⟩ := h
  exact ⟨M, N, nv, uv, nv2, uv2, ps, qs, us, vs, h.lies, h.rlies, h.below, h.labM, h.labN, h.apart, (fun x hx => by cases hx), h.eqp, h.eqr, h.wf, h.kin, h.wfr, h.few, h.fewr, h.lu, h.lv, h.stk, CopyStk.keep (Nat.le_refl _) h.cop fun b hb' hf => ⟨rfl, hf.1, hf.2.1, (fun x hx => by cases hx), hf.2.2.2⟩⟩
theorem Both.mono (h : Both W X tb rb K ns past ms mp w) {L : Nat} (hKL : K ≤ L) : Both W X tb rb L ns past ms mp w := by
  obtain ⟨M, N, nv, uv, nv2, uv2, ps, qs, us, vs, h⟩ := h
  exact ⟨M, N, nv, uv, nv2, uv2, ps, qs, us, vs, h.lies, h.rlies, h.below, h.labM, h.labN, h.apart, h.held, h.eqp, h.eqr, h.wf, h.kin, h.wfr, h.few.mono hKL, h.fewr.mono hKL, Nat.le_trans h.lu hKL, Nat.le_trans h.lv hKL, StkX.map hKL (fun _ _ _ hk => hk) h.stk, h.cop⟩
theorem Both.toW (h : Both W X tb rb K ns past ms mp w) : Below W.heap.size W w := by
  obtain ⟨M, N, nv, uv, nv2, uv2, ps, qs, us, vs, h⟩ := h
  exact h.below
theorem Both.wf (h : Both W X tb rb K ns past ms mp w) : WF ns ∧ Few ns K := by
  obtain ⟨M, N, nv, uv, nv2, uv2, ps, qs, us, vs, h⟩ := h
  exact ⟨h.wf, h.few⟩
/-- what the calls want -/
theorem BothS.moved (h : BothS W X tb rb K ns past ms mp w M N nv uv nv2 uv2 ps qs us vs) : Moved W (fun _ => .other) w M :=
  ⟨h.below.os, h.below.tape, h.below.output, h.below.size, fun b hb => h.labM b hb, fun b hb _ => h.below.block b hb⟩
theorem BothS.small (h : BothS W X tb rb K ns past ms mp w M N nv uv nv2 uv2 ps qs us vs) (hK : K ≤ 1000) : Small qs := by
  intro i p hp
  have hn := nodes_get hp
  rw [h.eqr] at hn
  have h1 := h.fewr i _ hn
  have h2 := h.wfr.few hn
  exact ⟨by omega, by omega⟩
end
end Go.Proofs.YtoanbjdifddcoaaGreatDoor
