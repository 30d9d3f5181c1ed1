/- The program's tree beside the document's: both of the same nodes, and both with the same past. -/
import Derived.Test.YtjfklhfdonbpgaaGreatDoorM05
import Derived.Test.YtjfklhfdonbpgaaGreatDoorPutX
import Derived.Test.YtjfklhfdonbpgaaGreatDoorM18
import Derived.Test.YtjfklhfdonbpgaaGreatDoorM11
import Derived.Test.YtjfklhfdonbpgaaGreatDoorM00
import Derived.Test.YtjfklhfdonbpgaaGreatDoorRMakeE
import Derived.Test.YtjfklhfdonbpgaaGreatDoorRMake3
import Derived.BigRegion
import Derived.LoopN
namespace Go.Proofs.YtjfklhfdonbpgaaGreatDoor
open Go.RowKit

/-- a function has captured a block -/
def Capt (f : Value) (b : Nat) : Prop := ∃ F xs, ∃ cs : Array Value, f = .func F xs cs ∧ Value.pointer (some ⟨b, 0, none⟩) ∈ cs.toList
theorem NewF.capt {B b : Nat} {f : Value} (h : NewF B f) (hc : Capt f b) : B ≤ b := by
  obtain ⟨F, xs, cs, h1, h2⟩ := hc
  exact h F xs cs h1 b h2
theorem KeptF.unjoinC {w w' : World} {M N M' N' : Nat → Lab} {tb : Nat} {f : Value} {r : Rec} (h : KeptF w (join M N) tb f r) (hb : ∀ b, Capt f b → b < w.heap.size → M b = .other → N b = .other → w'.heap[b]? = w.heap[b]? ∧ M' b = .other ∧ N' b = .other) : KeptF w' (join M' N') tb f r := by
  have c : ∀ {b o : Nat} {v : Value}, Capt f b → join M N b = .other → w.cell? ⟨b, o, none⟩ = some v → join M' N' b = .other ∧ w'.cell? ⟨b, o, none⟩ = some v := fun {b o v} hp hj hc => by
    obtain ⟨j1, j2⟩ := join_parts hj
    obtain ⟨k1, k2, k3⟩ := hb b hp (World.block_lt_of_cell? w _ hc) j1 j2
    exact ⟨join_other k2 k3, (World.cell?_of_block (a := ⟨b, o, none⟩) k1).trans hc⟩
  cases r with
  | forget n =>
    obtain ⟨b1, b2, rfl, h1, h2, h3, h4⟩ := h
    exact ⟨b1, b2, rfl, (c ⟨_, _, _, rfl, by simp⟩ h1 h3).1, (c ⟨_, _, _, rfl, by simp⟩ h2 h4).1, (c ⟨_, _, _, rfl, by simp⟩ h1 h3).2, (c ⟨_, _, _, rfl, by simp⟩ h2 h4).2⟩
  | move i fr wz =>
    obtain ⟨b1, b2, b3, b4, rfl, ⟨h1, h2, h3, h4⟩, k1, k2, k3, k4⟩ := h
    exact ⟨b1, b2, b3, b4, rfl, ⟨(c ⟨_, _, _, rfl, by simp⟩ h1 k1).1, (c ⟨_, _, _, rfl, by simp⟩ h2 k2).1, (c ⟨_, _, _, rfl, by simp⟩ h3 k3).1, (c ⟨_, _, _, rfl, by simp⟩ h4 k4).1⟩, (c ⟨_, _, _, rfl, by simp⟩ h1 k1).2, (c ⟨_, _, _, rfl, by simp⟩ h2 k2).2, (c ⟨_, _, _, rfl, by simp⟩ h3 k3).2, (c ⟨_, _, _, rfl, by simp⟩ h4 k4).2⟩
  | cut i =>
    obtain ⟨b1, b2, rfl, h1, h2⟩ := h
    exact ⟨b1, b2, rfl, c ⟨_, _, _, rfl, by simp⟩ h1.1 h1.2, c ⟨_, _, _, rfl, by simp⟩ h2.1 h2.2⟩
  | back i k' old =>
    obtain ⟨b0, b1, b2, b3, rfl, h0, h1, h2, h3⟩ := h
    exact ⟨b0, b1, b2, b3, rfl, c ⟨_, _, _, rfl, by simp⟩ h0.1 h0.2, c ⟨_, _, _, rfl, by simp⟩ h1.1 h1.2, c ⟨_, _, _, rfl, by simp⟩ h2.1 h2.2, c ⟨_, _, _, rfl, by simp⟩ h3.1 h3.2⟩
  | ins i k' x =>
    obtain ⟨b1, b2, b3, b4, rfl, h1, h2, h3, h4, h5⟩ := h
    exact ⟨b1, b2, b3, b4, rfl, c ⟨_, _, _, rfl, by simp⟩ h1.1 h1.2, c ⟨_, _, _, rfl, by simp⟩ h2.1 h2.2, c ⟨_, _, _, rfl, by simp⟩ h3.1 h3.2, c ⟨_, _, _, rfl, by simp⟩ h4.1 h4.2, c ⟨_, _, _, rfl, by simp⟩ h5.1 h5.2⟩
  | say i old =>
    obtain ⟨b0, b1, b2, rfl, h0, h1, h2⟩ := h
    exact ⟨b0, b1, b2, rfl, c ⟨_, _, _, rfl, by simp⟩ h0.1 h0.2, c ⟨_, _, _, rfl, by simp⟩ h1.1 h1.2, c ⟨_, _, _, rfl, by simp⟩ h2.1 h2.2⟩
theorem KeptF.captLt {w : World} {M : Nat → Lab} {tb b : Nat} {f : Value} {r : Rec} (h : KeptF w M tb f r) (hc : Capt f b) : b < w.heap.size := by
  have c : ∀ {b o : Nat} {v : Value}, w.cell? ⟨b, o, none⟩ = some v → b < w.heap.size := fun hc => World.block_lt_of_cell? w _ hc
  obtain ⟨F, xs, cs, e, hm⟩ := hc
  cases r with
  | forget n =>
    obtain ⟨b1, b2, rfl, h1, h2, h3, h4⟩ := h
    cases e
    simp at hm
    rcases hm with rfl | rfl
    · exact c h3
    · exact c h4
  | move i fr wz =>
    obtain ⟨b1, b2, b3, b4, rfl, _, k1, k2, k3, k4⟩ := h
    cases e
    simp at hm
    rcases hm with rfl | rfl | rfl | rfl
    · exact c k1
    · exact c k2
    · exact c k3
    · exact c k4
  | cut i =>
    obtain ⟨b1, b2, rfl, h1, h2⟩ := h
    cases e
    simp at hm
    rcases hm with rfl | rfl
    · exact c h1.2
    · exact c h2.2
  | back i k' old =>
    obtain ⟨b0, b1, b2, b3, rfl, h0, h1, h2, h3⟩ := h
    cases e
    simp at hm
    rcases hm with rfl | rfl | rfl | rfl
    · exact c h0.2
    · exact c h1.2
    · exact c h2.2
    · exact c h3.2
  | ins i k' x =>
    obtain ⟨b1, b2, b3, b4, rfl, h1, h2, h3, h4, h5⟩ := h
    cases e
    simp at hm
    rcases hm with rfl | rfl | rfl | rfl
    · exact c h1.2
    · exact c h2.2
    · exact c h3.2
    · exact c h4.2
  | say i old =>
    obtain ⟨b0, b1, b2, rfl, h0, h1, h2⟩ := h
    cases e
    simp at hm
    rcases hm with rfl | rfl | rfl
    · exact c h0.2
    · exact c h1.2
    · exact c h2.2
/-- one of these functions has captured a block -/
def CaptL (us : List Value) (b : Nat) : Prop := ∃ f ∈ us, Capt f b

/-- of which kinds nodes are -/
def Kinds (ns : List Nd) : Prop := ∀ (j : Nat) (n : Nd), ns[j]? = some n → n.kind = 1 ∨ n.kind = 2 ∨ n.kind = 3 ∨ n.kind = 4
/-- what is kept, the last one first, undoes into these -/
def StkX (w : World) (M : Nat → Lab) (tb K : Nat) : List Value → List Nd → List (List Nd) → Prop
  | [], _, [] => True
  | f :: fs, ns, ns' :: past => ∃ r, KeptF w M tb f r ∧ Undoes ns ns' r ∧ (WF ns' ∧ Kinds ns') ∧ Few ns' K ∧ StkX w M tb K fs ns' past
  | _, _, _ => False
theorem StkX.map {w w' : World} {M M' : Nat → Lab} {tb K L : Nat} (hKL : K ≤ L) : ∀ {fs : List Value} {ns : List Nd} {past : List (List Nd)}, (∀ f r, f ∈ fs → KeptF w M tb f r → KeptF w' M' tb f r) → StkX w M tb K fs ns past → StkX w' M' tb L fs ns past
  | [], _, [], _, _ => trivial
  | [], _, _ :: _, _, h => h.elim
  | _ :: _, _, [], _, h => h.elim
  | f :: _, _, _ :: _, hk, h => by
    obtain ⟨r, h1, h2, h3, h4, h5⟩ := h
    exact ⟨r, hk f r (List.mem_cons_self ..) h1, h2, h3, h4.mono hKL, StkX.map hKL (fun g r hg => hk g r (List.mem_cons_of_mem _ hg)) h5⟩
theorem StkX.captLt {w : World} {M : Nat → Lab} {tb K b : Nat} : ∀ {fs : List Value} {ns : List Nd} {past : List (List Nd)}, StkX w M tb K fs ns past → CaptL fs b → b < w.heap.size
  | [], _, [], _, hc => by obtain ⟨f, hf, _⟩ := hc; cases hf
  | [], _, _ :: _, h, _ => h.elim
  | _ :: _, _, [], h, _ => h.elim
  | g :: _, _, _ :: _, h, hc => by
    obtain ⟨r, h1, h2, h3, h4, h5⟩ := h
    obtain ⟨f, hf, hfc⟩ := hc
    rcases List.mem_cons.1 hf with e | e
    · subst e; exact h1.captLt hfc
    · exact StkX.captLt h5 ⟨f, e, hfc⟩
theorem StkX.len {w : World} {M : Nat → Lab} {tb K : Nat} : ∀ {fs : List Value} {ns : List Nd} {past : List (List Nd)}, StkX w M tb K fs ns past → fs.length = past.length
  | [], _, [], _ => rfl
  | [], _, _ :: _, h => h.elim
  | _ :: _, _, [], h => h.elim
  | _ :: _, _, _ :: _, h => by
    obtain ⟨r, h1, h2, h3, h4, h5⟩ := h
    simp [StkX.len h5]
theorem CopyStk.len {w : World} : ∀ {free : Nat → Prop} {vs : List Value} {nss : List (List Nd)}, CopyStk w free vs nss → vs.length = nss.length
  | _, [], [], _ => rfl
  | _, [], _ :: _, h => h.elim
  | _, _ :: _, [], h => h.elim
  | _, _ :: _, _ :: _, h => by
    obtain ⟨L, _, _, h3⟩ := h
    simp [CopyStk.len h3]

structure BothS (W : World) (X : List (Nat × Obj)) (tb rb K : Nat) (ns : List Nd) (past : List (List Nd)) (ms : List Nd) (mp : List (List Nd)) (w : World) (M N : Nat → Lab) (nv uv nv2 uv2 : Value) (ps qs : List Pn) (us vs : List Value) : Prop where
  lies : Lies w M tb nv uv ps us
  rlies : RLies w N rb nv2 uv2 qs vs
  below : Below W.heap.size W w
  labM : ∀ b, b < W.heap.size → M b = .other
  labN : ∀ b, b < W.heap.size → N b = .other
  apart : ∀ b, N b ≠ .other → M b = .other
  held : ∀ x ∈ X, M x.1 = .other ∧ N x.1 = .other ∧ w.heap[x.1]? = some x.2
  eqp : nodesOf ps = ns
  eqr : nodesOf qs = ms
  wf : WF ns
  kin : Kinds ns
  wfr : WF ms
  few : Few ns K
  fewr : Few ms K
  lu : us.length ≤ K
  lv : vs.length ≤ K
  stk : StkX w (join M N) tb K us.reverse ns past
  cop : CopyStk w (fun b => (N b = .other ∧ M b = .other) ∧ W.heap.size ≤ b ∧ (∀ x ∈ X, b ≠ x.1) ∧ ¬ CaptL us b) vs.reverse mp
/-- both trees, the program's of these nodes with this past, the document's of those with that one -/
def Both (W : World) (X : List (Nat × Obj)) (tb rb K : Nat) (ns : List Nd) (past : List (List Nd)) (ms : List Nd) (mp : List (List Nd)) (w : World) : Prop :=
  ∃ M N nv uv nv2 uv2 ps qs us vs, BothS W X tb rb K ns past ms mp w M N nv uv nv2 uv2 ps qs us vs

section
variable {W : World} {X : List (Nat × Obj)} {tb rb K : Nat} {ns ms : List Nd} {past mp : List (List Nd)} {w w' : World} {M N : Nat → Lab} {nv uv nv2 uv2 : Value} {ps qs : List Pn} {us vs : List Value}

theorem BothS.prog (h : BothS W X tb rb K ns past ms mp w M N nv uv nv2 uv2 ps qs us vs) {ns' : List Nd} (hd : DoneX w M tb us ns ns' w') (hW : WF ns') (hKi : Kinds ns') (hF : Few ns' (K + 1)) : Both W X tb rb (K + 1) ns' (ns :: past) ms mp w' := by
  obtain ⟨M', nv', uv', ps', f, r, g1, g2, g3, g4, g5, g6⟩ := hd
  have hwW := h.below.size
  have hNlt : ∀ b, N b ≠ .other → b < w.heap.size := fun b hb => by
    rcases Nat.lt_or_ge b w.heap.size with e | e
    · exact e
    · exact absurd (h.rlies.fresh b e) hb
  have hb' : Below W.heap.size w w' := ⟨g5.os, g5.tape, g5.output, g5.size, fun b hb => g5.far b (Nat.lt_of_lt_of_le hb hwW) (h.labM b hb)⟩
  refine ⟨M', N, nv', uv', nv2, uv2, ps', qs, us ++ [f], vs, g1, h.rlies.far g5.size (fun b hb hne => g5.far b hb (h.apart b hne)), h.below.trans hb', fun b hb => (g5.lab b (Nat.lt_of_lt_of_le hb hwW)).trans (h.labM b hb), h.labN, fun b hb => (g5.lab b (hNlt b hb)).trans (h.apart b hb), fun x hx => ⟨(g5.lab _ (lt_of_heap (h.held x hx).2.2)).trans (h.held x hx).1, (h.held x hx).2.1, (g5.far _ (lt_of_heap (h.held x hx).2.2) (h.held x hx).1).trans (h.held x hx).2.2⟩, g2, h.eqr, hW, hKi, h.wfr, hF, h.fewr.mono (Nat.le_succ _), by have := h.lu; simp; omega, Nat.le_succ_of_le h.lv, ?_, ?_⟩
  · rw [List.reverse_append]
    refine ⟨r, g3.joined g6 (fun b hb => h.rlies.fresh b hb), g4, ⟨h.wf, h.kin⟩, h.few.mono (Nat.le_succ _), StkX.map (Nat.le_succ _) (fun _ _ _ hk => hk.unjoin fun b hb h1 h2 => ⟨g5.far b hb h1, (g5.lab b hb).trans h1, h2⟩) h.stk⟩
  · refine CopyStk.keep g5.size h.cop fun b hb hf => ⟨g5.far b hb hf.1.2, ⟨hf.1.1, (g5.lab b hb).trans hf.1.2⟩, hf.2.1, hf.2.2.1, ?_⟩
    rintro ⟨f', hf', hc⟩
    rcases List.mem_append.1 hf' with e | e
    · exact hf.2.2.2 ⟨f', e, hc⟩
    · have e := List.mem_singleton.1 e
      subst e
      have := g6.capt hc
      omega

theorem BothS.doc (h : BothS W X tb rb K ns past ms mp w M N nv uv nv2 uv2 ps qs us vs) {ms' : List Nd} (hd : RDone w N rb vs ms ms' w') (hW : WF ms') (hF : Few ms' (K + 1)) : Both W X tb rb (K + 1) ns past ms' (ms :: mp) w' := by
  obtain ⟨N', nv', uv', ps', v, g1, g2, g3, g4⟩ := hd
  have hwW := h.below.size
  have hb' : Below W.heap.size w w' := ⟨g3.os, g3.tape, g3.output, g3.size, fun b hb => g3.far b (Nat.lt_of_lt_of_le hb hwW) (h.labN b hb)⟩
  refine ⟨M, N', nv, uv, nv', uv', ps, ps', us, vs ++ [v], h.lies.beside g3 h.apart, g1, h.below.trans hb', h.labM, fun b hb => (g3.lab b (Nat.lt_of_lt_of_le hb hwW)).trans (h.labN b hb), fun b hb => ?_, fun x hx => ⟨(h.held x hx).1, (g3.lab _ (lt_of_heap (h.held x hx).2.2)).trans (h.held x hx).2.1, (g3.far _ (lt_of_heap (h.held x hx).2.2) (h.held x hx).2.1).trans (h.held x hx).2.2⟩, h.eqp, g2, h.wf, h.kin, hW, h.few.mono (Nat.le_succ _), hF, Nat.le_succ_of_le h.lu, by have := h.lv; simp; omega, ?_, ?_⟩
  · rcases Nat.lt_or_ge b w.heap.size with e | e
    · exact h.apart b (by rw [← g3.lab b e]; exact hb)
    · exact h.lies.fresh b e
  · exact StkX.map (Nat.le_succ _) (fun _ _ _ hk => hk.unjoin fun b hb h1 h2 => ⟨g3.far b hb h2, h1, (g3.lab b hb).trans h2⟩) h.stk
  · rw [List.reverse_append]
    refine CopyStk.push g3.size h.cop g4 (fun b hb hh => ⟨g3.far b hb hh.1.1, ⟨(g3.lab b hb).trans hh.1.1, hh.1.2⟩, hh.2⟩) (fun b hb hh => ⟨⟨hh, h.lies.fresh b hb⟩, Nat.le_trans hwW hb, fun x hx e => (by have := lt_of_heap (h.held x hx).2.2; omega), fun hc => ?_⟩)
    obtain ⟨f, hf, hfc⟩ := hc
    have := h.stk.captLt ⟨f, List.mem_reverse.2 hf, hfc⟩
    omega

/-- the program's tree is another one of its past, or has none any more -/
theorem BothS.turned (h : BothS W X tb rb K ns past ms mp w M N nv uv nv2 uv2 ps qs us vs) {M' : Nat → Lab} {nv' uv' : Value} {ps' : List Pn} {us' : List Value} {ns' : List Nd} {past' : List (List Nd)} (g1 : Lies w' M' tb nv' uv' ps' us') (g2 : nodesOf ps' = ns') (g5 : Moved w M w' M') (hW : WF ns') (hKi : Kinds ns') (hF : Few ns' K) (hsub : ∀ f ∈ us', f ∈ us) (hlu : us'.length ≤ K) (hst : StkX w (join M N) tb K us'.reverse ns' past') : Both W X tb rb K ns' past' ms mp w' := by
  have hwW := h.below.size
  have hNlt : ∀ b, N b ≠ .other → b < w.heap.size := fun b hb => by
    rcases Nat.lt_or_ge b w.heap.size with e | e
    · exact e
    · exact absurd (h.rlies.fresh b e) hb
  have hb' : Below W.heap.size w w' := ⟨g5.os, g5.tape, g5.output, g5.size, fun b hb => g5.far b (Nat.lt_of_lt_of_le hb hwW) (h.labM b hb)⟩
  refine ⟨M', N, nv', uv', nv2, uv2, ps', qs, us', vs, g1, h.rlies.far g5.size (fun b hb hne => g5.far b hb (h.apart b hne)), h.below.trans hb', fun b hb => (g5.lab b (Nat.lt_of_lt_of_le hb hwW)).trans (h.labM b hb), h.labN, fun b hb => (g5.lab b (hNlt b hb)).trans (h.apart b hb), fun x hx => ⟨(g5.lab _ (lt_of_heap (h.held x hx).2.2)).trans (h.held x hx).1, (h.held x hx).2.1, (g5.far _ (lt_of_heap (h.held x hx).2.2) (h.held x hx).1).trans (h.held x hx).2.2⟩, g2, h.eqr, hW, hKi, h.wfr, hF, h.fewr, hlu, h.lv, ?_, ?_⟩
  · exact StkX.map (Nat.le_refl _) (fun _ _ _ hk => hk.unjoin fun b hb h1 h2 => ⟨g5.far b hb h1, (g5.lab b hb).trans h1, h2⟩) hst
  · refine CopyStk.keep g5.size h.cop fun b hb hf => ⟨g5.far b hb hf.1.2, ⟨hf.1.1, (g5.lab b hb).trans hf.1.2⟩, hf.2.1, hf.2.2.1, ?_⟩
    rintro ⟨f', hf', hc⟩
    exact hf.2.2.2 ⟨f', hsub f' hf', hc⟩

/-- the document's tree is the last one of its past -/
theorem BothS.back (h : BothS W X tb rb K ns past ms mp w M N nv uv nv2 uv2 ps qs us vs) {L : Nat → Lab} {vs' : List Value} {ms' : List Nd} {mp' : List (List Nd)} (hd : RBack w N L rb vs' ms' w') (hL : ∀ b, L b ≠ .other → (N b = .other ∧ M b = .other) ∧ W.heap.size ≤ b ∧ (∀ x ∈ X, b ≠ x.1) ∧ ¬ CaptL us b) (hW : WF ms') (hF : Few ms' K) (hlv : vs'.length ≤ K)
    (hc : CopyStk w (fun b => ((N b = .other ∧ M b = .other) ∧ W.heap.size ≤ b ∧ (∀ x ∈ X, b ≠ x.1) ∧ ¬ CaptL us b) ∧ L b = .other) vs'.reverse mp') : Both W X tb rb K ns past ms' mp' w' := by
  obtain ⟨nv', uv', ps', g1, g2, k1, k2, k3, g6, g7⟩ := hd
  have hrb : N rb = .tree := h.rlies.tree
  have hMrb : M rb = .other := h.apart rb (by rw [hrb]; intro e; cases e)
  have hWrb : W.heap.size ≤ rb := by
    rcases Nat.lt_or_ge rb W.heap.size with e | e
    · have := h.labN rb e; rw [hrb] at this; cases this
    · exact e
  have hov : ∀ b, L b = .other → over L N b = N b := fun b e => by unfold over; rw [if_pos e]
  have hb' : Below W.heap.size w w' := ⟨k1, k2, k3, Nat.le_of_eq g6.symm, fun b hb => g7 b (by omega)⟩
  refine ⟨M, over L N, nv, uv, nv', uv', ps, ps', us, vs', h.lies.far (Nat.le_of_eq g6.symm) (fun b hb hne => g7 b (fun e => hne (by rw [e]; exact hMrb))), g1, h.below.trans hb', h.labM, fun b hb => ?_, fun b hb => ?_, fun x hx => ⟨(h.held x hx).1, ?_, ?_⟩, h.eqp, g2, h.wf, h.kin, hW, h.few, hF, h.lu, hlv, ?_, ?_⟩
  · by_cases e : L b = .other
    · rw [hov b e]; exact h.labN b hb
    · have := (hL b e).2.1; omega
  · by_cases e : L b = .other
    · rw [hov b e] at hb; exact h.apart b hb
    · exact (hL b e).1.2
  · by_cases e : L x.1 = .other
    · rw [hov _ e]; exact (h.held x hx).2.1
    · exact absurd rfl ((hL _ e).2.2.1 x hx)
  · refine (g7 _ (fun e => ?_)).trans (h.held x hx).2.2
    have := (h.held x hx).2.1
    rw [e, hrb] at this
    cases this
  · refine StkX.map (Nat.le_refl _) (fun f r hf hk => hk.unjoinC fun b hcb hb h1 h2 => ⟨g7 b (fun e => ?_), h1, ?_⟩) h.stk
    · subst e; rw [hrb] at h2; cases h2
    · by_cases e : L b = .other
      · rw [hov b e]; exact h2
      · exact absurd ⟨f, List.mem_reverse.1 hf, hcb⟩ (hL b e).2.2.2
  · refine CopyStk.keep (Nat.le_of_eq g6.symm) hc fun b hb hf => ⟨g7 b (fun e => ?_), ⟨?_, hf.1.1.2⟩, hf.1.2⟩
    · subst e
      have := hf.1.1.1
      rw [hrb] at this
      cases this
    · show over L N b = .other
      rw [hov b hf.2]
      exact hf.1.1.1

theorem Both.below (h : Both W X tb rb K ns past ms mp w) (hb : Below w.heap.size w w') : Both W X tb rb K ns past ms mp w' := by
  obtain ⟨M, N, nv, uv, nv2, uv2, ps, qs, us, vs, h⟩ := h
  exact ⟨M, N, nv, uv, nv2, uv2, ps, qs, us, vs, h.lies.below hb, h.rlies.below hb, h.below.trans (hb.mono h.below.size), h.labM, h.labN, h.apart, fun x hx => ⟨(h.held x hx).1, (h.held x hx).2.1, (hb.block _ (lt_of_heap (h.held x hx).2.2)).trans (h.held x hx).2.2⟩, h.eqp, h.eqr, h.wf, h.kin, h.wfr, h.few, h.fewr, h.lu, h.lv, StkX.map (Nat.le_refl _) (fun _ _ _ hk => hk.unjoin fun b hb' h1 h2 => ⟨hb.block b hb', h1, h2⟩) h.stk, CopyStk.keep hb.size h.cop fun b hb' hf => ⟨hb.block b hb', hf⟩⟩
/-- one more block is held -/
theorem Both.hold (h : Both W X tb rb K ns past ms mp w) (o : Obj) : Both W ((w.heap.size, o) :: X) tb rb K ns past ms mp (w.alloc o) := by
  obtain ⟨M, N, nv, uv, nv2, uv2, ps, qs, us, vs, h⟩ := h
  have hb : Below w.heap.size w (w.alloc o) := (Below.refl w.heap.size w).alloc (Nat.le_refl _) o
  refine ⟨M, N, nv, uv, nv2, uv2, ps, qs, us, vs, h.lies.below hb, h.rlies.below hb, h.below.trans (hb.mono h.below.size), h.labM, h.labN, h.apart, fun x hx => ?_, h.eqp, h.eqr, h.wf, h.kin, h.wfr, h.few, h.fewr, h.lu, h.lv, StkX.map (Nat.le_refl _) (fun _ _ _ hk => hk.unjoin fun b hb' h1 h2 => ⟨hb.block b hb', h1, h2⟩) h.stk, CopyStk.keep hb.size h.cop fun b hb' hf => ⟨hb.block b hb', hf.1, hf.2.1, fun x hx => ?_, hf.2.2.2⟩⟩
  · rcases List.mem_cons.1 hx with e | e
    · subst e
      exact ⟨h.lies.fresh _ (Nat.le_refl _), h.rlies.fresh _ (Nat.le_refl _), heap_alloc_new w o⟩
    · exact ⟨(h.held x e).1, (h.held x e).2.1, (hb.block _ (lt_of_heap (h.held x e).2.2)).trans (h.held x e).2.2⟩
  · rcases List.mem_cons.1 hx with e | e
    · subst e; show b ≠ w.heap.size; omega
    · exact hf.2.2.1 x e
theorem Both.heldAt (h : Both W X tb rb K ns past ms mp w) {b : Nat} {o : Obj} (hx : (b, o) ∈ X) : w.heap[b]? = some o := by
  obtain ⟨M, N, nv, uv, nv2, uv2, ps, qs, us, vs, h⟩ := h
  exact (h.held _ hx).2.2
theorem Both.loose (h : Both W X tb rb K ns past ms mp w) : Both W [] tb rb K ns past ms mp w := by
  obtain ⟨M, N, nv, uv, nv2, uv2, ps, qs, us, vs, h⟩ := h
  exact ⟨M, N, nv, uv, nv2, uv2, ps, qs, us, vs, h.lies, h.rlies, h.below, h.labM, h.labN, h.apart, (fun x hx => by cases hx), h.eqp, h.eqr, h.wf, h.kin, h.wfr, h.few, h.fewr, h.lu, h.lv, h.stk, CopyStk.keep (Nat.le_refl _) h.cop fun b hb' hf => ⟨rfl, hf.1, hf.2.1, (fun x hx => by cases hx), hf.2.2.2⟩⟩
theorem Both.mono (h : Both W X tb rb K ns past ms mp w) {L : Nat} (hKL : K ≤ L) : Both W X tb rb L ns past ms mp w := by
  obtain ⟨M, N, nv, uv, nv2, uv2, ps, qs, us, vs, h⟩ := h
  exact ⟨M, N, nv, uv, nv2, uv2, ps, qs, us, vs, h.lies, h.rlies, h.below, h.labM, h.labN, h.apart, h.held, h.eqp, h.eqr, h.wf, h.kin, h.wfr, h.few.mono hKL, h.fewr.mono hKL, Nat.le_trans h.lu hKL, Nat.le_trans h.lv hKL, StkX.map hKL (fun _ _ _ hk => hk) h.stk, h.cop⟩
theorem Both.toW (h : Both W X tb rb K ns past ms mp w) : Below W.heap.size W w := by
  obtain ⟨M, N, nv, uv, nv2, uv2, ps, qs, us, vs, h⟩ := h
  exact h.below
theorem Both.wf (h : Both W X tb rb K ns past ms mp w) : WF ns ∧ Few ns K := by
  obtain ⟨M, N, nv, uv, nv2, uv2, ps, qs, us, vs, h⟩ := h
  exact ⟨h.wf, h.few⟩
/-- what the calls want -/
theorem BothS.moved (h : BothS W X tb rb K ns past ms mp w M N nv uv nv2 uv2 ps qs us vs) : Moved W (fun _ => .other) w M :=
  ⟨h.below.os, h.below.tape, h.below.output, h.below.size, fun b hb => h.labM b hb, fun b hb _ => h.below.block b hb⟩
theorem BothS.small (h : BothS W X tb rb K ns past ms mp w M N nv uv nv2 uv2 ps qs us vs) (hK : K ≤ 1000) : Small qs := by
  intro i p hp
  have hn := nodes_get hp
  rw [h.eqr] at hn
  have h1 := h.fewr i _ hn
  have h2 := h.wfr.few hn
  exact ⟨by omega, by omega⟩
end
end Go.Proofs.YtjfklhfdonbpgaaGreatDoor

/- What lies in a node of any tree: parents ahead of kids, no node twice. -/
namespace Go.Proofs.YtjfklhfdonbpgaaGreatDoor

/-- what lies in a node, with it, in order -/
def und (ns : List Nd) : Nat → Nat → List Int
  | 0, _ => []
  | f + 1, i => (i : Int) :: (match ns[i]? with | some n => n.kids.flatMap fun x => und ns f x.toNat | none => [])
theorem und_succ {ns : List Nd} {i : Nat} {n : Nd} (h : ns[i]? = some n) (f : Nat) : und ns (f + 1) i = (i : Int) :: n.kids.flatMap fun x => und ns f x.toNat := by
  simp only [und, h]

/-- how far a node is from being the lowest -/
noncomputable def rkU (ns : List Nd) (i : Nat) : Nat := ns.length - (Classical.epsilon fun l => Up ns i l).length
theorem rkU_eq {ns : List Nd} {i : Nat} {l : List Nat} (h : Up ns i l) : rkU ns i = ns.length - l.length := by
  have := Classical.epsilon_spec (p := fun l => Up ns i l) ⟨l, h⟩
  unfold rkU
  rw [this.det h]
theorem WF.rank {ns : List Nd} (h : WF ns) {j : Nat} {n : Nd} (hj : ns[j]? = some n) {x : Int} (hx : x ∈ n.kids) : ∃ (b : Nat) (m : Nd), x = b ∧ b < ns.length ∧ ns[b]? = some m ∧ m.parent = j ∧ rkU ns b < rkU ns j := by
  obtain ⟨b, m, e1, e2, e3⟩ := h.kid j n hj x hx
  obtain ⟨l, hl⟩ := h.up j n hj
  have hb : Up ns b (b :: l) := .up e2 e3 hl
  have hs := hb.short
  simp at hs
  refine ⟨b, m, e1, (List.getElem?_eq_some_iff.1 e2).1, e2, e3, ?_⟩
  rw [rkU_eq hb, rkU_eq hl]
  simp
  omega
theorem rkU_le (ns : List Nd) (i : Nat) : rkU ns i ≤ ns.length := Nat.sub_le _ _

/-- a node lies in another one, or is it -/
inductive Anc (ns : List Nd) : Nat → Nat → Prop where
  | refl (i : Nat) : Anc ns i i
  | step {x p i : Nat} {n m : Nd} (hx : ns[x]? = some n) (hp : n.parent = p) (hm : ns[p]? = some m) (hk : (x : Int) ∈ m.kids) (h : Anc ns p i) : Anc ns x i
theorem Anc.trans {ns : List Nd} {x y z : Nat} (h : Anc ns x y) (k : Anc ns y z) : Anc ns x z := by
  induction h with
  | refl => exact k
  | step hx hp hm hk _ ih => exact .step hx hp hm hk (ih k)
theorem Anc.rank_le {ns : List Nd} (hs : WF ns) {x i : Nat} (h : Anc ns x i) : rkU ns x ≤ rkU ns i := by
  induction h with
  | refl => exact Nat.le_refl _
  | step hx hp hm hk _ ih =>
    obtain ⟨b, m, e1, _, _, _, e2⟩ := hs.rank hm hk
    have e3 := Int.ofNat.inj e1
    subst e3
    omega
theorem Anc.or {ns : List Nd} {x b c : Nat} (h : Anc ns x b) (k : Anc ns x c) : Anc ns b c ∨ Anc ns c b := by
  induction h with
  | refl => exact .inl k
  | step hx hp hm hk h ih =>
    cases k with
    | refl => exact .inr (.step hx hp hm hk h)
    | step hx' hp' hm' hk' k' =>
      obtain rfl := Option.some.inj (hx.symm.trans hx')
      have e := Int.ofNat.inj (hp.symm.trans hp')
      subst e
      exact ih k'
theorem und_anc {ns : List Nd} (hs : WF ns) : ∀ (f i : Nat), i < ns.length → ∀ x ∈ und ns f i, ∃ b : Nat, x = b ∧ b < ns.length ∧ Anc ns b i := by
  intro f
  induction f with
  | zero => intro i _ x hx; cases hx
  | succ f ih =>
    intro i hi x hx
    have hn : ns[i]? = some ns[i] := List.getElem?_eq_getElem hi
    rw [und_succ hn] at hx
    rcases List.mem_cons.1 hx with e | hx
    · exact ⟨i, e, hi, .refl i⟩
    · obtain ⟨y, hy, hxy⟩ := List.mem_flatMap.1 hx
      obtain ⟨b, m, e1, hb, e4, e5, _⟩ := hs.rank hn hy
      subst e1
      obtain ⟨c, f1, f2, f3⟩ := ih b hb x hxy
      exact ⟨c, f1, f2, f3.trans (.step e4 e5 hn hy (.refl i))⟩
theorem und_nodup {ns : List Nd} (hs : WF ns) : ∀ (f i : Nat), i < ns.length → (und ns f i).Nodup := by
  intro f
  induction f with
  | zero => intro i _; exact List.nodup_nil
  | succ f ih =>
    intro i hi
    have hg : ns[i]? = some ns[i] := List.getElem?_eq_getElem hi
    rw [und_succ hg, List.nodup_cons]
    have kid : ∀ y ∈ (ns[i]).kids, ∃ b : Nat, y = b ∧ b < ns.length ∧ rkU ns b < rkU ns i ∧ ∀ x ∈ und ns f y.toNat, ∃ c : Nat, x = c ∧ Anc ns c b := by
      intro y hy
      obtain ⟨b, m, e1, e2, _, _, e3⟩ := hs.rank hg hy
      refine ⟨b, e1, e2, e3, fun x hx => ?_⟩
      subst e1
      obtain ⟨c, f1, _, f3⟩ := und_anc hs f b e2 x hx
      exact ⟨c, f1, f3⟩
    refine ⟨fun hm => ?_, ?_⟩
    · obtain ⟨y, hy, hx⟩ := List.mem_flatMap.1 hm
      obtain ⟨b, _, _, e3, e4⟩ := kid y hy
      obtain ⟨c, f1, f2⟩ := e4 _ hx
      have e5 := Int.ofNat.inj f1
      subst e5
      have := f2.rank_le hs
      omega
    · have flat : ∀ l : List Int, l.Nodup → (∀ y ∈ l, y ∈ (ns[i]).kids) → (l.flatMap fun x => und ns f x.toNat).Nodup := by
        intro l
        induction l with
        | nil => intro _ _; exact List.nodup_nil
        | cons y l il =>
          intro hl hsub
          rw [List.flatMap_cons, List.nodup_append]
          obtain ⟨hy, hl'⟩ := List.nodup_cons.1 hl
          obtain ⟨b, e1, e2, e3, e4⟩ := kid y (hsub y (List.mem_cons_self ..))
          refine ⟨by subst e1; exact ih b e2, il hl' fun z hz => hsub z (List.mem_cons_of_mem _ hz), ?_⟩
          intro x hx z hz hxz
          subst hxz
          obtain ⟨u, hu, hxu⟩ := List.mem_flatMap.1 hz
          obtain ⟨c, g1, g2, g3, g4⟩ := kid u (hsub u (List.mem_cons_of_mem _ hu))
          obtain ⟨p, p1, p2⟩ := e4 x hx
          obtain ⟨q, q1, q2⟩ := g4 x hxu
          have epq := Int.ofNat.inj (p1.symm.trans q1)
          subst epq
          have hne : b ≠ c := fun e => hy (by rw [e1, e, ← g1]; exact hu)
          have no : ∀ b c : Nat, (b : Int) ∈ (ns[i]).kids → rkU ns c < rkU ns i → b ≠ c → ¬ Anc ns b c := by
            intro b c hb hc hbc ha
            cases ha with
            | refl => exact hbc rfl
            | step hx' hp' hm' hk' k' =>
              obtain ⟨b', m, r1, _, r4, r5, _⟩ := hs.rank hg hb
              have r6 := Int.ofNat.inj r1
              subst r6
              obtain rfl := Option.some.inj (hx'.symm.trans r4)
              have r7 := Int.ofNat.inj (hp'.symm.trans r5)
              subst r7
              have := k'.rank_le hs
              omega
          rcases p2.or q2 with h1 | h1
          · exact no b c (e1 ▸ hsub y (List.mem_cons_self ..)) g3 hne h1
          · exact no c b (g1 ▸ hsub u (List.mem_cons_of_mem _ hu)) e3 (Ne.symm hne) h1
      exact flat _ (hs.nodup i _ hg) fun _ h => h
theorem und_short {ns : List Nd} (hs : WF ns) (f i : Nat) (hi : i < ns.length) : (und ns f i).length ≤ ns.length :=
  short _ (und_nodup hs f i hi) fun x hx => by
    obtain ⟨b, e1, e2, _⟩ := und_anc hs f i hi x hx
    exact ⟨b, e1, e2⟩

/-- each but the first stands behind its parent -/
theorem und_pre {ns : List Nd} (hs : WF ns) : ∀ (f i : Nat), i < ns.length → ∀ (k : Nat) (x : Int), (und ns f i)[k]? = some x → 0 < k → ∃ (c : Nat) (n : Nd), x = c ∧ ns[c]? = some n ∧ n.parent ∈ (und ns f i).take k := by
  intro f
  induction f with
  | zero => intro i _ k x hx; simp [und] at hx
  | succ f ih =>
    intro i hi k x hx hk
    have hg : ns[i]? = some ns[i] := List.getElem?_eq_getElem hi
    rw [und_succ hg] at hx ⊢
    have flat : ∀ l : List Int, (∀ y ∈ l, y ∈ (ns[i]).kids) → ∀ (A : List Int), (i : Int) ∈ A → ∀ (k : Nat) (x : Int), (l.flatMap fun x => und ns f x.toNat)[k]? = some x → ∃ (c : Nat) (n : Nd), x = c ∧ ns[c]? = some n ∧ n.parent ∈ A ++ (l.flatMap fun x => und ns f x.toNat).take k := by
      intro l
      induction l with
      | nil => intro _ A _ k x hx; simp at hx
      | cons y l il =>
        intro hsub A hA k x hx
        rw [List.flatMap_cons] at hx ⊢
        obtain ⟨b, m, e1, e2, e3, e4, _⟩ := hs.rank hg (hsub y (List.mem_cons_self ..))
        subst e1
        rw [Int.toNat_natCast] at hx ⊢
        by_cases hlt : k < (und ns f b).length
        · rw [List.getElem?_append_left hlt] at hx
          rw [List.take_append_of_le_length (by omega)]
          rcases Nat.eq_zero_or_pos k with h0 | h0
          · subst h0
            cases f with
            | zero => simp [und] at hx
            | succ f =>
              have : x = b := by simpa [und] using hx.symm
              exact ⟨b, m, this, e3, List.mem_append_left _ (by rw [e4]; exact hA)⟩
          · obtain ⟨c, n, g1, g2, g3⟩ := ih b e2 k x hx h0
            exact ⟨c, n, g1, g2, List.mem_append_right _ g3⟩
        · rw [List.getElem?_append_right (by omega)] at hx
          obtain ⟨c, n, g1, g2, g3⟩ := il (fun z hz => hsub z (List.mem_cons_of_mem _ hz)) A hA _ x hx
          refine ⟨c, n, g1, g2, ?_⟩
          rw [List.take_append]
          rcases List.mem_append.1 g3 with g3 | g3
          · exact List.mem_append_left _ g3
          · exact List.mem_append_right _ (List.mem_append_right _ g3)
    obtain ⟨k', rfl⟩ : ∃ k', k = k' + 1 := ⟨k - 1, by omega⟩
    rw [List.getElem?_cons_succ] at hx
    obtain ⟨c, n, g1, g2, g3⟩ := flat _ (fun _ h => h) [(i : Int)] (by simp) k' x hx
    exact ⟨c, n, g1, g2, by simpa using g3⟩
end Go.Proofs.YtjfklhfdonbpgaaGreatDoor

/- What looks at any tree. -/
namespace Go.Proofs.YtjfklhfdonbpgaaGreatDoor
open Go.RowKit

theorem size_any {w : World} {M : Nat → Lab} {tb : Nat} {nv uv : Value} {ps : List Pn} {us : List Value} (h : Lies w M tb nv uv ps us) :
    Calls Tryz.prog 9 #[.pointer (some ⟨tb, 0, none⟩)] w fun e w' => e = .returned (.int .i64 ps.length) ∧ w' = w := by
  obtain ⟨a, cap, rfl, hc, hm⟩ := h.nodes.shape
  have c0 := h.cell0
  clear h
  go_enter Tryz.func9, Tryz.ntmps9
  go_wp2
  go_ret
  exact ⟨rfl, rfl⟩

set_option maxHeartbeats 1000000 in
theorem kind_any {w : World} {M : Nat → Lab} {tb : Nat} {nv uv : Value} {ps : List Pn} {us : List Value} (h : Lies w M tb nv uv ps us) {i : Nat} {p : Pn} (hp : ps[i]? = some p) :
    Calls Tryz.prog 10 #[.pointer (some ⟨tb, 0, none⟩), .int .i64 i] w fun e w' => e = .returned (.int .i64 p.n.kind) ∧ w' = w := by
  have hb := hasB_of hp
  obtain ⟨nb, cap, rfl, hc, hm, _, _, hi⟩ := h.form hp
  have c0 := h.cell0
  have c4 := (h.cellN rfl (f := 0) hp (by omega) rfl).1
  rw [Nat.add_zero] at c4
  unfold maxLen at hm
  go_enter Tryz.func10, Tryz.ntmps10
  go_wp2_with (go_at_call 45; refine (has_any h _).mono ?_; rintro e w' ⟨rfl, rfl⟩; rw [hb])
  all_goals go_ret
  all_goals exact ⟨rfl, rfl⟩
set_option maxHeartbeats 1000000 in
theorem tag_any {w : World} {M : Nat → Lab} {tb : Nat} {nv uv : Value} {ps : List Pn} {us : List Value} (h : Lies w M tb nv uv ps us) {i : Nat} {p : Pn} (hp : ps[i]? = some p) :
    Calls Tryz.prog 11 #[.pointer (some ⟨tb, 0, none⟩), .int .i64 i] w fun e w' => e = .returned (.string p.n.tag) ∧ w' = w := by
  have hb := hasB_of hp
  obtain ⟨nb, cap, rfl, hc, hm, _, _, hi⟩ := h.form hp
  have c0 := h.cell0
  have c4 := (h.cellN rfl (f := 1) hp (by omega) rfl).1
  unfold maxLen at hm
  go_enter Tryz.func11, Tryz.ntmps11
  go_wp2_with (go_at_call 45; refine (has_any h _).mono ?_; rintro e w' ⟨rfl, rfl⟩; rw [hb])
  all_goals go_ret
  all_goals exact ⟨rfl, rfl⟩
set_option maxHeartbeats 1000000 in
theorem words_any {w : World} {M : Nat → Lab} {tb : Nat} {nv uv : Value} {ps : List Pn} {us : List Value} (h : Lies w M tb nv uv ps us) {i : Nat} {p : Pn} (hp : ps[i]? = some p) :
    Calls Tryz.prog 12 #[.pointer (some ⟨tb, 0, none⟩), .int .i64 i] w fun e w' => e = .returned (.string p.n.words) ∧ w' = w := by
  have hb := hasB_of hp
  obtain ⟨nb, cap, rfl, hc, hm, _, _, hi⟩ := h.form hp
  have c0 := h.cell0
  have c4 := (h.cellN rfl (f := 2) hp (by omega) rfl).1
  unfold maxLen at hm
  go_enter Tryz.func12, Tryz.ntmps12
  go_wp2_with (go_at_call 45; refine (has_any h _).mono ?_; rintro e w' ⟨rfl, rfl⟩; rw [hb])
  all_goals go_ret
  all_goals exact ⟨rfl, rfl⟩

set_option maxHeartbeats 1000000 in
set_option maxRecDepth 100000 in
theorem cloneA_any {w : World} {M : Nat → Lab} {l : Lab} {v : Value} {at_ : List (ByteArray × ByteArray)} (h : Row w M l 79 2 v at_.length (attrCells at_)) (hn : at_.length ≤ 1099511627776) :
    Calls Tryz.prog 46 #[v] w fun e w' => ∃ v', e = .returned v' ∧ w'.ownsRow w.heap.size 79 2 v' at_.length (attrCells at_) ∧ Below w.heap.size w w' := by
  obtain ⟨i0, hi, hz0, hz1, hz2⟩ := info_parts Tryz.infoAttr
  have qs : ∀ (w : World) (a : Option Addr) (n c n' c' : Nat), (binOp .eql 37 (.slice a n c) (.slice none n' c')).run Tryz.prog w = .ok (.bool a.isNone) w := fun w a n c n' c' => Lib.run_eql_slice_nil w _ _ a n c n' c' Tryz.underlying37
  have HS : Hid (SrcOf w 2 v at_.length (attrCells at_)) := h.src (one_attr _)
  obtain ⟨hl, a, cap, rfl, h1, h2, h3⟩ := id h
  have hz : a = none → at_ = [] := by
    intro e
    subst e
    rcases h3 with ⟨h3, _⟩ | ⟨g, cur, ha, _⟩
    · exact List.eq_nil_of_length_eq_zero (by omega)
    · cases ha
  clear h hl h3
  unfold maxLen at h2
  cases a with
  | none =>
    have hz' := hz rfl
    subst hz'
    clear hz
    go_enter Tryz.func46, Tryz.ntmps46
    go_wp2
    go_ret
    exact ⟨_, rfl, World.ownsRow_nil _ _ _ _, Below.refl _ _⟩
  | some ad =>
    have hown : Hid ((w.alloc (.cells #[] 79)).ownsRow w.heap.size 79 2 (.slice (some ⟨w.heap.size, 0, none⟩) 0 0) 0 []) := World.ownsRow_made w #[] 0 (Nat.le_refl _) (by unfold maxLen; omega) rfl
    clear hz
    go_enter Tryz.func46, Tryz.ntmps46
    go_wp2_with (at_builtin; refine wpList_app_own _ (by rfl) _ _ 37 (by rfl) w.heap.size 79 i0 _ 2 32 Tryz.underlying37 hi hz0 hz1 hz2 rfl (by decide) (.slice (some ⟨w.heap.size, 0, none⟩) 0 0) 0 [] (by rfl) hown.out (.slice (some ad) at_.length cap) at_.length (attrCells at_) (by rfl) (HS.out.below ((Below.refl _ _).alloc (Nat.le_refl _) _)) (by unfold maxLen; omega) (by omega) (by simp) ?_; intro v' w' hv hg _; have HV : Hid _ := And.intro hv hg; clear hv hg)
    go_ret
    refine ⟨_, rfl, by simpa using HV.out.1, ?_⟩
    exact ((Below.refl _ _).alloc (Nat.le_refl _) _).grown HV.out.2 (by simp) (fun k hk => by simp [Value.ownBlock] at hk; omega)

set_option maxHeartbeats 1000000 in
theorem attrs_any {w : World} {M : Nat → Lab} {tb : Nat} {nv uv : Value} {ps : List Pn} {us : List Value} (h : Lies w M tb nv uv ps us) {i : Nat} {p : Pn} (hp : ps[i]? = some p) (hk : p.n.attrs.length ≤ 1099511627776) :
    Calls Tryz.prog 15 #[.pointer (some ⟨tb, 0, none⟩), .int .i64 i] w fun e w' => ∃ v', e = .returned v' ∧ w'.ownsRow w.heap.size 79 2 v' p.n.attrs.length (attrCells p.n.attrs) ∧ Below w.heap.size w w' := by
  have hb := hasB_of hp
  obtain ⟨nb, cap, rfl, hc, hm, _, _, hi⟩ := h.form hp
  have c0 := h.cell0
  have c3 := (h.cellN rfl (f := 3) hp (by omega) rfl).1
  have hr := (h.node i p hp).1
  obtain ⟨ka, kc, hkv, _, _⟩ := hr.shape
  rw [hkv] at c3
  have HR : Hid (Row w M (.attrs i) 79 2 (.slice ka p.n.attrs.length kc) p.n.attrs.length (attrCells p.n.attrs)) := hkv ▸ hr
  have H : Hid (Lies w M tb (.slice (some ⟨nb, 0, none⟩) ps.length cap) uv ps us) := h
  unfold maxLen at hm
  clear h hr hkv
  go_enter Tryz.func15, Tryz.ntmps15
  go_wp2_with (first
    | (go_at_call 45; refine (has_any H.out _).mono ?_; rintro e w' ⟨rfl, rfl⟩; rw [hb])
    | (go_at_call 46; refine (cloneA_any HR.out hk).mono ?_; rintro e w1 ⟨v1, rfl, ho, hB⟩))
  go_ret
  exact ⟨_, rfl, ho, hB⟩

theorem flat_le {α : Type} (l : List α) (g : α → List Int) (k : Nat) : ((l.take k).flatMap g).length ≤ (l.flatMap g).length := by
  have e : (l.take k ++ l.drop k).flatMap g = l.flatMap g := by rw [List.take_append_drop]
  rw [← e, List.flatMap_append, List.length_append]
  omega
theorem flat_succ {α : Type} {l : List α} {k : Nat} {x : α} (h : l[k]? = some x) (g : α → List Int) : (l.take (k + 1)).flatMap g = (l.take k).flatMap g ++ g x := by
  obtain ⟨hk, rfl⟩ := List.getElem?_eq_some_iff.1 h
  rw [List.take_succ_eq_append_getElem hk, List.flatMap_append]
  simp

def UndPost (w0 : World) (l : List Int) (e : Ending) (w' : World) : Prop := ∃ v', e = .returned v' ∧ w'.ownsRow w0.heap.size 3 1 v' l.length (l.map intV) ∧ Below w0.heap.size w0 w'

set_option maxHeartbeats 4000000 in
set_option maxRecDepth 100000 in
theorem under_any {w0 : World} {M : Nat → Lab} {tb : Nat} {nv uv : Value} {ps : List Pn} {us : List Value} (h : Lies w0 M tb nv uv ps us) (hs : WF (nodesOf ps)) : ∀ (f i : Nat), i < ps.length → rkU (nodesOf ps) i < f → ∀ (w : World) (v : Value) (xs : List Int) (x : Int), x = i → Below w0.heap.size w0 w → w.ownsRow w0.heap.size 3 1 v xs.length (xs.map intV) → xs.length + (und (nodesOf ps) f i).length ≤ 1000000000 →
    Calls Tryz.prog 48 #[.pointer (some ⟨tb, 0, none⟩), v, .int .i64 x] w (UndPost w0 (xs ++ und (nodesOf ps) f i)) := by
  obtain ⟨i0, hi, hz0, hz1, hz2⟩ := info_parts Tryz.infoInt
  intro f
  induction f with
  | zero => intro i _ hr; omega
  | succ f ih =>
    intro i hil hr w v xs x hx hB hown hlen
    subst hx
    obtain ⟨p, hp⟩ : ∃ p, ps[i]? = some p := ⟨_, List.getElem?_eq_getElem hil⟩
    have hpn := nodes_get hp
    rw [und_succ hpn] at hlen ⊢
    obtain ⟨nb, cap, rfl, hc, hm, _, hnl, _⟩ := h.form hp
    have c0 := (hB.cell (p := ⟨tb, 0, none⟩) (lt_of_heap h.head)).trans h.cell0
    have c5 := (hB.cell (p := ⟨nb, i * 6 + 5, none⟩) hnl).trans (h.cellN rfl (f := 5) hp (by omega) rfl).1
    obtain ⟨ka, kc, hkv, hk1, hk2⟩ := (h.node i p hp).2.shape
    rw [hkv] at c5
    have hlt : tb < w0.heap.size := lt_of_heap h.head
    have HK : Hid (∀ (k : Nat) (y : Int), p.n.kids[k]? = some y → ∃ g b, ka = some ⟨g, 0, none⟩ ∧ g < w0.heap.size ∧ w0.cell? ⟨g, k, none⟩ = some (.int .i64 y) ∧ y = (b : Nat) ∧ b < ps.length ∧ rkU (nodesOf ps) b < f) := by
      intro k y hy
      have hkl : k < p.n.kids.length := (List.getElem?_eq_some_iff.1 hy).1
      obtain ⟨g, c, hv, _, _, _, hg⟩ := (h.node i p hp).2.form (by omega)
      rw [hkv] at hv
      cases hv
      obtain ⟨b, _, e1, e2, _, _, e3⟩ := hs.rank hpn (List.mem_of_getElem? hy)
      exact ⟨g, b, rfl, hg, ((h.node i p hp).2.cell hkv (j := k) (u := .int .i64 y) (by simp [hy, intV])).1, e1, by simpa [nodesOf] using e2, by omega⟩
    have IH : Hid _ := ih
    have HB : Hid (Below w0.heap.size w0 w) := hB
    have HO : Hid (w.ownsRow w0.heap.size 3 1 v xs.length (xs.map intV)) := hown
    have hsz := hB.size
    have htw := Nat.lt_of_lt_of_le hlt hsz
    have hnw := Nat.lt_of_lt_of_le hnl hsz
    have i1 : (0 : Int) ≤ (i : Int) := by omega
    have i2 : (i : Int) < (ps.length : Int) := by omega
    have HL : Hid (∀ k, (xs ++ (i : Int) :: (p.n.kids.take k).flatMap fun x => und (nodesOf ps) f x.toNat).length ≤ 1000000000) := by
      intro k
      have := flat_le p.n.kids (fun x => und (nodesOf ps) f x.toNat) k
      simp only [List.length_append, List.length_cons] at hlen ⊢
      omega
    have hx0 : xs.length < 1000000000 := by simp only [List.length_cons] at hlen; omega
    unfold maxLen at hm hk2
    clear h hs ih hp hpn hB hown hlen
    go_enter Tryz.func48, Tryz.ntmps48
    go_wp2_with (at_builtin; refine wpList_app_own _ (by rfl) _ _ 38 (by rfl) w0.heap.size 3 i0 (.int .i64 0) 1 8 Tryz.underlying38 hi hz0 hz1 hz2 rfl (by decide) v xs.length (xs.map intV) (by rfl) (HO.out.alloc _) _ 1 [.int .i64 i] (by rfl) ⟨rfl, by simp [Value.oneCell'], _, _, rfl, .inr ⟨_, rfl, cell_one_new _ _ _⟩⟩ (by unfold maxLen; omega) (by omega) (by simp; omega) ?_
                 intro v1 w1 hv1 hg1 _
                 have HB1 : Hid (Below w0.heap.size w0 w1) := (HB.out.alloc hsz _).grown hg1 (by simp; omega) (fun k hk => (HO.out.lt k hk).1)
                 have d0 := (HB1.out.cell (p := ⟨tb, 0, none⟩) hlt).trans ((HB.out.cell (p := ⟨tb, 0, none⟩) hlt).symm.trans c0)
                 have d5 := (HB1.out.cell (p := ⟨nb, i * 6 + 5, none⟩) hnl).trans ((HB.out.cell (p := ⟨nb, i * 6 + 5, none⟩) hnl).symm.trans c5)
                 have HV1 : Hid (w1.ownsRow w0.heap.size 3 1 v1 (xs.length + 1) (xs.map intV ++ [.int .i64 i])) := hv1
                 clear hv1 hg1)
    go_loopw [1, 22] (fun lv iv wr => ∃ k : Nat, k ≤ p.n.kids.length ∧ iv = .int .i64 k ∧ Hid (wr.ownsRow w0.heap.size 3 1 lv (xs ++ (i : Int) :: (p.n.kids.take k).flatMap fun x => und (nodesOf ps) f x.toNat).length ((xs ++ (i : Int) :: (p.n.kids.take k).flatMap fun x => und (nodesOf ps) f x.toNat).map intV)) ∧ Hid (Below w0.heap.size w0 wr)) (fun _ iv _ => p.n.kids.length - (intOf iv).toNat)
    case atStart =>
      refine ⟨0, by omega, rfl, ?_, HB1⟩
      show w1.ownsRow _ _ _ _ _ _
      have := HV1.out
      simpa [intV] using this
    case round =>
      obtain ⟨k, hk, rfl, hO, hbel⟩ := hrel
      by_cases hkl : k < p.n.kids.length
      · obtain ⟨y, hy⟩ : ∃ y, p.n.kids[k]? = some y := ⟨_, List.getElem?_eq_getElem hkl⟩
        obtain ⟨g, b, rfl, hg, cy, rfl, hb1, hb2⟩ := HK.out k y hy
        have cy' := (hbel.out.cell (p := ⟨g, k, none⟩) hg).trans cy
        have hll := HL.out (k + 1)
        rw [flat_succ hy] at hll
        have HLL : Hid _ := hll
        have HY : Hid _ := flat_succ hy (fun x => und (nodesOf ps) f x.toNat)
        clear hy cy hll
        go_wp2_with (go_at_call 48; refine (IH.out b hb1 hb2 _ _ _ _ rfl hbel.out hO.out (by have := HLL.out; simp only [List.length_append, List.length_cons, Int.toNat_natCast] at this ⊢; omega)).mono ?_; rintro e w2 ⟨v2, rfl, ho2, hB2⟩; have H2 : Hid _ := And.intro ho2 hB2; clear ho2 hB2)
        go_roundw
        case rel =>
          go_light
          refine ⟨k + 1, by omega, by go_num, ?_, H2.out.2⟩
          show World.ownsRow _ _ _ _ _ _ _
          rw [HY.out]
          have := H2.out.1
          simpa using this
        case measure => go_light; simp [intOf]; omega
      · obtain rfl : k = p.n.kids.length := by omega
        rw [List.take_length] at hO
        obtain ⟨a5, e5, hv5⟩ := own_shape hO.out
        subst hv5
        go_wp2
        go_ret
        exact ⟨_, rfl, hO.out, hbel.out⟩

set_option maxHeartbeats 1000000 in
theorem Under_any {w : World} {M : Nat → Lab} {tb : Nat} {nv uv : Value} {ps : List Pn} {us : List Value} (h : Lies w M tb nv uv ps us) (hs : WF (nodesOf ps)) (f i : Nat) (hi : i < ps.length) (hf : rkU (nodesOf ps) i < f) :
    Calls Tryz.prog 18 #[.pointer (some ⟨tb, 0, none⟩), .int .i64 i] w (UndPost w (und (nodesOf ps) f i)) := by
  have hb : hasB ps.length i = true := hasB_of (List.getElem?_eq_getElem hi)
  have H : Hid (Lies w M tb nv uv ps us) := h
  have hun : (und (nodesOf ps) f i).length ≤ 1000000000 := Nat.le_trans (und_short hs f i (by simpa [nodesOf] using hi)) (Nat.le_trans hs.len (by omega))
  have HC : Hid (Calls Tryz.prog 48 #[.pointer (some ⟨tb, 0, none⟩), .slice none 0 0, .int .i64 i] w (UndPost w ([] ++ und (nodesOf ps) f i))) := under_any h hs f i hi hf w (.slice none 0 0) [] i rfl (Below.refl _ _) (World.ownsRow_nil _ _ _ _) (by simpa using hun)
  clear h hs hun
  go_enter Tryz.func18, Tryz.ntmps18
  go_wp2_with (first
    | (go_at_call 45; refine (has_any H.out _).mono ?_; rintro e w' ⟨rfl, rfl⟩; rw [hb])
    | (go_at_call 48; refine HC.out.mono ?_; rintro e w1 ⟨v1, rfl, ho, hB⟩))
  go_ret
  exact ⟨_, rfl, by simpa using ho, hB⟩


/-- a list of numbers as it lies in memory, whoever made it -/
def IntsAt (w : World) (v : Value) (l : List Int) : Prop := ∃ a c, v = .slice a l.length c ∧ ∀ (k : Nat) (y : Int), l[k]? = some y → ∃ g, a = some ⟨g, 0, none⟩ ∧ w.cell? ⟨g, k, none⟩ = some (.int .i64 y)
def AttrsAt (w : World) (v : Value) (l : List (ByteArray × ByteArray)) : Prop := ∃ a c, v = .slice a l.length c ∧ ∀ (k : Nat) x, l[k]? = some x → ∃ g, a = some ⟨g, 0, none⟩ ∧ w.cell? ⟨g, k * 2, none⟩ = some (.string x.1) ∧ w.cell? ⟨g, k * 2 + 1, none⟩ = some (.string x.2)

theorem Row.ints {w : World} {M : Nat → Lab} {l : Lab} {v : Value} {xs : List Int} (h : Row w M l 3 1 v xs.length (xs.map intV)) : IntsAt w v xs := by
  obtain ⟨a, c, hv, _, _⟩ := h.shape
  refine ⟨a, c, hv, fun k y hy => ?_⟩
  have hkl : k < xs.length := (List.getElem?_eq_some_iff.1 hy).1
  obtain ⟨g, c', hv', _, _, _, hg⟩ := h.form (by omega)
  rw [hv] at hv'
  cases hv'
  exact ⟨g, rfl, (h.cell hv (j := k) (u := .int .i64 y) (by simp [hy, intV])).1⟩
theorem own_ints {w : World} {B : Nat} {v : Value} {xs : List Int} (h : w.ownsRow B 3 1 v xs.length (xs.map intV)) : IntsAt w v xs := by
  obtain ⟨_, a, c, hv, _, _, hc⟩ := own_cell h
  refine ⟨a, c, hv, fun k y hy => ?_⟩
  obtain ⟨g, e1, e2, _⟩ := hc k y hy
  exact ⟨g, e1, e2⟩
theorem Row.attrsAt {w : World} {M : Nat → Lab} {l : Lab} {v : Value} {at_ : List (ByteArray × ByteArray)} (h : Row w M l 79 2 v at_.length (attrCells at_)) : AttrsAt w v at_ := by
  obtain ⟨a, c, hv, _, _⟩ := h.shape
  refine ⟨a, c, hv, fun k y hy => ?_⟩
  have hkl : k < at_.length := (List.getElem?_eq_some_iff.1 hy).1
  obtain ⟨g, c', hv', _, _, _, hg⟩ := h.form (by omega)
  rw [hv] at hv'
  cases hv'
  obtain ⟨q1, q2⟩ := attrCells_get at_ k y hy
  exact ⟨g, rfl, (h.cell hv q1).1, (h.cell hv q2).1⟩
theorem own_attrs {w : World} {B : Nat} {v : Value} {at_ : List (ByteArray × ByteArray)} (h : w.ownsRow B 79 2 v at_.length (attrCells at_)) : AttrsAt w v at_ := by
  obtain ⟨a, c, hv⟩ := own_shape h
  refine ⟨a, c, hv, fun k y hy => ?_⟩
  have hkl : k < at_.length := (List.getElem?_eq_some_iff.1 hy).1
  rcases h.2 with ⟨_, e⟩ | ⟨g, cap, cur, hv', _⟩
  · omega
  · rw [hv] at hv'
    cases hv'
    obtain ⟨q1, q2⟩ := attrCells_get at_ k y hy
    have hc := h.cells (g := g) (by rw [hv]; rfl)
    refine ⟨g, rfl, ?_, ?_⟩
    · have := hc _ _ q1; rwa [add0] at this
    · have := hc _ _ q2; rwa [add0] at this
theorem IntsAt.below {w w' : World} {v : Value} {l : List Int} (h : IntsAt w v l) (hb : Below w.heap.size w w') : IntsAt w' v l := by
  obtain ⟨a, c, hv, hc⟩ := h
  refine ⟨a, c, hv, fun k y hy => ?_⟩
  obtain ⟨g, e1, e2⟩ := hc k y hy
  exact ⟨g, e1, (hb.cell (World.block_lt_of_cell? w _ e2)).trans e2⟩
theorem AttrsAt.below {w w' : World} {v : Value} {l : List (ByteArray × ByteArray)} (h : AttrsAt w v l) (hb : Below w.heap.size w w') : AttrsAt w' v l := by
  obtain ⟨a, c, hv, hc⟩ := h
  refine ⟨a, c, hv, fun k y hy => ?_⟩
  obtain ⟨g, e1, e2, e3⟩ := hc k y hy
  exact ⟨g, e1, (hb.cell (World.block_lt_of_cell? w _ e2)).trans e2, (hb.cell (World.block_lt_of_cell? w _ e3)).trans e3⟩

set_option maxHeartbeats 4000000 in
set_option maxRecDepth 100000 in
theorem sameInts_any {w : World} {v u : Value} {l : List Int} (hv : IntsAt w v l) (hu : IntsAt w u l) (hl : l.length ≤ 1099511627776) :
    Calls Tryz.prog 16 #[v, u] w fun e w' => e = .returned (.bool true) ∧ Below w.heap.size w w' := by
  obtain ⟨a, c, rfl, ha⟩ := hv
  obtain ⟨b, d, rfl, hb⟩ := hu
  have HA : Hid _ := ha
  have HB : Hid _ := hb
  clear ha hb
  go_enter Tryz.func16, Tryz.ntmps16
  go_wp2
  go_loopw [5] (fun i wr => ∃ k : Nat, k ≤ l.length ∧ i = .int .i64 k ∧ Hid (Below w.heap.size w wr)) (fun i _ => l.length - (intOf i).toNat)
  case atStart => exact ⟨0, by omega, rfl, Below.refl _ _⟩
  case round =>
    obtain ⟨k, hk, rfl, hbel⟩ := hrel
    by_cases hlt : k < l.length
    · obtain ⟨y, hy⟩ : ∃ y, l[k]? = some y := ⟨_, List.getElem?_eq_getElem hlt⟩
      obtain ⟨g, rfl, e1⟩ := HA.out k y hy
      obtain ⟨g2, rfl, e2⟩ := HB.out k y hy
      have e1' := (hbel.out.cell (p := ⟨g, k, none⟩) (World.block_lt_of_cell? w _ e1)).trans e1
      have e2' := (hbel.out.cell (p := ⟨g2, k, none⟩) (World.block_lt_of_cell? w _ e2)).trans e2
      clear hy e1 e2
      go_wp2
      go_quiet (fail)
      go_wp2
      go_roundw
      case rel => exact ⟨k + 1, by omega, by go_num, below_drewN hbel.out _⟩
      case measure => simp [intOf]; omega
    · go_wp2
      go_ret
      exact ⟨rfl, hbel.out⟩
end Go.Proofs.YtjfklhfdonbpgaaGreatDoor

/- The document's answer: whether a node lies in another one; a node's root. -/
namespace Go.Proofs.YtjfklhfdonbpgaaGreatDoor
open Go.RowKit

set_option maxHeartbeats 4000000 in
set_option maxRecDepth 100000 in
theorem in_any {w : World} {M : Nat → Lab} {tb : Nat} {nv uv : Value} {ps : List Pn} {us : List Value} (h : RLies w M tb nv uv ps us) {i : Nat} {l : List Nat} (hu : Up (nodesOf ps) i l) (j : Nat) :
    Calls Tryz.prog 58 #[.pointer (some ⟨tb, 0, none⟩), .int .i64 i, .int .i64 j] w fun e w' => e = .returned (.bool (decide (j ∈ l))) ∧ w' = w := by
  have H : Hid (RLies w M tb nv uv ps us) := h
  have HU : Hid (Up (nodesOf ps) i l) := hu
  clear h hu
  go_enter Tryz.func58, Tryz.ntmps58
  go_wp2
  go_loopg [1] (l.length + 1) (fun k id wr => wr = w ∧ ((∃ (x : Nat) (l' : List Nat), id = .int .i64 x ∧ l'.length + 1 = k ∧ Hid (Up (nodesOf ps) x l') ∧ Hid (j ∈ l' ↔ j ∈ l)) ∨ (id = .int .i64 (-1) ∧ k = 0 ∧ Hid (¬ j ∈ l))))
  case atStart => exact ⟨rfl, .inl ⟨i, l, rfl, rfl, HU, (Iff.rfl : j ∈ l ↔ j ∈ l)⟩⟩
  case round =>
    obtain ⟨rfl, hrel⟩ := hrel
    rcases hrel with ⟨x, l', rfl, hk, hup, hiff⟩ | ⟨rfl, hk, hno⟩
    · by_cases hxj : x = j
      · subst hxj
        have HD : Hid (decide (x ∈ l) = true) := by
          show decide _ = true
          rw [decide_eq_true_eq]
          refine hiff.out.1 ?_
          have := hup.out
          cases this <;> simp
        go_wp2
        go_ret
        exact ⟨ret_bool HD.out.symm, rfl⟩
      · have hne : ¬ ((x : Int) = (j : Int)) := by omega
        have hb1 : ((x : Int) != (j : Int)) = true := by simp [hne]
        have hneb : ((x : Int) == (j : Int)) = false := by simpa using hne
        have hupo := hup.out
        cases hupo with
        | root hn hp =>
          obtain ⟨p, hp1, rfl⟩ := nodesOf_get hn
          obtain ⟨nb, cap, hnv, hc, hm, _, _, hxl⟩ := H.out.form hp1
          have hL := H.out
          rw [hnv] at hL
          have c0 := hL.cell0
          have c4 := (hL.cellN rfl (f := 4) hp1 (by omega) rfl).1
          rw [hp] at c4
          unfold maxLen at hm
          have HN : Hid (¬ j ∈ l) := by
            intro hj
            have := hiff.out.2 hj
            simp at this
            omega
          clear hL hn hp hp1 hnv
          go_wp2
          go_roundg 0
          case measure => omega
          case rel => exact ⟨rfl, .inr ⟨rfl, rfl, HN⟩⟩
        | @up _ q l2 n hn hp hu2 =>
          obtain ⟨p, hp1, rfl⟩ := nodesOf_get hn
          obtain ⟨nb, cap, hnv, hc, hm, _, _, hxl⟩ := H.out.form hp1
          have hL := H.out
          rw [hnv] at hL
          have c0 := hL.cell0
          have c4 := (hL.cellN rfl (f := 4) hp1 (by omega) rfl).1
          rw [hp] at c4
          unfold maxLen at hm
          have HN : Hid (j ∈ l2 ↔ j ∈ l) := by
            show _ ↔ _
            rw [← hiff.out, List.mem_cons]
            constructor
            · exact .inr
            · rintro (h | h)
              · omega
              · exact h
          have HU2 : Hid (Up (nodesOf ps) q l2) := hu2
          clear hL hn hp hp1 hnv hu2
          go_wp2
          go_roundg (l2.length + 1)
          case measure => simp at hk; omega
          case rel => exact ⟨rfl, .inl ⟨q, l2, rfl, rfl, HU2, HN⟩⟩
    · have hn2 : ¬ ((-1 : Int) = (j : Int)) := by omega
      have hn2b : ((-1 : Int) == (j : Int)) = false := by simp
      have HD : Hid (decide (j ∈ l) = false) := by
        show decide _ = false
        rw [decide_eq_false_iff_not]
        exact hno.out
      go_wp2
      go_ret
      exact ⟨ret_bool HD.out.symm, rfl⟩

set_option maxHeartbeats 4000000 in
set_option maxRecDepth 100000 in
theorem root_any {w : World} {M : Nat → Lab} {tb : Nat} {nv uv : Value} {ps : List Pn} {us : List Value} (h : RLies w M tb nv uv ps us) {i r : Nat} {l : List Nat} (hu : Up (nodesOf ps) i l) (hr : l.getLast? = some r) :
    Calls Tryz.prog 73 #[.pointer (some ⟨tb, 0, none⟩), .int .i64 i] w fun e w' => e = .returned (.int .i64 r) ∧ w' = w := by
  have H : Hid (RLies w M tb nv uv ps us) := h
  have HU : Hid (Up (nodesOf ps) i l) := hu
  clear h hu
  go_enter Tryz.func73, Tryz.ntmps73
  go_wp2
  go_loopg [1] l.length (fun k id wr => wr = w ∧ ∃ (x : Nat) (l' : List Nat), id = .int .i64 x ∧ l'.length = k ∧ Hid (Up (nodesOf ps) x l') ∧ Hid (l'.getLast? = some r))
  case atStart => exact ⟨rfl, i, l, rfl, rfl, HU, hr⟩
  case round =>
    obtain ⟨rfl, x, l', rfl, hk, hup, hla⟩ := hrel
    have hupo := hup.out
    cases hupo with
    | root hn hp =>
      obtain ⟨p, hp1, rfl⟩ := nodesOf_get hn
      obtain ⟨nb, cap, hnv, hc, hm, _, _, hxl⟩ := H.out.form hp1
      have hL := H.out
      rw [hnv] at hL
      have c0 := hL.cell0
      have c4 := (hL.cellN rfl (f := 4) hp1 (by omega) rfl).1
      rw [hp] at c4
      unfold maxLen at hm
      have e : x = r := by have := hla.out; simpa using this
      subst e
      clear hL hn hp hp1 hnv hla hup
      go_wp2
      go_ret
      exact ⟨rfl, rfl⟩
    | @up _ q l2 n hn hp hu2 =>
      obtain ⟨p, hp1, rfl⟩ := nodesOf_get hn
      obtain ⟨nb, cap, hnv, hc, hm, _, _, hxl⟩ := H.out.form hp1
      have hL := H.out
      rw [hnv] at hL
      have c0 := hL.cell0
      have c4 := (hL.cellN rfl (f := 4) hp1 (by omega) rfl).1
      rw [hp] at c4
      unfold maxLen at hm
      have HU2 : Hid (Up (nodesOf ps) q l2) := hu2
      have HL2 : Hid (l2.getLast? = some r) := by
        have := hla.out
        show l2.getLast? = some r
        cases hu2 <;> simpa using this
      clear hL hn hp hp1 hnv hu2
      go_wp2
      go_roundg l2.length
      case measure => simp at hk; omega
      case rel => exact ⟨rfl, q, l2, rfl, rfl, HU2, HL2⟩
end Go.Proofs.YtjfklhfdonbpgaaGreatDoor

/- The document's answer: all that lies in a node of any tree; the order of two nodes. -/
namespace Go.Proofs.YtjfklhfdonbpgaaGreatDoor
open Go.RowKit

set_option maxHeartbeats 4000000 in
set_option maxRecDepth 100000 in
theorem runder_any {w0 : World} {M : Nat → Lab} {tb : Nat} {nv uv : Value} {ps : List Pn} {us : List Value} (h : RLies w0 M tb nv uv ps us) (hs : WF (nodesOf ps)) : ∀ (f i : Nat), i < ps.length → rkU (nodesOf ps) i < f → ∀ (w : World) (x : Int), x = i → Below w0.heap.size w0 w → (und (nodesOf ps) f i).length ≤ 1000000000 →
    Calls Tryz.prog 19 #[.pointer (some ⟨tb, 0, none⟩), .int .i64 x] w (UndPost w (und (nodesOf ps) f i)) := by
  obtain ⟨i0, hi, hz0, hz1, hz2⟩ := info_parts Tryz.infoInt
  intro f
  induction f with
  | zero => intro i _ hr; omega
  | succ f ih =>
    intro i hil hr w x hx hB hlen
    subst hx
    obtain ⟨p, hp⟩ : ∃ p, ps[i]? = some p := ⟨_, List.getElem?_eq_getElem hil⟩
    have hb : hasB ps.length i = true := hasB_of hp
    have hpn := nodes_get hp
    rw [und_succ hpn] at hlen ⊢
    obtain ⟨nb, cap, rfl, hc, hm, _, hnl, _⟩ := h.form hp
    obtain ⟨ka, kc, hkv, hk1, hk2⟩ := (h.node i p hp).2.shape
    have hlt : tb < w0.heap.size := lt_of_heap h.head
    have HK : Hid (∀ (k : Nat) (y : Int), p.n.kids[k]? = some y → ∃ g b, ka = some ⟨g, 0, none⟩ ∧ g < w0.heap.size ∧ w0.cell? ⟨g, k, none⟩ = some (.int .i64 y) ∧ y = (b : Nat) ∧ b < ps.length ∧ rkU (nodesOf ps) b < f) := by
      intro k y hy
      have hkl : k < p.n.kids.length := (List.getElem?_eq_some_iff.1 hy).1
      obtain ⟨g, c, hv, _, _, _, hg⟩ := (h.node i p hp).2.form (by omega)
      rw [hkv] at hv
      cases hv
      obtain ⟨b, _, e1, e2, _, _, e3⟩ := hs.rank hpn (List.mem_of_getElem? hy)
      exact ⟨g, b, rfl, hg, ((h.node i p hp).2.cell hkv (j := k) (u := .int .i64 y) (by simp [hy, intV])).1, e1, by simpa [nodesOf] using e2, by omega⟩
    have k5 := (h.cellN rfl (f := 5) hp (by omega) rfl).1
    rw [hkv] at k5
    have HC : Hid (∀ wr, Below w0.heap.size w0 wr → wr.cell? ⟨tb, 0, none⟩ = some (.slice (some ⟨nb, 0, none⟩) ps.length cap) ∧ wr.cell? ⟨nb, i * 6 + 5, none⟩ = some (.slice ka p.n.kids.length kc)) := fun wr hb => ⟨(hb.cell (p := ⟨tb, 0, none⟩) hlt).trans h.cell0, (hb.cell (p := ⟨nb, i * 6 + 5, none⟩) hnl).trans k5⟩
    have IH : Hid _ := ih
    have H : Hid (RLies w M tb (.slice (some ⟨nb, 0, none⟩) ps.length cap) uv ps us) := h.below hB
    have HB : Hid (Below w0.heap.size w0 w) := hB
    have hsz := hB.size
    have i1 : (0 : Int) ≤ (i : Int) := by omega
    have i2 : (i : Int) < (ps.length : Int) := by omega
    have HL : Hid (∀ k, ((i : Int) :: (p.n.kids.take k).flatMap fun x => und (nodesOf ps) f x.toNat).length ≤ 1000000000) := by
      intro k
      have := flat_le p.n.kids (fun x => und (nodesOf ps) f x.toNat) k
      simp only [List.length_cons] at hlen ⊢
      omega
    have HO : Hid ((w.alloc (.cells #[.int .i64 i] 3)).ownsRow w.heap.size 3 1 (.slice (some ⟨w.heap.size, 0, none⟩) 1 1) 1 [.int .i64 i]) := ⟨rfl, .inr ⟨w.heap.size, 1, _, rfl, Nat.le_refl _, heap_alloc_new w _, Nat.le_refl _, by unfold maxLen; omega, rfl, rfl⟩⟩
    unfold maxLen at hm hk2
    clear h hs ih hp hpn hB hlen k5
    go_enter Tryz.func19, Tryz.ntmps19
    go_wp2_with (go_at_call 43; refine (rhas_any H.out _).mono ?_; rintro e w' ⟨rfl, rfl⟩; rw [hb])
    go_loopw [6, 7] (fun lv iv wr => ∃ k : Nat, k ≤ p.n.kids.length ∧ iv = .int .i64 k ∧ Hid (wr.ownsRow w'.heap.size 3 1 lv ((i : Int) :: (p.n.kids.take k).flatMap fun x => und (nodesOf ps) f x.toNat).length (((i : Int) :: (p.n.kids.take k).flatMap fun x => und (nodesOf ps) f x.toNat).map intV)) ∧ Hid (Below w'.heap.size w' wr)) (fun _ iv _ => p.n.kids.length - (intOf iv).toNat)
    case atStart => exact ⟨0, by omega, rfl, HO.out, (Below.refl _ _).alloc (Nat.le_refl _) _⟩
    case round =>
      obtain ⟨k, hk, rfl, hO, hbel⟩ := hrel
      have hB0 : Hid (Below w0.heap.size w0 wr) := HB.out.trans (hbel.out.mono hsz)
      obtain ⟨d0, d5⟩ := HC.out wr hB0.out
      have hsz2 := hbel.out.size
      by_cases hkl : k < p.n.kids.length
      · obtain ⟨y, hy⟩ : ∃ y, p.n.kids[k]? = some y := ⟨_, List.getElem?_eq_getElem hkl⟩
        obtain ⟨g, b, rfl, hg, cy, rfl, hb1, hb2⟩ := HK.out k y hy
        have cy' := (hB0.out.cell (p := ⟨g, k, none⟩) hg).trans cy
        have hll := HL.out (k + 1)
        rw [flat_succ hy] at hll
        simp only [List.length_cons, List.length_append, Int.toNat_natCast] at hll
        have HY : Hid _ := flat_succ hy (fun x => und (nodesOf ps) f x.toNat)
        clear hy cy
        go_wp2_with (first
          | (go_at_call 19; refine (IH.out b hb1 hb2 _ _ rfl hB0.out (by omega)).mono ?_; rintro e w2 ⟨v2, rfl, ho2, hB2⟩
             obtain ⟨a2, e2, hv2⟩ := own_shape ho2
             subst hv2
             have H2 : Hid _ := And.intro ho2 hB2
             have hsz3 := hB2.size
             clear ho2 hB2)
          | (at_builtin; refine wpList_app_own _ (by rfl) _ _ 38 (by rfl) w'.heap.size 3 i0 (.int .i64 0) 1 8 Tryz.underlying38 hi hz0 hz1 hz2 rfl (by decide) u6 _ _ (by rfl) (own_below hO.out H2.out.2 (Nat.le_refl _)) _ _ ((und (nodesOf ps) f b).map intV) (by rfl) (own_src H2.out.1 (one_int _)) (by unfold maxLen; simp only [List.length_cons]; omega) (by simp only [List.length_cons]; omega) (by omega) ?_
             intro v3 w3 hv3 hg3 _
             have H3 : Hid _ := And.intro hv3 ((hbel.out.trans (H2.out.2.mono hsz2)).grown hg3 (by omega) (fun q hq => (hO.out.lt q hq).1))
             clear hv3 hg3))
        go_roundw
        case rel =>
          go_light
          refine ⟨k + 1, by omega, by go_num, ?_, H3.out.2⟩
          show World.ownsRow _ _ _ _ _ _ _
          rw [HY.out]
          have := H3.out.1
          simpa [Nat.add_assoc, Nat.add_comm, Nat.add_left_comm] using this
        case measure => go_light; simp [intOf]; omega
      · obtain rfl : k = p.n.kids.length := by omega
        rw [List.take_length] at hO
        obtain ⟨a5, e5, hv5⟩ := own_shape hO.out
        subst hv5
        go_wp2
        go_ret
        exact ⟨_, rfl, hO.out, hbel.out⟩

end Go.Proofs.YtjfklhfdonbpgaaGreatDoor

/- A node is copied with all that lies in it: what comes of it, as plain mathematics. -/
namespace Go.Proofs.YtjfklhfdonbpgaaGreatDoor

/-- a node as a root without kids -/
def bareN (n : Nd) : Nd := ⟨n.kind, n.tag, n.words, n.attrs, -1, []⟩
/-- one more of a list of nodes is doubled -/
inductive Dbl1 (ns : List Nd) (all : List Int) (k : Nat) (s : List Nd) : List Nd → Prop where
  | first {c : Nat} {n : Nd} (hk : k = 0) (hc : all[k]? = some (c : Int)) (hn : ns[c]? = some n) : Dbl1 ns all k s (s ++ [bareN n])
  | next {c j : Nat} {n m : Nd} (hk : 0 < k) (hc : all[k]? = some (c : Int)) (hn : ns[c]? = some n) (hj : all[j]? = some n.parent) (hjk : j < k) (hm : s[ns.length + j]? = some m) :
      Dbl1 ns all k s (s.set (ns.length + j) { m with kids := m.kids ++ [((ns.length + k : Nat) : Int)] } ++ [{ bareN n with parent := ((ns.length + j : Nat) : Int) }])
/-- so many of them are -/
inductive DblN (ns : List Nd) (all : List Int) : Nat → List Nd → Prop where
  | zero : DblN ns all 0 ns
  | succ {k : Nat} {s s' : List Nd} (h : DblN ns all k s) (h1 : Dbl1 ns all k s s') : DblN ns all (k + 1) s'

theorem nodup_at {l : List Int} (hl : l.Nodup) {i j : Nat} {x : Int} (hi : l[i]? = some x) (hj : l[j]? = some x) : i = j := by
  obtain ⟨h1, e1⟩ := List.getElem?_eq_some_iff.1 hi
  obtain ⟨h2, e2⟩ := List.getElem?_eq_some_iff.1 hj
  rcases Nat.lt_trichotomy i j with h | h | h
  · exact absurd (e1.trans e2.symm) (List.pairwise_iff_getElem.1 hl i j h1 h2 h)
  · exact h
  · exact absurd (e2.trans e1.symm) (List.pairwise_iff_getElem.1 hl j i h2 h1 h)

theorem Dbl1.det {ns : List Nd} {all : List Int} (hl : all.Nodup) {k : Nat} {s s1 s2 : List Nd} (h1 : Dbl1 ns all k s s1) (h2 : Dbl1 ns all k s s2) : s1 = s2 := by
  cases h1 with
  | first hk hc hn =>
    cases h2 with
    | first hk' hc' hn' =>
      have e := Int.ofNat.inj (Option.some.inj (hc.symm.trans hc'))
      subst e
      obtain rfl := Option.some.inj (hn.symm.trans hn')
      rfl
    | next hk' => omega
  | next hk hc hn hj hjk hm =>
    cases h2 with
    | first hk' => omega
    | next hk' hc' hn' hj' hjk' hm' =>
      have e := Int.ofNat.inj (Option.some.inj (hc.symm.trans hc'))
      subst e
      obtain rfl := Option.some.inj (hn.symm.trans hn')
      obtain rfl := nodup_at hl hj hj'
      obtain rfl := Option.some.inj (hm.symm.trans hm')
      rfl
theorem DblN.det {ns : List Nd} {all : List Int} (hl : all.Nodup) : ∀ {k : Nat} {s1 s2 : List Nd}, DblN ns all k s1 → DblN ns all k s2 → s1 = s2
  | 0, _, _, .zero, .zero => rfl
  | _ + 1, _, _, .succ h1 k1, .succ h2 k2 => by
    have e := DblN.det hl h1 h2
    subst e
    exact k1.det hl k2

theorem set_snoc {s : List Nd} {b b' m' : Nd} {c : Nat} (hc : c < s.length) : ((s ++ [b]).set c m').set s.length b' = s.set c m' ++ [b'] := by
  apply List.ext_getElem?
  intro j
  rw [List.getElem?_set, List.getElem?_set, List.getElem?_append, List.getElem?_append, List.getElem?_set]
  simp only [List.length_set, List.length_append, List.length_singleton]
  by_cases h1 : s.length = j
  · subst h1; simp
  · by_cases h2 : c = j
    · subst h2; simp [hc, h1]; omega
    · simp only [h1, h2, if_false]
      by_cases h3 : j < s.length
      · simp [h3]
      · simp only [h3, if_false]
        rw [List.getElem?_eq_none (by simp; omega), List.getElem?_eq_none (by simp; omega)]

theorem DblN.len {ns : List Nd} {all : List Int} : ∀ {k : Nat} {s : List Nd}, DblN ns all k s → s.length = ns.length + k
  | 0, _, .zero => rfl
  | _ + 1, _, .succ h h1 => by
    have := h.len
    cases h1 with
    | first => simp [this]; omega
    | next => simp [this]; omega
theorem DblN.old {ns : List Nd} {all : List Int} : ∀ {k : Nat} {s : List Nd}, DblN ns all k s → ∀ c, c < ns.length → s[c]? = ns[c]?
  | 0, _, .zero, _, _ => rfl
  | _ + 1, _, .succ h h1, c, hc => by
    have hl := h.len
    have ih := h.old c hc
    cases h1 with
    | first => rw [List.getElem?_append_left (by omega)]; exact ih
    | next => rw [List.getElem?_append_left (by rw [List.length_set]; omega), List.getElem?_set_ne (by omega)]; exact ih
theorem DblN.kids {ns : List Nd} {all : List Int} (hW : ∀ (j : Nat) (n : Nd), ns[j]? = some n → n.kids.length ≤ 400) : ∀ {k : Nat} {s : List Nd}, DblN ns all k s → ∀ (j : Nat) (n : Nd), s[j]? = some n → n.kids.length ≤ 400 + k
  | 0, _, .zero, j, n, hn => hW j n hn
  | k + 1, _, .succ (s := s) h h1, j, n, hn => by
    have ih := h.kids hW
    cases h1 with
    | first =>
      by_cases hj : j < s.length
      · rw [List.getElem?_append_left hj] at hn; have := ih j n hn; omega
      · rw [List.getElem?_append_right (by omega)] at hn
        rcases Nat.eq_zero_or_pos (j - s.length) with e | e
        · rw [e] at hn; cases hn; simp [bareN]
        · rw [List.getElem?_eq_none (by simp; omega)] at hn; cases hn
    | @next c j0 n0 m hk hc hn0 hj0 hjk hm =>
      by_cases hj : j < s.length
      · rw [List.getElem?_append_left (by rw [List.length_set]; exact hj)] at hn
        by_cases e : ns.length + j0 = j
        · subst e
          rw [List.getElem?_set_self hj] at hn
          cases hn
          have := ih _ _ hm
          simp
          omega
        · rw [List.getElem?_set_ne e] at hn; have := ih j n hn; omega
      · rw [List.getElem?_append_right (by rw [List.length_set]; omega)] at hn
        rw [List.length_set] at hn
        rcases Nat.eq_zero_or_pos (j - s.length) with e | e
        · rw [e] at hn; cases hn; simp [bareN]
        · rw [List.getElem?_eq_none (by simp; omega)] at hn; cases hn
end Go.Proofs.YtjfklhfdonbpgaaGreatDoor

/- The document's answer: Copy that is refused, and how. -/
namespace Go.Proofs.YtjfklhfdonbpgaaGreatDoor
open Go.RowKit

set_option maxHeartbeats 4000000 in
set_option maxRecDepth 100000 in
theorem rcopy_none {w : World} {M : Nat → Lab} {tb : Nat} {nv uv : Value} {ps : List Pn} {us : List Value} (h : RLies w M tb nv uv ps us) {a : Int} (hb : hasB ps.length a = false) :
    Calls Tryz.prog 36 #[.pointer (some ⟨tb, 0, none⟩), .int .i64 a] w fun e w' => e = .returned (.tuple #[.int .i64 0, .int .i64 4]) ∧ w' = w := by
  have H : Hid (RLies w M tb nv uv ps us) := h
  clear h
  go_enter Tryz.func36, Tryz.ntmps36
  go_wp2_with (go_at_call 43; refine (rhas_any H.out _).mono ?_; rintro e w' ⟨rfl, hw'⟩; subst hw'; rw [hb])
  all_goals go_ret2
  all_goals exact ⟨rfl, rfl⟩

set_option maxHeartbeats 4000000 in
set_option maxRecDepth 100000 in
theorem rcopy_zero {w : World} {M : Nat → Lab} {tb : Nat} {nv uv : Value} {ps : List Pn} {us : List Value} (h : RLies w M tb nv uv ps us) (hl : 0 < ps.length) :
    Calls Tryz.prog 36 #[.pointer (some ⟨tb, 0, none⟩), .int .i64 0] w fun e w' => e = .returned (.tuple #[.int .i64 0, .int .i64 5]) ∧ w' = w := by
  have H : Hid (RLies w M tb nv uv ps us) := h
  have hb : hasB ps.length 0 = true := hasB_lt hl
  clear h
  go_enter Tryz.func36, Tryz.ntmps36
  go_wp2_with (go_at_call 43; refine (rhas_any H.out _).mono ?_; rintro e w' ⟨rfl, hw'⟩; subst hw'; rw [hb])
  all_goals go_ret2
  all_goals exact ⟨rfl, rfl⟩

set_option maxHeartbeats 4000000 in
set_option maxRecDepth 100000 in
theorem rcopy_full {w : World} {M : Nat → Lab} {tb : Nat} {nv uv : Value} {ps : List Pn} {us : List Value} (h : RLies w M tb nv uv ps us) (hW : WF (nodesOf ps)) {i : Nat} (hi0 : i ≠ 0) (hil : i < ps.length) (hf : 400 < ps.length + (und (nodesOf ps) (ps.length + 1) i).length) :
    Calls Tryz.prog 36 #[.pointer (some ⟨tb, 0, none⟩), .int .i64 i] w fun e w' => e = .returned (.tuple #[.int .i64 0, .int .i64 2]) ∧ Below w.heap.size w w' := by
  have hb : hasB ps.length i = true := hasB_lt hil
  have hun : (und (nodesOf ps) (ps.length + 1) i).length ≤ 400 := Nat.le_trans (und_short hW _ i (by simpa [nodesOf] using hil)) hW.len
  have hps : ps.length ≤ 400 := by have := hW.len; simpa [nodesOf] using this
  have HU : Hid (∀ w', Below w.heap.size w w' → Calls Tryz.prog 19 #[.pointer (some ⟨tb, 0, none⟩), .int .i64 i] w' (UndPost w' (und (nodesOf ps) (ps.length + 1) i))) := fun w' hB => runder_any h hW (ps.length + 1) i hil (by have := rkU_le (nodesOf ps) i; simp [nodesOf] at this; simp [nodesOf]; omega) w' i rfl hB (by omega)
  generalize und (nodesOf ps) (ps.length + 1) i = l at *
  obtain ⟨na, nc, rfl, _, hm⟩ := h.nodes.shape
  have c0 := h.cell0
  have hlt : tb < w.heap.size := lt_of_heap h.head
  have H : Hid (RLies w M tb (.slice na ps.length nc) uv ps us) := h
  have b0 : ((i : Int) == 0) = false := by rw [beq_eq_false_iff_ne]; omega
  have b0' : ¬ ((i : Int) = 0) := by omega
  unfold maxLen at hm
  clear h hW
  go_enter Tryz.func36, Tryz.ntmps36
  go_wp2_with (first
    | (go_at_call 43; refine (rhas_any H.out _).mono ?_; rintro e w' ⟨rfl, hw'⟩; subst hw'; rw [hb])
    | (go_at_call 19; refine (HU.out _ (Below.refl _ _)).mono ?_; rintro e w2 ⟨v2, rfl, ho2, hB2⟩
       obtain ⟨a2, e2, hv2⟩ := own_shape ho2
       subst hv2
       have d0 := (hB2.cell (p := ⟨tb, 0, none⟩) hlt).trans c0
       have H2 : Hid _ := hB2
       clear ho2 hB2))
  all_goals go_ret2
  all_goals exact ⟨rfl, H2.out⟩
end Go.Proofs.YtjfklhfdonbpgaaGreatDoor

/- The document's answer: where an attribute stands; a list without a number; lists that were just made become a tree's. -/
namespace Go.Proofs.YtjfklhfdonbpgaaGreatDoor
open Go.RowKit

set_option maxHeartbeats 4000000 in
set_option maxRecDepth 100000 in
theorem at_any {w : World} {M : Nat → Lab} {l : Lab} {v : Value} {at_ : List (ByteArray × ByteArray)} (h : Row w M l 79 2 v at_.length (attrCells at_)) (name : ByteArray) :
    Calls Tryz.prog 44 #[v, .string name] w fun e w' => e = .returned (.int .i64 (findI at_ name)) ∧ w' = w := by
  obtain ⟨a, cap, rfl, h1, h2⟩ := h.shape
  have hcell : Hid (∀ k x, at_[k]? = some x → ∃ g, a = some ⟨g, 0, none⟩ ∧ w.cell? ⟨g, k * 2, none⟩ = some (.string x.1)) := by
    intro k x hk
    have hkl : k < at_.length := (List.getElem?_eq_some_iff.1 hk).1
    obtain ⟨g, c, hv, _, _, _, hg⟩ := h.form (by omega)
    cases hv
    obtain ⟨q1, q2⟩ := attrCells_get at_ k x hk
    exact ⟨g, rfl, (h.cell rfl q1).1⟩
  unfold maxLen at h2
  clear h
  go_enter Tryz.func44, Tryz.ntmps44
  go_wp2
  go_loop [5] (fun i => ∃ k : Nat, k ≤ at_.length ∧ i = .int .i64 k ∧ Hid (∀ j, j < k → ∀ y, at_[j]? = some y → eqS y.1 name = false)) (fun i => at_.length - (intOf i).toNat)
  case atStart => exact ⟨0, by omega, rfl, (fun j hj => absurd hj (by omega) : ∀ j, j < 0 → ∀ y, at_[j]? = some y → eqS y.1 name = false)⟩
  case round =>
    obtain ⟨k, hk, rfl, hno⟩ := hrel
    by_cases hkl : k < at_.length
    · obtain ⟨x, hx⟩ : ∃ x, at_[k]? = some x := ⟨_, List.getElem?_eq_getElem hkl⟩
      obtain ⟨g, rfl, c1⟩ := hcell.out k x hx
      cases he : eqS x.1 name
      · have HN : Hid (∀ j, j < k + 1 → ∀ y, at_[j]? = some y → eqS y.1 name = false) := by
          intro j hj y hy
          by_cases hjk : j = k
          · subst hjk; obtain rfl := Option.some.inj (hy.symm.trans hx); exact he
          · exact hno.out j (by omega) y hy
        unfold eqS at he
        clear hx
        go_wp2
        go_round
        case rel => exact ⟨k + 1, by omega, by go_num, HN⟩
        case measure => simp [intOf]; omega
      · have HF : Hid (findI at_ name = k) := by
          show findI at_ name = k
          simp only [findI, findI_some hx he hno.out]
        unfold eqS at he
        clear hx
        go_wp2
        go_ret
        exact ⟨ret_int HF.out.symm, rfl⟩
    · have HF : Hid (findI at_ name = -1) := by
        show findI at_ name = -1
        simp only [findI, findI_none (fun j hj => hno.out j (by omega))]
      go_wp2
      go_ret
      exact ⟨ret_int HF.out.symm, rfl⟩

/-- a list without a number -/
def outOf (l : List Int) (x : Int) : List Int := l.filter fun y => y != x
theorem outOf_none {l : List Int} {x : Int} (h : x ∉ l) : outOf l x = l := by
  unfold outOf
  rw [List.filter_eq_self]
  intro y hy
  simp only [bne_iff_ne, ne_eq]
  exact fun e => h (e ▸ hy)
theorem outOf_take {l : List Int} {k : Nat} {y x : Int} (h : l[k]? = some y) : outOf (l.take (k + 1)) x = outOf (l.take k) x ++ (if y = x then [] else [y]) := by
  obtain ⟨hk, rfl⟩ := List.getElem?_eq_some_iff.1 h
  unfold outOf
  rw [List.take_succ_eq_append_getElem hk, List.filter_append]
  congr 1
  by_cases e : l[k] = x
  · simp [e]
  · simp [e]

set_option maxHeartbeats 4000000 in
set_option maxRecDepth 100000 in
theorem without_any {w : World} {M : Nat → Lab} {l : Lab} {v : Value} {n : Nat} {xs : List Int} (h : Row w M l 3 1 v n (xs.map intV)) (x : Int) (hn : n ≤ 1099511627776) :
    Calls Tryz.prog 59 #[v, .int .i64 x] w fun e w' => ∃ v', e = .returned v' ∧ w'.ownsRow w.heap.size 3 1 v' (outOf xs x).length ((outOf xs x).map intV) ∧ Below w.heap.size w w' := by
  obtain ⟨i0, hi, hz0, hz1, hz2⟩ := info_parts Tryz.infoInt
  have hln : xs.length = n := by have := h.1; simpa using this
  subst hln
  obtain ⟨a, cap, rfl, h1, h2⟩ := h.shape
  have hcell : Hid (∀ (k : Nat) y, xs[k]? = some y → ∃ g, a = some ⟨g, 0, none⟩ ∧ g < w.heap.size ∧ w.cell? ⟨g, k, none⟩ = some (.int .i64 y)) := by
    intro k y hk
    have hkl : k < xs.length := (List.getElem?_eq_some_iff.1 hk).1
    obtain ⟨g, c, hv, _, _, _, hg⟩ := h.form (by omega)
    cases hv
    exact ⟨g, rfl, hg, (h.cell rfl (j := k) (u := .int .i64 y) (by simp [hk, intV])).1⟩
  unfold maxLen at h2
  clear h
  go_enter Tryz.func59, Tryz.ntmps59
  go_wp2
  go_loopw [5, 6] (fun out i wr => ∃ k : Nat, k ≤ xs.length ∧ i = .int .i64 k ∧ Hid (wr.ownsRow w.heap.size 3 1 out (outOf (xs.take k) x).length ((outOf (xs.take k) x).map intV)) ∧ Hid (Below w.heap.size w wr)) (fun _ i _ => xs.length - (intOf i).toNat)
  case atStart => exact ⟨0, by omega, rfl, (show w.ownsRow w.heap.size 3 1 (.slice none 0 0) (outOf (xs.take 0) x).length ((outOf (xs.take 0) x).map intV) by simp [outOf]; exact World.ownsRow_nil _ _ _ _), Below.refl _ _⟩
  case round =>
    obtain ⟨k, hk, rfl, hown, hbel⟩ := hrel
    by_cases hlt : k < xs.length
    · obtain ⟨y, hy⟩ : ∃ y, xs[k]? = some y := ⟨_, List.getElem?_eq_getElem hlt⟩
      obtain ⟨g, rfl, hg, c1⟩ := hcell.out k y hy
      have c1' := (hbel.out.cell (p := ⟨g, k, none⟩) hg).trans c1
      have hll : (outOf (xs.take k) x).length ≤ xs.length := Nat.le_trans (List.length_filter_le _ _) (by simp; omega)
      have HT : Hid _ := outOf_take (x := x) hy
      have hgl := Nat.lt_of_lt_of_le hg hbel.out.size
      have hsz := hbel.out.size
      clear hy c1
      by_cases hyx : y = x
      · have hb1 : (y != x) = false := by simp [hyx]
        subst hyx
        go_wp2
        go_roundw
        case rel => exact ⟨k + 1, by omega, by go_num, (by rw [HT.out, if_pos rfl, List.append_nil]; exact hown), hbel⟩
        case measure => simp [intOf]; omega
      · have hb1 : (y != x) = true := by simp [hyx]
        have hb2 : (y == x) = false := by simp [hyx]
        go_wp2_with (at_builtin; refine wpList_app_own _ (by rfl) _ _ 38 (by rfl) w.heap.size 3 i0 (.int .i64 0) 1 8 Tryz.underlying38 hi hz0 hz1 hz2 rfl (by decide) u5 _ _ (by rfl) (hown.out.alloc _) _ 1 [.int .i64 y] (by rfl) ⟨rfl, by simp [Value.oneCell'], _, _, rfl, .inr ⟨_, rfl, cell_one_new _ _ _⟩⟩ (by unfold maxLen; omega) (by omega) (by simp; omega) ?_; intro v1 w1 hv1 hg1 _; have HV : Hid _ := And.intro hv1 hg1; clear hv1 hg1)
        go_roundw
        case rel =>
          go_light
          refine ⟨k + 1, by omega, by go_num, ?_, ?_⟩
          · show _
            rw [HT.out, if_neg hyx, List.length_append, List.map_append]
            exact HV.out.1
          · exact (hbel.out.alloc hsz _).grown HV.out.2 (by simp; omega) (fun b hb => (hown.out.lt b hb).1)
        case measure => go_light; simp [intOf]; omega
    · obtain rfl : k = xs.length := by omega
      rw [List.take_length] at hown
      obtain ⟨a5, e5, hv5⟩ := own_shape hown.out
      subst hv5
      go_wp2
      go_ret
      exact ⟨_, rfl, hown.out, hbel.out⟩

/-- a block that is another's becomes the tree's -/
theorem RLies.relabel {w : World} {M : Nat → Lab} {tb : Nat} {nv uv : Value} {ps : List Pn} {us : List Value} (h : RLies w M tb nv uv ps us) {g : Nat} (hM : M g = .other) (hg : g < w.heap.size) (l : Lab) : RLies w (fun b => if b = g then l else M b) tb nv uv ps us := by
  have ne : ∀ b, M b ≠ .other → b ≠ g := fun b hb e => hb (by rw [e]; exact hM)
  have rw' : ∀ {k : Lab} {e : TypeId} {size n : Nat} {v : Value} {xs : List Value}, k ≠ .other → Row w M k e size v n xs → Row w (fun b => if b = g then l else M b) k e size v n xs := by
    intro k e size n v xs hk hr
    obtain ⟨hl, a, cap, rfl, h1, h2, h3⟩ := hr
    refine ⟨hl, a, cap, rfl, h1, h2, ?_⟩
    rcases h3 with h3 | ⟨g', cur, rfl, hM', hg', h4, h5⟩
    · exact .inl h3
    · refine .inr ⟨g', cur, rfl, ?_, hg', h4, h5⟩
      have : g' ≠ g := ne g' (by rw [hM']; exact hk)
      simp only [if_neg this]
      exact hM'
  refine ⟨fun b hb => ?_, ?_, h.head, rw' (by intro e; cases e) h.nodes, rw' (by intro e; cases e) h.undos, fun i p hp => ⟨rw' (by intro e; cases e) (h.node i p hp).1, rw' (by intro e; cases e) (h.node i p hp).2⟩⟩
  · have : b ≠ g := by omega
    simp only [if_neg this]
    exact h.fresh b hb
  · have : tb ≠ g := ne tb (by rw [h.tree]; intro e; cases e)
    simp only [if_neg this]
    exact h.tree

theorem Step.refl {w : World} {M : Nat → Lab} (hf : ∀ b, w.heap.size ≤ b → M b = .other) (l : Lab) : Step w M w M l := ⟨rfl, rfl, rfl, Nat.le_refl _, fun _ _ => rfl, hf, fun _ _ _ => rfl⟩

/-- a node's kids are another list that was just made -/
theorem RLies.ownKids {w0 w : World} {M0 M : Nat → Lab} {tb : Nat} {nv uv : Value} {ps : List Pn} {us : List Value} (h : RLies w M tb nv uv ps us) (m : Moved w0 M0 w M) {nb k c0 : Nat} (hv : nv = .slice (some ⟨nb, 0, none⟩) k c0) {i : Nat} {p : Pn} (hp : ps[i]? = some p) {B : Nat} {g cap : Nat} {ks : List Int}
    (ho : w.ownsRow B 3 1 (.slice (some ⟨g, 0, none⟩) ks.length cap) ks.length (ks.map intV)) (hB : w0.heap.size ≤ B) (hM : M g = .other) :
    ∃ M', RLies (w.setCell ⟨nb, i * 6 + 5, none⟩ (.slice (some ⟨g, 0, none⟩) ks.length cap)) M' tb nv uv (ps.set i ⟨{ p.n with kids := ks }, p.av, .slice (some ⟨g, 0, none⟩) ks.length cap⟩) us ∧ Moved w0 M0 (w.setCell ⟨nb, i * 6 + 5, none⟩ (.slice (some ⟨g, 0, none⟩) ks.length cap)) M' := by
  obtain ⟨hgB, hgl⟩ := ho.lt g rfl
  have hr := h.relabel hM hgl (.kids i)
  have hrow : Row w (fun b => if b = g then .kids i else M b) (.kids i) 3 1 (.slice (some ⟨g, 0, none⟩) ks.length cap) ks.length (ks.map intV) := by
    rcases ho.2 with ⟨e, _⟩ | ⟨g', cap', cur, e, _, hg', h1, h2, h3, h4⟩
    · cases e
    · cases e
      exact ⟨ho.1, _, _, rfl, h1, h2, .inr ⟨_, cur, rfl, by simp, hg', by omega, h4⟩⟩
  obtain ⟨q1, q2, _⟩ := hr.setKids hv hp (Step.refl hr.fresh (.kids i)) hrow
  refine ⟨_, q1, ?_⟩
  have mr : Moved w0 M0 w (fun b => if b = g then .kids i else M b) := ⟨m.os, m.tape, m.output, m.size, fun b hb => by
    have : b ≠ g := by omega
    simp only [if_neg this]
    exact m.lab b hb, m.far⟩
  exact mr.trans q2
end Go.Proofs.YtjfklhfdonbpgaaGreatDoor

/- The document's answer: a node is taken out. -/
namespace Go.Proofs.YtjfklhfdonbpgaaGreatDoor
open Go.RowKit

theorem own_moved' {w w' : World} {M M' : Nat → Lab} {B : Nat} {v : Value} {n : Nat} {xs : List Value} (h : w.ownsRow B 3 1 v n xs) (m : Moved w M w' M') (hl : ∀ k, v.ownBlock = some k → M k = .other) : w'.ownsRow B 3 1 v n xs :=
  own_same h fun k hk => m.far k (h.lt k hk).2 (hl k hk)

/-- a node's kids are another list that was just made, or none -/
theorem RLies.ownKids0 {w0 w : World} {M0 M : Nat → Lab} {tb : Nat} {nv uv : Value} {ps : List Pn} {us : List Value} (h : RLies w M tb nv uv ps us) (m : Moved w0 M0 w M) {nb k c0 : Nat} (hv : nv = .slice (some ⟨nb, 0, none⟩) k c0) {i : Nat} {p : Pn} (hp : ps[i]? = some p) {ks : List Int} {v : Value} {B : Nat}
    (ho : w.ownsRow B 3 1 v ks.length (ks.map intV)) (hB : w0.heap.size ≤ B) (hM : ∀ g, v.ownBlock = some g → M g = .other) :
    ∃ M', RLies (w.setCell ⟨nb, i * 6 + 5, none⟩ v) M' tb nv uv (ps.set i ⟨{ p.n with kids := ks }, p.av, v⟩) us ∧ Moved w0 M0 (w.setCell ⟨nb, i * 6 + 5, none⟩ v) M' ∧ (∀ b, b < B → M' b = M b) := by
  rcases id ho.2 with ⟨rfl, e⟩ | ⟨g, cap, cur, rfl, hb, hg, _⟩
  · have hks : ks = [] := List.eq_nil_of_length_eq_zero e
    subst hks
    obtain ⟨q1, q2, _⟩ := h.setKids hv hp (Step.refl h.fresh (.kids i)) (kv' := .slice none 0 0) (ks' := []) (Row.nil _ _ _ _ _)
    exact ⟨M, q1, m.trans q2, fun _ _ => rfl⟩
  · have hgM : M g = .other := hM g rfl
    have hr := h.relabel hgM (lt_of_heap hg) (.kids i)
    have hrow : Row w (fun b => if b = g then .kids i else M b) (.kids i) 3 1 (.slice (some ⟨g, 0, none⟩) ks.length cap) ks.length (ks.map intV) := own_row ho (fun g' e => by cases e; simp)
    obtain ⟨q1, q2, _⟩ := hr.setKids hv hp (Step.refl hr.fresh (.kids i)) hrow
    have mr : Moved w0 M0 w (fun b => if b = g then .kids i else M b) := ⟨m.os, m.tape, m.output, m.size, fun b hb' => by
      have : b ≠ g := by omega
      simp only [if_neg this]
      exact m.lab b hb', m.far⟩
    exact ⟨_, q1, mr.trans q2, fun b hb' => by
      have : b ≠ g := by omega
      simp only [if_neg this]⟩

set_option maxHeartbeats 2000000 in
theorem rtake_none {w : World} {M : Nat → Lab} {tb : Nat} {nv uv : Value} {ps : List Pn} {us : List Value} (h : RLies w M tb nv uv ps us) {a : Int} (hb : hasB ps.length a = false) :
    Calls Tryz.prog 29 #[.pointer (some ⟨tb, 0, none⟩), .int .i64 a] w fun e w' => e = .returned (.int .i64 4) ∧ w' = w := by
  have H : Hid (RLies w M tb nv uv ps us) := h
  clear h
  go_enter Tryz.func29, Tryz.ntmps29
  go_wp2_with (go_at_call 43; refine (rhas_any H.out _).mono ?_; rintro e w' ⟨rfl, rfl⟩; rw [hb])
  go_ret
  exact ⟨rfl, rfl⟩
set_option maxHeartbeats 2000000 in
set_option maxRecDepth 100000 in
theorem rtake_root {w : World} {M : Nat → Lab} {tb : Nat} {nv uv : Value} {ps : List Pn} {us : List Value} (h : RLies w M tb nv uv ps us) {i : Nat} {p : Pn} (hp : ps[i]? = some p) (hr : p.n.parent = -1) :
    Calls Tryz.prog 29 #[.pointer (some ⟨tb, 0, none⟩), .int .i64 i] w fun e w' => e = .returned (.int .i64 5) ∧ w' = w := by
  have hb : hasB ps.length i = true := hasB_of hp
  obtain ⟨nb, nc, rfl, hc, hm, hnM, hnl, hil⟩ := h.form hp
  have c0 := h.cell0
  have k4 := (h.cellN rfl (f := 4) hp (by omega) rfl).1
  rw [hr] at k4
  have H : Hid (RLies w M tb (.slice (some ⟨nb, 0, none⟩) ps.length nc) uv ps us) := h
  have i1 : (0 : Int) ≤ (i : Int) := by omega
  have i2 : (i : Int) < (ps.length : Int) := by omega
  unfold maxLen at hm
  clear h hp
  go_enter Tryz.func29, Tryz.ntmps29
  go_wp2_with (go_at_call 43; refine (rhas_any H.out _).mono ?_; rintro e w' ⟨rfl, rfl⟩; rw [hb])
  go_ret
  exact ⟨rfl, rfl⟩

set_option maxHeartbeats 8000000 in
set_option maxRecDepth 100000 in
theorem rtake_good {w : World} {M : Nat → Lab} {tb : Nat} {nv uv : Value} {ps : List Pn} {us : List Value} (h : RLies w M tb nv uv ps us) (hs : Small ps) (hn : ps.length ≤ 1000000) (hu : us.length ≤ 1000000000) {i q : Nat} {p m : Pn} (hp : ps[i]? = some p) (hq : p.n.parent = q) (hm : ps[q]? = some m) (hqi : q ≠ i) (hkl : m.n.kids.length ≤ 1000000000) :
    Calls Tryz.prog 29 #[.pointer (some ⟨tb, 0, none⟩), .int .i64 i] w fun e w' => e = .returned (.int .i64 0) ∧ RDone w M tb us (nodesOf ps) (((nodesOf ps).set q { m.n with kids := outOf m.n.kids i }).set i { p.n with parent := -1 }) w' := by
  have hb : hasB ps.length i = true := hasB_of hp
  obtain ⟨nb, nc, rfl, hc, hmx, hnM, hnl, hil⟩ := h.form hp
  have hql : q < ps.length := (List.getElem?_eq_some_iff.1 hm).1
  have c0 := h.cell0
  have k4 := (h.cellN rfl (f := 4) hp (by omega) rfl).1
  rw [hq] at k4
  have H : Hid (RLies w M tb (.slice (some ⟨nb, 0, none⟩) ps.length nc) uv ps us) := h
  have HS : Hid (Small ps) := hs
  have HP : Hid (ps[i]? = some p) := hp
  have HM : Hid (ps[q]? = some m) := hm
  obtain ⟨ka, kc, hkv, _, _⟩ := (h.node q m hm).2.shape
  have i1 : (0 : Int) ≤ (i : Int) := by omega
  have i2 : (i : Int) < (ps.length : Int) := by omega
  have i3 : (0 : Int) ≤ (q : Int) := by omega
  have i4 : (q : Int) < (ps.length : Int) := by omega
  unfold maxLen at hmx
  clear h hs hp hm
  go_enter Tryz.func29, Tryz.ntmps29
  go_wp2_with (first
    | (go_at_call 43; refine (rhas_any H.out _).mono ?_; rintro e w' ⟨rfl, hw'⟩; subst hw'; rw [hb])
    | (go_at_call 52; refine (rkeepE_any H.out HS.out hn hu).mono ?_; rintro e w1 ⟨rfl, M1, uv1, v1, l1, m1, kk⟩
       have d0 := l1.cell0
       have d5 := (l1.cellN rfl (f := 5) HM.out (by omega) rfl).1
       rw [hkv] at d5
       have hl1 : nb < w1.heap.size := World.block_lt_of_cell? w1 _ d5
       have hl0 : tb < w1.heap.size := World.block_lt_of_cell? w1 _ d0
       have HR1 : Hid (Row w1.drew M1 (.kids q) 3 1 (.slice ka m.n.kids.length kc) m.n.kids.length (m.n.kids.map intV)) := hkv ▸ (l1.drew.node q m HM.out).2
       have H1 : Hid (RLies w1 M1 tb (.slice (some ⟨nb, 0, none⟩) ps.length nc) uv1 ps (us ++ [v1]) ∧ Moved w' M w1 M1 ∧ CopyOf w' w1 M1 v1 (nodesOf ps)) := ⟨l1, m1, kk⟩
       clear l1 m1 kk))
  go_region_law ((refine step_call _ (by rfl) 59 [.tmp 36, .tmp 37] #[38, 3] (by rfl) Tryz.func59 (by kernel_rfl) (by rfl) [.slice ka m.n.kids.length kc, .int .i64 i] (by simp [Act.eval]) (without_any HR1.out i (by omega)) ?_
                  rintro e w2 ⟨v2, rfl, ho, hB2⟩
                  refine ⟨_, rfl, ?_⟩
                  obtain ⟨a2, e2, hv2⟩ := own_shape ho
                  subst hv2
                  have l2 := H1.out.1.drew.below hB2
                  have mv2 : Moved w1 M1 w2 M1 := ((Moved.refl w1 M1).drew).below hB2
                  have q0 := l2.cell0
                  obtain ⟨q5, q5f⟩ := l2.cellN rfl (f := 5) HM.out (by omega) rfl
                  rw [hkv] at q5
                  obtain ⟨M3, r1, r2, r3⟩ := l2.ownKids0 mv2 rfl HM.out ho (by exact Nat.le_refl _) (fun g hg => H1.out.1.fresh g (ho.lt g hg).1)
                  have hb2 : (ps.set q ⟨{ m.n with kids := outOf m.n.kids i }, m.av, .slice a2 (outOf m.n.kids i).length e2⟩)[i]? = some p := (by rw [List.getElem?_set_ne hqi]; exact HP.out)
                  have y0 := r1.cell0
                  obtain ⟨y4, y4f⟩ := r1.cellN rfl (f := 4) hb2 (by omega) rfl
                  have HQ : Hid _ := And.intro (r1.setNode rfl (f := 4) (c := .int .i64 (-1)) hb2 (by omega) (p' := ⟨{ p.n with parent := -1 }, p.av, p.kv⟩) rfl (r1.node i p hb2).1 (r1.node i p hb2).2) r2
                  clear ho hB2 l2 mv2 r1 r2 r3 hb2))
  all_goals go_wp2
  all_goals go_ret
  all_goals
    have mv := HQ.out.2.trans (HQ.out.1.2.moved (by intro e; cases e))
    exact ⟨rfl, M3, _, uv1, _, v1, HQ.out.1.1, by simp [nodesOf, List.map_set], H1.out.2.1.trans mv, CopyOf.moved H1.out.2.2 mv⟩
end Go.Proofs.YtjfklhfdonbpgaaGreatDoor
