/- A range over a function whose rounds turn what the iterator reads: what the caller keeps between two rounds tells the iterator what lies where ('Qs'); so nothing is asked of a round but what the caller says of it. -/
import Derived.RangeFuncNested
import Derived.RangeFuncBound
import Derived.RangeFuncCalls
import Derived.RangeFuncLeaves
import Derived.Deep.QuietTactic
namespace Go.Proofs.YtlfepdecgfcifaaGreatDoor
open Go.RowKit

/-- what an iterator promises to a caller that keeps 'Qs' between two rounds -/
def SeqQ {α : Type} (F : Fence) (n : Nat) (P : Program) (g : Nat) (lb : Array Value) (encs : α → Array Value) (Qs : List α → World → Prop) (Nx : List α → α → Prop) (S Sp : List α → Prop) (B : Nat) : Prop :=
  ∀ (l : Nat) (J Jx : List α → World → Prop) (W : World), B ≤ W.heap.size → (∀ pre W1, J pre W1 → Qs pre W1) → (∀ pre W1 m, J pre W1 → J pre (W1.drewN m)) → (∀ pre W1 m, Jx pre W1 → Jx pre (W1.drewN m)) →
    (∀ pre x W1, J pre W1 → Nx pre x → YieldAt F (n - 1) P l (encs x) W1 fun e W' => (e = .returned (.bool true) ∧ J (pre ++ [x]) W') ∨ (e = .returned (.bool false) ∧ Jx (pre ++ [x]) W')) →
    J [] W → CallsIn F n P g (#[.func (.yield l) #[] #[]] ++ lb) W fun e W' => (∃ v, e = .returned v) ∧ ((∃ xs, S xs ∧ J xs W') ∨ (∃ pre, Sp pre ∧ Jx pre W'))

/-- how a round is left -/
def leftQ {α : Type} (B : Nat) (I : List α → World → Prop) (Ix : Code → List α → World → Prop) (xs : List α) (W : World) : Exit → Act → World → Prop
  | .normal, _, W' => KeepsFrom B W W' ∧ I xs W'
  | .ret, _, W' => KeepsFrom B W W' ∧ Ix .ret xs W'
  | _, _, _ => False

variable {F : Fence} {n : Nat} {P : Program}
theorem wpIn_range_q {α : Type} {g : Operand} {ps : Array Tmp} {assign body : Code} {Q : Exit → Act → World → Prop} {a : Act} {w : World}
    (hro : F.round = none) (h1 : 1 ≤ n) {gf : Nat} {lb : Array Value} (hg : a.eval g = .func (.func gf) #[] lb) (hFg : F.fn gf) (eg : ∀ args w, (callFunc gf args).run P w = .ok (.enter gf args) w)
    {encs : α → Array Value} {Qs : List α → World → Prop} {Nx : List α → α → Prop} {S Sp : List α → Prop} (hseq : SeqQ F (n - 1) P gf lb encs Qs Nx S Sp w.heap.size) (hps : ∀ x, (encs x).size = ps.size)
    (I : List α → World → Prop) (Ix : Code → List α → World → Prop) (hIQ : ∀ pre W, I pre W → Qs pre W) (hI : OwnFrom w.heap.size I) (hIx : OwnFrom w.heap.size (Ix .ret)) (h0 : I [] w) (Ax : α → Act → World → Prop) (hAx : ∀ x a', OwnFrom w.heap.size (fun (_ : Unit) W => Ax x a' W))
    (hassign : ∀ (l : Nat) (pre : List α) (x : α) (W : World) (K : Act → World → Prop), I pre W → (∀ a' W', KeepsFrom w.heap.size W W' → I pre W' → Ax x a' W' → K a' W') →
      assign.wpIn (F.inRound l) (n - 1 - 1) P (Exit.then K (fun _ _ _ => False)) { tmps := (ps.zip (encs x)).foldl (fun t (p, v) => t.setIfInBounds p v) a.tmps, defers := [] } W)
    (hbody : ∀ (l : Nat) (pre : List α) (x : α) (a' : Act) (W : World), w.heap.size ≤ l → I pre W → Ax x a' W → Nx pre x → body.wpIn (F.inRound l) (n - 1 - 1) P (leftQ w.heap.size I Ix (pre ++ [x]) W) a' W)
    (hdone : ∀ (D : Nat) (xs : List α) (W : World), w.heap.size ≤ D → S xs → I xs W → W.heap[D]? = some (.deferred (some [])) → Q .normal { a with defers := { target := .collected D, args := #[] } :: a.defers } W)
    (hstop : ∀ (D : Nat) (pre : List α) (W : World), w.heap.size ≤ D → Sp pre → Ix .ret pre W → W.heap[D]? = some (.deferred (some [])) → Code.ret.wpIn F n P Q { a with defers := { target := .collected D, args := #[] } :: a.defers } W) :
    (Code.rangeFunc g ps assign body).wpIn F n P Q a w := by
  refine wpIn_rangeFunc fun fn hfn => ?_
  rw [hro]
  generalize hB : w.heap.size = B at *
  -- the two blocks of the loop's own: its record, and the rounds' deferred calls
  have book : ∃ rec : LoopState → Option Code → Loop, (∀ st pe, rec st pe = { state := st, pending := pe, fn, tmps := a.tmps, params := ps, assign, body, defers := B }) := ⟨_, fun _ _ => rfl⟩
  obtain ⟨rec, hrec⟩ := book
  let Bk : LoopState → Option Code → World → Prop := fun st pe W => W.heap[B + 1]? = some (.loop (rec st pe)) ∧ W.heap[B]? = some (.deferred (some []))
  have bkSet : ∀ {st pe W} st' pe', Bk st pe W → Bk st' pe' (W.putObj (B + 1) (.loop (rec st' pe'))) := fun st' pe' h =>
    ⟨World.putObj_heap_same (Array.getElem?_eq_some_iff.1 h.1).1, (World.putObj_heap_other (by omega)).trans h.2⟩
  have bkKeep : ∀ {st pe W W'}, Bk st pe W → KeepsFrom B W W' → Bk st pe W' := fun h k => ⟨k.same _ _ (by omega) h.1 rfl, k.same _ _ (Nat.le_refl _) h.2 rfl⟩
  have iSet : ∀ {s st pe W} o, I s W → Bk st pe W → I s (W.putObj (B + 1) o) := fun o h b => hI.putObj o h (by omega) b.1 rfl
  have xSet : ∀ {s st pe W} o, Ix .ret s W → Bk st pe W → Ix .ret s (W.putObj (B + 1) o) := fun o h b => hIx.putObj o h (by omega) b.1 rfl
  obtain ⟨W1, hW1⟩ : ∃ W1, (w.alloc (.deferred (some []))).alloc (.loop (rec .ready none)) = W1 := ⟨_, rfl⟩
  have b1 : Bk .ready none W1 := by
    rw [← hW1]
    constructor
    · have := World.alloc_heap_new (w.alloc (.deferred (some []))) (.loop (rec .ready none))
      rwa [World.size_alloc, hB] at this
    · have := World.alloc_heap_new w (.deferred (some []))
      rw [hB] at this
      exact (Below.heap_alloc _ _ _ (by simp [hB])).trans this
  have i1 : I [] W1 := by rw [← hW1]; exact hI.alloc _ (hI.alloc _ h0)
  have s1 : B ≤ W1.heap.size := by rw [← hW1]; simp; omega
  refine ⟨B + 1, [{ target := .collected B, args := #[] }], W1, { target := .fn (.func gf) lb, args := #[.func (.yield (B + 1)) #[] #[]] }, W1, gf, #[.func (.yield (B + 1)) #[] #[]] ++ lb, W1, ?_, ?_, ?_, ?_, fun _ => h1, ?_⟩
  · rw [← hW1, hrec, ← hB]
    exact run_enterLoop_outer _ _ _ _ _
  · simp only [resolve, hg]
    simp [go_sem]
  · intro f' hf'
    simp [Target.leads] at hf'
    subst hf'
    exact hFg
  · simp [invoke, go_sem, eg]
  · refine (hseq (B + 1) (fun pre W => I pre W ∧ Bk .ready none W) (fun pre W => Ix .ret pre W ∧ Bk .done (some .ret) W) W1 s1 (fun pre W h => hIQ pre W h.1) (fun pre W m h => ⟨hI pre W (W.drewN m) none h.1 ⟨rfl, rfl, rfl, Nat.le_refl _, fun _ _ _ => rfl⟩ (fun r e => by cases e), h.2⟩) (fun pre W m h => ⟨hIx pre W (W.drewN m) none h.1 ⟨rfl, rfl, rfl, Nat.le_refl _, fun _ _ _ => rfl⟩ (fun r e => by cases e), h.2⟩) ?_ ⟨i1, b1⟩).mono ?_
    · rintro pre x W ⟨hi, hb⟩ hlen
      have hy := run_yield (P := P) (args := encs x) hb.1 (by rw [hrec]; exact hps x)
      rw [hrec] at hy
      refine ⟨fn, _, assign, body, hy, roundIn_of_wpIn hfn (hassign _ pre x W _ hi fun a' W2 k2 i2 x2 => ?_)⟩
      have b2 := bkKeep hb k2
      have hbegin := run_beginRound (P := P) b2.1 (by rw [hrec])
      have e3 : ({ rec .ready none with state := .busy } : Loop) = rec .busy none := by rw [hrec, hrec]
      rw [e3] at hbegin
      have b3 := bkSet .busy none b2
      refine ⟨_, hbegin, wpIn_mono (hbody _ pre x a' _ (by omega) (iSet _ i2 b2) ((hAx x a').putObj (s := ()) _ x2 (by omega) b2.1 rfl) hlen) ?_⟩
      rintro e a3 W3 hp
      have fin : ∀ (jump : Option Code), KeepsFrom B (W2.putObj (B + 1) (.loop (rec .busy none))) W3 → Bk .busy none W3 ∧ (Instr.endRound (B + 1) jump).run P W3 = .ok (.bool jump.isNone) (W3.putObj (B + 1) (.loop (rec (if jump.isNone then .ready else .done) jump))) := fun jump k => by
        have b4 := bkKeep b3 k
        have h := run_endRound (P := P) jump b4.1
        refine ⟨b4, h.trans ?_⟩
        rw [hrec, hrec]
      cases e with
      | normal =>
        obtain ⟨k, i3⟩ := hp
        obtain ⟨b4, hr⟩ := fin none k
        exact ⟨_, _, hr, .inl ⟨rfl, iSet _ i3 b4, bkSet .ready none b4⟩⟩
      | ret =>
        obtain ⟨k, i3⟩ := hp
        obtain ⟨b4, hr⟩ := fin (some .ret) k
        exact ⟨_, _, hr, .inr ⟨rfl, xSet _ i3 b4, bkSet .done (some .ret) b4⟩⟩
      | exit id => exact hp.elim
      | goto t => exact hp.elim
      | panic ch => exact hp.elim
      | outgrown => exact hp.elim
    · rintro e W2 ⟨⟨v, rfl⟩, (⟨xs, hS, hi, hb⟩ | ⟨pre, hSp, hi, hb⟩)⟩
      · have h := run_endLoop (P := P) hb.1 (by rw [hrec]; simp)
        exact ⟨none, _, h.trans (by rw [hrec]), hdone _ xs _ (Nat.le_refl _) hS (iSet _ hi hb) ((World.putObj_heap_other (by omega)).trans hb.2)⟩
      · have h := run_endLoop (P := P) hb.1 (by rw [hrec]; simp)
        exact ⟨some .ret, _, h.trans (by rw [hrec]), hstop _ pre _ (Nat.le_refl _) hSp (xSet _ hi hb) ((World.putObj_heap_other (by omega)).trans hb.2)⟩
end Go.Proofs.YtlfepdecgfcifaaGreatDoor
