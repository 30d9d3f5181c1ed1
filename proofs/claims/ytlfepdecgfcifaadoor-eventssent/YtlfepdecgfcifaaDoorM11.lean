/- A range over a function whose rounds turn what the iterator reads: what the caller keeps between two rounds tells the iterator what lies where ('Qs'); so nothing is asked of a round but what the caller says of it. -/
import Derived.RangeFuncNested
import Derived.RangeFuncBound
import Derived.RangeFuncCalls
import Derived.RangeFuncLeaves
import Derived.Deep.QuietTactic
import Derived.Test.YtlfepdecgfcifaaDoorEvPure
import Derived.Test.YtlfepdecgfcifaaDoorM02
import Derived.OneCell
import Derived.OwnWalk
namespace Go.Proofs.YtlfepdecgfcifaaDoor
open Go.RowKit

/-- what an iterator promises to a caller that keeps 'Qs' between two rounds -/
def SeqQ {α : Type} (F : Fence) (n : Nat) (P : Program) (g : Nat) (lb : Array Value) (encs : α → Array Value) (Qs : List α → World → Prop) (Nx : List α → α → Prop) (S Sp : List α → Prop) (B : Nat) : Prop :=
  ∀ (l : Nat) (J Jx : List α → World → Prop) (W : World), B ≤ W.heap.size → (∀ pre W1, J pre W1 → Qs pre W1) → (∀ pre W1 m, J pre W1 → J pre (W1.drewN m)) → (∀ pre W1 m, Jx pre W1 → Jx pre (W1.drewN m)) →
    (∀ pre x W1, J pre W1 → Nx pre x → YieldAt F (n - 1) P l (encs x) W1 fun e W' => (e = .returned (.bool true) ∧ J (pre ++ [x]) W') ∨ (e = .returned (.bool false) ∧ Jx (pre ++ [x]) W')) →
    J [] W → CallsIn F n P g (#[.func (.yield l) #[] #[]] ++ lb) W fun e W' => (∃ v, e = .returned v) ∧ ((∃ xs, S xs ∧ J xs W') ∨ (∃ pre, Sp pre ∧ Jx pre W'))

/-- how a round is left -/
def leftQ {α : Type} (B : Nat) (I : List α → World → Prop) (Ix : Code → List α → World → Prop) (xs : List α) (W : World) : Exit → Act → World → Prop
  | .normal, _, W' => KeepsFrom B W W' ∧ I xs W'
  | .ret, _, W' => KeepsFrom B W W' ∧ Ix .ret xs W'
  | _, _, _ => False

variable {F : Fence} {n : Nat} {P : Program}
theorem wpIn_range_q {α : Type} {g : Operand} {ps : Array Tmp} {assign body : Code} {Q : Exit → Act → World → Prop} {a : Act} {w : World}
    (hro : F.round = none) (h1 : 1 ≤ n) {gf : Nat} {lb : Array Value} (hg : a.eval g = .func (.func gf) #[] lb) (hFg : F.fn gf) (eg : ∀ args w, (callFunc gf args).run P w = .ok (.enter gf args) w)
    {encs : α → Array Value} {Qs : List α → World → Prop} {Nx : List α → α → Prop} {S Sp : List α → Prop} (hseq : SeqQ F (n - 1) P gf lb encs Qs Nx S Sp w.heap.size) (hps : ∀ x, (encs x).size = ps.size)
    (I : List α → World → Prop) (Ix : Code → List α → World → Prop) (hIQ : ∀ pre W, I pre W → Qs pre W) (hI : OwnFrom w.heap.size I) (hIx : OwnFrom w.heap.size (Ix .ret)) (h0 : I [] w) (Ax : α → Act → World → Prop) (hAx : ∀ x a', OwnFrom w.heap.size (fun (_ : Unit) W => Ax x a' W))
    (hassign : ∀ (l : Nat) (pre : List α) (x : α) (W : World) (K : Act → World → Prop), I pre W → (∀ a' W', KeepsFrom w.heap.size W W' → I pre W' → Ax x a' W' → K a' W') →
      assign.wpIn (F.inRound l) (n - 1 - 1) P (Exit.then K (fun _ _ _ => False)) { tmps := (ps.zip (encs x)).foldl (fun t (p, v) => t.setIfInBounds p v) a.tmps, defers := [] } W)
    (hbody : ∀ (l : Nat) (pre : List α) (x : α) (a' : Act) (W : World), w.heap.size ≤ l → I pre W → Ax x a' W → Nx pre x → body.wpIn (F.inRound l) (n - 1 - 1) P (leftQ w.heap.size I Ix (pre ++ [x]) W) a' W)
    (hdone : ∀ (D : Nat) (xs : List α) (W : World), w.heap.size ≤ D → S xs → I xs W → W.heap[D]? = some (.deferred (some [])) → Q .normal { a with defers := { target := .collected D, args := #[] } :: a.defers } W)
    (hstop : ∀ (D : Nat) (pre : List α) (W : World), w.heap.size ≤ D → Sp pre → Ix .ret pre W → W.heap[D]? = some (.deferred (some [])) → Code.ret.wpIn F n P Q { a with defers := { target := .collected D, args := #[] } :: a.defers } W) :
    (Code.rangeFunc g ps assign body).wpIn F n P Q a w := by
  refine wpIn_rangeFunc fun fn hfn => ?_
  rw [hro]
  generalize hB : w.heap.size = B at *
  -- the two blocks of the loop's own: its record, and the rounds' deferred calls
  have book : ∃ rec : LoopState → Option Code → Loop, (∀ st pe, rec st pe = { state := st, pending := pe, fn, tmps := a.tmps, params := ps, assign, body, defers := B }) := ⟨_, fun _ _ => rfl⟩
  obtain ⟨rec, hrec⟩ := book
  let Bk : LoopState → Option Code → World → Prop := fun st pe W => W.heap[B + 1]? = some (.loop (rec st pe)) ∧ W.heap[B]? = some (.deferred (some []))
  have bkSet : ∀ {st pe W} st' pe', Bk st pe W → Bk st' pe' (W.putObj (B + 1) (.loop (rec st' pe'))) := fun st' pe' h =>
    ⟨World.putObj_heap_same (Array.getElem?_eq_some_iff.1 h.1).1, (World.putObj_heap_other (by omega)).trans h.2⟩
  have bkKeep : ∀ {st pe W W'}, Bk st pe W → KeepsFrom B W W' → Bk st pe W' := fun h k => ⟨k.same _ _ (by omega) h.1 rfl, k.same _ _ (Nat.le_refl _) h.2 rfl⟩
  have iSet : ∀ {s st pe W} o, I s W → Bk st pe W → I s (W.putObj (B + 1) o) := fun o h b => hI.putObj o h (by omega) b.1 rfl
  have xSet : ∀ {s st pe W} o, Ix .ret s W → Bk st pe W → Ix .ret s (W.putObj (B + 1) o) := fun o h b => hIx.putObj o h (by omega) b.1 rfl
  obtain ⟨W1, hW1⟩ : ∃ W1, (w.alloc (.deferred (some []))).alloc (.loop (rec .ready none)) = W1 := ⟨_, rfl⟩
  have b1 : Bk .ready none W1 := by
    rw [← hW1]
    constructor
    · have := World.alloc_heap_new (w.alloc (.deferred (some []))) (.loop (rec .ready none))
      rwa [World.size_alloc, hB] at this
    · have := World.alloc_heap_new w (.deferred (some []))
      rw [hB] at this
      exact (Below.heap_alloc _ _ _ (by simp [hB])).trans this
  have i1 : I [] W1 := by rw [← hW1]; exact hI.alloc _ (hI.alloc _ h0)
  have s1 : B ≤ W1.heap.size := by rw [← hW1]; simp; omega
  refine ⟨B + 1, [{ target := .collected B, args := #[] }], W1, { target := .fn (.func gf) lb, args := #[.func (.yield (B + 1)) #[] #[]] }, W1, gf, #[.func (.yield (B + 1)) #[] #[]] ++ lb, W1, ?_, ?_, ?_, ?_, fun _ => h1, ?_⟩
  · rw [← hW1, hrec, ← hB]
    exact run_enterLoop_outer _ _ _ _ _
  · simp only [resolve, hg]
    simp [go_sem]
  · intro f' hf'
    simp [Target.leads] at hf'
    subst hf'
    exact hFg
  · simp [invoke, go_sem, eg]
  · refine (hseq (B + 1) (fun pre W => I pre W ∧ Bk .ready none W) (fun pre W => Ix .ret pre W ∧ Bk .done (some .ret) W) W1 s1 (fun pre W h => hIQ pre W h.1) (fun pre W m h => ⟨hI pre W (W.drewN m) none h.1 ⟨rfl, rfl, rfl, Nat.le_refl _, fun _ _ _ => rfl⟩ (fun r e => by cases e), h.2⟩) (fun pre W m h => ⟨hIx pre W (W.drewN m) none h.1 ⟨rfl, rfl, rfl, Nat.le_refl _, fun _ _ _ => rfl⟩ (fun r e => by cases e), h.2⟩) ?_ ⟨i1, b1⟩).mono ?_
    · rintro pre x W ⟨hi, hb⟩ hlen
      have hy := run_yield (P := P) (args := encs x) hb.1 (by rw [hrec]; exact hps x)
      rw [hrec] at hy
      refine ⟨fn, _, assign, body, hy, roundIn_of_wpIn hfn (hassign _ pre x W _ hi fun a' W2 k2 i2 x2 => ?_)⟩
      have b2 := bkKeep hb k2
      have hbegin := run_beginRound (P := P) b2.1 (by rw [hrec])
      have e3 : ({ rec .ready none with state := .busy } : Loop) = rec .busy none := by rw [hrec, hrec]
      rw [e3] at hbegin
      have b3 := bkSet .busy none b2
      refine ⟨_, hbegin, wpIn_mono (hbody _ pre x a' _ (by omega) (iSet _ i2 b2) ((hAx x a').putObj (s := ()) _ x2 (by omega) b2.1 rfl) hlen) ?_⟩
      rintro e a3 W3 hp
      have fin : ∀ (jump : Option Code), KeepsFrom B (W2.putObj (B + 1) (.loop (rec .busy none))) W3 → Bk .busy none W3 ∧ (Instr.endRound (B + 1) jump).run P W3 = .ok (.bool jump.isNone) (W3.putObj (B + 1) (.loop (rec (if jump.isNone then .ready else .done) jump))) := fun jump k => by
        have b4 := bkKeep b3 k
        have h := run_endRound (P := P) jump b4.1
        refine ⟨b4, h.trans ?_⟩
        rw [hrec, hrec]
      cases e with
      | normal =>
        obtain ⟨k, i3⟩ := hp
        obtain ⟨b4, hr⟩ := fin none k
        exact ⟨_, _, hr, .inl ⟨rfl, iSet _ i3 b4, bkSet .ready none b4⟩⟩
      | ret =>
        obtain ⟨k, i3⟩ := hp
        obtain ⟨b4, hr⟩ := fin (some .ret) k
        exact ⟨_, _, hr, .inr ⟨rfl, xSet _ i3 b4, bkSet .done (some .ret) b4⟩⟩
      | exit id => exact hp.elim
      | goto t => exact hp.elim
      | panic ch => exact hp.elim
      | outgrown => exact hp.elim
    · rintro e W2 ⟨⟨v, rfl⟩, (⟨xs, hS, hi, hb⟩ | ⟨pre, hSp, hi, hb⟩)⟩
      · have h := run_endLoop (P := P) hb.1 (by rw [hrec]; simp)
        exact ⟨none, _, h.trans (by rw [hrec]), hdone _ xs _ (Nat.le_refl _) hS (iSet _ hi hb) ((World.putObj_heap_other (by omega)).trans hb.2)⟩
      · have h := run_endLoop (P := P) hb.1 (by rw [hrec]; simp)
        exact ⟨some .ret, _, h.trans (by rw [hrec]), hstop _ pre _ (Nat.le_refl _) hSp (xSet _ hi hb) ((World.putObj_heap_other (by omega)).trans hb.2)⟩
end Go.Proofs.YtlfepdecgfcifaaDoor

/- Package events: ears and a sending as they lie in memory. -/
namespace Go.Proofs.YtlfepdecgfcifaaDoor
open Go.RowKit

theorem hid {p : Prop} (h : p) : Hid p := h
theorem ltH {w : World} {b : Nat} {o : Obj} (h : w.heap[b]? = some o) : b < w.heap.size := (Array.getElem?_eq_some_iff.1 h).1

/-- nothing turns but cells of some blocks -/
structure Chg (X : Nat → Prop) (w w' : World) : Prop where
  os : w'.os = w.os
  tape : w'.tape = w.tape
  output : w'.output = w.output
  size : w.heap.size ≤ w'.heap.size
  block : ∀ k, k < w.heap.size → ¬ X k → w'.heap[k]? = w.heap[k]?
  kept : KeepsOthers w w'
theorem Chg.refl (X : Nat → Prop) (w : World) : Chg X w w := ⟨rfl, rfl, rfl, Nat.le_refl _, fun _ _ _ => rfl, KeepsOthers.refl w⟩
theorem Chg.trans {X Y : Nat → Prop} {a b c : World} (h : Chg X a b) (k : Chg Y b c) (hxy : ∀ q, q < a.heap.size → Y q → X q) : Chg X a c :=
  ⟨k.os.trans h.os, k.tape.trans h.tape, k.output.trans h.output, Nat.le_trans h.size k.size, fun q hq hx => (k.block q (Nat.lt_of_lt_of_le hq h.size) (fun hy => hx (hxy q hq hy))).trans (h.block q hq hx), h.kept.trans k.kept⟩
theorem Chg.mono {X Y : Nat → Prop} {a b : World} (h : Chg X a b) (hxy : ∀ q, q < a.heap.size → X q → Y q) : Chg Y a b :=
  ⟨h.os, h.tape, h.output, h.size, fun q hq hy => h.block q hq (fun hx => hy (hxy q hq hx)), h.kept⟩
theorem Chg.alloc {X : Nat → Prop} {a b : World} (h : Chg X a b) (o : Obj) : Chg X a (b.alloc o) :=
  ⟨h.os, h.tape, h.output, by simp; have := h.size; omega, fun q hq hx => (Below.heap_alloc _ _ _ (Nat.lt_of_lt_of_le hq h.size)).trans (h.block q hq hx), h.kept.trans (KeepsOthers.alloc _ _)⟩
theorem Chg.drew {X : Nat → Prop} {a b : World} (h : Chg X a b) : Chg X a b.drew := ⟨h.os, h.tape, h.output, h.size, h.block, h.kept.trans (KeepsOthers.drew _)⟩
theorem Chg.set {X : Nat → Prop} {a b : World} (h : Chg X a b) (g o : Nat) (u : Value) (hg : g < a.heap.size → X g) : Chg X a (b.setCell ⟨g, o, none⟩ u) :=
  ⟨h.os, h.tape, h.output, by simpa [World.setCell] using h.size, fun q hq hx => (Below.heap_setCell _ _ _ _ (by rintro rfl; exact hx (hg hq))).trans (h.block q hq hx), h.kept.trans (KeepsOthers.setCell _ _ _)⟩
theorem Chg.below {X : Nat → Prop} {a b : World} {B : Nat} (h : Chg X a b) (hB : B ≤ a.heap.size) (hx : ∀ q, X q → B ≤ q) : Below B a b :=
  ⟨h.os, h.tape, h.output, h.size, fun q hq => h.block q (by omega) (fun e => by have := hx q e; omega)⟩

def earC (x : EvE) : List Value := [.int .i64 x.node, .string x.name, .bool x.down, .bool x.once, .bool x.calm, .bool x.stop, .bool x.now, .bool x.bar]
def ptrV (x : EvS) (b : Nat) : Value := if x.gone then .pointer none else .pointer (some ⟨b, 0, none⟩)
def callC (x : EvC) : List Value := [.int .i64 x.ear, .int .i64 x.node, .int .i64 x.phase]
def callsC (l : List EvC) : List Value := l.flatMap callC
theorem callsC_snoc (l : List EvC) (x : EvC) : callsC (l ++ [x]) = callsC l ++ callC x := by simp [callsC]

/-- the program's ears -/
structure PEs (w : World) (eb : Nat) (v : Value) (xb : List Nat) (E : List EvS) : Prop where
  head : w.heap[eb]? = some (.cells #[v] 57 (0, 0))
  row : w.ownsRow 0 85 1 v E.length (List.zipWith ptrV E xb)
  len : xb.length = E.length
  ear : ∀ (k : Nat) (x : EvS) (b : Nat), E[k]? = some x → xb[k]? = some b → w.heap[b]? = some (.cells ⟨earC x.e⟩ 44 (0, 0)) ∧ b ≠ eb ∧ v.ownBlock ≠ some b
  ne : v.ownBlock ≠ some eb

theorem zip_get {E : List EvS} {xb : List Nat} {k : Nat} {x : EvS} {b : Nat} (h1 : E[k]? = some x) (h2 : xb[k]? = some b) : (List.zipWith ptrV E xb)[k]? = some (ptrV x b) := by
  rw [List.getElem?_zipWith, h1, h2]
theorem zip_set : ∀ (E : List EvS) (xb : List Nat) (k : Nat) (x : EvS) (b : Nat), xb[k]? = some b → List.zipWith ptrV (E.set k x) xb = (List.zipWith ptrV E xb).set k (ptrV x b)
  | [], _, _, _, _, _ => by simp
  | y :: E, [], k, x, b, h => by simp at h
  | y :: E, c :: xb, 0, x, b, h => by simp at h; subst h; rfl
  | y :: E, c :: xb, k + 1, x, b, h => by
    simp only [List.set_cons_succ, List.zipWith_cons_cons]
    rw [zip_set E xb k x b (by simpa using h)]
section
variable {w w' : World} {eb : Nat} {v : Value} {xb : List Nat} {E : List EvS}
theorem PEs.far (h : PEs w eb v xb E) (h1 : w'.heap[eb]? = w.heap[eb]?) (h2 : ∀ b, v.ownBlock = some b → w'.heap[b]? = w.heap[b]?) (h3 : ∀ b ∈ xb, w'.heap[b]? = w.heap[b]?) : PEs w' eb v xb E :=
  ⟨h1.trans h.head, own_same h.row h2, h.len, fun k x b hk hb => ⟨(h3 b (List.mem_of_getElem? hb)).trans (h.ear k x b hk hb).1, (h.ear k x b hk hb).2⟩, h.ne⟩
theorem PEs.lt (h : PEs w eb v xb E) : eb < w.heap.size ∧ (∀ b, v.ownBlock = some b → b < w.heap.size) ∧ ∀ b ∈ xb, b < w.heap.size := by
  refine ⟨ltH h.head, fun b hb => (h.row.lt b hb).2, fun b hb => ?_⟩
  obtain ⟨k, hk⟩ := List.getElem?_of_mem hb
  have hkl : k < xb.length := (List.getElem?_eq_some_iff.1 hk).1
  have hkE : k < E.length := by rw [← h.len]; exact hkl
  exact ltH (h.ear k _ b (List.getElem?_eq_getElem hkE) hk).1
theorem PEs.chg {X : Nat → Prop} (h : PEs w eb v xb E) (hc : Chg X w w') (h1 : ¬ X eb) (h2 : ∀ b, v.ownBlock = some b → ¬ X b) (h3 : ∀ b ∈ xb, ¬ X b) : PEs w' eb v xb E :=
  h.far (hc.block _ h.lt.1 h1) (fun b hb => hc.block _ (h.lt.2.1 b hb) (h2 b hb)) (fun b hb => hc.block _ (h.lt.2.2 b hb) (h3 b hb))
theorem PEs.below (h : PEs w eb v xb E) (hb : Below w.heap.size w w') : PEs w' eb v xb E :=
  h.far (hb.block _ h.lt.1) (fun b hq => hb.block _ (h.lt.2.1 b hq)) (fun b hq => hb.block _ (h.lt.2.2 b hq))
theorem PEs.shape (h : PEs w eb v xb E) : ∃ a c, v = .slice a E.length c ∧ E.length ≤ c ∧ c ≤ 9223372036854775807 ∧ (0 < E.length → ∃ g, a = some ⟨g, 0, none⟩) := by
  obtain ⟨hl, ⟨h1, hn⟩ | ⟨g, cap, cur, h1, hg, hh, h2, h3, h4, h5⟩⟩ := h.row
  · exact ⟨none, 0, by rw [h1, hn], by omega, by omega, fun h => by omega⟩
  · unfold maxLen at h3
    exact ⟨_, cap, h1, h2, by omega, fun _ => ⟨g, rfl⟩⟩
theorem PEs.at (h : PEs w eb v xb E) {g c : Nat} (hv : v = .slice (some ⟨g, 0, none⟩) E.length c) {k : Nat} {x : EvS} {b : Nat} (hk : E[k]? = some x) (hb : xb[k]? = some b) : w.cell? ⟨g, k, none⟩ = some (ptrV x b) := by
  have hkl : k < E.length := (List.getElem?_eq_some_iff.1 hk).1
  have hr := h.row
  rw [hv] at hr
  rw [hr.cellAt k (by omega)]
  exact zip_get hk hb
theorem PEs.gone (h : PEs w eb v xb E) {g c : Nat} (hv : v = .slice (some ⟨g, 0, none⟩) E.length c) {k : Nat} {x : EvS} (hk : E[k]? = some x) : PEs (w.setCell ⟨g, k, none⟩ (.pointer none)) eb v xb (E.set k ⟨x.e, true⟩) := by
  have hkl : k < E.length := (List.getElem?_eq_some_iff.1 hk).1
  obtain ⟨b, hb⟩ : ∃ b, xb[k]? = some b := ⟨_, List.getElem?_eq_getElem (by rw [h.len]; exact hkl)⟩
  have hr := h.row
  rw [hv] at hr
  have hs := (hr.stored k (.pointer none)).1
  have hg : v.ownBlock = some g := by rw [hv]; rfl
  have oth : ∀ q, q ≠ g → (w.setCell ⟨g, k, none⟩ (.pointer none)).heap[q]? = w.heap[q]? := fun q hq => Below.heap_setCell _ _ _ _ hq
  refine ⟨(oth eb (fun e => h.ne (by rw [e]; exact hg))).trans h.head, ?_, by rw [List.length_set]; exact h.len, fun j y d hj hd => ?_, h.ne⟩
  · rw [List.length_set, zip_set _ _ _ _ _ hb, hv]
    exact hs
  · by_cases e : k = j
    · subst e
      rw [List.getElem?_set_self hkl] at hj
      cases hj
      have := h.ear k x d hk hd
      exact ⟨(oth d (fun e => this.2.2 (by rw [e]; exact hg))).trans this.1, this.2⟩
    · rw [List.getElem?_set_ne e] at hj
      have := h.ear j y d hj hd
      exact ⟨(oth d (fun e => this.2.2 (by rw [e]; exact hg))).trans this.1, this.2⟩
end
/-- what Drop does -/
def dropR (E : List EvS) (k : Int) : List EvS × Bool := if k < 0 then (E, false) else match E[k.toNat]? with
  | none => (E, false)
  | some x => if x.gone then (E, false) else (E.set k.toNat ⟨x.e, true⟩, true)

set_option maxHeartbeats 4000000 in
set_option maxRecDepth 100000 in
theorem drop_any {w : World} {eb : Nat} {v : Value} {xb : List Nat} {E : List EvS} (h : PEs w eb v xb E) (k : Int) :
    Calls Tryd.prog 10 #[.pointer (some ⟨eb, 0, none⟩), .int .i64 k] w fun e w' => e = .returned (.bool (dropR E k).2) ∧ PEs w' eb v xb (dropR E k).1 ∧ Chg (fun b => v.ownBlock = some b) w w' := by
  obtain ⟨a, c, hv, hc1, hc2, ha⟩ := h.shape
  have h0 : w.cell? ⟨eb, 0, none⟩ = some v := by rw [cell_of_row _ _ _ _ _ _ h.head]; rfl
  have H := hid h
  have hmx : Tryd.prog.follows Departure.mixedOrders = true := by kernel_rfl
  by_cases hn : k < 0
  · have e : dropR E k = (E, false) := by unfold dropR; rw [if_pos hn]
    rw [e]
    clear h e
    subst hv
    go_enter Tryd.func10, Tryd.ntmps10
    go_wp2
    go_ret
    exact ⟨rfl, H.out, Chg.refl _ _⟩
  · obtain ⟨j, rfl⟩ : ∃ j : Nat, k = j := ⟨k.toNat, by omega⟩
    by_cases hj : j < E.length
    · obtain ⟨x, hx⟩ : ∃ x, E[j]? = some x := ⟨_, List.getElem?_eq_getElem hj⟩
      obtain ⟨b, hb⟩ : ∃ b, xb[j]? = some b := ⟨_, List.getElem?_eq_getElem (by rw [h.len]; exact hj)⟩
      obtain ⟨g, rfl⟩ := ha (by omega)
      have h1 := h.at hv hx hb
      have hz : (j : Int) < (E.length : Int) := by omega
      have hfr : w.frozen? ⟨g, j, none⟩ = false := by
        have hr := h.row
        rw [hv] at hr
        exact hr.frozenAt j
      have HG := hid (h.gone hv hx)
      have HC : Hid (Chg (fun b => v.ownBlock = some b) w (w.setCell ⟨g, j, none⟩ (.pointer none))) := (Chg.refl _ w).set _ _ _ (fun _ => by rw [hv]; rfl)
      unfold ptrV at h1
      cases hg : x.gone
      · have e : dropR E j = (E.set j ⟨x.e, true⟩, true) := by unfold dropR; rw [if_neg hn, Int.toNat_natCast, hx]; simp [hg]
        rw [e]
        rw [hg] at h1
        simp only [Bool.false_eq_true, if_false] at h1
        clear h e hx hb hg ha
        subst hv
        go_enter Tryd.func10, Tryd.ntmps10
        go_wp2
        go_ret
        exact ⟨rfl, HG.out, HC.out⟩
      · have e : dropR E j = (E, false) := by unfold dropR; rw [if_neg hn, Int.toNat_natCast, hx]; simp [hg]
        rw [e]
        rw [hg] at h1
        simp only [if_true] at h1
        clear h e hx hb hg ha HG HC
        subst hv
        go_enter Tryd.func10, Tryd.ntmps10
        go_wp2
        go_ret
        exact ⟨rfl, H.out, Chg.refl _ _⟩
    · have e : dropR E j = (E, false) := by unfold dropR; rw [if_neg hn, Int.toNat_natCast, List.getElem?_eq_none (by omega)]
      rw [e]
      have hz : ¬ (j : Int) < (E.length : Int) := by omega
      clear h e ha
      subst hv
      go_enter Tryd.func10, Tryd.ntmps10
      go_wp2
      go_ret
      exact ⟨rfl, H.out, Chg.refl _ _⟩
end Go.Proofs.YtlfepdecgfcifaaDoor
