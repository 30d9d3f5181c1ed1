/- EventsSent: both ears side by side, as they lie in memory between the law's steps. -/
import Derived.Test.YtlfepdecgfcifaaDoorM26
import Derived.Test.YtlfepdecgfcifaaDoorM31
namespace Go.Proofs.YtlfepdecgfcifaaDoor
open Go.RowKit
set_option linter.unusedVariables false

/-- both ears, above a world in which both were made -/
structure LwSt (w2 : World) (eb wb : Nat) (v : Value) (xb : List Nat) (lv gv : Value) (Ep Eq : List EvS) (wr : World) : Prop where
  pe : PEs wr eb v xb Ep
  qe : QEs wr wb lv gv Eq
  os : wr.os = w2.os
  tape : wr.tape = w2.tape
  output : wr.output = w2.output
  size : w2.heap.size ≤ wr.heap.size
  old : ∀ b, b < w2.heap.size → b ≠ eb → b ≠ wb → wr.heap[b]? = w2.heap[b]?
  e1 : eb < w2.heap.size
  e2 : wb < w2.heap.size
  e3 : eb ≠ wb
  v1 : ∀ b, v.ownBlock = some b → w2.heap.size ≤ b ∧ lv.ownBlock ≠ some b ∧ gv.ownBlock ≠ some b
  x1 : ∀ b ∈ xb, w2.heap.size ≤ b ∧ lv.ownBlock ≠ some b ∧ gv.ownBlock ≠ some b
  l1 : ∀ b, lv.ownBlock = some b → w2.heap.size ≤ b
  g1 : ∀ b, gv.ownBlock = some b → w2.heap.size ≤ b
section
variable {w2 wr w' : World} {eb wb : Nat} {v : Value} {xb : List Nat} {lv gv : Value} {Ep Eq : List EvS}
theorem LwSt.below (h : LwSt w2 eb wb v xb lv gv Ep Eq wr) (hb : Below wr.heap.size wr w') : LwSt w2 eb wb v xb lv gv Ep Eq w' :=
  ⟨h.pe.below hb, h.qe.below hb, hb.os.trans h.os, hb.tape.trans h.tape, hb.output.trans h.output, Nat.le_trans h.size hb.size, fun b h1 h2 h3 => (hb.block b (Nat.lt_of_lt_of_le h1 h.size)).trans (h.old b h1 h2 h3), h.e1, h.e2, h.e3, h.v1, h.x1, h.l1, h.g1⟩
theorem LwSt.drewN (h : LwSt w2 eb wb v xb lv gv Ep Eq wr) (m : Nat) : LwSt w2 eb wb v xb lv gv Ep Eq (wr.drewN m) := h.below ⟨rfl, rfl, rfl, Nat.le_refl _, fun _ _ => rfl⟩
theorem LwSt.alloc (h : LwSt w2 eb wb v xb lv gv Ep Eq wr) (o : Obj) : LwSt w2 eb wb v xb lv gv Ep Eq (wr.alloc o) := h.below ((Below.refl _ wr).alloc (Nat.le_refl _) _)

/-- the program's ears turn -/
theorem LwSt.prog (h : LwSt w2 eb wb v xb lv gv Ep Eq wr) {X : Nat → Prop} (hc : Chg X wr w') (hx : ∀ b, X b → b = eb ∨ v.ownBlock = some b) {v' : Value} {xb' : List Nat} {E' : List EvS} (hp : PEs w' eb v' xb' E') (hv : v'.ownBlock = v.ownBlock ∨ ∃ b, v'.ownBlock = some b ∧ wr.heap.size ≤ b) (hxb : ∀ b ∈ xb', b ∈ xb ∨ wr.heap.size ≤ b) : LwSt w2 eb wb v' xb' lv gv E' Eq w' := by
  have hq := h.qe.lt
  have nX : ∀ b, b ≠ eb → v.ownBlock ≠ some b → ¬ X b := fun b h1 h2 h3 => by rcases hx b h3 with e | e; exact h1 e; exact h2 e
  have q0 : w'.heap[wb]? = wr.heap[wb]? := hc.block _ hq.1 (nX _ (Ne.symm h.e3) (fun e => by have := (h.v1 _ e).1; have := h.e2; omega))
  have q1 : ∀ b, lv.ownBlock = some b → w'.heap[b]? = wr.heap[b]? := fun b hb => hc.block _ (hq.2.1 b hb) (nX _ (fun e => by have := h.l1 b hb; have := h.e1; omega) (fun e => (h.v1 _ e).2.1 hb))
  have q2 : ∀ b, gv.ownBlock = some b → w'.heap[b]? = wr.heap[b]? := fun b hb => hc.block _ (hq.2.2 b hb) (nX _ (fun e => by have := h.g1 b hb; have := h.e1; omega) (fun e => (h.v1 _ e).2.2 hb))
  have hs := h.size
  refine ⟨hp, h.qe.far q0 q1 q2, hc.os.trans h.os, hc.tape.trans h.tape, hc.output.trans h.output, Nat.le_trans h.size hc.size, fun b h1 h2 h3 => (hc.block b (by omega) (nX b h2 (fun e => by have := (h.v1 _ e).1; omega))).trans (h.old b h1 h2 h3), h.e1, h.e2, h.e3, fun b hb => ?_, fun b hb => ?_, h.l1, h.g1⟩
  · rcases hv with e | ⟨b', e, hle⟩
    · exact h.v1 b (e.symm.trans hb)
    · rw [e] at hb
      injection hb with hb
      subst hb
      exact ⟨by omega, fun e => by have := hq.2.1 _ e; omega, fun e => by have := hq.2.2 _ e; omega⟩
  · rcases hxb b hb with e | hle
    · exact h.x1 b e
    · exact ⟨by omega, fun e => by have := hq.2.1 _ e; omega, fun e => by have := hq.2.2 _ e; omega⟩
/-- the document's ears turn -/
theorem LwSt.doc (h : LwSt w2 eb wb v xb lv gv Ep Eq wr) {X : Nat → Prop} (hc : Chg X wr w') (hx : ∀ b, X b → b = wb ∨ lv.ownBlock = some b ∨ gv.ownBlock = some b) {lv' gv' : Value} {E' : List EvS} (hq' : QEs w' wb lv' gv' E') (hl : lv'.ownBlock = lv.ownBlock ∨ ∃ b, lv'.ownBlock = some b ∧ wr.heap.size ≤ b) (hg : gv'.ownBlock = gv.ownBlock ∨ ∃ b, gv'.ownBlock = some b ∧ wr.heap.size ≤ b) : LwSt w2 eb wb v xb lv' gv' Ep E' w' := by
  have hp := h.pe.lt
  have nX : ∀ b, b ≠ wb → lv.ownBlock ≠ some b → gv.ownBlock ≠ some b → ¬ X b := fun b h1 h2 h4 h3 => by rcases hx b h3 with e | e | e; exact h1 e; exact h2 e; exact h4 e
  have hs := h.size
  have p0 : w'.heap[eb]? = wr.heap[eb]? := hc.block _ hp.1 (nX _ h.e3 (fun e => by have := h.l1 _ e; have := h.e1; omega) (fun e => by have := h.g1 _ e; have := h.e1; omega))
  have p1 : ∀ b, v.ownBlock = some b → w'.heap[b]? = wr.heap[b]? := fun b hb => hc.block _ (hp.2.1 b hb) (nX _ (fun e => by have := (h.v1 b hb).1; have := h.e2; omega) (h.v1 b hb).2.1 (h.v1 b hb).2.2)
  have p2 : ∀ b ∈ xb, w'.heap[b]? = wr.heap[b]? := fun b hb => hc.block _ (hp.2.2 b hb) (nX _ (fun e => by have := (h.x1 b hb).1; have := h.e2; omega) (h.x1 b hb).2.1 (h.x1 b hb).2.2)
  have fl : ∀ b, lv'.ownBlock = some b → lv.ownBlock = some b ∨ wr.heap.size ≤ b := fun b hb => by
    rcases hl with e | ⟨b', e, hle⟩
    · exact .inl (e.symm.trans hb)
    · rw [e] at hb; injection hb with hb; subst hb; exact .inr hle
  have fg : ∀ b, gv'.ownBlock = some b → gv.ownBlock = some b ∨ wr.heap.size ≤ b := fun b hb => by
    rcases hg with e | ⟨b', e, hle⟩
    · exact .inl (e.symm.trans hb)
    · rw [e] at hb; injection hb with hb; subst hb; exact .inr hle
  refine ⟨h.pe.far p0 p1 p2, hq', hc.os.trans h.os, hc.tape.trans h.tape, hc.output.trans h.output, Nat.le_trans h.size hc.size, fun b h1 h2 h3 => (hc.block b (by omega) (nX b h3 (fun e => by have := h.l1 _ e; omega) (fun e => by have := h.g1 _ e; omega))).trans (h.old b h1 h2 h3), h.e1, h.e2, h.e3, fun b hb => ?_, fun b hb => ?_, fun b hb => ?_, fun b hb => ?_⟩
  · have := hp.2.1 b hb
    refine ⟨(h.v1 b hb).1, fun e => ?_, fun e => ?_⟩
    · rcases fl b e with e | e
      · exact (h.v1 b hb).2.1 e
      · omega
    · rcases fg b e with e | e
      · exact (h.v1 b hb).2.2 e
      · omega
  · have := hp.2.2 b hb
    refine ⟨(h.x1 b hb).1, fun e => ?_, fun e => ?_⟩
    · rcases fl b e with e | e
      · exact (h.x1 b hb).2.1 e
      · omega
    · rcases fg b e with e | e
      · exact (h.x1 b hb).2.2 e
      · omega
  · rcases fl b hb with e | e
    · exact h.l1 b e
    · omega
  · rcases fg b hb with e | e
    · exact h.g1 b e
    · omega
end
theorem LwSt.addP {w2 wr w' : World} {eb wb : Nat} {v : Value} {xb : List Nat} {lv gv : Value} {Ep Eq : List EvS} (h : LwSt w2 eb wb v xb lv gv Ep Eq wr) {x : EvE} {e : Ending} (hp : AddPost wr eb v xb Ep x e w') : e = .returned (.int .i64 (addR Ep x).2) ∧ ∃ v' xb', LwSt w2 eb wb v' xb' lv gv (addR Ep x).1 Eq w' := by
  obtain ⟨v', xb', rfl, h1, h2, h3, h4⟩ := hp
  exact ⟨rfl, v', xb', h.prog h2 (fun b hb => hb) h1 h3 h4⟩
theorem LwSt.addQ {w2 wr w' : World} {eb wb : Nat} {v : Value} {xb : List Nat} {lv gv : Value} {Ep Eq E' : List EvS} (h : LwSt w2 eb wb v xb lv gv Ep Eq wr) {z : Int} {e : Ending} (hp : QAddPost wr wb lv gv E' z e w') : e = .returned (.int .i64 z) ∧ ∃ lv' gv', LwSt w2 eb wb v xb lv' gv' Ep E' w' := by
  obtain ⟨lv', gv', rfl, h1, h2, h3, h4⟩ := hp
  exact ⟨rfl, lv', gv', h.doc h2 (fun b hb => hb) h1 h3 h4⟩
theorem LwSt.dropP {w2 wr w' : World} {eb wb : Nat} {v : Value} {xb : List Nat} {lv gv : Value} {Ep Eq E' : List EvS} (h : LwSt w2 eb wb v xb lv gv Ep Eq wr) (h1 : PEs w' eb v xb E') (h2 : Chg (fun b => v.ownBlock = some b) wr w') : LwSt w2 eb wb v xb lv gv E' Eq w' :=
  h.prog h2 (fun b hb => .inr hb) h1 (.inl rfl) (fun b hb => .inl hb)
theorem LwSt.dropQ {w2 wr w' : World} {eb wb : Nat} {v : Value} {xb : List Nat} {lv gv : Value} {Ep Eq E' : List EvS} (h : LwSt w2 eb wb v xb lv gv Ep Eq wr) (h1 : QEs w' wb lv gv E') (h2 : Chg (fun b => gv.ownBlock = some b) wr w') : LwSt w2 eb wb v xb lv gv Ep E' w' :=
  h.doc h2 (fun b hb => .inr (.inr hb)) h1 (.inl rfl) (.inl rfl)
/-- the program's calls stay while the document sends -/
theorem calls_stay {wr w' w'' : World} {cv gv : Value} {n : Nat} {xs : List Value} {t : TypeId} (h : w'.ownsRow wr.heap.size t 3 cv n xs) (hg : ∀ b, gv.ownBlock = some b → b < wr.heap.size) (hc : Chg (fun b => gv.ownBlock = some b) w' w'') : w''.ownsRow wr.heap.size t 3 cv n xs :=
  own_same h (fun b hb => hc.block b (h.lt b hb).2 (fun e => by have := hg b e; have := (h.lt b hb).1; omega))

/-- the trees stay -/
theorem LwSt.tree {w2 wr : World} {eb wb : Nat} {v : Value} {xb : List Nat} {lv gv : Value} {Ep Eq : List EvS} (h : LwSt w2 eb wb v xb lv gv Ep Eq wr) {M : Nat → Lab} {tb : Nat} {nv uv : Value} {ps : List Pn} {us : List Value} (hL : Lies w2 M tb nv uv ps us) (h1 : M eb = .other) (h2 : M wb = .other) : Lies wr M tb nv uv ps us :=
  hL.far h.size (fun b hb hn => h.old b hb (fun e => hn (by rw [e]; exact h1)) (fun e => hn (by rw [e]; exact h2)))
theorem LwSt.treeQ {w2 wr : World} {eb wb : Nat} {v : Value} {xb : List Nat} {lv gv : Value} {Ep Eq : List EvS} (h : LwSt w2 eb wb v xb lv gv Ep Eq wr) {nv : Value} {ns : List Nd} (hT : TqV w2 nv ns) (h1 : nv.ownBlock ≠ some eb) (h2 : nv.ownBlock ≠ some wb) : TqV wr nv ns := by
  obtain ⟨nb, cap, e, q1, q2, q3, q4, q5⟩ := hT
  subst e
  have hb := h.old nb q4 (fun e => h1 (by rw [e]; rfl)) (fun e => h2 (by rw [e]; rfl))
  exact ⟨nb, cap, rfl, q1, q2, q3, Nat.lt_of_lt_of_le q4 h.size, fun i n hi => (World.cell?_of_block (a := ⟨nb, _, none⟩) hb).trans (q5 i n hi)⟩
theorem LwSt.fin {W w2 wr : World} {eb wb : Nat} {v : Value} {xb : List Nat} {lv gv : Value} {Ep Eq : List EvS} (h : LwSt w2 eb wb v xb lv gv Ep Eq wr) (hB : Below W.heap.size W w2) (h1 : W.heap.size ≤ eb) (h2 : W.heap.size ≤ wb) : Below W.heap.size W wr :=
  ⟨h.os.trans hB.os, h.tape.trans hB.tape, h.output.trans hB.output, Nat.le_trans hB.size h.size, fun b hb => (h.old b (Nat.lt_of_lt_of_le hb hB.size) (by omega) (by omega)).trans (hB.block b hb)⟩
end Go.Proofs.YtlfepdecgfcifaaDoor
