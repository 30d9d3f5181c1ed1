/- EventsSent: what the law's loop keeps, and where it begins. -/
import Derived.Test.YtlfepdecgfcifaaDoorM36
import Derived.Test.YtlfepdecgfcifaaDoorEvFew
import Derived.Test.YtlfepdecgfcifaaDoorPlainG
namespace Go.Proofs.YtlfepdecgfcifaaDoor
open Go.RowKit Go.BigFrame
set_option linter.unusedVariables false
attribute [local go_sem] Oper.semAt_some

/-- what the law's loop keeps -/
def LwI (w2 : World) (eb wb : Nat) (wr : World) : Prop := ∃ v xb lv gv E, E.length ≤ 200 ∧ LwSt w2 eb wb v xb lv gv E E wr
/-- what stays: the steps, both trees -/
structure LwFix (W w2 : World) (eb wb rb : Nat) (tv : Value) (na : Option Addr) (nn nc : Nat) (sa : Option Addr) (ss : List StepR) (ns : List Nd) (wr : World) : Prop where
  st : StepsL wr W.heap.size sa ss
  tr : TrR wr tv ns
  tq : TqV wr (.slice na nn nc) ns
  r0 : wr.cell? ⟨rb, 0, none⟩ = some (.slice na nn nc)
  r1 : wr.cell? ⟨rb, 1, none⟩ = some (.slice none 0 0)
  old : Below W.heap.size W wr
def FixAll (W w2 : World) (eb wb rb : Nat) (tv : Value) (na : Option Addr) (nn nc : Nat) (sa : Option Addr) (ss : List StepR) (ns : List Nd) : Prop :=
  ∀ (v : Value) (xb : List Nat) (lv gv : Value) (Ep Eq : List EvS) (wr : World), LwSt w2 eb wb v xb lv gv Ep Eq wr → LwFix W w2 eb wb rb tv na nn nc sa ss ns wr
theorem FixAll.at {W w2 : World} {eb wb rb : Nat} {tv : Value} {na : Option Addr} {nn nc : Nat} {sa : Option Addr} {ss : List StepR} {ns : List Nd} (FX : FixAll W w2 eb wb rb tv na nn nc sa ss ns) {v : Value} {xb : List Nat} {lv gv : Value} {Ep Eq : List EvS} {wr : World} (h : LwSt w2 eb wb v xb lv gv Ep Eq wr) : LwFix W w2 eb wb rb tv na nn nc sa ss ns wr := FX _ _ _ _ _ _ _ h

theorem LwSt.ear_row {w2 wr w' : World} {eb wb : Nat} {v : Value} {xb : List Nat} {lv gv : Value} {Ep Eq : List EvS} (h : LwSt w2 eb wb v xb lv gv Ep Eq wr) {o : Obj} {x : EvE} {e : Ending} (hp : AddPost (wr.alloc o) eb v xb Ep x e w') : w'.heap[wr.heap.size]? = some o := by
  obtain ⟨v', xb', _, _, h2, _⟩ := hp
  have h1 := h.e1
  have hs := h.size
  have hv := h.pe.lt.2.1
  exact (h2.block wr.heap.size (by simp) (fun q => by rcases q with q | q; omega; have := hv _ q; omega)).trans (heap_alloc_new wr o)

/-- both ears hear the same -/
def SentP (w2 : World) (eb wb : Nat) (w0 : World) (c1 c2 : Value) (st : EvT) (wx : World) : Prop :=
  ∃ v xb lv gv, LwSt w2 eb wb v xb lv gv st.E st.E wx ∧ wx.ownsRow w0.heap.size 99 3 c1 st.calls.length (callsC st.calls) ∧ wx.ownsRow w0.heap.size 98 3 c2 st.calls.length (callsC st.calls)

theorem TwAt.wideE {w : World} {S S' b c : Nat} {t : Tw} (h : TwAt w S b c t) (hs : S ≤ S') : TwAt w S' b c t := by
  refine ⟨Nat.lt_of_lt_of_le h.blk hs, h.kind, h.tag, h.text, h.attrs, h.kids, h.al, h.kl, h.tl, h.xl, ?_, ?_⟩
  · intro j x hx
    obtain ⟨b', o', e1, e2, e3⟩ := h.att j x hx
    exact ⟨b', o', e1, Nat.lt_of_lt_of_le e2 hs, e3⟩
  · intro j x hx
    obtain ⟨b', o', e1, e2, e3⟩ := h.kid j x hx
    exact ⟨b', o', e1, Nat.lt_of_lt_of_le e2 hs, e3⟩
theorem TwigsIn.wideE {w : World} {S S' : Nat} {a : Option Addr} {ts : List Tw} (h : TwigsIn w S a ts) (hs : S ≤ S') : TwigsIn w S' a ts := fun i t ht => by
  obtain ⟨b, o, e, hT⟩ := h i t ht
  exact ⟨b, o, e, hT.wideE hs⟩

theorem FixAll.step {W w2 : World} {eb wb rb : Nat} {tv : Value} {na : Option Addr} {nn nc : Nat} {b o : Nat} {ss : List StepR} {ns : List Nd} (FX : FixAll W w2 eb wb rb tv na nn nc (some ⟨b, o, none⟩) ss ns) {v : Value} {xb : List Nat} {lv gv : Value} {Ep Eq : List EvS} {wr : World} (h : LwSt w2 eb wb v xb lv gv Ep Eq wr) {k : Nat} {s : StepR} (hs : ss[k]? = some s) : StepAt wr b (o + k * 12) s := by
  obtain ⟨b', o', e, _, h2⟩ := (FX.at h).st k s hs
  cases e
  exact h2
theorem fixAll_mk {W w2 : World} {eb wb rb tb : Nat} {M : Nat → Lab} {nv uv : Value} {ps : List Pn} {us : List Value} {ns : List Nd} {na : Option Addr} {nn nc : Nat} {sa : Option Addr} {ss : List StepR} (hst : StepsL W W.heap.size sa ss) (hB : Below W.heap.size W w2) (e1 : W.heap.size ≤ eb) (e2 : W.heap.size ≤ wb) (hL : Lies w2 M tb nv uv ps us) (hns : nodesOf ps = ns) (m1 : M eb = .other) (m2 : M wb = .other) (hT : TqV w2 (.slice na nn nc) ns) (n1 : (Value.slice na nn nc).ownBlock ≠ some eb) (n2 : (Value.slice na nn nc).ownBlock ≠ some wb) (r0 : w2.cell? ⟨rb, 0, none⟩ = some (.slice na nn nc)) (r1 : w2.cell? ⟨rb, 1, none⟩ = some (.slice none 0 0)) (hr1 : rb ≠ eb) (hr2 : rb ≠ wb) :
    FixAll W w2 eb wb rb (.pointer (some ⟨tb, 0, none⟩)) na nn nc sa ss ns := by
  intro v xb lv gv Ep Eq wr h
  have hF := h.fin hB e1 e2
  have hrb : rb < w2.heap.size := World.block_lt_of_cell? w2 ⟨rb, 0, none⟩ r0
  have ho := h.old rb hrb hr1 hr2
  exact ⟨hst.same (fun b hb => hF.block b hb), .inr ⟨tb, M, nv, uv, ps, us, rfl, h.tree hL m1 m2, hns⟩, h.treeQ hT n1 n2, (World.cell?_of_block (a := ⟨rb, 0, none⟩) ho).trans r0, (World.cell?_of_block (a := ⟨rb, 1, none⟩) ho).trans r1, hF⟩

/-- both ears are new -/
theorem lwSt_mk {w1 w4 : World} {eb : Nat} (hp : PEs w1 eb (.slice none 0 0) [] []) (hb : Below w1.heap.size w1 w4) : LwSt (w4.alloc (.cells #[.slice none 0 0, .slice none 0 0] 38)) eb w4.heap.size (.slice none 0 0) [] (.slice none 0 0) (.slice none 0 0) [] [] (w4.alloc (.cells #[.slice none 0 0, .slice none 0 0] 38)) := by
  have hl := hp.lt.1
  have hsz := hb.size
  refine ⟨(hp.below hb).below ((Below.refl _ w4).alloc (Nat.le_refl _) _), ⟨heap_alloc_new w4 _, World.ownsRow_nil _ _ _ _, World.ownsRow_nil _ _ _ _, by simp [Value.ownBlock], by simp [Value.ownBlock], by simp [Value.ownBlock]⟩, rfl, rfl, rfl, Nat.le_refl _, fun _ _ _ _ => rfl, by simp; omega, by simp, by omega, by simp [Value.ownBlock], by simp, by simp [Value.ownBlock], by simp [Value.ownBlock]⟩
end Go.Proofs.YtlfepdecgfcifaaDoor
