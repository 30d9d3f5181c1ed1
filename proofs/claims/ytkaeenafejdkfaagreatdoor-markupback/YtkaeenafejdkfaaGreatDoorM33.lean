/- The document's answer: a start tag. -/
import Derived.Test.YtkaeenafejdkfaaGreatDoorM26
import Derived.Test.YtkaeenafejdkfaaGreatDoorM31
import Derived.Test.YtkaeenafejdkfaaGreatDoorM30
import Derived.Test.YtkaeenafejdkfaaGreatDoorM32
import Derived.Test.YtkaeenafejdkfaaGreatDoorM24
namespace Go.Proofs.YtkaeenafejdkfaaGreatDoor
open Go.RowKit

def kStart : ByteArray := ⟨#[115, 116, 97, 114, 116]⟩
def rpObj (kind : ByteArray) (fr t2 : Nat) (name text : ByteArray) (attrs : Value) : Obj := .cells #[.string kind, .int .i64 fr, .int .i64 t2, .string name, .string text, attrs] 62 (0, 0)
/-- a start tag that is being read lies there -/
structure RTagAt (w w' : World) (s : ByteArray) (i : Nat) (pb nb : Nat) (name : ByteArray) (av : Value) (M : Nat → Lab) (l : List (ByteArray × ByteArray)) : Prop where
  bel : Below w.heap.size w w'
  res : w'.heap[w.heap.size]? = some (rpObj noS 0 0 noS noS (.slice none 0 0))
  cur : w'.heap[pb]? = some (rpObj kStart i 0 name noS av)
  non : w'.heap[nb]? = some (rpObj kNothing i s.size noS noS (.slice none 0 0))
  far : w.heap.size < pb
  far2 : pb < nb
  row : Row w' M (.attrs 0) 81 2 av l.length (attrCells l)
  fresh : ∀ k, w'.heap.size ≤ k → M k = .other
  lab : ∀ k, k ≤ nb → M k = .other
theorem RTagAt.next {w w1 w2 : World} {s : ByteArray} {i pb nb : Nat} {name : ByteArray} {av : Value} {M : Nat → Lab} {l : List (ByteArray × ByteArray)} (h : RTagAt w w1 s i pb nb name av M l) (hb : Below w1.heap.size w1 w2) : RTagAt w w2 s i pb nb name av M l :=
  ⟨h.bel.trans (hb.mono h.bel.size), (hb.block _ (lt_of_heap h.res)).trans h.res, (hb.block _ (lt_of_heap h.cur)).trans h.cur, (hb.block _ (lt_of_heap h.non)).trans h.non, h.far, h.far2, h.row.keep (fun k hk _ => hb.block k hk) (fun _ _ => rfl), fun k hk => h.fresh k (Nat.le_trans hb.size hk), h.lab⟩
theorem RTagAt.al {w w1 : World} {s : ByteArray} {i pb nb : Nat} {name : ByteArray} {av : Value} {M : Nat → Lab} {l : List (ByteArray × ByteArray)} (h : RTagAt w w1 s i pb nb name av M l) (o : Obj) : RTagAt w (w1.alloc o) s i pb nb name av M l := h.next ((Below.refl _ _).alloc (Nat.le_refl _) _)
/-- an attribute is added -/
theorem RTagAt.more {w w1 w2 : World} {s : ByteArray} {i pb nb : Nat} {name : ByteArray} {av av2 : Value} {M M2 : Nat → Lab} {l l2 : List (ByteArray × ByteArray)} (h : RTagAt w w1 s i pb nb name av M l) (hr : Row w2 M2 (.attrs 0) 81 2 av2 l2.length (attrCells l2)) (st : Step w1 M w2 M2 (.attrs 0)) : RTagAt w (w2.setCell ⟨pb, 5, none⟩ av2) s i pb nb name av2 M2 l2 := by
  have hf := h.far
  have hf2 := h.far2
  have hnl := lt_of_heap h.non
  have hfar : ∀ k, k ≤ nb → w2.heap[k]? = w1.heap[k]? := fun k hk => st.far k (by omega) (by rw [h.lab k hk]; intro e; cases e)
  have hset : ∀ k, k ≠ pb → (w2.setCell ⟨pb, 5, none⟩ av2).heap[k]? = w2.heap[k]? := fun k hk => Below.heap_setCell w2 ⟨pb, 5, none⟩ _ k hk
  refine ⟨⟨st.os.trans h.bel.os, st.tape.trans h.bel.tape, st.output.trans h.bel.output, by have := h.bel.size; have := st.size; simp [World.setCell]; omega, fun k hk => (hset k (by omega)).trans ((hfar k (by omega)).trans (h.bel.block k hk))⟩, ?_, ?_, ?_, hf, hf2, ?_, ?_, ?_⟩
  · rw [hset _ (by omega), hfar _ (by omega)]; exact h.res
  · have h2 := (hfar pb (by omega)).trans h.cur
    simp [World.setCell, Array.getElem?_modify, h2, rpObj]
  · rw [hset _ (by omega), hfar _ (by omega)]; exact h.non
  · exact hr.keep (fun k hk e => hset k (by rintro rfl; rw [st.lab k (by omega), h.lab k (by omega)] at e; cases e)) (fun _ _ => rfl)
  · intro k hk; exact st.fresh k (by simpa [World.setCell] using hk)
  · intro k hk; rw [st.lab k (by omega)]; exact h.lab k hk
/-- attributes of a start tag, in new memory -/
def AttrsR (w : World) (B : Nat) (v : Value) (l : List (ByteArray × ByteArray)) : Prop :=
  ∃ a c, v = .slice a l.length c ∧ l.length ≤ c ∧ c ≤ maxLen ∧ ((c = 0 ∧ (a = none ∨ ∃ g, a = some ⟨g, 0, none⟩)) ∨ ∃ g cur, B ≤ g ∧ a = some ⟨g, 0, none⟩ ∧ w.heap[g]? = some (.cells cur 81 (0, 0)) ∧ c * 2 ≤ cur.size ∧ cur.toList.take (l.length * 2) = attrCells l)
theorem Row.attrsR {w : World} {M : Nat → Lab} {v : Value} {l : List (ByteArray × ByteArray)} (h : Row w M (.attrs 0) 81 2 v l.length (attrCells l)) {B : Nat} (hl : ∀ k, k < B → M k = .other) : AttrsR w B v l := by
  obtain ⟨h0, a, cap, rfl, h1, h2, h3⟩ := h
  refine ⟨a, cap, rfl, h1, h2, h3.imp id ?_⟩
  rintro ⟨g, cur, rfl, hM, hg, h4, h5⟩
  refine ⟨g, cur, ?_, rfl, hg, h4, h5⟩
  rcases Nat.lt_or_ge g B with h | h
  · rw [hl g h] at hM; cases hM
  · exact h
theorem AttrsR.keep {w w' : World} {B : Nat} {v : Value} {l : List (ByteArray × ByteArray)} (h : AttrsR w B v l) (hk : ∀ g, B ≤ g → g < w.heap.size → w'.heap[g]? = w.heap[g]?) : AttrsR w' B v l := by
  obtain ⟨a, c, rfl, q1, q2, h1⟩ := h
  refine ⟨a, c, rfl, q1, q2, h1.imp id ?_⟩
  rintro ⟨g, cur, q3, rfl, h2, h3⟩
  exact ⟨g, cur, q3, rfl, (hk g q3 (lt_of_heap h2)).trans h2, h3⟩
theorem AttrsR.mono {w : World} {B C : Nat} {v : Value} {l : List (ByteArray × ByteArray)} (h : AttrsR w B v l) (hc : C ≤ B) : AttrsR w C v l := by
  obtain ⟨a, c, rfl, q1, q2, h1⟩ := h
  refine ⟨a, c, rfl, q1, q2, h1.imp id ?_⟩
  rintro ⟨g, cur, q3, rfl, h2, h3⟩
  exact ⟨g, cur, Nat.le_trans hc q3, rfl, h2, h3⟩
theorem AttrsR.sets {w : World} {B rb o : Nat} {v : Value} {l : List (ByteArray × ByteArray)} (h : AttrsR w B v l) (hb : rb < B) (u : Value) : AttrsR (w.setCell ⟨rb, o, none⟩ u) B v l :=
  h.keep fun g hg _ => Below.heap_setCell w ⟨rb, o, none⟩ u g (by show g ≠ rb; omega)
/-- what a start tag is -/
def RStartPost (w : World) (s : ByteArray) (i : Nat) (name : ByteArray) (r : Option (List (ByteArray × ByteArray) × Nat)) (e : Ending) (w' : World) : Prop := match r with
  | some (l, j) => ∃ av, e = .returned (rpv kStart i j name noS av) ∧ AttrsR w' w.heap.size av (firsts l) ∧ Below w.heap.size w w'
  | none => e = .returned (rpv kNothing i s.size noS noS (.slice none 0 0)) ∧ Below w.heap.size w w'
theorem RTagAt.start {w w3 : World} {s : ByteArray} {i : Nat} {name : ByteArray} (hb : Below (w.heap.size + 1) (w.alloc (rpObj noS 0 0 noS noS (.slice none 0 0))) w3) : RTagAt w ((w3.alloc (rpObj kStart i 0 name noS (.slice none 0 0))).alloc (rpObj kNothing i s.size noS noS (.slice none 0 0))) s i w3.heap.size (w3.heap.size + 1) name (.slice none 0 0) (fun _ => .other) [] := by
  have hz : (w.alloc (rpObj noS 0 0 noS noS (.slice none 0 0))).heap.size = w.heap.size + 1 := by simp
  have hz3 : (w3.alloc (rpObj kStart i 0 name noS (.slice none 0 0))).heap.size = w3.heap.size + 1 := by simp
  have hs := hb.size
  have hB : Below w.heap.size w w3 := ((Below.refl _ _).alloc (Nat.le_refl _) _).trans (hb.mono (by omega))
  have hB4 : Below w3.heap.size w3 ((w3.alloc (rpObj kStart i 0 name noS (.slice none 0 0))).alloc (rpObj kNothing i s.size noS noS (.slice none 0 0))) := ((Below.refl _ _).alloc (Nat.le_refl _) _).alloc (by omega) _
  have hr : w3.heap[w.heap.size]? = some (rpObj noS 0 0 noS noS (.slice none 0 0)) := (hb.block _ (by omega)).trans (heap_alloc_new w _)
  refine ⟨hB.trans (hB4.mono (by omega)), (hB4.block _ (by omega)).trans hr, ?_, ?_, by omega, by omega, Row.nil _ _ _ _ _, fun _ _ => rfl, fun _ _ => rfl⟩
  · rw [Below.heap_alloc _ _ _ (by omega)]; exact heap_alloc_new w3 _
  · rw [← hz3]; exact heap_alloc_new _ _
end Go.Proofs.YtkaeenafejdkfaaGreatDoor

/- The document's builder: a start tag: attributes, and what is shut. -/
namespace Go.Proofs.YtkaeenafejdkfaaGreatDoor
open Go.RowKit

/-- attributes that lie in memory that is nobody's -/
def AttrsV (B w : World) (M : Nat → Lab) (v : Value) (l : List (ByteArray × ByteArray)) : Prop :=
  ∃ a c, v = .slice a l.length c ∧ l.length ≤ c ∧ c ≤ maxLen ∧ ((c = 0 ∧ (a = none ∨ ∃ g, a = some ⟨g, 0, none⟩)) ∨ ∃ g cur, M g = .other ∧ B.heap.size ≤ g ∧ a = some ⟨g, 0, none⟩ ∧ w.heap[g]? = some (.cells cur 81 (0, 0)) ∧ c * 2 ≤ cur.size ∧ cur.toList.take (l.length * 2) = attrCells l)
theorem AttrsR.free {B w : World} {M : Nat → Lab} {B0 : Nat} {v : Value} {l : List (ByteArray × ByteArray)} (h : AttrsR w B0 v l) (hB : B.heap.size ≤ B0) (hM : ∀ g, B0 ≤ g → M g = .other) : AttrsV B w M v l := by
  obtain ⟨a, c, rfl, h1, h2, h3⟩ := h
  refine ⟨a, c, rfl, h1, h2, h3.imp id ?_⟩
  rintro ⟨g, cur, q1, rfl, q2, q3⟩
  exact ⟨g, cur, hM g q1, Nat.le_trans hB q1, rfl, q2, q3⟩
theorem AttrsV.moved {B w w' : World} {M M' : Nat → Lab} {v : Value} {l : List (ByteArray × ByteArray)} (h : AttrsV B w M v l) (m : Moved w M w' M') : AttrsV B w' M' v l := by
  obtain ⟨a, c, rfl, h1, h2, h3⟩ := h
  refine ⟨a, c, rfl, h1, h2, h3.imp id ?_⟩
  rintro ⟨g, cur, q1, q2, rfl, q3, q4⟩
  have hl := lt_of_heap q3
  exact ⟨g, cur, (m.lab g hl).trans q1, q2, rfl, (m.far g hl q1).trans q3, q4⟩
theorem AttrsV.below {B w w' : World} {M : Nat → Lab} {v : Value} {l : List (ByteArray × ByteArray)} (h : AttrsV B w M v l) (hb : Below w.heap.size w w') : AttrsV B w' M v l := h.moved ((Moved.refl w M).below hb)
theorem attrCells_len (l : List (ByteArray × ByteArray)) : (attrCells l).length = l.length * 2 := by
  induction l with
  | nil => rfl
  | cons x l ih =>
    simp only [attrCells, List.flatMap_cons, List.length_append] at ih ⊢
    rw [ih]
    simp
    omega
/-- what was nobody's is as it was -/
def Far (w : World) (M : Nat → Lab) (w' : World) : Prop := w.heap.size ≤ w'.heap.size ∧ ∀ b, b < w.heap.size → M b = .other → w'.heap[b]? = w.heap[b]?
theorem Moved.toFar {w w' : World} {M M' : Nat → Lab} (h : Moved w M w' M') : Far w M w' := ⟨h.size, h.far⟩
theorem BAt.attrs {B w : World} {bb p U : Nat} {ns : List Nd} {c a : Int} {M : Nat → Lab} (h : BAt B bb ns p c a U w M) {nb ln cap : Nat} (hS : w.cell? ⟨bb, 0, none⟩ = some (.slice (some ⟨nb, 0, none⟩) ln cap)) {k : Nat} {n : Nd} (hk : ns[k]? = some n) {v : Value} {l : List (ByteArray × ByteArray)} (hA : AttrsV B w M v l) :
    ∃ M', BAt B bb (ns.set k { n with attrs := l }) p c a U (w.setCell ⟨nb, k * 6 + 3, none⟩ v) M' ∧ Far w M (w.setCell ⟨nb, k * 6 + 3, none⟩ v) := by
  obtain ⟨nv, uv, ps, us, h1, rfl, h3, h4⟩ := h
  obtain ⟨q, hq, rfl⟩ := nodesOf_get hk
  obtain ⟨nb2, cap2, rfl, _, _, hnM, _, _⟩ := RLies.form (EX := bExt p c a) h1 hq
  have e : nb2 = nb := by
    rw [RLies.cell0 (EX := bExt p c a) h1] at hS
    simp at hS
    exact hS.1
  subst e
  have hfar : Far w M (w.setCell ⟨nb2, k * 6 + 3, none⟩ v) := by
    refine ⟨by simp [World.setCell], fun b hb hM => Below.heap_setCell w _ v b ?_⟩
    rintro rfl
    rw [hnM] at hM
    cases hM
  have hnodes : nodesOf (ps.set k ⟨{ q.n with attrs := l }, v, q.kv⟩) = (nodesOf ps).set k { q.n with attrs := l } := by simp [nodesOf, List.map_set]
  have hf := RLies.fresh (EX := bExt p c a) h1
  obtain ⟨av, cp, rfl, e1, e2, e3⟩ := hA
  rcases e3 with ⟨rfl, e4⟩ | ⟨g, cur, q1, q2, rfl, q3, q4, q5⟩
  · have hl0 : l = [] := List.eq_nil_of_length_eq_zero (by omega)
    have hrow : Row w M (.attrs k) 81 2 (.slice av l.length 0) l.length (attrCells l) := ⟨attrCells_len l, av, 0, rfl, e1, e2, .inl ⟨rfl, e4⟩⟩
    obtain ⟨r1, r2, _⟩ := RLies.setAttrs (EX := bExt p c a) h1 rfl hq (Step.refl hf (.attrs k)) hrow
    exact ⟨M, ⟨_, uv, _, us, r1, hnodes, h3, h4.trans r2⟩, hfar⟩
  · have hgl := lt_of_heap q3
    have hr := RLies.relabel (EX := bExt p c a) h1 q1 hgl (.attrs k)
    have hrow : Row w (fun b => if b = g then .attrs k else M b) (.attrs k) 81 2 (.slice (some ⟨g, 0, none⟩) l.length cp) l.length (attrCells l) := ⟨attrCells_len l, _, cp, rfl, e1, e2, .inr ⟨g, cur, rfl, by simp, q3, q4, q5⟩⟩
    obtain ⟨r1, r2, _⟩ := RLies.setAttrs (EX := bExt p c a) hr rfl hq (Step.refl (RLies.fresh (EX := bExt p c a) hr) (.attrs k)) hrow
    have mr : Moved B (fun _ => .other) w (fun b => if b = g then .attrs k else M b) := ⟨h4.os, h4.tape, h4.output, h4.size, fun b hb => by
      have : b ≠ g := by omega
      simp only [if_neg this]
      exact h4.lab b hb, h4.far⟩
    exact ⟨_, ⟨_, uv, _, us, r1, hnodes, h3, mr.trans r2⟩, hfar⟩
theorem add_attrs {ns : List Nd} {p : Nat} {m : Nd} (hp : ns[p]? = some m) (name : ByteArray) (l : List (ByteArray × ByteArray)) : ∃ n, (addN ns p (mkN 2 name))[ns.length]? = some n ∧ (addN ns p (mkN 2 name)).set ns.length { n with attrs := l } = addN ns p (elN name l) := by
  refine ⟨{ mkN 2 name with parent := (p : Int) }, by rw [add_get hp, if_pos rfl], ?_⟩
  unfold addN
  rw [hp]
  simp only
  rw [List.set_append_right _ _ (by simp)]
  simp
  exact ⟨rfl, rfl, rfl, rfl, rfl⟩
theorem Far.trans {w w1 w2 : World} {M M1 : Nat → Lab} (h1 : Far w M w1) (h2 : Far w1 M1 w2) (hl : ∀ b, b < w.heap.size → M b = .other → M1 b = .other) : Far w M w2 :=
  ⟨Nat.le_trans h1.1 h2.1, fun b hb hM => (h2.2 b (Nat.lt_of_lt_of_le hb h1.1) (hl b hb hM)).trans (h1.2 b hb hM)⟩
theorem Below.toFar {w w' : World} (M : Nat → Lab) (h : Below w.heap.size w w') : Far w M w' := ⟨h.size, fun b hb _ => h.block b hb⟩
theorem BL.setIn {B w : World} {bb p U : Nat} {ns : List Nd} {c a : Int} {M : Nat → Lab} (h : BAt B bb ns p c a U w M) (q : Nat) : BAt B bb ns q c a U (w.setCell ⟨bb, 2, none⟩ (.int .i64 q)) M ∧ Moved w M (w.setCell ⟨bb, 2, none⟩ (.int .i64 q)) M := by
  obtain ⟨nv, uv, ps, us, g1, g2, g3, g4⟩ := h
  obtain ⟨q1, q2⟩ := BL.set (q := q) (c' := c) (a' := a) g1 (o := 2) (v := .int .i64 q) rfl
  exact ⟨⟨nv, uv, ps, us, q1, g2, g3, g4.trans q2⟩, q2⟩
theorem elN_inv {ns : List Nd} {op : List Nat} {i : Nat} (h : Inv ns op i) (hl : ns.length < 400) (name : ByteArray) (l : List (ByteArray × ByteArray)) (hll : l.length ≤ 20000) (hi : i ≤ 20000) : Inv (addN ns (inn op) (elN name l)) op 20000 :=
  (h.mono hi).add hl (elN name l) rfl rfl (Nat.zero_le _) hll
end Go.Proofs.YtkaeenafejdkfaaGreatDoor

/- The document's builder: a start tag: what it shuts, where there is no room for a node more. -/
namespace Go.Proofs.YtkaeenafejdkfaaGreatDoor
open Go.RowKit

/-- what is known at the loop's head -/
structure BS0 (B w : World) (bb : Nat) (ns : List Nd) (p : Nat) (a : Int) (U : Nat) (w2 : World) (M : Nat → Lab) (pb fr k : Nat) (name : ByteArray) (av : Value) (l : List (ByteArray × ByteArray)) : Prop where
  bat : BAt B bb ns p 0 a U w2 M
  far : Far w M w2
  pc : w2.heap[pb]? = some (rpObj kStart fr k name noS av)
  pM : M pb = .other
  av : AttrsV B w2 M av l
theorem BS0.set {B w : World} {bb : Nat} {ns : List Nd} {p : Nat} {a : Int} {U : Nat} {w2 : World} {M : Nat → Lab} {pb fr k : Nat} {name : ByteArray} {av : Value} {l : List (ByteArray × ByteArray)} (h : BS0 B w bb ns p a U w2 M pb fr k name av l) (q : Nat) : BS0 B w bb ns q a U (w2.setCell ⟨bb, 2, none⟩ (.int .i64 q)) M pb fr k name av l := by
  obtain ⟨h1, h2⟩ := BL.setIn h.bat q
  exact ⟨h1, h.far.trans h2.toFar (fun _ _ h => h), (h2.far pb (lt_of_heap h.pc) h.pM).trans h.pc, h.pM, h.av.moved h2⟩
theorem BS0.start {B w : World} {bb : Nat} {ns : List Nd} {p : Nat} {a : Int} {U : Nat} {M : Nat → Lab} (h : BAt B bb ns p 0 a U w M) {name : ByteArray} {av : Value} {l : List (ByteArray × ByteArray)} (hA : AttrsV B w M av l) (fr k : Nat) {w2 : World} (hb : Below (w.alloc (rpObj kStart fr k name noS av)).heap.size (w.alloc (rpObj kStart fr k name noS av)) w2) : BS0 B w bb ns p a U w2 M w.heap.size fr k name av l := by
  have hB : Below w.heap.size w w2 := ((Below.refl _ _).alloc (Nat.le_refl _) _).trans (hb.mono (by simp))
  exact ⟨h.below hB, Below.toFar M hB, (hb.block _ (by simp)).trans (heap_alloc_new w _), h.fresh _ (Nat.le_refl _), hA.below hB⟩

theorem bput_bad0 {B w : World} {bb U : Nat} {ns : List Nd} {a : Int} {M : Nat → Lab} {p : Nat} (h : BAt B bb ns p 0 a U w M) (hW : WF ns) (hl : ns.length = 400) (kind : Int) (s : ByteArray) (hs : s.size ≤ 100000) (hg : kind = 2 → nameB s = true) (fr : Nat) :
    Calls Tryz.prog 24 #[.pointer (some ⟨bb, 0, none⟩), .int .i64 kind, .string s, .int .i64 fr] w fun e w' => e = .returned (.int .i64 0) ∧ BAt B bb ns p 2 fr U w' M ∧ Moved w M w' M := by
  have := bput_bad h hW hl kind s hs hg fr
  simp only [if_true] at this
  exact this

set_option maxHeartbeats 8000000 in
set_option maxRecDepth 100000 in
theorem bstart_bad {B w : World} {bb U : Nat} {ns : List Nd} {a : Int} {M : Nat → Lab} {op : List Nat} {i : Nat} (h : BAt B bb ns (inn op) 0 a U w M) (hI : Inv ns op i) (hl : ns.length = 400) (name : ByteArray) (hn : nameB name = true) (hns : name.size ≤ 100000) (l0 : List (ByteArray × ByteArray)) (av : Value) (hA : AttrsV B w M av l0) (fr k : Nat) :
    Calls Tryz.prog 27 #[.pointer (some ⟨bb, 0, none⟩), rpv kStart fr k name noS av] w fun e w' => e = .returned (.tuple #[]) ∧ Far w M w' ∧ BAt B bb ns (inn (opAfter ns op name)) 2 fr U w' M := by
  obtain ⟨R, hR⟩ : ∃ R, R = opAfter ns op name := ⟨_, rfl⟩
  rw [← hR]
  unfold opAfter at hR
  obtain ⟨CL, hCL⟩ : ∃ CL, CL = closesL name := ⟨_, rfl⟩
  obtain ⟨UP, hUP⟩ : ∃ UP, UP = upToL name := ⟨_, rfl⟩
  rw [← hCL, ← hUP] at hR
  have htab := table_any name (w.alloc (rpObj kStart fr k name noS av))
  rw [show (closeT name).1 = CL from hCL.symm, show (closeT name).2 = UP from hUP.symm] at htab
  obtain ⟨p, hp⟩ : ∃ p, p = inn op := ⟨_, rfl⟩
  rw [← hp] at h
  have hstart := fun w2 hb => BS0.start (name := name) (w2 := w2) h hA fr k hb
  have HST := hid hstart
  have HTB := hid htab
  have HR := hid hR
  have hw4 := hI.wf.len
  have HW := hid hI.wf
  have HC := hid hI.chain
  have HP := hid hp
  have hav : ∃ aa an ac, av = .slice aa an ac := by obtain ⟨aa, ac, e, _⟩ := hA; exact ⟨aa, _, ac, e⟩
  obtain ⟨aa, an, ac, rfl⟩ := hav
  unfold rpv
  unfold rpObj at HTB
  have hbw : bb < w.heap.size := by
    obtain ⟨nb, cap, hS⟩ := h.see hI.wf
    exact hS.lt
  have e1 : bb ≠ w.heap.size := by omega
  have e2 : w.heap.size ≠ bb := by omega
  have HL4 := hid hl
  clear h hA hI hp hR hCL hUP htab hstart hl
  go_enter Tryz.func27, Tryz.ntmps27
  go_wp2_with (go_at_call 64; refine HTB.out.mono ?_; rintro e w2 ⟨a1, n1, c1, a2, n2, c2, rfl, hs1, hs2, hb2⟩
               have hbs := HST.out _ hb2
               obtain ⟨nb, cap, hS⟩ := hbs.bat.see HW.out
               have HA1 : Hid (∀ x, Calls Tryz.prog 65 #[.string x, .slice a1 n1 c1] w2 fun e w' => e = .returned (.bool (inL CL x)) ∧ w' = w2) := hid (fun x => among_any hs1 x)
               have HA2 : Hid (∀ x, Calls Tryz.prog 65 #[.string x, .slice a2 n2 c2] w2 fun e w' => e = .returned (.bool (inL UP x)) ∧ w' = w2) := hid (fun x => among_any hs2 x)
               have c0 := hS.c0
               have c2' := hS.c2
               have hfr := hS.fr 2
               have hle := hS.le
               have hmx := hS.mx
               have hbl := hS.lt
               have hnl := hS.nlt
               have HN := hid hS.nd
               have HBS := hid hbs
               clear hs1 hs2 hb2 hbs hS)
  clear HTB HST
  go_loopg [6] op.length (fun g k wr => wr = w2 ∧ ∃ (l : List Nat) (x : Nat), k = .int .i64 x ∧ l.length = g ∧ Hid (x = inn l) ∧ Hid (Chain ns l) ∧ Hid (R = shutM ns (inL CL) (inL UP) op l))
  case atStart => exact ⟨rfl, op, p, rfl, rfl, HP, HC, HR⟩
  case round =>
    obtain ⟨rfl, l, x, rfl, hg, hx, hcl, hrl⟩ := hrel
    cases l with
    | nil =>
      have ex : x = 0 := hx.out
      subst ex
      have HE : Hid (inn R = p) := hid (by rw [hrl.out]; exact HP.out.symm)
      have HB2 : Hid (BS0 B w bb ns (inn R) a U wr M w.heap.size fr k name (.slice aa an ac) l0) := hid (by rw [HE.out]; exact HBS.out)
      obtain ⟨p0, p1, p2, p3, p4, p5, pf⟩ := six_cellsR HB2.out.pc
      clear hx hcl hrl HA1 HA2 HN p0 p2 p4
      go_wp2_with (go_at_call 24; refine (bput_bad0 HB2.out.bat HW.out HL4.out 2 _ hns (fun _ => hn) _).mono ?_; rintro e w4 ⟨rfl, hB4, hV4⟩; obtain ⟨nb4, cap4, hS4⟩ := hB4.see HW.out; have d3 := hS4.c3; have HF := hid (And.intro (HB2.out.far.trans hV4.toFar (fun _ _ h => h)) hB4); clear hS4 hB4 hV4)
      refine bodyPost_ret (results_none rfl _ _ _) rfl ?_
      exact ⟨rfl, HF.out.1, HF.out.2⟩
    | cons y l =>
      have ex : x = y := hx.out
      subst ex
      have hpos := chain_pos HW.out hcl.out
      cases hcl.out with
      | cons hk h2 hpar hm2 hl2 hc2 =>
        rename_i n m2
        obtain ⟨k0, k1, k2, c4⟩ := HN.out _ _ hk
        clear k0 k2
        rw [hpar] at c4
        obtain ⟨y2, hy2⟩ : ∃ y2, y2 = inn l := ⟨_, rfl⟩
        rw [← hy2] at c4
        obtain ⟨tg, htg⟩ : ∃ tg, tg = n.tag := ⟨_, rfl⟩
        rw [← htg] at k1
        have htag : tagOf ns x = tg := by unfold tagOf; rw [hk, htg]
        have hxl : x < ns.length := (List.getElem?_eq_some_iff.1 hk).1
        have HY := hid hy2
        have HC2 := hid hc2
        have q1 : (0 : Int) < (x : Int) := by omega
        rw [List.length_cons] at hg
        have hrl' := hrl.out
        rw [shutM, htag] at hrl'
        obtain ⟨p0, p1, p2, p3, p4, p5, pf⟩ := six_cellsR HBS.out.pc
        cases hq1 : inL CL tg with
        | true =>
          rw [if_pos hq1] at hrl'
          have HB2 : Hid (BS0 B w bb ns (inn R) a U (wr.setCell ⟨bb, 2, none⟩ (.int .i64 y2)) M w.heap.size fr k name (.slice aa an ac) l0) := hid (by rw [hrl', ← HY.out]; exact HBS.out.set y2)
          clear hk h2 hpar hm2 hl2 hc2 hy2 hx hcl htg htag hrl hrl' n m2 p0 p2 p4 hg HA2
          go_wp2_with fail
          refine (HA1.out _).mono ?_
          rintro e w' ⟨rfl, hw'⟩
          rw [hw', hq1]
          clear hw'
          go_wp2_with (go_at_call 24; refine (bput_bad0 HB2.out.bat HW.out HL4.out 2 _ hns (fun _ => hn) _).mono ?_; rintro e w4 ⟨rfl, hB4, hV4⟩; obtain ⟨nb4, cap4, hS4⟩ := hB4.see HW.out; have d3 := hS4.c3; have HF := hid (And.intro (HB2.out.far.trans hV4.toFar (fun _ _ h => h)) hB4); clear hS4 hB4 hV4)
          refine bodyPost_ret (results_none rfl _ _ _) rfl ?_
          exact ⟨rfl, HF.out.1, HF.out.2⟩
        | false =>
          rw [if_neg (by rw [hq1]; simp)] at hrl'
          cases hq2 : inL UP tg with
          | true =>
            rw [if_pos hq2] at hrl'
            have HB2 : Hid (BS0 B w bb ns (inn R) a U wr M w.heap.size fr k name (.slice aa an ac) l0) := hid (by rw [hrl', ← HP.out]; exact HBS.out)
            clear hk h2 hpar hm2 hl2 hc2 hy2 hx hcl htg htag hrl hrl' n m2 p0 p2 p4 hg
            go_wp2_with fail
            refine (HA1.out _).mono ?_
            rintro e w' ⟨rfl, hw'⟩
            rw [hw', hq1]
            clear hw'
            go_wp2_with fail
            refine (HA2.out _).mono ?_
            rintro e w' ⟨rfl, hw'⟩
            rw [hw', hq2]
            clear hw'
            go_wp2_with (go_at_call 24; refine (bput_bad0 HB2.out.bat HW.out HL4.out 2 _ hns (fun _ => hn) _).mono ?_; rintro e w4 ⟨rfl, hB4, hV4⟩; obtain ⟨nb4, cap4, hS4⟩ := hB4.see HW.out; have d3 := hS4.c3; have HF := hid (And.intro (HB2.out.far.trans hV4.toFar (fun _ _ h => h)) hB4); clear hS4 hB4 hV4)
            refine bodyPost_ret (results_none rfl _ _ _) rfl ?_
            exact ⟨rfl, HF.out.1, HF.out.2⟩
          | false =>
            rw [if_neg (by rw [hq2]; simp)] at hrl'
            have HRR := hid hrl'
            clear hk h2 hpar hm2 hl2 hc2 hy2 hx hcl htg htag hrl hrl' n m2 p0 p1 p2 p3 p4 p5 pf
            go_wp2_with fail
            refine (HA1.out _).mono ?_
            rintro e w' ⟨rfl, hw'⟩
            rw [hw', hq1]
            clear hw'
            go_wp2_with fail
            refine (HA2.out _).mono ?_
            rintro e w' ⟨rfl, hw'⟩
            rw [hw', hq2]
            clear hw'
            go_wp2_with fail
            go_roundg l.length
            case measure => omega
            case rel => exact ⟨rfl, l, y2, rfl, rfl, HY, HC2, HRR⟩
end Go.Proofs.YtkaeenafejdkfaaGreatDoor

/- The document's builder: a start tag. -/
namespace Go.Proofs.YtkaeenafejdkfaaGreatDoor
open Go.RowKit

theorem BAt.cell3 {B w : World} {bb p U : Nat} {ns : List Nd} {c a : Int} {M : Nat → Lab} (h : BAt B bb ns p c a U w M) {nb ln cap : Nat} (hS : w.cell? ⟨bb, 0, none⟩ = some (.slice (some ⟨nb, 0, none⟩) ln cap)) {k : Nat} {n : Nd} (hk : ns[k]? = some n) : (∃ u, w.cell? ⟨nb, k * 6 + 3, none⟩ = some u) ∧ M nb = .nodes := by
  obtain ⟨nv, uv, ps, us, h1, rfl, h3, h4⟩ := h
  obtain ⟨q, hq, rfl⟩ := nodesOf_get hk
  obtain ⟨nb2, cap2, rfl, _, _, hnM, _, _⟩ := RLies.form (EX := bExt p c a) h1 hq
  have e : nb2 = nb := by
    rw [RLies.cell0 (EX := bExt p c a) h1] at hS
    simp at hS
    exact hS.1
  subst e
  exact ⟨⟨_, (RLies.cellN (EX := bExt p c a) h1 rfl (f := 3) hq (by omega) rfl).1⟩, hnM⟩
theorem BAt.tree {B w : World} {bb p U : Nat} {ns : List Nd} {c a : Int} {M : Nat → Lab} (h : BAt B bb ns p c a U w M) : M bb = .tree := by
  obtain ⟨nv, uv, ps, us, h1, _⟩ := h
  exact RLies.tree (EX := bExt p c a) h1
theorem Far.set {w w' : World} {M : Nat → Lab} (h : Far w M w') {bb : Nat} (hM : M bb = .tree) (o : Nat) (v : Value) : Far w M (w'.setCell ⟨bb, o, none⟩ v) :=
  ⟨by have := h.1; simp [World.setCell]; omega, fun b hb hMb => (Below.heap_setCell w' ⟨bb, o, none⟩ v b (by rintro rfl; rw [hM] at hMb; cases hMb)).trans (h.2 b hb hMb)⟩
/-- what is known once the node is put -/
theorem bs_after {B w : World} {bb U : Nat} {ns : List Nd} {a : Int} {M : Nat → Lab} {R : List Nat} {i : Nat} {fr k pb : Nat} {name : ByteArray} {av : Value} {l : List (ByteArray × ByteArray)} (hI : Inv ns R i) (hl : ns.length < 400) (hpb : pb = w.heap.size) {w3 w4 : World} {M4 : Nat → Lab} (h : BS0 B w bb ns (inn R) a U w3 M pb fr k name av l) (hB : BAt B bb (addN ns (inn R) (mkN 2 name)) (inn R) 0 a (U + 2) w4 M4) (hV : Moved w3 M w4 M4) :
    ∃ nb4 cap4 u3, w4.cell? ⟨bb, 0, none⟩ = some (.slice (some ⟨nb4, 0, none⟩) (ns.length + 1) cap4) ∧ w4.cell? ⟨bb, 3, none⟩ = some (.int .i64 0) ∧ ns.length + 1 ≤ cap4 ∧ cap4 ≤ 9223372036854775807 ∧ bb < w4.heap.size ∧ nb4 < w4.heap.size ∧ w4.cell? ⟨nb4, ns.length * 6 + 3, none⟩ = some u3 ∧ w4.frozen? ⟨nb4, ns.length * 6 + 3, none⟩ = false ∧ w4.cell? ⟨pb, 3, none⟩ = some (.string name) ∧ w4.cell? ⟨pb, 5, none⟩ = some av ∧ nb4 ≠ pb ∧ pb < w4.heap.size ∧
      ∀ w5, Below w4.heap.size w4 w5 → ∃ M5, BAt B bb (addN ns (inn R) (elN name l)) (inn R) 0 a (U + 2) (w5.setCell ⟨nb4, ns.length * 6 + 3, none⟩ av) M5 ∧ Far w M (w5.setCell ⟨nb4, ns.length * 6 + 3, none⟩ av) := by
  obtain ⟨m, hm, _⟩ := hI.chain.inner hI.wf
  obtain ⟨n, hn, hset⟩ := add_attrs hm name l
  have hWA : WF (addN ns (inn R) (mkN 2 name)) := hI.wf.added hl hm _ rfl rfl
  obtain ⟨nb4, cap4, hS⟩ := hB.see hWA
  have hlen : (addN ns (inn R) (mkN 2 name)).length = ns.length + 1 := add_len hm
  have c0 := hS.c0
  have hle := hS.le
  rw [hlen] at c0 hle
  obtain ⟨⟨u3, hu3⟩, hnM⟩ := hB.cell3 c0 hn
  have hpl := lt_of_heap h.pc
  have hp4 : M4 pb = .other := (hV.lab pb hpl).trans h.pM
  have hpc : w4.heap[pb]? = some (rpObj kStart fr k name noS av) := (hV.far pb hpl h.pM).trans h.pc
  obtain ⟨_, _, _, p3, _, p5, _⟩ := six_cellsR hpc
  refine ⟨nb4, cap4, u3, c0, hS.c3, hle, hS.mx, hS.lt, hS.nlt, hu3, hS.nf _ _ 3 hn (by omega), p3, p5, ?_, lt_of_heap hpc, ?_⟩
  · rintro rfl
    rw [hnM] at hp4
    cases hp4
  · intro w5 hb
    obtain ⟨M5, q1, q2⟩ := (hB.below hb).attrs ((hb.cell (p := ⟨bb, 0, none⟩) hS.lt).trans c0) hn ((h.av.moved hV).below hb)
    rw [hset] at q1
    have hf4 : Far w M w4 := h.far.trans hV.toFar (fun _ _ h => h)
    have hlab : ∀ b, b < w.heap.size → M b = .other → M4 b = .other := fun b hb' hM => (hV.lab b (Nat.lt_of_lt_of_le hb' h.far.1)).trans hM
    exact ⟨M5, q1, (hf4.trans (Below.toFar M4 hb) hlab).trans q2 hlab⟩

set_option maxHeartbeats 8000000 in
set_option maxRecDepth 100000 in
theorem bstart_good {B w : World} {bb U : Nat} {ns : List Nd} {a : Int} {M : Nat → Lab} {op : List Nat} {i : Nat} (h : BAt B bb ns (inn op) 0 a U w M) (hI : Inv ns op i) (hi : i ≤ 20000) (hU : U ≤ 1000000) (hl : ns.length < 400) (name : ByteArray) (hn : nameB name = true) (l0 : List (ByteArray × ByteArray)) (av : Value) (hA : AttrsV B w M av l0) (hll : l0.length ≤ 20000) (fr k : Nat) :
    Calls Tryz.prog 27 #[.pointer (some ⟨bb, 0, none⟩), rpv kStart fr k name noS av] w fun e w' => e = .returned (.tuple #[]) ∧ Far w M w' ∧ ∃ M', BAt B bb (addN ns (inn (opAfter ns op name)) (elN name l0)) (inn (opThen ns (opAfter ns op name) name)) 0 a (U + 2) w' M' := by
  obtain ⟨R, hR⟩ : ∃ R, R = opAfter ns op name := ⟨_, rfl⟩
  rw [← hR]
  have hIR : Inv ns R i := by rw [hR]; exact hI.shut _ _
  have hIA := elN_inv hIR hl name l0 hll hi
  have haf := fun w3 w4 M4 h0 hB hV => bs_after (w := w) (fr := fr) (k := k) (pb := w.heap.size) (name := name) (av := av) (l := l0) (B := B) (bb := bb) (U := U) (a := a) (M := M) (w3 := w3) (w4 := w4) (M4 := M4) hIR hl rfl h0 hB hV
  have HAF := hid haf
  have HIR := hid hIR
  have HWA := hid hIA.wf
  have HCA := hid hIA.chain
  have hfew := hIR.few
  obtain ⟨OP, hOP⟩ : ∃ OP, OP = inn (opThen ns R name) := ⟨_, rfl⟩
  have HOP : Hid (OP = if (!voidB name && decide (R.length < 40)) = true then ns.length else inn R) := hid (by rw [hOP]; unfold opThen; split <;> rfl)
  rw [← hOP]
  unfold opAfter at hR
  obtain ⟨CL, hCL⟩ : ∃ CL, CL = closesL name := ⟨_, rfl⟩
  obtain ⟨UP, hUP⟩ : ∃ UP, UP = upToL name := ⟨_, rfl⟩
  rw [← hCL, ← hUP] at hR
  have htab := table_any name (w.alloc (rpObj kStart fr k name noS av))
  rw [show (closeT name).1 = CL from hCL.symm, show (closeT name).2 = UP from hUP.symm] at htab
  obtain ⟨p, hp⟩ : ∃ p, p = inn op := ⟨_, rfl⟩
  rw [← hp] at h
  have hstart := fun w2 hb => BS0.start (name := name) (w2 := w2) h hA fr k hb
  have HST := hid hstart
  have HTB := hid htab
  have HR := hid hR
  have hw4 := hI.wf.len
  have HW := hid hI.wf
  have HC := hid hI.chain
  have HP := hid hp
  have hav : ∃ aa an ac, av = .slice aa an ac := by obtain ⟨aa, ac, e, _⟩ := hA; exact ⟨aa, _, ac, e⟩
  obtain ⟨aa, an, ac, rfl⟩ := hav
  unfold rpv
  unfold rpObj at HTB
  have hbw : bb < w.heap.size := by
    obtain ⟨nb, cap, hS⟩ := h.see hI.wf
    exact hS.lt
  have e1 : bb ≠ w.heap.size := by omega
  have e2 : w.heap.size ≠ bb := by omega
  have HLB := hid h.tree
  have HN4 := hid hl
  have i2 : (ns.length : Int) < (ns.length : Int) + 1 := by omega
  have i3 : (0 : Int) ≤ (ns.length : Int) := by omega
  clear h hA hI hp hR hCL hUP htab hstart haf hIR hIA hOP
  go_enter Tryz.func27, Tryz.ntmps27
  go_wp2_with (go_at_call 64; refine HTB.out.mono ?_; rintro e w2 ⟨a1, n1, c1, a2, n2, c2, rfl, hs1, hs2, hb2⟩
               have hbs := HST.out _ hb2
               obtain ⟨nb, cap, hS⟩ := hbs.bat.see HW.out
               have HA1 : Hid (∀ x, Calls Tryz.prog 65 #[.string x, .slice a1 n1 c1] w2 fun e w' => e = .returned (.bool (inL CL x)) ∧ w' = w2) := hid (fun x => among_any hs1 x)
               have HA2 : Hid (∀ x, Calls Tryz.prog 65 #[.string x, .slice a2 n2 c2] w2 fun e w' => e = .returned (.bool (inL UP x)) ∧ w' = w2) := hid (fun x => among_any hs2 x)
               have c0 := hS.c0
               have c2' := hS.c2
               have hfr := hS.fr 2
               have hle := hS.le
               have hmx := hS.mx
               have hbl := hS.lt
               have hnl := hS.nlt
               have HN := hid hS.nd
               have HBS := hid hbs
               clear hs1 hs2 hb2 hbs hS)
  clear HTB HST
  go_loopg [6] op.length (fun g k wr => wr = w2 ∧ ∃ (l : List Nat) (x : Nat), k = .int .i64 x ∧ l.length = g ∧ Hid (x = inn l) ∧ Hid (Chain ns l) ∧ Hid (R = shutM ns (inL CL) (inL UP) op l))
  case atStart => exact ⟨rfl, op, p, rfl, rfl, HP, HC, HR⟩
  case round =>
    obtain ⟨rfl, l, x, rfl, hg, hx, hcl, hrl⟩ := hrel
    cases l with
    | nil =>
      have ex : x = 0 := hx.out
      subst ex
      have HE : Hid (inn R = p) := hid (by rw [hrl.out]; exact HP.out.symm)
      have HB2 : Hid (BS0 B w bb ns (inn R) a U wr M w.heap.size fr k name (.slice aa an ac) l0) := hid (by rw [HE.out]; exact HBS.out)
      obtain ⟨p0, p1, p2, p3, p4, p5, pf⟩ := six_cellsR HB2.out.pc
      clear hx hcl hrl HA1 HA2 HN p0 p2 p4
      go_wp2_with (go_at_call 24; refine (bput_good HB2.out.bat HIR.out hi hU hl 2 _ (.inl ⟨rfl, hn⟩) _).mono ?_; rintro e w4 ⟨rfl, M4, hB4, hV4⟩; obtain ⟨nb4, cap4, u3, g0, g1, g2, g3, g4, g5, g6, g7, g8, g9, g10, g12, hx⟩ := HAF.out _ _ _ HB2.out hB4 hV4; have g11 := Ne.symm g10; have HX := hid hx; clear hB4 hV4 hx)
      go_still_tail 10, (by kernel_rfl)
      go_wp2_with fail
      obtain ⟨M5, hB5, hF5⟩ := HX.out w4 (Below.refl _ _)
      generalize w4.setCell _ _ = w5 at hB5 hF5 ⊢
      refine (rvoid_any _ _).mono ?_
      rintro e w6 ⟨rfl, hb6⟩
      have hb7 : Below w5.heap.size w5 w6 := ((Below.refl _ _).drew).trans hb6
      have hB6 := hB5.below hb7
      have HF6 := hid (hF5.trans (Below.toFar M hb7) (fun _ _ h => h))
      obtain ⟨nb6, cap6, hS6⟩ := hB6.see HWA.out
      have m2 := hS6.c2
      have mf := hS6.fr 2
      have ml := hS6.lt
      have HB6 := hid hB6
      clear hb6 hb7 hB5 hF5 hS6 hB6 HX g0 g1 g2 g3 g4 g5 g6 g7 g8 g9 g10 g11 g12 HAF HB2
      cases hv : voidB name with
      | true =>
        have HE2 : Hid (OP = inn R) := hid (by rw [HOP.out, hv]; rfl)
        go_wp2_with fail
        go_end0
        exact ⟨rfl, HF6.out, M5, by rw [HE2.out]; exact HB6.out⟩
      | false =>
        have hdp := deep_any HB6.out HWA.out HCA.out hfew
        by_cases hd : R.length < 40
        · have HE2 : Hid (OP = ns.length) := hid (by rw [HOP.out, hv]; simp [hd])
          have hd1 : (R.length : Int) < 40 := by omega
          obtain ⟨q1, q2⟩ := BL.setIn HB6.out ns.length
          have HQ := hid (And.intro (HF6.out.set HLB.out 2 (.int .i64 ns.length)) q1)
          have HD := hid hdp
          clear hdp q1 q2
          go_wp2_with (go_at_call 67; refine HD.out.mono ?_; rintro e w7 ⟨rfl, rfl⟩)
          go_end0
          exact ⟨rfl, HQ.out.1, M5, by rw [HE2.out]; exact HQ.out.2⟩
        · have HE2 : Hid (OP = inn R) := hid (by rw [HOP.out, hv]; simp [hd])
          have hd1 : ¬ (R.length : Int) < 40 := by omega
          have HD := hid hdp
          clear hdp
          go_wp2_with (go_at_call 67; refine HD.out.mono ?_; rintro e w7 ⟨rfl, rfl⟩)
          go_end0
          exact ⟨rfl, HF6.out, M5, by rw [HE2.out]; exact HB6.out⟩
    | cons y l =>
      have ex : x = y := hx.out
      subst ex
      have hpos := chain_pos HW.out hcl.out
      cases hcl.out with
      | cons hk h2 hpar hm2 hl2 hc2 =>
        rename_i n m2
        obtain ⟨k0, k1, k2, c4⟩ := HN.out _ _ hk
        clear k0 k2
        rw [hpar] at c4
        obtain ⟨y2, hy2⟩ : ∃ y2, y2 = inn l := ⟨_, rfl⟩
        rw [← hy2] at c4
        obtain ⟨tg, htg⟩ : ∃ tg, tg = n.tag := ⟨_, rfl⟩
        rw [← htg] at k1
        have htag : tagOf ns x = tg := by unfold tagOf; rw [hk, htg]
        have hxl : x < ns.length := (List.getElem?_eq_some_iff.1 hk).1
        have HY := hid hy2
        have HC2 := hid hc2
        have q1 : (0 : Int) < (x : Int) := by omega
        rw [List.length_cons] at hg
        have hrl' := hrl.out
        rw [shutM, htag] at hrl'
        obtain ⟨p0, p1, p2, p3, p4, p5, pf⟩ := six_cellsR HBS.out.pc
        cases hq1 : inL CL tg with
        | true =>
          rw [if_pos hq1] at hrl'
          have HB2 : Hid (BS0 B w bb ns (inn R) a U (wr.setCell ⟨bb, 2, none⟩ (.int .i64 y2)) M w.heap.size fr k name (.slice aa an ac) l0) := hid (by rw [hrl', ← HY.out]; exact HBS.out.set y2)
          clear hk h2 hpar hm2 hl2 hc2 hy2 hx hcl htg htag hrl hrl' n m2 p0 p2 p4 hg HA2
          go_wp2_with fail
          refine (HA1.out _).mono ?_
          rintro e w' ⟨rfl, hw'⟩
          rw [hw', hq1]
          clear hw'
          go_wp2_with (go_at_call 24; refine (bput_good HB2.out.bat HIR.out hi hU hl 2 _ (.inl ⟨rfl, hn⟩) _).mono ?_; rintro e w4 ⟨rfl, M4, hB4, hV4⟩; obtain ⟨nb4, cap4, u3, g0, g1, g2, g3, g4, g5, g6, g7, g8, g9, g10, g12, hx⟩ := HAF.out _ _ _ HB2.out hB4 hV4; have g11 := Ne.symm g10; have HX := hid hx; clear hB4 hV4 hx)
          go_still_tail 10, (by kernel_rfl)
          go_wp2_with fail
          obtain ⟨M5, hB5, hF5⟩ := HX.out w4 (Below.refl _ _)
          generalize w4.setCell _ _ = w5 at hB5 hF5 ⊢
          refine (rvoid_any _ _).mono ?_
          rintro e w6 ⟨rfl, hb6⟩
          have hb7 : Below w5.heap.size w5 w6 := ((Below.refl _ _).drew).trans hb6
          have hB6 := hB5.below hb7
          have HF6 := hid (hF5.trans (Below.toFar M hb7) (fun _ _ h => h))
          obtain ⟨nb6, cap6, hS6⟩ := hB6.see HWA.out
          have m2 := hS6.c2
          have mf := hS6.fr 2
          have ml := hS6.lt
          have HB6 := hid hB6
          clear hb6 hb7 hB5 hF5 hS6 hB6 HX g0 g1 g2 g3 g4 g5 g6 g7 g8 g9 g10 g11 g12 HAF HB2
          cases hv : voidB name with
          | true =>
            have HE2 : Hid (OP = inn R) := hid (by rw [HOP.out, hv]; rfl)
            go_wp2_with fail
            go_end0
            exact ⟨rfl, HF6.out, M5, by rw [HE2.out]; exact HB6.out⟩
          | false =>
            have hdp := deep_any HB6.out HWA.out HCA.out hfew
            by_cases hd : R.length < 40
            · have HE2 : Hid (OP = ns.length) := hid (by rw [HOP.out, hv]; simp [hd])
              have hd1 : (R.length : Int) < 40 := by omega
              obtain ⟨q1, q2⟩ := BL.setIn HB6.out ns.length
              have HQ := hid (And.intro (HF6.out.set HLB.out 2 (.int .i64 ns.length)) q1)
              have HD := hid hdp
              clear hdp q1 q2
              go_wp2_with (go_at_call 67; refine HD.out.mono ?_; rintro e w7 ⟨rfl, rfl⟩)
              go_end0
              exact ⟨rfl, HQ.out.1, M5, by rw [HE2.out]; exact HQ.out.2⟩
            · have HE2 : Hid (OP = inn R) := hid (by rw [HOP.out, hv]; simp [hd])
              have hd1 : ¬ (R.length : Int) < 40 := by omega
              have HD := hid hdp
              clear hdp
              go_wp2_with (go_at_call 67; refine HD.out.mono ?_; rintro e w7 ⟨rfl, rfl⟩)
              go_end0
              exact ⟨rfl, HF6.out, M5, by rw [HE2.out]; exact HB6.out⟩
        | false =>
          rw [if_neg (by rw [hq1]; simp)] at hrl'
          cases hq2 : inL UP tg with
          | true =>
            rw [if_pos hq2] at hrl'
            have HB2 : Hid (BS0 B w bb ns (inn R) a U wr M w.heap.size fr k name (.slice aa an ac) l0) := hid (by rw [hrl', ← HP.out]; exact HBS.out)
            clear hk h2 hpar hm2 hl2 hc2 hy2 hx hcl htg htag hrl hrl' n m2 p0 p2 p4 hg
            go_wp2_with fail
            refine (HA1.out _).mono ?_
            rintro e w' ⟨rfl, hw'⟩
            rw [hw', hq1]
            clear hw'
            go_wp2_with fail
            refine (HA2.out _).mono ?_
            rintro e w' ⟨rfl, hw'⟩
            rw [hw', hq2]
            clear hw'
            go_wp2_with (go_at_call 24; refine (bput_good HB2.out.bat HIR.out hi hU hl 2 _ (.inl ⟨rfl, hn⟩) _).mono ?_; rintro e w4 ⟨rfl, M4, hB4, hV4⟩; obtain ⟨nb4, cap4, u3, g0, g1, g2, g3, g4, g5, g6, g7, g8, g9, g10, g12, hx⟩ := HAF.out _ _ _ HB2.out hB4 hV4; have g11 := Ne.symm g10; have HX := hid hx; clear hB4 hV4 hx)
            go_still_tail 10, (by kernel_rfl)
            go_wp2_with fail
            obtain ⟨M5, hB5, hF5⟩ := HX.out w4 (Below.refl _ _)
            generalize w4.setCell _ _ = w5 at hB5 hF5 ⊢
            refine (rvoid_any _ _).mono ?_
            rintro e w6 ⟨rfl, hb6⟩
            have hb7 : Below w5.heap.size w5 w6 := ((Below.refl _ _).drew).trans hb6
            have hB6 := hB5.below hb7
            have HF6 := hid (hF5.trans (Below.toFar M hb7) (fun _ _ h => h))
            obtain ⟨nb6, cap6, hS6⟩ := hB6.see HWA.out
            have m2 := hS6.c2
            have mf := hS6.fr 2
            have ml := hS6.lt
            have HB6 := hid hB6
            clear hb6 hb7 hB5 hF5 hS6 hB6 HX g0 g1 g2 g3 g4 g5 g6 g7 g8 g9 g10 g11 g12 HAF HB2
            cases hv : voidB name with
            | true =>
              have HE2 : Hid (OP = inn R) := hid (by rw [HOP.out, hv]; rfl)
              go_wp2_with fail
              go_end0
              exact ⟨rfl, HF6.out, M5, by rw [HE2.out]; exact HB6.out⟩
            | false =>
              have hdp := deep_any HB6.out HWA.out HCA.out hfew
              by_cases hd : R.length < 40
              · have HE2 : Hid (OP = ns.length) := hid (by rw [HOP.out, hv]; simp [hd])
                have hd1 : (R.length : Int) < 40 := by omega
                obtain ⟨q1, q2⟩ := BL.setIn HB6.out ns.length
                have HQ := hid (And.intro (HF6.out.set HLB.out 2 (.int .i64 ns.length)) q1)
                have HD := hid hdp
                clear hdp q1 q2
                go_wp2_with (go_at_call 67; refine HD.out.mono ?_; rintro e w7 ⟨rfl, rfl⟩)
                go_end0
                exact ⟨rfl, HQ.out.1, M5, by rw [HE2.out]; exact HQ.out.2⟩
              · have HE2 : Hid (OP = inn R) := hid (by rw [HOP.out, hv]; simp [hd])
                have hd1 : ¬ (R.length : Int) < 40 := by omega
                have HD := hid hdp
                clear hdp
                go_wp2_with (go_at_call 67; refine HD.out.mono ?_; rintro e w7 ⟨rfl, rfl⟩)
                go_end0
                exact ⟨rfl, HF6.out, M5, by rw [HE2.out]; exact HB6.out⟩
          | false =>
            rw [if_neg (by rw [hq2]; simp)] at hrl'
            have HRR := hid hrl'
            clear hk h2 hpar hm2 hl2 hc2 hy2 hx hcl htg htag hrl hrl' n m2 p0 p1 p2 p3 p4 p5 pf
            go_wp2_with fail
            refine (HA1.out _).mono ?_
            rintro e w' ⟨rfl, hw'⟩
            rw [hw', hq1]
            clear hw'
            go_wp2_with fail
            refine (HA2.out _).mono ?_
            rintro e w' ⟨rfl, hw'⟩
            rw [hw', hq2]
            clear hw'
            go_wp2_with fail
            go_roundg l.length
            case measure => omega
            case rel => exact ⟨rfl, l, y2, rfl, rfl, HY, HC2, HRR⟩
end Go.Proofs.YtkaeenafejdkfaaGreatDoor
