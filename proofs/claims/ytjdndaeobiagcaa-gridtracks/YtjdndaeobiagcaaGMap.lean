/- A map of cells: looked up and written. -/
import Derived.Test.YtjdndaeobiagcaaGM00
import Derived.WalkLawsBesides
import Derived.Carry
namespace Go.Proofs.Ytjdndaeobiagcaa
open Go.RowKit
set_option linter.unusedVariables false      -- bounds that are for the walk
set_option linter.unusedSimpArgs false

def cellV (c r : Int) : Value := .agg #[.int .i64 c, .int .i64 r]

theorem check_cell (e : Bool) (n : Nat) (c r : Int) (w : World) : (Instr.checkKey e (n + 2) 116 (cellV c r)).run Try.prog w = .ok () w := by
  unfold cellV
  simp [Instr.checkKey, go_sem, Try.isAgg3, part]
theorem Try.heldCell : Try.prog.stoodInHeld 116 = false := by kernel_rfl

set_option maxHeartbeats 4000000 in
theorem equal_cell (n : Nat) (c r c' r' : Int) (w : World) : (Op.equalIn (n + 2) 116 (cellV c r) (cellV c' r')).run Try.prog w = .ok (decide (c = c' ∧ r = r')) w := by
  unfold cellV
  by_cases h1 : c = c'
  · by_cases h2 : r = r'
    · simp [Op.equalIn, go_sem, Try.isAgg3, part, h1, h2, Try.heldCell, Sem.run_bind]
    · simp [Op.equalIn, go_sem, Try.isAgg3, part, h1, h2, Try.heldCell, Sem.run_bind]
  · simp [Op.equalIn, go_sem, Try.isAgg3, part, h1, Try.heldCell, Sem.run_bind]

abbrev Ent := Int × Int × Int
def AreE : List MapEntry → List Ent → Prop
  | [], [] => True
  | m :: ms, e :: es => m.key = cellV e.1 e.2.1 ∧ m.val = .int .i64 e.2.2 ∧ AreE ms es
  | _, _ => False
def findE (c r : Int) : List Ent → Nat → Option (Nat × Int)
  | [], _ => none
  | e :: es, i => if c = e.1 ∧ r = e.2.1 then some (i, e.2.2) else findE c r es (i + 1)
def lookE (c r : Int) : List Ent → Option Int
  | [] => none
  | e :: es => if c = e.1 ∧ r = e.2.1 then some e.2.2 else lookE c r es
def updE (c r v : Int) : List Ent → List Ent
  | [] => [(c, r, v)]
  | e :: es => if c = e.1 ∧ r = e.2.1 then (c, r, v) :: es else e :: updE c r v es
theorem find_look (c r : Int) : ∀ (es : List Ent) (i : Nat), (findE c r es i).map Prod.snd = lookE c r es
  | [], _ => rfl
  | e :: es, i => by
    unfold findE lookE
    split
    · rfl
    · exact find_look c r es (i + 1)
theorem find_ge (c r : Int) : ∀ (es : List Ent) (i j : Nat) (v : Int), findE c r es i = some (j, v) → i ≤ j
  | [], _, _, _, h => by simp [findE] at h
  | e :: es, i, j, v, h => by
    unfold findE at h
    split at h
    · cases h; omega
    · have := find_ge c r es (i + 1) j v h; omega
theorem look_upd (c r v c' r' : Int) : ∀ es, lookE c' r' (updE c r v es) = if c' = c ∧ r' = r then some v else lookE c' r' es
  | [] => by simp [updE, lookE]
  | e :: es => by
    unfold updE
    split
    · rename_i h
      unfold lookE
      by_cases h2 : c' = c ∧ r' = r
      · rw [if_pos h2, if_pos h2]
      · rw [if_neg h2, if_neg h2, if_neg (by rw [← h.1, ← h.2]; exact h2)]
    · rename_i h
      unfold lookE
      rw [look_upd c r v c' r' es]
      by_cases h2 : c' = c ∧ r' = r
      · rw [if_neg (by rw [h2.1, h2.2]; exact h), if_pos h2, if_pos h2]
      · rw [if_neg h2, if_neg h2]
theorem are_found (c r v : Int) : ∀ (ms : List MapEntry) (es : List Ent) (k j : Nat) (v0 : Int), AreE ms es → findE c r es k = some (k + j, v0) → AreE (ms.modify j (fun m => { m with key := cellV c r, val := .int .i64 v })) (updE c r v es) ∧ ∃ m, ms[j]? = some m ∧ m.key = cellV c r
  | [], [], _, _, _, _, h => by simp [findE] at h
  | [], _ :: _, _, _, _, h, _ => h.elim
  | _ :: _, [], _, _, _, h, _ => h.elim
  | m :: ms, e :: es, k, j, v0, h, hf => by
    unfold findE at hf
    unfold updE
    split at hf
    · rename_i hc
      rw [if_pos hc]
      have hj : j = 0 := by
        have := congrArg (fun o => o.map Prod.fst) hf
        simp at this
        omega
      subst hj
      exact ⟨⟨rfl, rfl, h.2.2⟩, m, rfl, by rw [h.1, hc.1, hc.2]⟩
    · rename_i hc
      rw [if_neg hc]
      have hg := find_ge c r es (k + 1) _ _ hf
      obtain ⟨i, rfl⟩ : ∃ i, j = i + 1 := ⟨j - 1, by omega⟩
      obtain ⟨h1, m', h2, h3⟩ := are_found c r v ms es (k + 1) i v0 h.2.2 (by rw [hf]; congr 2; omega)
      exact ⟨⟨h.1, h.2.1, h1⟩, m', h2, h3⟩
theorem are_new (c r v : Int) (b : Nat) : ∀ (ms : List MapEntry) (es : List Ent) (k : Nat), AreE ms es → findE c r es k = none → AreE (ms ++ [⟨cellV c r, .int .i64 v, b⟩]) (updE c r v es)
  | [], [], _, _, _ => ⟨rfl, rfl, trivial⟩
  | [], _ :: _, _, h, _ => h.elim
  | _ :: _, [], _, h, _ => h.elim
  | m :: ms, e :: es, k, h, hf => by
    unfold findE at hf
    unfold updE
    split at hf
    · cases hf
    · rename_i hc
      rw [if_neg hc]
      exact ⟨h.1, h.2.1, are_new c r v b ms es (k + 1) h.2.2 hf⟩

theorem run_asking (c r : Int) (w : World) : ∀ (ms : List MapEntry) (es : List Ent) (i : Nat), AreE ms es → (Instr.findAsking 116 (cellV c r) ms i).run Try.prog w = .ok ((findE c r es i).map fun p => (p.1, .int .i64 p.2)) w
  | [], [], _, _ => rfl
  | [], _ :: _, _, h => h.elim
  | _ :: _, [], _, h => h.elim
  | m :: ms, e :: es, i, h => by
    unfold Instr.findAsking findE
    rw [Sem.run_bind, h.1, show Op.equal 116 (cellV c r) (cellV e.1 e.2.1) = Op.equalIn (9998 + 2) 116 (cellV c r) (cellV e.1 e.2.1) from rfl, equal_cell, Result.andThen_ok]
    by_cases hc : c = e.1 ∧ r = e.2.1
    · rw [if_pos hc]
      simp only [hc, and_self, decide_true, if_true, h.2.1]
      rfl
    · rw [if_neg hc]
      have hd : decide (c = e.1 ∧ r = e.2.1) = false := by simpa using hc
      rw [hd]
      simp only [Bool.false_eq_true, if_false]
      exact run_asking c r w ms es (i + 1) h.2.2
theorem run_find (c r : Int) (w : World) {ms : List MapEntry} {es : List Ent} (h : AreE ms es) : (Instr.findKey 116 (cellV c r) ms).run Try.prog w = .ok ((findE c r es 0).map fun p => (p.1, .int .i64 p.2)) w := by
  unfold Instr.findKey
  rw [Sem.run_bind, run_underlying Try.underlying116, Result.andThen_ok]
  match ms, es, h with
  | [], [], _ => rfl
  | m :: ms, e :: es, h =>
    have : ∀ fs, Instr.findNow (.struct fs) (cellV c r) (m :: ms) 0 = none := fun fs => by
      unfold Instr.findNow
      have hs : Instr.sameNow (.struct fs) (cellV c r) m.key = none := by unfold cellV Instr.sameNow; rfl
      rw [hs]
    rw [this]
    exact run_asking c r w _ _ 0 h

/-- block b is a map of cells that reads as F -/
def MapF (w : World) (b : Nat) (F : Int → Int → Option Int) : Prop := ∃ arr clock es, w.heap[b]? = some (.map arr clock) ∧ AreE arr.toList es ∧ F = fun c r => lookE c r es
theorem MapF.lt {w : World} {b : Nat} {F : Int → Int → Option Int} (h : MapF w b F) : b < w.heap.size := by
  obtain ⟨arr, clock, es, h1, _⟩ := h
  exact (Array.getElem?_eq_some_iff.1 h1).1
theorem MapF.keep {w w' : World} {b : Nat} {F : Int → Int → Option Int} (h : MapF w b F) (hb : w'.heap[b]? = w.heap[b]?) : MapF w' b F := by
  obtain ⟨arr, clock, es, h1, h2, h3⟩ := h
  exact ⟨arr, clock, es, hb.trans h1, h2, h3⟩
theorem MapF.new (w : World) : MapF (w.alloc (.map #[] 0)) w.heap.size (fun _ _ => none) := ⟨#[], 0, [], heap_alloc_new w _, trivial, rfl⟩

theorem run_look {w : World} {b : Nat} {F : Int → Int → Option Int} (h : MapF w b F) (c r : Int) :
    (Instr.lookup 89 (.map (some b)) (cellV c r) true).run Try.prog w = .ok (.tuple #[.int .i64 ((F c r).getD 0), .bool (F c r).isSome]) w := by
  obtain ⟨arr, clock, es, h1, h2, rfl⟩ := h
  have hg : (getObj b).run Try.prog w = .ok (.map arr clock) w := by simp [getObj, Sem.run, h1]
  unfold Instr.lookup
  rw [Sem.run_bind, run_underlying Try.underlying89, Result.andThen_ok]
  simp only [Sem.run_bind, hg, Result.andThen_ok, Sem.run_pure]
  rw [show (10000 : Nat) = 9998 + 2 from rfl, check_cell, Result.andThen_ok, run_find c r w h2, Result.andThen_ok]
  have hl := find_look c r es 0
  cases hf : findE c r es 0 with
  | none =>
    rw [hf] at hl
    have hl' : lookE c r es = none := by rw [← hl]; rfl
    simp only [Option.map_none, hl']
    rw [Sem.run_bind]
    simp [go_sem]
  | some p =>
    rw [hf] at hl
    have hl' : lookE c r es = some p.2 := by rw [← hl]; rfl
    simp only [Option.map_some, hl']
    rfl
theorem same_cell (n : Nat) (c r : Int) : Instr.sameBits (n + 2) (cellV c r) (cellV c r) = true := by
  unfold cellV Instr.sameBits
  simp [Instr.sameBits]
def putO (w : World) (b : Nat) (o : Obj) : World := { w with heap := w.heap.setIfInBounds b o }
theorem run_setObj {w : World} {b : Nat} {arr : Array MapEntry} {clock : Nat} (h1 : w.heap[b]? = some (.map arr clock)) (o : Obj) : (setObj b o).run Try.prog w = .ok () (putO w b o) := by
  simp [setObj, Sem.run, h1, putO]
theorem putO_same {w : World} {b : Nat} (o : Obj) (hlt : b < w.heap.size) : (putO w b o).heap[b]? = some o := by simp [putO, hlt]
theorem putO_other {w : World} {b k : Nat} (o : Obj) (h : k ≠ b) : (putO w b o).heap[k]? = w.heap[k]? := by
  simp only [putO]
  rw [Array.getElem?_setIfInBounds]
  simp [Ne.symm h]
theorem run_upd {w : World} {b : Nat} {F : Int → Int → Option Int} (h : MapF w b F) (c r v : Int) :
    ∃ o, (Instr.mapUpdate 89 (.map (some b)) (cellV c r) (.int .i64 v)).run Try.prog w = .ok () (putO w b o) ∧ MapF (putO w b o) b (fun c' r' => if c' = c ∧ r' = r then some v else F c' r') := by
  have hlt := h.lt
  obtain ⟨arr, clock, es, h1, h2, rfl⟩ := h
  have hg : (getObj b).run Try.prog w = .ok (.map arr clock) w := by simp [getObj, Sem.run, h1]
  unfold Instr.mapUpdate
  rw [Sem.run_bind, run_underlying Try.underlying89, Result.andThen_ok]
  simp only [Sem.run_bind, hg, Result.andThen_ok, Sem.run_pure]
  rw [show (10000 : Nat) = 9998 + 2 from rfl, check_cell, Result.andThen_ok, run_find c r w h2, Result.andThen_ok]
  cases hf : findE c r es 0 with
  | none =>
    simp only [Option.map_none]
    refine ⟨_, run_setObj h1 _, _, _, updE c r v es, putO_same _ hlt, ?_, ?_⟩
    · rw [Array.toList_push]
      exact are_new c r v clock _ _ 0 h2 hf
    · funext c' r'
      rw [look_upd]
  | some p =>
    obtain ⟨j, v0⟩ := p
    simp only [Option.map_some]
    obtain ⟨h3, m, h4, h5⟩ := are_found c r v _ _ 0 j v0 h2 (by rw [hf, Nat.zero_add])
    have h6 : (arr[j]?.map (·.key)).getD (cellV c r) = cellV c r := by
      rw [show arr[j]? = some m from by simpa using h4]
      exact h5
    have h7 : (Instr.keyThatStays (((arr[j]?).map (·.key)).getD (cellV c r)) (cellV c r)).run Try.prog w = .ok (cellV c r) w := by
      rw [h6]
      unfold Instr.keyThatStays
      rw [show (10000 : Nat) = 9998 + 2 from rfl, same_cell]
      rfl
    rw [Sem.run_bind, h7, Result.andThen_ok]
    refine ⟨_, run_setObj h1 _, _, _, updE c r v es, putO_same _ hlt, ?_, ?_⟩
    · rw [Array.toList_modify]
      exact h3
    · funext c' r'
      rw [look_upd]
end Go.Proofs.Ytjdndaeobiagcaa
