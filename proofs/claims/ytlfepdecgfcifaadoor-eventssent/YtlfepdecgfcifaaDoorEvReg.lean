/- A region that draws its order, whose operations but the last few leave the world alone: those are walked once, in the text's order; all else waits for them. -/
import Derived.Sort.BigQuietIn
import Derived.Orders
import Derived.OrdersIn
import Derived.TacticsIn
namespace Go.Proofs.YtlfepdecgfcifaaDoor
set_option linter.unusedVariables false

def depB (ops : Array Oper) (j i : Nat) : Bool := match ops[j]? with
  | some o => o.after.any fun e => Region.binds .any e && e.on == i
  | none => false
/-- what is asked of the region's edges: the first k are waited for, along a chain, by operation k, which all behind it wait for -/
def preB (ops : Array Oper) (k : Nat) : Bool :=
  (List.range k).all (fun i => (List.range (k + 1)).any fun j => decide (i < j) && depB ops j i) &&
  ((List.range ops.size).all (fun j => !decide (k < j) || (List.range ops.size).any fun i => decide (k ≤ i) && depB ops j i) &&
  ((List.range k).all (fun i => match ops[i]? with
    | some o => (o.after.all fun e => !Region.binds .any e || decide (e.on < i)) && (match o.guard with | some (g, _) => decide (g < k) | none => true)
    | none => false) && decide (k < ops.size)))

structure LsAt (ops : Array Oper) (k : Nat) (listed : Array Bool) : Prop where
  size : listed.size = ops.size
  post : ∀ j, k ≤ j → j < ops.size → listed.getD j true = false
  down : ∀ (i : Nat) (o : Oper), i < k → ops[i]? = some o → listed.getD i true = true → ∀ e ∈ o.after, Region.binds .any e = true → listed.getD e.on false = true

section
variable {ops ops' : Array Oper} {k : Nat} {listed : Array Bool}
theorem dep_spec {j i : Nat} (h : depB ops j i = true) : ∃ o e, ops[j]? = some o ∧ e ∈ o.after ∧ Region.binds .any e = true ∧ e.on = i := by
  unfold depB at h
  cases ho : ops[j]? with
  | none => rw [ho] at h; cases h
  | some o =>
    rw [ho] at h
    simp only [Array.any_eq_true'] at h
    obtain ⟨e, he, h2⟩ := h
    simp at h2
    exact ⟨o, e, rfl, he, h2.1, h2.2⟩
theorem getD_lt {i : Nat} (h : i < listed.size) (a b : Bool) : listed.getD i a = listed.getD i b := by
  simp [Array.getD, h]
theorem pre_spec (hp : preB ops k = true) : (∀ i, i < k → ∃ j, i < j ∧ j ≤ k ∧ depB ops j i = true) ∧ (∀ j, k < j → j < ops.size → ∃ i, k ≤ i ∧ i < ops.size ∧ depB ops j i = true) ∧
    (∀ i, i < k → ∃ o, ops[i]? = some o ∧ (∀ e ∈ o.after, Region.binds .any e = true → e.on < i) ∧ ∀ g b, o.guard = some (g, b) → g < k) ∧ k < ops.size := by
  unfold preB at hp
  simp only [Bool.and_eq_true, List.all_eq_true, List.mem_range, List.any_eq_true, decide_eq_true_eq, Bool.or_eq_true, Bool.not_eq_true', decide_eq_false_iff_not] at hp
  obtain ⟨h1, h2, h3, h4⟩ := hp
  refine ⟨fun i hi => ?_, fun j hj hs => ?_, fun i hi => ?_, h4⟩
  · obtain ⟨j, a, b, c⟩ := h1 i hi
    exact ⟨j, b, by omega, c⟩
  · rcases h2 j hs with h | ⟨i, a, b, c⟩
    · exact absurd hj h
    · exact ⟨i, b, a, c⟩
  · have h := h3 i hi
    cases ho : ops[i]? with
    | none => rw [ho] at h; cases h
    | some o =>
      rw [ho] at h
      simp only [Bool.and_eq_true, Array.all_eq_true', Bool.or_eq_true, Bool.not_eq_true', decide_eq_true_eq] at h
      refine ⟨o, rfl, fun e he hb => ?_, fun g b hg => ?_⟩
      · rcases h.1 e he with q | q
        · rw [hb] at q; cases q
        · exact q
      · have h5 := h.2
        rw [hg] at h5
        simpa using h5
/-- as long as one of the first k has not come up, none behind them may -/
theorem LsAt.early (h : LsAt ops k listed) (hp : preB ops k = true) {i : Nat} (hi : i < k) (hu : listed.getD i true = false) {j : Nat} (hj : j ∈ Region.ready .any ops listed) : j < k := by
  obtain ⟨A, B, L, hs⟩ := pre_spec hp
  obtain ⟨j0, o, ho, hall⟩ := mem_ready.1 hj
  apply Classical.byContradiction
  intro hjk
  have hjs : j < ops.size := (Array.getElem?_eq_some_iff.1 ho).1
  by_cases hkj : k < j
  · obtain ⟨q, q1, q2, q3⟩ := B j hkj hjs
    obtain ⟨o', e, e1, e2, e3, e4⟩ := dep_spec q3
    obtain rfl := Option.some.inj (e1.symm.trans ho)
    have := hall e e2 e3
    rw [e4, getD_lt (by rw [h.size]; exact q2) false true, h.post q q1 q2] at this
    cases this
  · obtain rfl : j = k := by omega
    -- an unlisted one below is waited for by an unlisted one further on
    have up : ∀ m i, j - i ≤ m → i < j → listed.getD i true = false → False := by
      intro m
      induction m with
      | zero => intro i h1 h2; omega
      | succ m ih =>
        intro i h1 h2 h3
        obtain ⟨q, q1, q2, q3⟩ := A i h2
        obtain ⟨o', e, e1, e2, e3, e4⟩ := dep_spec q3
        by_cases hq : q = j
        · subst hq
          obtain rfl := Option.some.inj (e1.symm.trans ho)
          have := hall e e2 e3
          rw [e4, getD_lt (by rw [h.size]; omega) false true, h3] at this
          cases this
        · refine ih q (by omega) (by omega) ?_
          cases hd : listed.getD q true with
          | false => rfl
          | true =>
            have := h.down q o' (by omega) e1 hd e e2 e3
            rw [e4, getD_lt (by rw [h.size]; omega) false true, h3] at this
            cases this
    exact up (j - i) i (Nat.le_refl _) hi hu
/-- one that has not come up: then one may -/
theorem LsAt.some (h : LsAt ops k listed) (hp : preB ops k = true) (hops : ∀ i, i < k → ops'[i]? = ops[i]?) (hsz : ops'.size = k) (hr : Region.ready .any ops' listed = []) : ∀ i, i < k → listed.getD i true = true := by
  obtain ⟨A, B, L, hs⟩ := pre_spec hp
  intro i
  induction i using Nat.strongRecOn with
  | _ i ih =>
    intro hi
    cases hd : listed.getD i true with
    | true => rfl
    | false =>
      exfalso
      obtain ⟨o, ho, hl, _⟩ := L i hi
      have : i ∈ Region.ready .any ops' listed := mem_ready.2 ⟨hd, o, (hops i hi).trans ho, fun e he hb => by
        have hlt := hl e he hb
        rw [getD_lt (by rw [h.size]; omega) false true]
        exact ih e.on hlt (by omega)⟩
      rw [hr] at this
      cases this
theorem LsAt.next (h : LsAt ops k listed) {i : Nat} (hi : i ∈ Region.ready .any ops listed) (hik : i < k) : LsAt ops k (listed.setIfInBounds i true) := by
  obtain ⟨h0, o, ho, hall⟩ := mem_ready.1 hi
  refine ⟨by rw [Array.size_setIfInBounds]; exact h.size, fun j h1 h2 => ?_, fun j oj h1 h2 h3 e he hb => ?_⟩
  · rw [getD_set_ne true (by omega)]
    exact h.post j h1 h2
  · have step : ∀ q, listed.getD q false = true → (listed.setIfInBounds i true).getD q false = true := fun q hq => by
      by_cases e : i = q
      · subst e
        have : i < listed.size := by
          rw [h.size]
          exact (Array.getElem?_eq_some_iff.1 ho).1
        simp [Array.getD, this]
      · rw [getD_set_ne false e]; exact hq
    by_cases e1 : i = j
    · subst e1
      obtain rfl := Option.some.inj (h2.symm.trans ho)
      exact step _ (hall e he hb)
    · rw [getD_set_ne true e1] at h3
      exact step _ (h.down j oj h1 h2 h3 e he hb)
theorem LsAt.fin (h : LsAt ops k listed) (hk : k ≤ ops.size) (ha : ∀ i, i < k → listed.getD i true = true) : listed = (Array.replicate k true ++ Array.replicate (ops.size - k) false) := by
  apply Array.ext
  · rw [h.size]; simp; omega
  · intro i h1 h2
    have hi : i < ops.size := by rw [← h.size]; exact h1
    have hg : listed.getD i true = listed[i] := by simp [Array.getD, h1]
    by_cases hik : i < k
    · rw [← hg, ha i hik, Array.getElem_append_left (by simpa using hik)]
      simp
    · rw [← hg, h.post i (by omega) hi, Array.getElem_append_right (by simp; omega)]
      simp
end
section
variable {F : Fence} {n : Nat} {P : Program} {ops ops' : Array Oper} {k : Nat} {C : World → Prop} {Q : Exit → Act → World → Prop} {Qa : Act → Prop}
theorem wanted_pre (hops : ∀ i, i < k → ops'[i]? = ops[i]?) {o : Oper} (hg : ∀ g b, o.guard = some (g, b) → g < k) (t : Array Value) : Region.wanted o (yielded ops' t) = Region.wanted o (yielded ops t) := by
  unfold Region.wanted
  cases hq : o.guard with
  | none => rfl
  | some p =>
    obtain ⟨g, b⟩ := p
    dsimp only
    unfold yielded
    rw [hops g (hg g b hq)]
theorem any_of_pre (hro : F.round = none) (hp : preB ops k = true) (hops : ∀ i, i < k → ops'[i]? = ops[i]?) (hsz : ops'.size = k)
    (hfin : ∀ f a w, C w → Qa a → wpAnyIn F n P .any ops Q (f + (ops.size - k)) (Array.replicate k true ++ Array.replicate (ops.size - k) false) a w) :
    ∀ (fuel : Nat) (listed : Array Bool) (a : Act) (w : World), LsAt ops k listed → C w → wpAnyQIn F n P .any ops' C Qa fuel listed a → wpAnyIn F n P .any ops Q (fuel + (ops.size - k)) listed a w := by
  obtain ⟨A, B, L, hs⟩ := pre_spec hp
  intro fuel
  induction fuel with
  | zero =>
    intro listed a w hl hC h
    have e := hl.fin (by omega) (hl.some hp hops hsz h.1)
    rw [e]
    exact hfin 0 a w hC h.2
  | succ fuel ih =>
    intro listed a w hl hC h
    by_cases hr : Region.ready .any ops' listed = []
    · have e := hl.fin (by omega) (hl.some hp hops hsz hr)
      have hq := h.1 hr
      rw [e]
      exact hfin (fuel + 1) a w hC hq
    · -- one may come up
      obtain ⟨i0, hi0⟩ := List.exists_mem_of_ne_nil _ hr
      have e0 := (mem_ready.1 hi0).1
      have k0 : i0 < k := by
        obtain ⟨_, o, ho, _⟩ := mem_ready.1 hi0
        rw [← hsz]
        exact (Array.getElem?_eq_some_iff.1 ho).1
      have up : ∀ j, j ∈ Region.ready .any ops' listed → j ∈ Region.ready .any ops listed := fun j hj => by
        obtain ⟨a1, o, a2, a3⟩ := mem_ready.1 hj
        have hjk : j < k := by rw [← hsz]; exact (Array.getElem?_eq_some_iff.1 a2).1
        exact mem_ready.2 ⟨a1, o, (hops j hjk).symm.trans a2, a3⟩
      rw [show fuel + 1 + (ops.size - k) = (fuel + (ops.size - k)) + 1 by omega]
      refine ⟨fun hn => by rw [hn] at up; exact absurd (up i0 hi0) (by simp), fun j hj => ?_⟩
      have hjk := hl.early hp k0 e0 hj
      obtain ⟨b1, o, b2, b3⟩ := mem_ready.1 hj
      have hq := h.2 j (mem_ready.2 ⟨b1, o, (hops j hjk).trans b2, b3⟩)
      have hln := hl.next hj hjk
      obtain ⟨o2, c1, _, c2⟩ := L j hjk
      obtain rfl := Option.some.inj (c1.symm.trans b2)
      unfold qOpIn at hq
      rw [hops j hjk, b2] at hq
      dsimp only at hq
      unfold wpOpIn
      rw [b2]
      dsimp only
      rw [wanted_pre hops c2] at hq
      split
      · rename_i hw
        simp only [hw, if_true] at hq
        exact Oper.wpIn_of_quiet hro hC (fun a' w' hC' hK => ih _ a' w' hln hC' hK) hq.1 hq.2
      · rename_i hw
        simp only [hw] at hq
        exact ⟨hq.1 w hC, ih _ _ w hln hC hq.2⟩
/-- THE REGION: its first k operations once, in the text's order; then the others in whatever order -/
theorem wpIn_region_pre {id : Nat} {a : Act} {w : World} (k : Nat) (hro : F.round = none) (hm : P.follows .mixedOrders = true) (hp : preB ops k = true) (hsz : ops'.size = k) (hops : ∀ i, i < k → ops'[i]? = ops[i]?)
    (hsel : Region.noSelect ops' = true) (hlex : Region.lexFrom .any ops' k 0 (Array.replicate ops.size false) = true)
    (h : wpQuietIn F n P ops' (fun w' => ∃ m, w' = w.drewN m) (fun a' => ∀ f w', (∃ m, w' = w.drewN m) → wpAnyIn F n P .any ops Q (f + (ops.size - k)) (Array.replicate k true ++ Array.replicate (ops.size - k) false) a' w') ops'.toList a) :
    (Code.region id ops true).wpIn F n P Q a w := by
  obtain ⟨A, B, L, hs⟩ := pre_spec hp
  refine wpIn_region_any hm ?_
  have hq := wpAnyQIn_lex (F := F) (n := n) (P := P) (C := fun w' => ∃ m, w' = w.drewN m) (md := .any) hsel ops'.toList 0 (Array.replicate ops.size false) a (by simp) (by simpa [hsz] using hlex) h
  have := any_of_pre (Q := Q) hro hp hops hsz (fun f a' w' hC hQ => hQ f w' hC) ops'.toList.length (Array.replicate ops.size false) a { w with drawn := w.drawn + 1 } ⟨by simp, fun j _ hj => by simp [Array.getD, hj], fun i o hi ho hd => by
    exfalso
    have : i < ops.size := by omega
    simp [Array.getD, this] at hd⟩ ⟨1, rfl⟩ hq
  have e : ops'.toList.length + (ops.size - k) = ops.size := by rw [Array.length_toList, hsz]; omega
  rw [e] at this
  exact this
/-- one behind the other -/
def chainB (ops : Array Oper) : Nat → Nat → Array Bool → Bool
  | 0, _, listed => (Region.ready .any ops listed).isEmpty
  | m + 1, k, listed => (Region.ready .any ops listed == [k]) && chainB ops m (k + 1) (listed.setIfInBounds k true)
theorem any_of_chain : ∀ (l : List Oper) (k : Nat) (listed : Array Bool) (a : Act) (w : World) (f : Nat), (∀ j, l[j]? = ops[k + j]?) → chainB ops l.length k listed = true → wpListIn F n P ops Q l a w → wpAnyIn F n P .any ops Q (f + l.length) listed a w
  | [], k, listed, a, w, f, _, hc, h => wpAnyIn_done (by simpa [chainB] using hc) h _
  | o :: l, k, listed, a, w, f, hl, hc, h => by
    simp only [chainB, List.length_cons, Bool.and_eq_true, beq_iff_eq] at hc
    have h0 : ops[k]? = some o := by simpa using (hl 0).symm
    rw [List.length_cons, ← Nat.add_assoc]
    refine ⟨fun e => (by rw [hc.1] at e; cases e), fun i hi => ?_⟩
    rw [hc.1] at hi
    obtain rfl : i = k := by simpa using hi
    have ih := fun a w => any_of_chain l (i + 1) (listed.setIfInBounds i true) a w f (fun j => by have := hl (j + 1); simpa [Nat.add_assoc, Nat.add_comm 1 j] using this) hc.2
    unfold wpListIn at h
    unfold wpOpIn
    rw [h0]
    dsimp only
    split
    · rename_i hw
      simp only [hw, if_true] at h
      exact Oper.wpIn_mono ih h
    · rename_i hw
      simp only [hw] at h
      exact ⟨h.1, ih _ _ h.2⟩
theorem wpIn_region_pre_lit {id : Nat} {l : List Oper} {a : Act} {w : World} (k : Nat) (hro : F.round = none) (hm : P.follows .mixedOrders = true) (hp : preB l.toArray k = true)
    (hsel : Region.noSelect (l.take k).toArray = true) (hlex : Region.lexFrom .any (l.take k).toArray k 0 (Array.replicate l.length false) = true)
    (h : wpQuietIn F n P (l.take k).toArray (fun w' => ∃ m, w' = w.drewN m) (fun a' => ∀ f w', (∃ m, w' = w.drewN m) → wpAnyIn F n P .any l.toArray Q (f + (l.length - k)) (Array.replicate k true ++ Array.replicate (l.length - k) false) a' w') (l.take k) a) :
    (Code.region id l.toArray true).wpIn F n P Q a w := by
  have hk : k < l.length := by simpa using (pre_spec hp).2.2.2
  exact wpIn_region_pre (ops' := (l.take k).toArray) k hro hm hp (by simp; omega) (fun i hi => by simp [List.getElem?_take_of_lt hi]) hsel (by simpa using hlex) (by simpa using h)
theorem wpIn_region_pre2 {id : Nat} {l : List Oper} {a : Act} {w : World} (k : Nat) (hro : F.round = none) (hm : P.follows .mixedOrders = true) (hp : preB l.toArray k = true)
    (hsel : Region.noSelect (l.take k).toArray = true) (hlex : Region.lexFrom .any (l.take k).toArray k 0 (Array.replicate l.length false) = true)
    (hch : chainB l.toArray (l.length - k) k (Array.replicate k true ++ Array.replicate (l.length - k) false) = true)
    (h : wpQuietIn F n P (l.take k).toArray (fun w' => ∃ m, w' = w.drewN m) (fun a' => ∀ w', (∃ m, w' = w.drewN m) → wpListIn F n P l.toArray Q (l.drop k) a' w') (l.take k) a) :
    (Code.region id l.toArray true).wpIn F n P Q a w := by
  have hk : k < l.length := by simpa using (pre_spec hp).2.2.2
  refine wpIn_region_pre_lit k hro hm hp hsel hlex ?_
  have mono : ∀ (L : List Oper) (a : Act) (Q1 Q2 : Act → Prop), (∀ a, Q1 a → Q2 a) → wpQuietIn F n P (l.take k).toArray (fun w' => ∃ m, w' = w.drewN m) Q1 L a → wpQuietIn F n P (l.take k).toArray (fun w' => ∃ m, w' = w.drewN m) Q2 L a := by
    intro L
    induction L with
    | nil => intro a Q1 Q2 h1 h2; exact h1 _ h2
    | cons o L ih =>
      intro a Q1 Q2 h1 h2
      unfold wpQuietIn at h2 ⊢
      refine ⟨h2.1, ?_⟩
      have h3 := h2.2
      split
      · rename_i hw
        simp only [hw, if_true] at h3
        exact Oper.quietIn_mono (fun a h => ih a Q1 Q2 h1 h) h3
      · rename_i hw
        simp only [hw] at h3
        exact ih _ Q1 Q2 h1 h3
  refine mono _ _ _ _ (fun a' h1 f w' hw => ?_) h
  have := any_of_chain (F := F) (n := n) (P := P) (Q := Q) (ops := l.toArray) (l.drop k) k _ a' w' f (fun j => by simp) (by simpa using hch) (h1 w' hw)
  simpa using this
end
end Go.Proofs.YtlfepdecgfcifaaDoor
