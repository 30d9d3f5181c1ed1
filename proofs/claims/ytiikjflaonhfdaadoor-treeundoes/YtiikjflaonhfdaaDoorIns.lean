/- A row that is copied into, and a row that is made anew with room behind its beginning: for slices.Insert. -/
import Derived.Test.YtiikjflaonhfdaaDoorRow
namespace Go.Proofs.YtiikjflaonhfdaaDoor
open Go.RowKit

section
variable {P : Program}
/-- so many elements are laid into a row, from the d-th on -/
theorem copy_row (w : World) (M : Nat → Lab) (l : Lab) (t t2 e : TypeId) (i : TypeInfo) (size : Nat) (ht : P.underlying t = some (.slice e)) (hi : P.info? e = some i) (hsize : i.size = size)
    (g n cap d m dc sl sc : Nat) (xs : List Value) (hr : Row w M l e size (.slice (some ⟨g, 0, none⟩) n cap) n xs) (A : Addr) (news : List Value) (hln : news.length = m * size) (hm : m = Nat.min sl (n - d)) (hd : d + m ≤ n) (hn : 0 < n)
    (hnews : ∀ j u, news[j]? = some u → w.cell? (A.add j) = some u) (h1 : ∀ u ∈ news, u.oneCell' = true) (hfr : ∀ b, w.heap.size ≤ b → M b = .other) :
    ∃ w1, (∀ ty, (Builtin.copy_ #[t, t2] ty #[.slice (some ⟨g, d * size, none⟩) (n - d) dc, .slice (some A) sl sc]).run P w = .ok (goInt m) w1) ∧
      Row w1 M l e size (.slice (some ⟨g, 0, none⟩) n cap) n (xs.take (d * size) ++ news ++ xs.drop ((d + m) * size)) ∧ Step w M w1 M l ∧ ∀ b, b ≠ g → w1.heap[b]? = w.heap[b]? := by
  subst hsize
  obtain ⟨hl, a, cap', hv, c1, c2, c3⟩ := hr
  cases hv
  rcases c3 with ⟨c3, _⟩ | ⟨g', cur, ha, hM, hg, c4, c5⟩
  · omega
  · cases ha
    have e1 : (d + m) * i.size ≤ n * i.size := Nat.mul_le_mul_right _ hd
    have e2 : (d + m) * i.size = d * i.size + m * i.size := Nat.add_mul _ _ _
    have e3 : n * i.size ≤ cap * i.size := Nat.mul_le_mul_right _ c1
    have hst := run_storeCells_at P g (d * i.size) e news 0 cur w hg (by rw [hln]; omega) h1
    rw [Nat.add_zero, hln, ← e2] at hst
    have hfc := run_firstCells_some (P := P) w i.size m A sl sc news hln hnews
    refine ⟨w.setRow g (cur.toList.take (d * i.size) ++ news ++ cur.toList.drop ((d + m) * i.size)).toArray, fun ty => ?_, ⟨?_, some ⟨g, 0, none⟩, cap, rfl, c1, c2, .inr ⟨g, _, rfl, hM, setRow_heap w g cur _ e _ hg, ?_, ?_⟩⟩, ⟨rfl, rfl, rfl, by simp [World.setRow], fun _ _ => rfl, ?_, ?_⟩, fun b hb => setRow_other w g b _ hb⟩
    · simp [Builtin.copy_, run_underlying ht, Builtin.lenOf, sizeOf, typeInfo, hi, ← hm, hfc, hst]
    · simp only [List.length_append, List.length_take, hln, List.length_drop, hl]
      omega
    · simp only [List.size_toArray, List.length_append, List.length_take, List.length_drop, Array.length_toList, hln]
      omega
    · have ht1 : cur.toList.take (d * i.size) = xs.take (d * i.size) := by rw [← c5, List.take_take, Nat.min_eq_left (by omega)]
      have hA : (xs.take (d * i.size) ++ news).length = (d + m) * i.size := by rw [List.length_append, List.length_take, hln, hl, e2]; omega
      have e4 : n * i.size = (xs.take (d * i.size) ++ news).length + (n * i.size - (d + m) * i.size) := by rw [hA]; omega
      rw [ht1, e4, List.take_length_add_append, ← c5, List.drop_take, c5]
    · intro b hb
      exact hfr b (by simpa [World.setRow] using hb)
    · intro b hb hne
      exact setRow_other w g b _ (fun e => hne (by rw [e]; exact hM))

/-- 'append(s[:k], make(S, n + 1 - k)...)' where the capacity does not bear it: a row of its own -/
theorem app_zeros (w : World) (M : Nat → Lab) (l : Lab) (t t2 e : TypeId) (i : TypeInfo) (z : Value) (size bytes : Nat) (kd : IntKind) (ht : P.underlying t = some (.slice e)) (ht2 : P.underlying t2 = some (.int kd)) (hi : P.info? e = some i) (hz : i.zero = some z)
    (hsize : i.size = size) (hby : i.bytes = bytes) (hzs : z.cells.size = size) (hsz : 0 < size)
    (g n cap k : Nat) (xs : List Value) (hr : Row w M l e size (.slice (some ⟨g, 0, none⟩) n cap) n xs) (hk : k ≤ n) (hc : cap < n + 1) (h63 : n + 1 ≤ maxLen) (hbytes : (n + 1) * bytes ≤ 140737488355328) (hfr : ∀ b, w.heap.size ≤ b → M b = .other) :
    ∃ cap' w' M', (∀ ty, (Builtin.append_ #[t, t2] ty #[.slice (some ⟨g, 0, none⟩) k cap, .int .i64 ((n + 1 - k : Nat) : Int)]).run P w = .ok (.slice (some ⟨w.heap.size, 0, none⟩) (n + 1) cap') w') ∧
      Row w' M' l e size (.slice (some ⟨w.heap.size, 0, none⟩) (n + 1) cap') (n + 1) (xs.take (k * size) ++ (Builtin.zeroCells z.cells (n + 1 - k)).toList) ∧ Step w M w' M' l ∧ M' w.heap.size = l ∧ ∀ b, b < w.heap.size → w'.heap[b]? = w.heap[b]? := by
  subst hsize
  subst hby
  have hcell := fun {j u} (h : xs[j]? = some u) => (hr.cell rfl h).1
  obtain ⟨hl, a, cap2, hv, c1, c2, _⟩ := hr
  cases hv
  unfold maxLen at h63
  obtain ⟨q, hq⟩ : ∃ q, n + 1 - k = q := ⟨_, rfl⟩
  have hkq : k + q = n + 1 := by omega
  have hq0 : 0 < q := by omega
  rw [hq]
  have hwrap : IntKind.i64.wrap (q : Int) = (q : Int) := by
    rw [IntKind.wrap_i64]
    omega
  have hneg : ¬ ((q : Int) < 0) := by omega
  have hqb : q * i.bytes ≤ (n + 1) * i.bytes := Nat.mul_le_mul_right _ (by omega)
  have hbig : ¬ (281474976710656 < (q : Int) * (i.bytes : Int)) := by
    have : ((q * i.bytes : Nat) : Int) ≤ 140737488355328 := by omega
    push_cast at this
    omega
  have hn : ¬ (k + q ≤ cap) := by omega
  have h63' : ¬ (9223372036854775807 < ((k : Int) + (q : Int))) := by omega
  have hfit := growslice_fits (need := k + q) (old := cap) (bytes := i.bytes) (by omega) (by rw [hkq]; exact hbytes)
  have h48' : ¬ (281474976710656 < Builtin.nextslicecap (k + q) cap * i.bytes) := by omega
  have hold := run_firstCells_some (P := P) w.drew i.size k ⟨g, 0, none⟩ k cap (xs.take (k * i.size)) (by
    rw [List.length_take, hl]
    have : k * i.size ≤ n * i.size := Nat.mul_le_mul_right _ hk
    omega) (by
    intro j u hu
    have hadd : (⟨g, 0, none⟩ : Addr).add j = ⟨g, j, none⟩ := by unfold Addr.add; split <;> simp_all
    rw [hadd]
    rw [List.getElem?_take] at hu
    split at hu
    · exact hcell hu
    · cases hu)
  have hqs : ¬ (q * i.size = 0) := by
    have := Nat.mul_pos hq0 hsz
    omega
  have hrun : ∀ ty, (Builtin.append_ #[t, t2] ty #[.slice (some ⟨g, 0, none⟩) k cap, .int .i64 (q : Int)]).run P w = .ok (.slice (some ⟨w.heap.size, 0, none⟩) (k + q) (grownCap w (k + q) cap e)) (w.drew.alloc (.cells ((xs.take (k * i.size)).toArray ++ Builtin.zeroCells z.cells q ++ Builtin.zeroCells z.cells (grownCap w (k + q) cap e - (k + q))) e)) := by
    intro ty
    simp [Builtin.append_, run_underlying ht, run_underlying ht2, sizeOf, typeInfo, zeroValue, hi, hz, asInt, asIntOf, hwrap, hneg, hbig, hn, h63', h48', Question.forced, hold, newRow, grownCap]
    exact fun h => absurd h hqs
  have hge := grownCap_ge w (k + q) cap e
  have hcm : grownCap w (k + q) cap e ≤ maxLen := grownCap_le_maxLen w (k + q) cap e (by unfold maxLen; omega)
  have hlen1 : (xs.take (k * i.size)).length = k * i.size := by
    rw [List.length_take, hl]
    have : k * i.size ≤ n * i.size := Nat.mul_le_mul_right _ hk
    omega
  have hlen : (xs.take (k * i.size) ++ (Builtin.zeroCells z.cells q).toList).length = (k + q) * i.size := by
    rw [List.length_append, hlen1, Array.length_toList, size_zeroCells, hzs, Nat.add_mul]
  rw [← hkq]
  refine ⟨_, _, fun b => if b = w.heap.size then l else M b, hrun, ⟨hlen, some ⟨w.heap.size, 0, none⟩, _, rfl, hge, hcm, .inr ⟨w.heap.size, _, rfl, by simp, heap_alloc_new w.drew _, ?_, ?_⟩⟩, ⟨rfl, rfl, rfl, by simp, ?_, ?_, fun b hb _ => heap_alloc_old w.drew _ b hb⟩, by simp, fun b hb => heap_alloc_old w.drew _ b hb⟩
  · simp only [Array.size_append, List.size_toArray, size_zeroCells, hzs, hlen1, ← Nat.add_mul]
    exact Nat.mul_le_mul_right _ (by omega)
  · rw [Array.toList_append, Array.toList_append, ← hlen]
    exact List.take_left
  · intro b hb
    have : b ≠ w.heap.size := by omega
    simp [this]
  · intro b hb
    have hb' : w.heap.size + 1 ≤ b := by simpa using hb
    have : b ≠ w.heap.size := by omega
    simp [this]
    exact hfr b (by omega)

/-- a builtin of two operands, by its run -/
theorem wpList_append_run (w : World) {ops : Array Oper} {rest : List Oper} {o : Oper} {a : Act} {Q : Exit → Act → World → Prop} (hgd : o.guard = none) (s x : Operand) (t t2 : TypeId)
    (ho : o.op = .call { callee := .builtin .append, args := #[s, x], argTypes := #[t, t2] }) (v u : Value) (hs : a.eval s = v) (hx : a.eval x = u) (r : Value) (w' : World) (hr : ∀ ty, (Builtin.append_ #[t, t2] ty #[v, u]).run P w = .ok r w')
    (h : wpList P ops Q rest (a.put o.dst r) w') : wpList P ops Q (o :: rest) a w := by
  refine wpList_plain hgd fun K hK => ?_
  unfold Oper.wp execOp
  simp only [ho, resolve, invoke, builtin, Sem.run_bind, Sem.run_pure, Result.andThen_ok, List.map_toArray, List.map_cons, List.map_nil, hs, hx, hr]
  exact hK _ _ h
theorem wpList_copy_run (w : World) {ops : Array Oper} {rest : List Oper} {o : Oper} {a : Act} {Q : Exit → Act → World → Prop} (hgd : o.guard = none) (s x : Operand) (t t2 : TypeId)
    (ho : o.op = .call { callee := .builtin .copy, args := #[s, x], argTypes := #[t, t2] }) (v u : Value) (hs : a.eval s = v) (hx : a.eval x = u) (r : Value) (w' : World) (hr : ∀ ty, (Builtin.copy_ #[t, t2] ty #[v, u]).run P w = .ok r w')
    (h : wpList P ops Q rest (a.put o.dst r) w') : wpList P ops Q (o :: rest) a w := by
  refine wpList_plain hgd fun K hK => ?_
  unfold Oper.wp execOp
  simp only [ho, resolve, invoke, builtin, Sem.run_bind, Sem.run_pure, Result.andThen_ok, List.map_toArray, List.map_cons, List.map_nil, hs, hx, hr]
  exact hK _ _ h
theorem step_copy_run (w : World) {ops : Array Oper} {o : Oper} {a : Act} {K : Act → World → Prop} {Q : Exit → Act → World → Prop} {E : Prop} (hgd : o.guard = none) (s x : Operand) (t t2 : TypeId)
    (ho : o.op = .call { callee := .builtin .copy, args := #[s, x], argTypes := #[t, t2] }) (v u : Value) (hs : a.eval s = v) (hx : a.eval x = u) (r : Value) (w' : World) (hr : ∀ ty, (Builtin.copy_ #[t, t2] ty #[v, u]).run P w = .ok r w')
    (h : K (a.put o.dst r) w') : if Region.wanted o (yielded ops a.tmps) = true then Oper.wp P o a w K Q else E := by
  have hw : Region.wanted o (yielded ops a.tmps) = true := by simp [Region.wanted, hgd]
  rw [if_pos hw]
  unfold Oper.wp execOp
  simp only [ho, resolve, invoke, builtin, Sem.run_bind, Sem.run_pure, Result.andThen_ok, List.map_toArray, List.map_cons, List.map_nil, hs, hx, hr]
  exact h
end
end Go.Proofs.YtiikjflaonhfdaaDoor
