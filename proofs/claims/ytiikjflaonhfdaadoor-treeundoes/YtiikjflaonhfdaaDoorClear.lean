/- The end of a row is cleared, and cut off. -/
import Derived.Test.YtiikjflaonhfdaaDoorRow
namespace Go.Proofs.YtiikjflaonhfdaaDoor
open Go.RowKit

section
variable {P : Program}
theorem clear_tail (w : World) (M : Nat → Lab) (l : Lab) (t e : TypeId) (z : Value) (size : Nat) (ht : P.underlying t = some (.slice e)) (hv : ∀ w, (zeroValue e).run P w = .ok z w) (hzs : z.cells.size = size) (hz1 : ∀ u ∈ z.cells.toList, u.oneCell' = true) (hsz : 0 < size)
    (g n k cap c : Nat) (xs ys : List Value) (hr : Row w M l e size (.slice (some ⟨g, 0, none⟩) (n + k) cap) (n + k) (xs ++ ys)) (hx : xs.length = n * size) (hk : 0 < k) (hfr : ∀ b, w.heap.size ≤ b → M b = .other) :
    ∃ w', (∀ ty, (Builtin.clear_ #[t] ty #[.slice (some ⟨g, n * size, none⟩) k c]).run P w = .ok (.tuple #[]) w') ∧ Row w' M l e size (.slice (some ⟨g, 0, none⟩) n cap) n xs ∧ Step w M w' M l := by
  obtain ⟨hl, a, cap', hv', h1, h2, h3⟩ := hr
  cases hv'
  rcases h3 with ⟨h3, _⟩ | ⟨g', cur, ha, hM, hg, h4, h5⟩
  · omega
  · cases ha
    have hzl : (Builtin.zeroCells z.cells k).toList.length = k * size := by simp [size_zeroCells, hzs]
    have hfit : n * size + k * size ≤ cur.size := by
      rw [← Nat.add_mul]
      exact Nat.le_trans (Nat.mul_le_mul_right _ h1) h4
    have hone : ∀ u ∈ (Builtin.zeroCells z.cells k).toList, u.oneCell' = true := by
      intro u hu
      simp only [Builtin.zeroCells, Array.toList_map, List.mem_map] at hu
      obtain ⟨j, hj, rfl⟩ := hu
      have hjs : j % z.cells.size < z.cells.size := Nat.mod_lt _ (by omega)
      rw [getElem!_pos z.cells _ hjs]
      exact hz1 _ (by simp)
    have hst := run_storeCells_at P g (n * size) e (Builtin.zeroCells z.cells k).toList 0 cur w hg (by rw [hzl]; simpa using hfit) hone
    rw [Nat.add_zero, hzl] at hst
    refine ⟨w.setRow g (cur.toList.take (n * size) ++ (Builtin.zeroCells z.cells k).toList ++ cur.toList.drop (n * size + k * size)).toArray, fun ty => ?_, ⟨hx, _, cap, rfl, by omega, h2, .inr ⟨g, _, rfl, hM, setRow_heap w g cur _ e _ hg, ?_, ?_⟩⟩, ⟨rfl, rfl, rfl, by simp [World.setRow], fun _ _ => rfl, ?_, ?_⟩⟩
    · obtain ⟨k', rfl⟩ : ∃ k', k = k' + 1 := ⟨k - 1, by omega⟩
      simp [Builtin.clear_, run_underlying ht, hv, hst]
    · simp only [List.size_toArray, List.length_append, List.length_take, List.length_drop, Array.length_toList, hzl]
      omega
    · have := congrArg (List.take (n * size)) h5
      rw [List.take_take, List.take_append_of_le_length (by omega), List.take_of_length_le (l := xs) (by omega), Nat.min_eq_left (Nat.mul_le_mul_right _ (by omega))] at this
      simp only [List.append_assoc]
      rw [List.take_append_of_le_length (by simp; omega), List.take_take, Nat.min_self, this]
    · intro b hb
      exact hfr b (by simpa [World.setRow] using hb)
    · intro b hb hne
      exact setRow_other w g b _ (fun e => hne (by rw [e]; exact hM))

theorem step_clear (w : World) {ops : Array Oper} {o : Oper} {a : Act} {K : Act → World → Prop} {Q : Exit → Act → World → Prop} {E : Prop} (hgd : o.guard = none) (x : Operand) (t : TypeId)
    (ho : o.op = .call { callee := .builtin .clear, args := #[x], argTypes := #[t] }) (v : Value) (hx : a.eval x = v) (w' : World) (hr : ∀ ty, (Builtin.clear_ #[t] ty #[v]).run P w = .ok (.tuple #[]) w')
    (h : K (a.put o.dst (.tuple #[])) w') : if Region.wanted o (yielded ops a.tmps) = true then Oper.wp P o a w K Q else E := by
  have hw : Region.wanted o (yielded ops a.tmps) = true := by simp [Region.wanted, hgd]
  rw [if_pos hw]
  unfold Oper.wp execOp
  simp only [ho, resolve, invoke, builtin, Sem.run_bind, Sem.run_pure, Result.andThen_ok, List.map_toArray, List.map_cons, List.map_nil, hx, hr]
  exact h
end
end Go.Proofs.YtiikjflaonhfdaaDoor
