/- slices.Delete of one element: of numbers, and of attributes. -/
import Derived.Test.YtjfklhfdonbpgaaGreatDoorM00
import Derived.Deep.RegionLaw
namespace Go.Proofs.YtjfklhfdonbpgaaGreatDoor
open Go.RowKit

/-- where 's[j:]' begins -/
def cutAt (g size cap j : Nat) : Option Addr := if cap = j then some ⟨g, 0, none⟩ else some ⟨g, j * size, none⟩

section
variable {P : Program}
/-- the elements behind the k-th are moved to the left -/
theorem del_row (w : World) (M : Nat → Lab) (l : Lab) (t e : TypeId) (i : TypeInfo) (size : Nat) (ht : P.underlying t = some (.slice e)) (hi : P.info? e = some i) (hsize : i.size = size)
    (g n cap k : Nat) (xs : List Value) (hr : Row w M l e size (.slice (some ⟨g, 0, none⟩) n cap) n xs) (hk : k < n) (h1 : ∀ u ∈ xs, u.oneCell' = true) (hfr : ∀ b, w.heap.size ≤ b → M b = .other) :
    ∃ w1, (∀ ty, (Builtin.append_ #[t, t] ty #[.slice (some ⟨g, 0, none⟩) k cap, .slice (cutAt g size cap (k + 1)) (n - (k + 1)) (cap - (k + 1))]).run P w = .ok (.slice (some ⟨g, 0, none⟩) (n - 1) cap) w1) ∧
      Row w1 M l e size (.slice (some ⟨g, 0, none⟩) (n - 1 + 1) cap) (n - 1 + 1) ((xs.take (k * size) ++ xs.drop ((k + 1) * size)) ++ xs.drop ((n - 1) * size)) ∧ Step w M w1 M l := by
  subst hsize
  have hcell := fun {j u} (h : xs[j]? = some u) => (hr.cell rfl h).1
  obtain ⟨hl, a, cap', hv, c1, c2, c3⟩ := hr
  cases hv
  rcases c3 with ⟨c3, _⟩ | ⟨g', cur, ha, hM, hg, c4, c5⟩
  · omega
  · cases ha
    have e1 : (k + 1) * i.size ≤ n * i.size := Nat.mul_le_mul_right _ (by omega)
    have e2 : k * i.size + i.size = (k + 1) * i.size := by rw [Nat.add_mul, Nat.one_mul]
    have e3 : n * i.size ≤ cap * i.size := Nat.mul_le_mul_right _ c1
    have e4 : (n - 1) * i.size + i.size = n * i.size := by rw [← Nat.succ_mul]; congr 1; omega
    have e5 : (n - (k + 1)) * i.size = n * i.size - (k + 1) * i.size := Nat.sub_mul _ _ _
    have hln : (xs.drop ((k + 1) * i.size)).length = (n - (k + 1)) * i.size := by rw [List.length_drop, hl, e5]
    have main : ∃ A : Addr, cutAt g i.size cap (k + 1) = some A ∧ ∀ j u, (xs.drop ((k + 1) * i.size))[j]? = some u → w.cell? (A.add j) = some u := by
      unfold cutAt
      split
      · refine ⟨_, rfl, fun j u hu => ?_⟩
        have : (xs.drop ((k + 1) * i.size)).length = 0 := by rw [hln, show n - (k + 1) = 0 by omega, Nat.zero_mul]
        rw [List.length_eq_zero_iff.1 this] at hu
        simp at hu
      · refine ⟨_, rfl, fun j u hu => ?_⟩
        have hadd : (⟨g, (k + 1) * i.size, none⟩ : Addr).add j = ⟨g, (k + 1) * i.size + j, none⟩ := by unfold Addr.add; split <;> simp_all
        rw [hadd]
        rw [List.getElem?_drop] at hu
        exact hcell hu
    obtain ⟨A, hA, hnews⟩ := main
    rw [hA]
    have hfit : k * i.size + (xs.drop ((k + 1) * i.size)).length ≤ cur.size := by rw [hln, e5]; omega
    have hrun := fun ty => run_append_room (P := P) w t ty e i ht hi g k cap cur hg A (n - (k + 1)) (cap - (k + 1)) (xs.drop ((k + 1) * i.size)) hln hnews (fun u hu => h1 u (List.mem_of_mem_drop hu)) (by omega) hfit
    refine ⟨_, fun ty => by rw [hrun ty]; congr 2; omega, ⟨?_, some ⟨g, 0, none⟩, cap, rfl, by omega, c2, .inr ⟨g, _, rfl, hM, setRow_heap w g cur _ e _ hg, ?_, ?_⟩⟩, ⟨rfl, rfl, rfl, by simp [World.setRow], fun _ _ => rfl, ?_, ?_⟩⟩
    · simp only [List.length_append, List.length_take, hln, List.length_drop, hl]
      rw [show n - 1 + 1 = n by omega]
      omega
    · simp only [List.size_toArray, List.length_append, List.length_take, List.length_drop, Array.length_toList, hln]
      omega
    · have hcur : ∀ m, m ≤ n * i.size → cur.toList.take m = xs.take m := by
        intro m hm
        rw [← c5, List.take_take, Nat.min_eq_left hm]
      have hlast : (cur.toList.drop (k * i.size + (xs.drop ((k + 1) * i.size)).length)).take i.size = xs.drop ((n - 1) * i.size) := by
        rw [hln, show k * i.size + (n - (k + 1)) * i.size = (n - 1) * i.size by rw [e5]; omega, ← c5, List.drop_take]
        congr 1
        omega
      rw [hcur _ (by omega)]
      have hA2 : (xs.take (k * i.size) ++ xs.drop ((k + 1) * i.size)).length = (n - 1) * i.size := by
        rw [List.length_append, List.length_take, hln, hl, e5]; omega
      rw [show n - 1 + 1 = n by omega, ← e4, ← hA2, List.take_length_add_append, hlast, hA2]
    · intro b hb
      exact hfr b (by simpa [World.setRow] using hb)
    · intro b hb hne
      exact setRow_other w g b _ (fun e => hne (by rw [e]; exact hM))

theorem step_append_run (w : World) {ops : Array Oper} {o : Oper} {a : Act} {K : Act → World → Prop} {Q : Exit → Act → World → Prop} {E : Prop} (hgd : o.guard = none) (s x : Operand) (t : TypeId)
    (ho : o.op = .call { callee := .builtin .append, args := #[s, x], argTypes := #[t, t] }) (v u : Value) (hs : a.eval s = v) (hx : a.eval x = u) (r : Value) (w' : World) (hr : ∀ ty, (Builtin.append_ #[t, t] ty #[v, u]).run P w = .ok r w')
    (h : K (a.put o.dst r) w') : if Region.wanted o (yielded ops a.tmps) = true then Oper.wp P o a w K Q else E := by
  have hw : Region.wanted o (yielded ops a.tmps) = true := by simp [Region.wanted, hgd]
  rw [if_pos hw]
  unfold Oper.wp execOp
  simp only [ho, resolve, invoke, builtin, Sem.run_bind, Sem.run_pure, Result.andThen_ok, List.map_toArray, List.map_cons, List.map_nil, hs, hx, hr]
  exact h
end

theorem zeroInt (w : World) : (zeroValue 3).run Tryz.prog w = .ok (.int .i64 0) w := by
  obtain ⟨i0, hi, hz0, hz1, hz2⟩ := info_parts Tryz.infoInt
  simp [zeroValue, typeInfo, hi, hz0]

theorem erase_ints (xs : List Int) (k : Nat) : (xs.eraseIdx k).map intV = (xs.map intV).take (k * 1) ++ (xs.map intV).drop ((k + 1) * 1) := by
  rw [Nat.mul_one, Nat.mul_one, List.eraseIdx_eq_take_drop_succ, List.map_append, List.map_take, List.map_drop]

set_option maxHeartbeats 4000000 in
set_option maxRecDepth 100000 in
theorem deleteI_any {w : World} {M : Nat → Lab} {l : Lab} {g m cap : Nat} {xs : List Int} (h : Row w M l 3 1 (.slice (some ⟨g, 0, none⟩) (m + 1) cap) (m + 1) (xs.map intV)) (k : Nat) (hk : k < m + 1) (hf : ∀ b, w.heap.size ≤ b → M b = .other) :
    Calls Tryz.prog 91 #[.slice (some ⟨g, 0, none⟩) (m + 1) cap, .int .i64 k, .int .i64 ((k : Int) + 1)] w fun e w' => e = .returned (.slice (some ⟨g, 0, none⟩) m cap) ∧ Row w' M l 3 1 (.slice (some ⟨g, 0, none⟩) m cap) m ((xs.eraseIdx k).map intV) ∧ Step w M w' M l := by
  obtain ⟨i0, hi, hz0, hz1, hz2⟩ := info_parts Tryz.infoInt
  obtain ⟨a, cap2, hv, hc, hm⟩ := h.shape
  cases hv
  have hd : Row w.drew M l 3 1 (.slice (some ⟨g, 0, none⟩) (m + 1) cap) (m + 1) (xs.map intV) := h
  have hlen : (xs.map intV).length = (m + 1) * 1 := h.1
  obtain ⟨w1, hr1, hrow1, st1⟩ := del_row (P := Tryz.prog) w.drew M l 38 3 i0 1 Tryz.underlying38 hi hz1 g (m + 1) cap k _ hd hk (by
    intro u hu
    obtain ⟨y, _, rfl⟩ := List.mem_map.1 hu
    rfl) hf
  rw [← erase_ints] at hrow1
  have hel : ((xs.eraseIdx k).map intV).length = m * 1 := by
    have hx : xs.length = m + 1 := by simpa using hlen
    rw [List.length_map, List.length_eraseIdx, if_pos (by omega)]
    omega
  obtain ⟨w2, hr2, hrow2, st2⟩ := clear_tail (P := Tryz.prog) w1 M l 38 3 _ 1 Tryz.underlying38 zeroInt rfl (by simp [Value.cells, Value.oneCell']) (by decide) g m 1 cap (cap - m) ((xs.eraseIdx k).map intV) _ hrow1 hel (by decide) st1.fresh
  have HA : Hid (∀ ty, (Builtin.append_ #[38, 38] ty #[.slice (some ⟨g, 0, none⟩) k cap, .slice (cutAt g 1 cap (k + 1)) (m - k) (cap - (k + 1))]).run Tryz.prog w.drew = .ok (.slice (some ⟨g, 0, none⟩) m cap) w1) := by
    intro ty
    have := hr1 ty
    rw [show m + 1 - (k + 1) = m - k by omega, show m + 1 - 1 = m by omega] at this
    exact this
  have hcl : ∀ ty, (Builtin.clear_ #[38] ty #[.slice (some ⟨g, m, none⟩) 1 (cap - m)]).run Tryz.prog w1 = .ok (.tuple #[]) w2 := by
    intro ty
    have := hr2 ty
    rw [Nat.mul_one] at this
    exact this
  have HR : Hid (Row w2 M l 3 1 (.slice (some ⟨g, 0, none⟩) m cap) m ((xs.eraseIdx k).map intV) ∧ Step w M w2 M l) := ⟨hrow2, ⟨st2.os.trans st1.os, st2.tape.trans st1.tape, st2.output.trans st1.output, Nat.le_trans st1.size st2.size, fun b hb => (st2.lab b (Nat.lt_of_lt_of_le hb st1.size)).trans (st1.lab b hb), st2.fresh, fun b hb hne => (st2.far b (Nat.lt_of_lt_of_le hb st1.size) (by rw [st1.lab b hb]; exact hne)).trans (st1.far b hb hne)⟩⟩
  unfold maxLen at hm
  have HC : Hid (cutAt g 1 cap (k + 1) = if cap = k + 1 then some ⟨g, 0, none⟩ else some ⟨g, k + 1, none⟩) := by
    show cutAt _ _ _ _ = _
    simp [cutAt]
  have n1 : ((k : Int) == (k : Int) + 1) = false := by simp; omega
  have n2 : ¬ ((k : Int) = (k : Int) + 1) := by omega
  have n3 : ¬ cap = m := by omega
  have i1 : (k : Int) ≤ (cap : Int) := by omega
  have i2 : (k : Int) + 1 ≤ (m : Int) + 1 := by omega
  have i3 : (m : Int) + 1 ≤ (cap : Int) := by omega
  have i4 : (0 : Int) ≤ (k : Int) := by omega
  have i5 : (0 : Int) ≤ (k : Int) + 1 := by omega
  clear h hf hd hr1 hrow1 st1 hr2 hrow2 st2 hel hlen
  go_enter Tryz.func91, Tryz.ntmps91
  go_wp2_with fail
  go_region_law ((refine step_append_run _ (by rfl) (.tmp 22) (.tmp 25) 38 (by rfl) (.slice (some ⟨g, 0, none⟩) k cap) (.slice (cutAt g 1 cap (k + 1)) (m - k) (cap - (k + 1))) (by simp [Act.eval, Act.put]) (by rw [HC.out]; simp [Act.eval, Act.put]) _ w1 HA.out ?_))
  all_goals go_wp2
  all_goals go_ret
  all_goals go_light
  all_goals first
    | exact ⟨rfl, HR.out.1, HR.out.2⟩
    | (obtain rfl : cap = k + 1 := by assumption
       exact ⟨rfl, HR.out.1, HR.out.2⟩)
end Go.Proofs.YtjfklhfdonbpgaaGreatDoor
