/- What errors.Is and errors.As answer of a fault that bears one of errors.New's make: Is tells the one from another one; As finds the fault. Condition: the type handle of package errors lies as the program's text lays it. -/
import Derived.Test.YtnoaojjljcbflaaGreatDoorM02
import Derived.BigQuiet
namespace Go.Proofs.YtnoaojjljcbflaaGreatDoor
open Go.RowKit Go.Extern.Stop Go.Stop Go.Extern

theorem noIsF (v : Value) (xT : TypeId) (w : World) : (Instr.typeAssert (.iface 69 v) xT 185 true).run Tryz.prog w = .ok (.tuple #[.nilIface, .bool false]) w := run_typeAssert_lacksB Tryz.underlying185 (by kernel_rfl) (by kernel_rfl) v xT w
theorem unwrapF (v : Value) (xT : TypeId) (w : World) : (Instr.typeAssert (.iface 69 v) xT 188 true).run Tryz.prog w = .ok (.tuple #[.iface 69 v, .bool true]) w := run_typeAssert_hasB Tryz.underlying188 (by kernel_rfl) v xT w
theorem methodUnwrap (h : Value) (w : World) : (Go.method 363 69 h "Unwrap").run Tryz.prog w = .ok (216, h) w := by kernel_rfl
theorem eqlF (vx vy : Value) (w : World) : (binOp .eql 33 (.iface 69 vx) (.iface 233 vy)).run Tryz.prog w = .ok (.bool false) w := run_eql_iface_types _ _ vx vy Tryz.underlying33 (by decide) w
theorem eqlN (vx : Value) (w : World) : (binOp .eql 33 (.iface 69 vx) .nilIface).run Tryz.prog w = .ok (.bool false) w := by
  have h : ∀ d : Nat, (Op.equalIn (d + 1) 33 (.iface 69 vx) .nilIface).run Tryz.prog w = .ok false w := fun d => by simp [Op.equalIn, run_underlying Tryz.underlying33]
  simp only [binOp]
  simp [Op.equal, Op.maxDepth, h 9999]

set_option maxHeartbeats 4000000 in
/-- errors.Is(f, x), f a fault that bears x -/
theorem isF_same (fb : Nat) (i : Int) (a : Addr) (w : World) (hf : w.heap[fb]? = some (.cells #[.int .i64 i, .iface 233 (.pointer (some a))] 71 (0, 0))) :
    Calls Tryz.prog 57 #[.iface 69 (.pointer (some ⟨fb, 0, none⟩)), .iface 233 (.pointer (some a))] w fun e w' => e = .returned (.bool true) ∧ w' = w := by
  obtain ⟨k, hi, hcmp⟩ := Option.map_eq_some_iff.1 isComp
  obtain ⟨j, hj, hjs⟩ := Option.map_eq_some_iff.1 isSize
  have h8 := @run_callFunc_extern Tryz.prog 98 _ Extern.ReflectliteType.typeOf Tryz.func98 (by kernel_rfl) (by kernel_rfl) (by kernel_rfl) (by kernel_rfl)
  have h40 := @run_callFunc_extern Tryz.prog 223 _ compF Tryz.func223 (by kernel_rfl) (by kernel_rfl) (by kernel_rfl) (by kernel_rfl)
  have tT := isTypeOf
  have cT := isComparable
  have mR := isMethodComparable
  have nI := noIsF
  have uF := unwrapF
  have mU := methodUnwrap
  have qF := eqlF
  have qN := eqlN
  have heq := run_eql_iface_ptr_same (P := Tryz.prog) w a Tryz.underlying33 Tryz.underlying233 hi hcmp hj
  have c1 : w.cell? ⟨fb, 1, none⟩ = some (.iface 233 (.pointer (some a))) := by rw [cell_of_row w fb 1 _ _ _ hf]; rfl
  go_enter Tryz.func57, Tryz.ntmps57
  go_wp2
  refine wp_loop_rounds 2 ?_
  rw [rounds_succ]
  go_wp2
  rw [rounds_succ]
  go_wp2
  go_ret
  exact ⟨rfl, rfl⟩
end Go.Proofs.YtnoaojjljcbflaaGreatDoor

/- A fault that bears one of errors.New's make: errors.Is with another one; errors.As finds it. -/
namespace Go.Proofs.YtnoaojjljcbflaaGreatDoor
open Go.RowKit Go.Extern.Stop Go.Stop Go.Extern

set_option maxHeartbeats 4000000 in
/-- errors.Is(f, y), f a fault that bears another one -/
theorem isF_other (fb : Nat) (i : Int) (a b : Addr) (ca cb : Array Value) (ta tb : TypeId) (w : World) (hf : w.heap[fb]? = some (.cells #[.int .i64 i, .iface 233 (.pointer (some a))] 71 (0, 0))) (hne : a ≠ b) (ha : w.heap[a.block]? = some (.cells ca ta (0, 0))) (hb : w.heap[b.block]? = some (.cells cb tb (0, 0))) :
    Calls Tryz.prog 57 #[.iface 69 (.pointer (some ⟨fb, 0, none⟩)), .iface 233 (.pointer (some b))] w fun e w' => e = .returned (.bool false) ∧ w' = w := by
  obtain ⟨k, hi, hcmp⟩ := Option.map_eq_some_iff.1 isComp
  obtain ⟨j, hj, hjs⟩ := Option.map_eq_some_iff.1 isSize
  have h8 := @run_callFunc_extern Tryz.prog 98 _ Extern.ReflectliteType.typeOf Tryz.func98 (by kernel_rfl) (by kernel_rfl) (by kernel_rfl) (by kernel_rfl)
  have h40 := @run_callFunc_extern Tryz.prog 223 _ compF Tryz.func223 (by kernel_rfl) (by kernel_rfl) (by kernel_rfl) (by kernel_rfl)
  have tT := isTypeOf
  have cT := isComparable
  have mR := isMethodComparable
  have nI := noIsF
  have uF := unwrapF
  have mU := methodUnwrap
  have qF := eqlF
  have qN := eqlN
  have nE := noIsE
  have uE := noUnwrapE
  have vE := noUnwrapsE
  have heq := run_eql_iface_ptr_other (P := Tryz.prog) w Tryz.underlying33 Tryz.underlying233 hi hcmp hj (by rw [hjs]; decide) hne ha hb
  have c1 : w.cell? ⟨fb, 1, none⟩ = some (.iface 233 (.pointer (some a))) := by rw [cell_of_row w fb 1 _ _ _ hf]; rfl
  go_enter Tryz.func57, Tryz.ntmps57
  go_wp2
  refine wp_loop_rounds 2 ?_
  rw [rounds_succ]
  go_wp2
  rw [rounds_succ]
  go_wp2
  go_ret
  exact ⟨rfl, rfl⟩

theorem isTypeOfF (v : Value) (w : World) : (Extern.ReflectliteType.typeOf #[.iface 69 v]).run Tryz.prog w = .ok (.iface 183 (.agg #[.pointer (some ⟨9, 69, none⟩)])) w := by kernel_rfl
theorem assignable30 (w : World) : (ReflectliteType.relation "AssignableTo" ReflectliteType.assignableTo #[.agg #[.pointer (some ⟨9, 69, none⟩)], .iface 183 (.agg #[.pointer (some ⟨9, 69, none⟩)])]).run Tryz.prog w = .ok (.bool true) w := by kernel_rfl
theorem valueOfF (p : Option Addr) (w : World) : (ReflectliteValue.unpack (.iface 69 (.pointer p))).run Tryz.prog w = .ok (.agg #[.pointer (some ⟨9, 69, none⟩), .pointer (some ⟨w.heap.size, 0, none⟩), .int .u64 150]) (w.alloc (.cells #[.pointer p] 69)) := by kernel_rfl
theorem parts30 (a : Addr) (w : World) : (ReflectliteValue.parts (.agg #[.pointer (some ⟨9, 69, none⟩), .pointer (some a), .int .u64 150])).run Tryz.prog w = .ok (some (69, a, 150)) w := by kernel_rfl
theorem parts30a (a : Addr) (w : World) : (ReflectliteValue.parts (.agg #[.pointer (some ⟨9, 69, none⟩), .pointer (some a), .int .u64 406])).run Tryz.prog w = .ok (some (69, a, 406)) w := by kernel_rfl
theorem mk30 (t : Addr) (w : World) : (ReflectliteValue.mk 69 t 256).run Tryz.prog w = .ok (.agg #[.pointer (some ⟨9, 69, none⟩), .pointer (some t), .int .u64 406]) w := by kernel_rfl
theorem el32 (w : World) : (Rtype.elem? 100).run Tryz.prog w = .ok (some 69) w := by kernel_rfl
theorem da30 (w : World) : (Rtype.directlyAssignable 69 69).run Tryz.prog w = .ok true w := by kernel_rfl
theorem elemHit (a t : Addr) (W : World) (ha : W.cell? a = some (.pointer (some t))) : (ReflectliteValue.method (ReflectliteValue.valueError "reflectlite.Value.Elem" 0) ReflectliteValue.elem #[.agg #[.pointer (some ⟨9, 100, none⟩), .pointer (some a), .int .u64 150]]).run Tryz.prog W = .ok (.agg #[.pointer (some ⟨9, 69, none⟩), .pointer (some t), .int .u64 406]) W := by
  rw [rlm]
  simp only [Sem.run_bind, parts32, Result.andThen]
  simp [ReflectliteValue.elem, loadVar, isAgg, underlying, Tryz.underlying100, ha, Result.andThen, el32, mk30, ReflectliteValue.flagAddr]
theorem set_two (v x : Value) (h1 : Value → Value → Sem Value) (h2 : Array Value → Sem Value) : ReflectliteValue.set.match_3 (fun _ => Sem Value) #[v, x] h1 h2 = h1 v x := rfl
theorem setHit (t b fa : Addr) (u : Value) (W : World) (hb : W.cell? b = some (.pointer (some fa))) (ht : W.cell? t = some u) (hf : W.frozen? t = false) : (ReflectliteValue.set #[.agg #[.pointer (some ⟨9, 69, none⟩), .pointer (some t), .int .u64 406], .agg #[.pointer (some ⟨9, 69, none⟩), .pointer (some b), .int .u64 150]]).run Tryz.prog W = .ok (.tuple #[]) (W.setCell t (.pointer (some fa))) := by
  delta ReflectliteValue.set
  rw [set_two]
  simp only [Sem.run_bind, parts30, parts30a, Result.andThen]
  simp [ReflectliteValue.flagAddr, loadVar, isAgg, underlying, Tryz.underlying69, hb, Result.andThen, da30, storeVar, Value.cells, storeCells, go_sem, ht, hf]
end Go.Proofs.YtnoaojjljcbflaaGreatDoor

/- errors.As finds a fault. -/
namespace Go.Proofs.YtnoaojjljcbflaaGreatDoor
open Go.RowKit Go.Extern.Stop Go.Stop Go.Extern

theorem cell_new1 (w : World) (v : Value) (t : TypeId) : (w.alloc (.cells #[v] t (0, 0))).cell? ⟨w.heap.size, 0, none⟩ = some v := by
  rw [cell_of_row _ w.heap.size 0 _ _ _ (heap_alloc_new w _)]; rfl
set_option maxHeartbeats 8000000 in
set_option maxRecDepth 100000 in
/-- errors.As(f, &g), f and g of type *api.Fault: g is f -/
theorem as_hit (fa : Addr) (t : Nat) (u : Value) (w : World) (ht : w.cell? ⟨t, 0, none⟩ = some u) (htf : w.frozen? ⟨t, 0, none⟩ = false) (hg : w.cell? ⟨7, 0, none⟩ = some (.iface 183 (.agg #[.pointer (some ⟨9, 33, none⟩)]))) :
    Calls Tryz.prog 58 #[.iface 69 (.pointer (some fa)), .iface 100 (.pointer (some ⟨t, 0, none⟩))] w fun ev w' => ev = .returned (.bool true) ∧ ∃ w1, Below w.heap.size w w1 ∧ w' = w1.setCell ⟨t, 0, none⟩ (.pointer (some fa)) := by
  have h10 := @run_callFunc_extern Tryz.prog 100 _ (fun args => ReflectliteValue.unpack (args.getD 0 (.tuple #[]))) Tryz.func100 (by kernel_rfl) (by kernel_rfl) (by kernel_rfl) (by kernel_rfl)
  have h11 := @run_callFunc_extern Tryz.prog 101 _ (ReflectliteValue.methodAny (ReflectliteValue.valueError "reflectlite.Value.Type" 0) (fun t _ _ _ => ReflectliteType.toType t)) Tryz.func101 (by kernel_rfl) (by kernel_rfl) (by kernel_rfl) (by kernel_rfl)
  have h12 := @run_callFunc_extern Tryz.prog 102 _ (ReflectliteValue.method (ReflectliteValue.valueError "reflectlite.Value.IsNil" 0) ReflectliteValue.isNil) Tryz.func102 (by kernel_rfl) (by kernel_rfl) (by kernel_rfl) (by kernel_rfl)
  have h13 := @run_callFunc_extern Tryz.prog 129 _ (ReflectliteValue.method (ReflectliteValue.valueError "reflectlite.Value.Elem" 0) ReflectliteValue.elem) Tryz.func129 (by kernel_rfl) (by kernel_rfl) (by kernel_rfl) (by kernel_rfl)
  have h14 := @run_callFunc_extern Tryz.prog 130 _ ReflectliteValue.set Tryz.func130 (by kernel_rfl) (by kernel_rfl) (by kernel_rfl) (by kernel_rfl)
  have h30 := @run_callFunc_extern Tryz.prog 212 _ (ReflectliteType.abiMethod fun t => do pure (.int .u8 (← Rtype.kind t))) Tryz.func212 (by kernel_rfl) (by kernel_rfl) (by kernel_rfl) (by kernel_rfl)
  have h41 := @run_callFunc_extern Tryz.prog 224 _ (ReflectliteType.method ReflectliteType.elem) Tryz.func224 (by kernel_rfl) (by kernel_rfl) (by kernel_rfl) (by kernel_rfl)
  have h42 := @run_callFunc_extern Tryz.prog 225 _ (ReflectliteType.relation "Implements" ReflectliteType.implements_) Tryz.func225 (by kernel_rfl) (by kernel_rfl) (by kernel_rfl) (by kernel_rfl)
  have h8 := @run_callFunc_extern Tryz.prog 98 _ ReflectliteType.typeOf Tryz.func98 (by kernel_rfl) (by kernel_rfl) (by kernel_rfl) (by kernel_rfl)
  have h39 := @run_callFunc_extern Tryz.prog 222 _ (ReflectliteType.relation "AssignableTo" ReflectliteType.assignableTo) Tryz.func222 (by kernel_rfl) (by kernel_rfl) (by kernel_rfl) (by kernel_rfl)
  have tO := isTypeOfF
  have mA := methodAssignableTo
  have a64 := assignable30
  have f10 := valueOf32
  have fF := valueOfF
  have f11 := type32
  have mK := methodKind
  have mE := methodElem
  have mI := methodImplements
  have k32 := kind32
  have k30 := kind30
  have e32 := elem32
  have i30 := implements30
  have qN := eqlN
  have n12 := isNil32 ⟨w.heap.size, 0, none⟩ ⟨t, 0, none⟩ ((w.alloc (.cells #[.pointer (some ⟨t, 0, none⟩)] 100)).alloc (.cells #[.pointer (some ⟨9, 100, none⟩), .pointer (some ⟨w.heap.size, 0, none⟩), .int .u64 150] 154)) (by simp)
  have hlt : 7 < w.heap.size := by
    rcases Nat.lt_or_ge 7 w.heap.size with h | h
    · exact h
    · simp [World.cell?, Array.getElem?_eq_none h] at hg
  have htl : t < w.heap.size := World.block_lt_of_cell? w _ ht
  have hg2 : ((w.alloc (.cells #[.pointer (some ⟨t, 0, none⟩)] 100)).alloc (.cells #[.pointer (some ⟨9, 100, none⟩), .pointer (some ⟨w.heap.size, 0, none⟩), .int .u64 150] 154)).cell? ⟨7, 0, none⟩ = some (.iface 183 (.agg #[.pointer (some ⟨9, 33, none⟩)])) := by
    rw [World.cell?_alloc_lt _ _ ⟨7, 0, none⟩ (by simp; omega), World.cell?_alloc_lt _ _ ⟨7, 0, none⟩ hlt]; exact hg
  have hB3 : Below w.heap.size w (((w.alloc (.cells #[.pointer (some ⟨t, 0, none⟩)] 100)).alloc (.cells #[.pointer (some ⟨9, 100, none⟩), .pointer (some ⟨w.heap.size, 0, none⟩), .int .u64 150] 154)).alloc (.cells #[.pointer (some ⟨9, 100, none⟩), .pointer (some ⟨w.heap.size, 0, none⟩), .int .u64 150] 154)) := (((Below.refl _ _).alloc (Nat.le_refl _) _).alloc (by simp) _).alloc (by simp; omega) _
  have n13 := elemHit ⟨w.heap.size, 0, none⟩ ⟨t, 0, none⟩ (((w.alloc (.cells #[.pointer (some ⟨t, 0, none⟩)] 100)).alloc (.cells #[.pointer (some ⟨9, 100, none⟩), .pointer (some ⟨w.heap.size, 0, none⟩), .int .u64 150] 154)).alloc (.cells #[.pointer (some ⟨9, 100, none⟩), .pointer (some ⟨w.heap.size, 0, none⟩), .int .u64 150] 154)) (by
    rw [World.cell?_alloc_lt _ _ ⟨w.heap.size, 0, none⟩ (by simp; omega), World.cell?_alloc_lt _ _ ⟨w.heap.size, 0, none⟩ (by simp), cell_of_row _ w.heap.size 0 _ _ _ (heap_alloc_new w _)]; rfl)
  have hB4 : Below w.heap.size w ((((w.alloc (.cells #[.pointer (some ⟨t, 0, none⟩)] 100)).alloc (.cells #[.pointer (some ⟨9, 100, none⟩), .pointer (some ⟨w.heap.size, 0, none⟩), .int .u64 150] 154)).alloc (.cells #[.pointer (some ⟨9, 100, none⟩), .pointer (some ⟨w.heap.size, 0, none⟩), .int .u64 150] 154)).alloc (.cells #[.pointer (some fa)] 69)) := hB3.trans (((Below.refl _ _).alloc (Nat.le_refl _) _).mono hB3.size)
  have n14 := setHit ⟨t, 0, none⟩ ⟨(((w.alloc (.cells #[.pointer (some ⟨t, 0, none⟩)] 100)).alloc (.cells #[.pointer (some ⟨9, 100, none⟩), .pointer (some ⟨w.heap.size, 0, none⟩), .int .u64 150] 154)).alloc (.cells #[.pointer (some ⟨9, 100, none⟩), .pointer (some ⟨w.heap.size, 0, none⟩), .int .u64 150] 154)).heap.size, 0, none⟩ fa u ((((w.alloc (.cells #[.pointer (some ⟨t, 0, none⟩)] 100)).alloc (.cells #[.pointer (some ⟨9, 100, none⟩), .pointer (some ⟨w.heap.size, 0, none⟩), .int .u64 150] 154)).alloc (.cells #[.pointer (some ⟨9, 100, none⟩), .pointer (some ⟨w.heap.size, 0, none⟩), .int .u64 150] 154)).alloc (.cells #[.pointer (some fa)] 69)) (cell_new1 _ _ _) ((hB4.cell (p := ⟨t, 0, none⟩) htl).trans ht) (by
    rw [← htf]; unfold World.frozen?; rw [hB4.block t htl])
  simp only [World.size_alloc] at n14
  have HB4 : Hid (Below w.heap.size w ((((w.alloc (.cells #[.pointer (some ⟨t, 0, none⟩)] 100)).alloc (.cells #[.pointer (some ⟨9, 100, none⟩), .pointer (some ⟨w.heap.size, 0, none⟩), .int .u64 150] 154)).alloc (.cells #[.pointer (some ⟨9, 100, none⟩), .pointer (some ⟨w.heap.size, 0, none⟩), .int .u64 150] 154)).alloc (.cells #[.pointer (some fa)] 69))) := hB4
  clear hB3 hB4
  go_enter Tryz.func58, Tryz.ntmps58
  go_wp2
  refine wp_loop_rounds 1 ?_
  rw [rounds_succ]
  go_wp2
  go_ret
  exact ⟨rfl, _, HB4.out, rfl⟩
end Go.Proofs.YtnoaojjljcbflaaGreatDoor

/- What plain.Code answers of no error, and of a fault; told. -/
namespace Go.Proofs.YtnoaojjljcbflaaGreatDoor
open Go.RowKit

theorem code_nil (w : World) : Calls Tryz.prog 17 #[.nilIface] w fun e w' => e = .returned (.tuple #[.int .i64 0, .int .i64 (-1)]) ∧ w' = w := by
  go_enter Tryz.func17, Tryz.ntmps17
  go_wp2
  go_ret2
  exact ⟨rfl, rfl⟩

/-- errors.Is of a fault that bears the k-th, and the j-th -/
theorem isF_any {w : World} {A : Nat → Addr} (h : Errs7 w A) (fb : Nat) (i : Int) (k j : Nat) (hk : k < 7) (hj : j < 7) (hf : w.heap[fb]? = some (.cells #[.int .i64 i, .iface 233 (.pointer (some (A k)))] 71 (0, 0))) :
    Calls Tryz.prog 57 #[.iface 69 (.pointer (some ⟨fb, 0, none⟩)), .iface 233 (.pointer (some (A j)))] w fun e w' => e = .returned (.bool (k == j)) ∧ w' = w := by
  by_cases e : k = j
  · subst e
    rw [show (k == k) = true by simp]
    exact isF_same fb i _ w hf
  · rw [show (k == j) = false by simp [e]]
    obtain ⟨ca, ta, ha⟩ := h.row k hk
    obtain ⟨cb, tb, hb⟩ := h.row j hj
    exact isF_other fb i _ _ ca cb ta tb w hf (h.ne k j hk hj e) ha hb

set_option maxHeartbeats 4000000 in
set_option maxRecDepth 100000 in
theorem codeF_any {w : World} {A : Nat → Addr} (h : Errs7 w A) (k : Nat) (hk : k < 7) (fb : Nat) (i : Int) (hf : w.heap[fb]? = some (.cells #[.int .i64 i, .iface 233 (.pointer (some (A k)))] 71 (0, 0))) :
    Calls Tryz.prog 17 #[.iface 69 (.pointer (some ⟨fb, 0, none⟩))] w fun e w' => e = .returned (.tuple #[.int .i64 ((k + 1 : Nat) : Int), .int .i64 i]) ∧ Below w.heap.size w w' := by
  have c0 := h.cell 0 (by decide)
  have c1 := h.cell 1 (by decide)
  have c2 := h.cell 2 (by decide)
  have c3 := h.cell 3 (by decide)
  have c4 := h.cell 4 (by decide)
  have c5 := h.cell 5 (by decide)
  have c6 := h.cell 6 (by decide)
  simp only [gl] at c0 c1 c2 c3 c4 c5 c6
  have H : Hid (Errs7 w A) := h
  clear h
  go_enter Tryz.func17, Tryz.ntmps17
  go_wp2
  have hW1 : Below w.heap.size w (w.alloc (.cells #[.iface 233 (.pointer (some (A 0))), .iface 233 (.pointer (some (A 1))), .iface 233 (.pointer (some (A 2))), .iface 233 (.pointer (some (A 3))), .iface 233 (.pointer (some (A 4))), .iface 233 (.pointer (some (A 5))), .iface 233 (.pointer (some (A 6)))] 33)) := (Below.refl _ _).alloc (Nat.le_refl _) _
  have hc : ∀ j, j < 7 → (w.alloc (.cells #[.iface 233 (.pointer (some (A 0))), .iface 233 (.pointer (some (A 1))), .iface 233 (.pointer (some (A 2))), .iface 233 (.pointer (some (A 3))), .iface 233 (.pointer (some (A 4))), .iface 233 (.pointer (some (A 5))), .iface 233 (.pointer (some (A 6)))] 33)).cell? ⟨w.heap.size, j, none⟩ = some (.iface 233 (.pointer (some (A j)))) := by
    intro j hj
    rw [cell_of_row _ w.heap.size j _ 33 (0, 0) (heap_alloc_new w _)]
    match j, hj with
    | 0, _ => rfl
    | 1, _ => rfl
    | 2, _ => rfl
    | 3, _ => rfl
    | 4, _ => rfl
    | 5, _ => rfl
    | 6, _ => rfl
  generalize (w.alloc (.cells #[.iface 233 (.pointer (some (A 0))), .iface 233 (.pointer (some (A 1))), .iface 233 (.pointer (some (A 2))), .iface 233 (.pointer (some (A 3))), .iface 233 (.pointer (some (A 4))), .iface 233 (.pointer (some (A 5))), .iface 233 (.pointer (some (A 6)))] 33)) = W1 at *
  have h1 : Hid (Errs7 W1 A) := H.out.below hW1
  have HF1 : Hid (W1.heap[fb]? = some (.cells #[.int .i64 i, .iface 233 (.pointer (some (A k)))] 71 (0, 0))) := (hW1.block fb (Array.getElem?_eq_some_iff.1 hf).1).trans hf
  clear hf
  have HC : Hid (∀ j, j < 7 → W1.cell? ⟨w.heap.size, j, none⟩ = some (.iface 233 (.pointer (some (A j))))) := hc
  clear H c0 c1 c2 c3 c4 c5 c6 hc
  go_loop [4, 19] (fun n x => ∃ j : Nat, j ≤ 7 ∧ x = .int .i64 j ∧ n = .int .i64 ((if k < j then k + 1 else 0 : Nat) : Int)) (fun _ x => 7 - (intOf x).toNat)
  case atStart => exact ⟨0, by omega, rfl, rfl⟩
  case round =>
    obtain ⟨j, hj, rfl, rfl⟩ := hrel
    by_cases hlt : j < 7
    · have hcj := HC.out j hlt
      have hi := isF_any h1.out fb i k j hk hlt HF1.out
      by_cases hjk : k = j
      · subst hjk
        rw [show (k == k) = true by simp] at hi
        rw [if_neg (Nat.lt_irrefl k)]
        have HI : Hid (Calls Tryz.prog 57 #[.iface 69 (.pointer (some ⟨fb, 0, none⟩)), .iface 233 (.pointer (some (A k)))] W1 fun e w' => e = .returned (.bool true) ∧ w' = W1) := hi
        clear hi
        go_wp2_with (go_at_call 57; refine HI.out.mono ?_; rintro e w' ⟨rfl, hw'⟩; subst hw')
        go_round
        case rel => go_light; exact ⟨k + 1, by omega, by go_num, by rw [if_pos (Nat.lt_succ_self k)]; go_num⟩
        case measure => go_light; simp [intOf]; omega
      · rw [show (k == j) = false by simp [hjk]] at hi
        have HI : Hid (Calls Tryz.prog 57 #[.iface 69 (.pointer (some ⟨fb, 0, none⟩)), .iface 233 (.pointer (some (A j)))] W1 fun e w' => e = .returned (.bool false) ∧ w' = W1) := hi
        have HN : Hid ((if k < j then k + 1 else 0 : Nat) = (if k < j + 1 then k + 1 else 0 : Nat)) := by
          show _ = _
          by_cases h1 : k < j
          · rw [if_pos h1, if_pos (by omega)]
          · rw [if_neg h1, if_neg (by omega)]
        clear hi
        generalize (if k < j then k + 1 else 0 : Nat) = q at *
        go_wp2_with (go_at_call 57; refine HI.out.mono ?_; rintro e w' ⟨rfl, hw'⟩; subst hw')
        go_round
        case rel => go_light; exact ⟨j + 1, by omega, by go_num, by rw [HN.out]⟩
        case measure => go_light; simp [intOf]; omega
    · obtain rfl : j = 7 := by omega
      rw [if_pos hk]
      have hty : ∀ o, (W1.alloc o).cell? ⟨7, 0, none⟩ = some (.iface 183 (.agg #[.pointer (some ⟨9, 33, none⟩)])) := fun o => (World.cell?_alloc_lt _ _ ⟨7, 0, none⟩ (lt_of_cell h1.out.typ)).trans h1.out.typ
      have HT := hty
      clear hty
      go_wp2_with fail
      have hnew := heap_alloc_new W1 (.cells #[.pointer none] 69 (0, 0))
      refine (as_hit ⟨fb, 0, none⟩ W1.heap.size (.pointer none) _ (cell_new1 _ _ _) (by unfold World.frozen?; rw [hnew]; rfl) (HT _)).mono ?_
      rintro e W2 ⟨rfl, w1, hb2, rfl⟩
      clear HT
      have hs1 : W1.heap.size < (W1.alloc (.cells #[.pointer none] 69 (0, 0))).heap.size := by simp
      have hn1 : w1.heap[W1.heap.size]? = some (.cells #[.pointer none] 69 (0, 0)) := (hb2.block _ hs1).trans hnew
      have hl1 : W1.heap.size < w1.heap.size := (Array.getElem?_eq_some_iff.1 hn1).1
      have hBW : Below W1.heap.size W1 w1 := ((Below.refl _ _).alloc (Nat.le_refl _) _).trans (hb2.mono (by simp))
      have hfl := (Array.getElem?_eq_some_iff.1 HF1.out).1
      have hf1 : w1.heap[fb]? = some (.cells #[.int .i64 i, .iface 233 (.pointer (some (A k)))] 71 (0, 0)) := (hBW.block fb hfl).trans HF1.out
      obtain ⟨w3, hw3⟩ : ∃ w3, w3 = w1.setCell ⟨W1.heap.size, 0, none⟩ (.pointer (some ⟨fb, 0, none⟩)) := ⟨_, rfl⟩
      rw [← hw3]
      have hb3 : Below w.heap.size w w3 := by
        rw [hw3]
        exact (hW1.trans (hBW.mono hW1.size)).setCell hW1.size _
      have g0 : w3.cell? ⟨W1.heap.size, 0, none⟩ = some (.pointer (some ⟨fb, 0, none⟩)) := by
        rw [cell_of_row w3 W1.heap.size 0 #[.pointer (some ⟨fb, 0, none⟩)] 69 (0, 0) (by rw [hw3]; simp [World.setCell, Array.getElem?_modify, hn1])]; rfl
      have g1 : w3.cell? ⟨fb, 0, none⟩ = some (.int .i64 i) := by
        rw [cell_of_row w3 fb 0 _ _ _ (by rw [hw3]; exact (Below.heap_setCell w1 ⟨W1.heap.size, 0, none⟩ _ fb (by show fb ≠ W1.heap.size; omega)).trans hf1)]; rfl
      have HB3 : Hid (Below w.heap.size w w3) := hb3
      clear hb2 hn1 hBW hf1 hw3 hb3 hnew hs1 hl1 w1
      go_wp2_with fail
      go_quiet (fail)
      go_wp2_with fail
      go_ret2
      exact ⟨rfl, below_drewN HB3.out _⟩


set_option maxHeartbeats 2000000 in
theorem told_nil (w : World) : Calls Tryz.prog 19 #[.nilIface, .agg #[.int .i64 0, .int .i64 (-1)]] w fun e w' => e = .returned (.bool true) ∧ Below w.heap.size w w' := by
  have HB : Hid (∀ o, Below w.heap.size w (w.alloc o)) := fun o => (Below.refl _ _).alloc (Nat.le_refl _) _
  go_enter Tryz.func19, Tryz.ntmps19
  go_wp2_with (go_at_call 17; refine (code_nil _).mono ?_; rintro e w' ⟨rfl, rfl⟩)
  go_ret
  exact ⟨rfl, HB.out _⟩
set_option maxHeartbeats 2000000 in
theorem told_fault {w : World} {A : Nat → Addr} (h : Errs7 w A) (fb : Nat) (i : Nat) (hf : w.heap[fb]? = some (.cells #[.int .i64 i, .iface 233 (.pointer (some (A 1)))] 71 (0, 0))) :
    Calls Tryz.prog 19 #[.iface 69 (.pointer (some ⟨fb, 0, none⟩)), .agg #[.int .i64 2, .int .i64 i]] w fun e w' => e = .returned (.bool true) ∧ Below w.heap.size w w' := by
  have hB : Below w.heap.size w (w.alloc (.cells #[.int .i64 2, .int .i64 i] 28 (0, 0))) := (Below.refl _ _).alloc (Nat.le_refl _) _
  have hnew := heap_alloc_new w (.cells #[.int .i64 2, .int .i64 i] 28 (0, 0))
  have hc := codeF_any (h.below hB) 1 (by decide) fb i ((hB.block fb (Array.getElem?_eq_some_iff.1 hf).1).trans hf)
  have HC : Hid (Calls Tryz.prog 17 #[.iface 69 (.pointer (some ⟨fb, 0, none⟩))] (w.alloc (.cells #[.int .i64 2, .int .i64 i] 28 (0, 0))) fun e w' => e = .returned (.tuple #[.int .i64 2, .int .i64 i]) ∧ Below (w.alloc (.cells #[.int .i64 2, .int .i64 i] 28 (0, 0))).heap.size (w.alloc (.cells #[.int .i64 2, .int .i64 i] 28 (0, 0))) w') := hc
  have HB : Hid (Below w.heap.size w (w.alloc (.cells #[.int .i64 2, .int .i64 i] 28 (0, 0)))) := hB
  have HN : Hid ((w.alloc (.cells #[.int .i64 2, .int .i64 i] 28 (0, 0))).heap[w.heap.size]? = some (.cells #[.int .i64 2, .int .i64 i] 28 (0, 0))) := hnew
  clear h hf hB hnew hc
  go_enter Tryz.func19, Tryz.ntmps19
  go_wp2_with fail
  refine HC.out.mono ?_
  rintro e w2 ⟨rfl, hb⟩
  have hn := (hb.block w.heap.size (by simp)).trans HN.out
  have c0 : w2.cell? ⟨w.heap.size, 0, none⟩ = some (.int .i64 2) := by rw [cell_of_row w2 w.heap.size 0 _ _ _ hn]; rfl
  have c1 : w2.cell? ⟨w.heap.size, 1, none⟩ = some (.int .i64 i) := by rw [cell_of_row w2 w.heap.size 1 _ _ _ hn]; rfl
  have HB2 : Hid (Below w.heap.size w w2) := HB.out.trans (hb.mono (by simp))
  clear hb hn HC HB HN
  go_wp2_with fail
  go_ret
  exact ⟨rfl, HB2.out⟩
end Go.Proofs.YtnoaojjljcbflaaGreatDoor
