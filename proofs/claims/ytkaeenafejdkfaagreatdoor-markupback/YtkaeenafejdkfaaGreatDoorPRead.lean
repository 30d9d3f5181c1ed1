/- The program: a text is read: the tree of it, or the fault that was thrown. -/
import Derived.Test.YtkaeenafejdkfaaGreatDoorM38
import Derived.Defers
import Derived.Recover
import Derived.LoopN
namespace Go.Proofs.YtkaeenafejdkfaaGreatDoor
open Go.RowKit

/-- the deferred function of a frame that returns -/
theorem guard_idle (p : Addr) (w : World) :
    CallsD Tryz.prog 70 #[.pointer (some p)] .returning w fun e u' w' => e = .returned (.tuple #[]) ∧ u' = .returning ∧ w' = w := by
  refine callsD_of_wpS Tryz.func70 rfl fun c₀ cs hu => ?_
  apply wpS_seq
  apply wpS_region
  simp [wpOpsS, go_sem, recoverD, hu, Tryz.ntmps70, Exit.thenS]
  apply wpS_seq
  apply wpS_seq
  apply wpS_region
  simp [wpOpsS, go_sem, Exit.thenS]
  refine wpS_cond (t := true) (by simp [Act.eval, Array.replicate]) ?_
  simp only [if_true]
  refine wpS_of_wp (wp_ret ?_)
  cases c₀
  simp_all [bodyPostS, results, Tryz.results70, Exit.thenS]

theorem too_much (v : Value) (w : World) : (Instr.typeAssert (.iface 114 v) 20 114 true).run Tryz.prog w = .ok (.tuple #[v, .bool true]) w := by
  simp [Instr.typeAssert, run_underlying Tryz.underlying114, go_sem, Result.andThen]

set_option maxHeartbeats 2000000 in
set_option maxRecDepth 100000 in
/-- the deferred function of a frame that was thrown out of -/
theorem guard_catch (eb : Nat) (w : World) (x0 : Value) (f : Value) (older : List PanicEntry) (hc : w.cell? ⟨eb, 0, none⟩ = some x0) (hz : w.frozen? ⟨eb, 0, none⟩ = false) :
    CallsD Tryz.prog 70 #[.pointer (some ⟨eb, 0, none⟩)] (.panicking ({ v := .iface 114 (.agg #[.iface 69 f]), recovered := false } :: older)) w fun e u' w' =>
      e = .returned (.tuple #[]) ∧ u' = .panicking ({ v := .iface 114 (.agg #[.iface 69 f]), recovered := true } :: older) ∧ w' = (w.setCell ⟨eb, 0, none⟩ (.iface 69 f)).alloc (.cells #[.iface 69 f] 114) := by
  have htm := too_much
  have hlt : eb < w.heap.size := World.block_lt_of_cell? w _ hc
  refine callsD_of_wpS Tryz.func70 rfl fun c₀ cs hu => ?_
  apply wpS_seq
  apply wpS_region
  simp [wpOpsS, go_sem, recoverD, hu, Tryz.ntmps70, Exit.thenS]
  apply wpS_seq
  apply wpS_seq
  apply wpS_region
  simp [wpOpsS, go_sem, Exit.thenS]
  refine wpS_cond (t := false) (by simp [Act.eval, Array.replicate]) ?_
  simp only [Bool.false_eq_true, if_false]
  refine wpS_of_wp (wp_skip ?_)
  simp only [Exit.thenS]
  refine wpS_of_wp ?_
  have ht : (#[Value.pointer (some { block := eb, off := 0 })] ++ ((((Array.replicate 16 undef).setIfInBounds 3 (Value.iface 114 (Value.agg #[Value.iface 69 f]))).setIfInBounds 0 (Value.iface 114 (Value.agg #[Value.iface 69 f]))).setIfInBounds 4 (Value.iface 114 (Value.agg #[Value.iface 69 f]))).setIfInBounds 5 (Value.bool false)) =
      #[Value.pointer (some { block := eb, off := 0 }), Value.iface 114 (Value.agg #[Value.iface 69 f]), undef, undef, Value.iface 114 (Value.agg #[Value.iface 69 f]), Value.iface 114 (Value.agg #[Value.iface 69 f]), Value.bool false, undef, undef, undef, undef, undef, undef, undef, undef, undef, undef] := rfl
  rw [ht]
  clear ht
  go_wp2_with fail
  cases c₀
  simp_all [bodyPostS, results, Tryz.results70]

/-- what Read gives -/
def ReadPost (w0 : World) (bv : Value) (R : Res) (e : Ending) (w' : World) : Prop := match R with
  | .ok ns => ∃ tb M nv uv ps, e = .returned (.tuple #[.pointer (some ⟨tb, 0, none⟩), .nilIface]) ∧ Lies w' M tb nv uv ps [] ∧ nodesOf ps = ns ∧ Moved w0 (fun _ => .other) w' M
  | .bad i => ∃ fb, e = .returned (.tuple #[.pointer none, .iface 69 (.pointer (some ⟨fb, 0, none⟩))]) ∧ w'.heap[fb]? = some (.cells #[.int .i64 i, bv] 71 (0, 0)) ∧ Below w0.heap.size w0 w'

theorem read1_any {w : World} {b : Nat} (s : ByteArray) (h0 : w.cell? ⟨b, 0, none⟩ = some (.string s)) (hs : s.size ≤ 20000) (m8 : Int) (h8 : w.cell? ⟨8, 0, none⟩ = some (.int .i64 m8)) (hE : Errs w (fun _ => .other)) (bv : Value) (hbv : w.cell? ⟨0, 0, none⟩ = some bv) :
    Calls Tryz.prog 30 #[.pointer (some ⟨b, 0, none⟩)] w (GrowPost w bv (readS s)) := by
  have hg := grow_any s hs m8 h8 hE bv hbv
  have HG := hid hg
  clear hg hE hbv h8
  obtain ⟨R, hR⟩ : ∃ R, R = readS s := ⟨_, rfl⟩
  rw [← hR] at HG ⊢
  clear hR
  go_enter Tryz.func30, Tryz.ntmps30
  go_wp2_with fail
  refine HG.out.mono ?_
  intro e w1 hp
  cases R with
  | ok ns =>
    obtain ⟨tb, M, nv, uv, ps, rfl, h⟩ := hp
    have H := hid h
    clear h
    go_wp2_with fail
    go_ret
    exact ⟨tb, M, nv, uv, ps, rfl, H.out⟩
  | bad i =>
    obtain ⟨⟨fb, rfl, h⟩, h2⟩ := hp
    have H := hid (And.intro h h2)
    clear h h2
    go_wp2_with fail
    exact ⟨rfl, ⟨fb, rfl, H.out.1⟩, H.out.2⟩

set_option maxHeartbeats 4000000 in
theorem guard_any {w : World} {b : Nat} (s : ByteArray) (h0 : w.cell? ⟨b, 0, none⟩ = some (.string s)) (hs : s.size ≤ 20000) (m8 : Int) (h8 : w.cell? ⟨8, 0, none⟩ = some (.int .i64 m8)) (hE : Errs w (fun _ => .other)) (bv : Value) (hbv : w.cell? ⟨0, 0, none⟩ = some bv) :
    Calls Tryz.prog 29 #[.func (.func 30) #[] #[.pointer (some ⟨b, 0, none⟩)]] w (ReadPost w bv (readS s)) := by
  have hmf : ∀ (fn : Fn) (first cap : Array Value) (w : World), (Instr.makeFunc fn first cap).run Tryz.prog w = .ok (.func fn first cap) w := fun _ _ _ _ => rfl
  have hlt : b < w.heap.size := World.block_lt_of_cell? w _ h0
  have hlt8 : 8 < w.heap.size := World.block_lt_of_cell? w _ h8
  have hltb : 0 < w.heap.size := World.block_lt_of_cell? w _ hbv
  have hBA : Below w.heap.size w (w.alloc (.cells #[.nilIface] 33)) := (Below.refl _ _).alloc (Nat.le_refl _) _
  have hg := read1_any (w := w.alloc (.cells #[.nilIface] 33)) s ((World.cell?_alloc_lt _ _ ⟨b, 0, none⟩ hlt).trans h0) hs m8 ((World.cell?_alloc_lt _ _ ⟨8, 0, none⟩ hlt8).trans h8) (hE.below hBA) bv ((World.cell?_alloc_lt _ _ ⟨0, 0, none⟩ hltb).trans hbv)
  have HG := hid hg
  clear hg hE hbv h8 hBA h0
  obtain ⟨R, hR⟩ : ∃ R, R = readS s := ⟨_, rfl⟩
  rw [← hR] at HG ⊢
  clear hR
  go_enter_defers Tryz.func29, Tryz.ntmps29
  go_wp2_with fail
  refine HG.out.mono ?_
  intro e w1 hp
  cases R with
  | ok ns =>
    obtain ⟨tb, M, nv, uv, ps, rfl, hL, hn, hM⟩ := hp
    have hb0 := hM.far w.heap.size (by simp) rfl
    rw [heap_alloc_new w] at hb0
    have d0 : w1.cell? ⟨w.heap.size, 0, none⟩ = some .nilIface := by rw [cell_of_row w1 w.heap.size 0 _ _ _ hb0]; rfl
    have f0 : w1.frozen? ⟨w.heap.size, 0, none⟩ = false := by simp [World.frozen?, hb0]
    have hlab : M w.heap.size = .other := hM.lab _ (by simp)
    have H1 := hid (And.intro hL (And.intro hn hM))
    have hl1 : w.heap.size < w1.heap.size := World.block_lt_of_cell? w1 _ d0
    clear hL hn hM hb0
    go_wp2_with fail
    refine leaves_cons (f := 70) (args := #[.pointer (some ⟨w.heap.size, 0, none⟩)]) (by simp) (by simp [go_sem]) ?_
    refine (guard_idle ⟨w.heap.size, 0, none⟩ _).mono ?_
    rintro e u' w'' ⟨rfl, rfl, rfl⟩
    obtain ⟨hL, hn, hM⟩ := H1.out
    have hsz : (w1.setCell ⟨w.heap.size, 0, none⟩ .nilIface).heap.size = w1.heap.size := by simp [World.setCell]
    have hM0 : w.heap.size ≤ w1.heap.size := by omega
    refine ⟨.tuple #[.pointer (some ⟨tb, 0, none⟩), .nilIface], ?_, tb, M, nv, uv, ps, rfl, hL.far (by omega) (fun k hk ho => Below.heap_setCell _ _ _ _ (fun e => ho (e ▸ hlab))), hn, ⟨hM.os, hM.tape, hM.output, by omega, fun k hk => hM.lab k (by simp; omega), fun k hk ho => ?_⟩⟩
    · simp [results, Tryz.results29, go_sem, d0]
    · rw [Below.heap_setCell _ _ _ _ (show k ≠ w.heap.size by omega)]
      exact (hM.far k (by simp; omega) rfl).trans (Below.heap_alloc _ _ _ hk)
  | bad i =>
    obtain ⟨⟨fb, rfl, hf⟩, hB⟩ := hp
    have hb0 := hB.block w.heap.size (by simp)
    rw [heap_alloc_new w] at hb0
    have d0 : w1.cell? ⟨w.heap.size, 0, none⟩ = some .nilIface := by rw [cell_of_row w1 w.heap.size 0 _ _ _ hb0]; rfl
    have f0 : w1.frozen? ⟨w.heap.size, 0, none⟩ = false := by simp [World.frozen?, hb0]
    have hne : fb ≠ w.heap.size := by
      intro e
      rw [e, hb0] at hf
      simp at hf
    have hl1 : w.heap.size < w1.heap.size := World.block_lt_of_cell? w1 _ d0
    have hfl := lt_of_heap hf
    have H1 := hid (And.intro hf hB)
    clear hf hB hb0
    go_wp2_with fail
    refine leaves_cons (f := 70) (args := #[.pointer (some ⟨w.heap.size, 0, none⟩)]) (by simp) (by simp [go_sem]) ?_
    refine (guard_catch w.heap.size w1 _ _ [] d0 f0).mono ?_
    rintro e u' w'' ⟨rfl, rfl, rfl⟩
    obtain ⟨hf, hB⟩ := H1.out
    have hsz : (w1.setCell ⟨w.heap.size, 0, none⟩ (.iface 69 (.pointer (some ⟨fb, 0, none⟩)))).heap.size = w1.heap.size := by simp [World.setCell]
    refine ⟨.tuple #[.pointer none, .iface 69 (.pointer (some ⟨fb, 0, none⟩))], ?_, fb, rfl, ?_, ?_⟩
    · simp [results, Tryz.results29, go_sem, d0, hl1, hsz]
    · rw [Below.heap_alloc _ _ _ (by omega), Below.heap_setCell _ _ _ _ hne]
      exact hf
    · exact (((((Below.refl _ _).alloc (Nat.le_refl _) _).trans (hB.mono (by simp))).setCell (Nat.le_refl _) _).alloc (by omega) _)

/-- what is thrown where a text is too long, or what reading gives -/
def readR (s : ByteArray) : Res := if 20000 < s.size then .bad 20000 else readS s

set_option maxHeartbeats 4000000 in
theorem read_any {w : World} (s : ByteArray) (hs : s.size < 9223372036854775808) (m8 : Int) (h8 : w.cell? ⟨8, 0, none⟩ = some (.int .i64 m8)) (hE : Errs w (fun _ => .other)) (bv : Value) (hbv : w.cell? ⟨0, 0, none⟩ = some bv) :
    Calls Tryz.prog 8 #[.string s] w (ReadPost w bv (readR s)) := by
  have hlt8 : 8 < w.heap.size := World.block_lt_of_cell? w _ h8
  have hltb : 0 < w.heap.size := World.block_lt_of_cell? w _ hbv
  have hBA : Below w.heap.size w (w.alloc (.cells #[.string s] 9)) := (Below.refl _ _).alloc (Nat.le_refl _) _
  by_cases hl : 20000 < s.size
  · have hR : readR s = .bad 20000 := by unfold readR; rw [if_pos hl]
    rw [hR]
    obtain ⟨t2, x2, hc2⟩ := hE.cell 0 (by decide)
    have hb2 := Option.some.inj (hbv.symm.trans hc2)
    subst hb2
    clear hc2
    have hbv2 : (w.alloc (.cells #[.string s] 9)).cell? ⟨0, 0, none⟩ = some (.iface t2 (.pointer (some x2))) := (World.cell?_alloc_lt _ _ ⟨0, 0, none⟩ hltb).trans hbv
    clear hE h8 hR
    go_enter Tryz.func8, Tryz.ntmps8
    go_wp2_with fail
    have hz0 : (w.alloc (.cells #[.string s] 9)).heap.size = w.heap.size + 1 := by simp
    have H1 := hid (And.intro hBA hz0)
    generalize (w.alloc (.cells #[.string s] 9)) = w1 at *
    have hq1 : 0 < w1.heap.size := World.block_lt_of_cell? w1 _ hbv2
    clear hbv hltb hBA hz0 hlt8
    go_region
    all_goals go_wp2_with fail
    all_goals go_ret2
    all_goals (first
      | (refine ⟨w1.heap.size, rfl, heap_alloc_new w1 (.cells #[.int .i64 20000, .iface t2 (.pointer (some x2))] 71), H1.out.1.trans (((Below.refl w1.heap.size w1).alloc (Nat.le_refl _) _).drew.mono (by have := H1.out.2; omega))⟩)
      | (trace_state; fail))
  · have hR : readR s = readS s := by unfold readR; rw [if_neg hl]
    have hg := guard_any (w := w.alloc (.cells #[.string s] 9)) (b := w.heap.size) s (by rw [cell_of_row _ w.heap.size 0 _ _ _ (heap_alloc_new w _)]; rfl) (by omega) m8 ((World.cell?_alloc_lt _ _ ⟨8, 0, none⟩ hlt8).trans h8) (hE.below hBA) bv ((World.cell?_alloc_lt _ _ ⟨0, 0, none⟩ hltb).trans hbv)
    have HG := hid hg
    have HBA := hid hBA
    clear hg hE hbv h8 hBA
    rw [hR]
    obtain ⟨R, hR⟩ : ∃ R, R = readS s := ⟨_, rfl⟩
    rw [← hR] at HG ⊢
    clear hR
    have hmf : ∀ (fn : Fn) (first cap : Array Value) (w : World), (Instr.makeFunc fn first cap).run Tryz.prog w = .ok (.func fn first cap) w := fun _ _ _ _ => rfl
    go_enter Tryz.func8, Tryz.ntmps8
    go_wp2_with fail
    refine HG.out.mono ?_
    intro e w1 hp
    cases R with
    | ok ns =>
      obtain ⟨tb, M, nv, uv, ps, rfl, h1, h2, h3⟩ := hp
      have H := hid (And.intro h1 (And.intro h2 h3))
      clear h1 h2 h3
      go_wp2_with fail
      go_ret2
      obtain ⟨h1, h2, h3⟩ := H.out
      exact ⟨tb, M, nv, uv, ps, rfl, h1, h2, ((Moved.refl w _).below HBA.out).trans h3⟩
    | bad i =>
      obtain ⟨fb, rfl, h1, h2⟩ := hp
      have H := hid (And.intro h1 h2)
      clear h1 h2
      go_wp2_with fail
      go_ret2
      exact ⟨fb, rfl, H.out.1, HBA.out.trans (H.out.2.mono (by simp))⟩
end Go.Proofs.YtkaeenafejdkfaaGreatDoor
