/- The program: a text is read: the tree of it, or the fault that was thrown. -/
import Derived.Test.YtnoaojjljcbflaaGreatDoorM31
import Derived.Defers
import Derived.Recover
import Derived.LoopN
import Derived.Test.YtnoaojjljcbflaaGreatDoorM07
import Derived.Test.YtnoaojjljcbflaaGreatDoorM05
namespace Go.Proofs.YtnoaojjljcbflaaGreatDoor
open Go.RowKit

/-- the deferred function of a frame that returns -/
theorem guard_idle (p : Addr) (w : World) :
    CallsD Tryz.prog 70 #[.pointer (some p)] .returning w fun e u' w' => e = .returned (.tuple #[]) ∧ u' = .returning ∧ w' = w := by
  refine callsD_of_wpS Tryz.func70 rfl fun c₀ cs hu => ?_
  apply wpS_seq
  apply wpS_region
  simp [wpOpsS, go_sem, recoverD, hu, Tryz.ntmps70, Exit.thenS]
  apply wpS_seq
  apply wpS_seq
  apply wpS_region
  simp [wpOpsS, go_sem, Exit.thenS]
  refine wpS_cond (t := true) (by simp [Act.eval, Array.replicate]) ?_
  simp only [if_true]
  refine wpS_of_wp (wp_ret ?_)
  cases c₀
  simp_all [bodyPostS, results, Tryz.results70, Exit.thenS]

theorem too_much (v : Value) (w : World) : (Instr.typeAssert (.iface 114 v) 20 114 true).run Tryz.prog w = .ok (.tuple #[v, .bool true]) w := by
  simp [Instr.typeAssert, run_underlying Tryz.underlying114, go_sem, Result.andThen]

set_option maxHeartbeats 2000000 in
set_option maxRecDepth 100000 in
/-- the deferred function of a frame that was thrown out of -/
theorem guard_catch (eb : Nat) (w : World) (x0 : Value) (f : Value) (older : List PanicEntry) (hc : w.cell? ⟨eb, 0, none⟩ = some x0) (hz : w.frozen? ⟨eb, 0, none⟩ = false) :
    CallsD Tryz.prog 70 #[.pointer (some ⟨eb, 0, none⟩)] (.panicking ({ v := .iface 114 (.agg #[.iface 69 f]), recovered := false } :: older)) w fun e u' w' =>
      e = .returned (.tuple #[]) ∧ u' = .panicking ({ v := .iface 114 (.agg #[.iface 69 f]), recovered := true } :: older) ∧ w' = (w.setCell ⟨eb, 0, none⟩ (.iface 69 f)).alloc (.cells #[.iface 69 f] 114) := by
  have htm := too_much
  have hlt : eb < w.heap.size := World.block_lt_of_cell? w _ hc
  refine callsD_of_wpS Tryz.func70 rfl fun c₀ cs hu => ?_
  apply wpS_seq
  apply wpS_region
  simp [wpOpsS, go_sem, recoverD, hu, Tryz.ntmps70, Exit.thenS]
  apply wpS_seq
  apply wpS_seq
  apply wpS_region
  simp [wpOpsS, go_sem, Exit.thenS]
  refine wpS_cond (t := false) (by simp [Act.eval, Array.replicate]) ?_
  simp only [Bool.false_eq_true, if_false]
  refine wpS_of_wp (wp_skip ?_)
  simp only [Exit.thenS]
  refine wpS_of_wp ?_
  have ht : (#[Value.pointer (some { block := eb, off := 0 })] ++ ((((Array.replicate 16 undef).setIfInBounds 3 (Value.iface 114 (Value.agg #[Value.iface 69 f]))).setIfInBounds 0 (Value.iface 114 (Value.agg #[Value.iface 69 f]))).setIfInBounds 4 (Value.iface 114 (Value.agg #[Value.iface 69 f]))).setIfInBounds 5 (Value.bool false)) =
      #[Value.pointer (some { block := eb, off := 0 }), Value.iface 114 (Value.agg #[Value.iface 69 f]), undef, undef, Value.iface 114 (Value.agg #[Value.iface 69 f]), Value.iface 114 (Value.agg #[Value.iface 69 f]), Value.bool false, undef, undef, undef, undef, undef, undef, undef, undef, undef, undef] := rfl
  rw [ht]
  clear ht
  go_wp2_with fail
  cases c₀
  simp_all [bodyPostS, results, Tryz.results70]

/-- what Read gives -/
def ReadPost (w0 : World) (bv : Value) (R : Res) (e : Ending) (w' : World) : Prop := match R with
  | .ok ns => ∃ tb M nv uv ps, e = .returned (.tuple #[.pointer (some ⟨tb, 0, none⟩), .nilIface]) ∧ Lies w' M tb nv uv ps [] ∧ nodesOf ps = ns ∧ Moved w0 (fun _ => .other) w' M
  | .bad i => ∃ fb, e = .returned (.tuple #[.pointer none, .iface 69 (.pointer (some ⟨fb, 0, none⟩))]) ∧ w'.heap[fb]? = some (.cells #[.int .i64 i, bv] 71 (0, 0)) ∧ Below w0.heap.size w0 w'

theorem read1_any {w : World} {b : Nat} (s : ByteArray) (h0 : w.cell? ⟨b, 0, none⟩ = some (.string s)) (hs : s.size ≤ 20000) (m8 : Int) (h8 : w.cell? ⟨8, 0, none⟩ = some (.int .i64 m8)) (hE : Errs w (fun _ => .other)) (bv : Value) (hbv : w.cell? ⟨0, 0, none⟩ = some bv) :
    Calls Tryz.prog 30 #[.pointer (some ⟨b, 0, none⟩)] w (GrowPost w bv (readS s)) := by
  have hg := grow_any s hs m8 h8 hE bv hbv
  have HG := hid hg
  clear hg hE hbv h8
  obtain ⟨R, hR⟩ : ∃ R, R = readS s := ⟨_, rfl⟩
  rw [← hR] at HG ⊢
  clear hR
  go_enter Tryz.func30, Tryz.ntmps30
  go_wp2_with fail
  refine HG.out.mono ?_
  intro e w1 hp
  cases R with
  | ok ns =>
    obtain ⟨tb, M, nv, uv, ps, rfl, h⟩ := hp
    have H := hid h
    clear h
    go_wp2_with fail
    go_ret
    exact ⟨tb, M, nv, uv, ps, rfl, H.out⟩
  | bad i =>
    obtain ⟨⟨fb, rfl, h⟩, h2⟩ := hp
    have H := hid (And.intro h h2)
    clear h h2
    go_wp2_with fail
    exact ⟨rfl, ⟨fb, rfl, H.out.1⟩, H.out.2⟩

set_option maxHeartbeats 4000000 in
theorem guard_any {w : World} {b : Nat} (s : ByteArray) (h0 : w.cell? ⟨b, 0, none⟩ = some (.string s)) (hs : s.size ≤ 20000) (m8 : Int) (h8 : w.cell? ⟨8, 0, none⟩ = some (.int .i64 m8)) (hE : Errs w (fun _ => .other)) (bv : Value) (hbv : w.cell? ⟨0, 0, none⟩ = some bv) :
    Calls Tryz.prog 29 #[.func (.func 30) #[] #[.pointer (some ⟨b, 0, none⟩)]] w (ReadPost w bv (readS s)) := by
  have hmf : ∀ (fn : Fn) (first cap : Array Value) (w : World), (Instr.makeFunc fn first cap).run Tryz.prog w = .ok (.func fn first cap) w := fun _ _ _ _ => rfl
  have hlt : b < w.heap.size := World.block_lt_of_cell? w _ h0
  have hlt8 : 8 < w.heap.size := World.block_lt_of_cell? w _ h8
  have hltb : 0 < w.heap.size := World.block_lt_of_cell? w _ hbv
  have hBA : Below w.heap.size w (w.alloc (.cells #[.nilIface] 33)) := (Below.refl _ _).alloc (Nat.le_refl _) _
  have hg := read1_any (w := w.alloc (.cells #[.nilIface] 33)) s ((World.cell?_alloc_lt _ _ ⟨b, 0, none⟩ hlt).trans h0) hs m8 ((World.cell?_alloc_lt _ _ ⟨8, 0, none⟩ hlt8).trans h8) (hE.below hBA) bv ((World.cell?_alloc_lt _ _ ⟨0, 0, none⟩ hltb).trans hbv)
  have HG := hid hg
  clear hg hE hbv h8 hBA h0
  obtain ⟨R, hR⟩ : ∃ R, R = readS s := ⟨_, rfl⟩
  rw [← hR] at HG ⊢
  clear hR
  go_enter_defers Tryz.func29, Tryz.ntmps29
  go_wp2_with fail
  refine HG.out.mono ?_
  intro e w1 hp
  cases R with
  | ok ns =>
    obtain ⟨tb, M, nv, uv, ps, rfl, hL, hn, hM⟩ := hp
    have hb0 := hM.far w.heap.size (by simp) rfl
    rw [heap_alloc_new w] at hb0
    have d0 : w1.cell? ⟨w.heap.size, 0, none⟩ = some .nilIface := by rw [cell_of_row w1 w.heap.size 0 _ _ _ hb0]; rfl
    have f0 : w1.frozen? ⟨w.heap.size, 0, none⟩ = false := by simp [World.frozen?, hb0]
    have hlab : M w.heap.size = .other := hM.lab _ (by simp)
    have H1 := hid (And.intro hL (And.intro hn hM))
    have hl1 : w.heap.size < w1.heap.size := World.block_lt_of_cell? w1 _ d0
    clear hL hn hM hb0
    go_wp2_with fail
    refine leaves_cons (f := 70) (args := #[.pointer (some ⟨w.heap.size, 0, none⟩)]) (by simp) (by simp [go_sem]) ?_
    refine (guard_idle ⟨w.heap.size, 0, none⟩ _).mono ?_
    rintro e u' w'' ⟨rfl, rfl, rfl⟩
    obtain ⟨hL, hn, hM⟩ := H1.out
    have hsz : (w1.setCell ⟨w.heap.size, 0, none⟩ .nilIface).heap.size = w1.heap.size := by simp [World.setCell]
    have hM0 : w.heap.size ≤ w1.heap.size := by omega
    refine ⟨.tuple #[.pointer (some ⟨tb, 0, none⟩), .nilIface], ?_, tb, M, nv, uv, ps, rfl, hL.far (by omega) (fun k hk ho => Below.heap_setCell _ _ _ _ (fun e => ho (e ▸ hlab))), hn, ⟨hM.os, hM.tape, hM.output, by omega, fun k hk => hM.lab k (by simp; omega), fun k hk ho => ?_⟩⟩
    · simp [results, Tryz.results29, go_sem, d0]
    · rw [Below.heap_setCell _ _ _ _ (show k ≠ w.heap.size by omega)]
      exact (hM.far k (by simp; omega) rfl).trans (Below.heap_alloc _ _ _ hk)
  | bad i =>
    obtain ⟨⟨fb, rfl, hf⟩, hB⟩ := hp
    have hb0 := hB.block w.heap.size (by simp)
    rw [heap_alloc_new w] at hb0
    have d0 : w1.cell? ⟨w.heap.size, 0, none⟩ = some .nilIface := by rw [cell_of_row w1 w.heap.size 0 _ _ _ hb0]; rfl
    have f0 : w1.frozen? ⟨w.heap.size, 0, none⟩ = false := by simp [World.frozen?, hb0]
    have hne : fb ≠ w.heap.size := by
      intro e
      rw [e, hb0] at hf
      simp at hf
    have hl1 : w.heap.size < w1.heap.size := World.block_lt_of_cell? w1 _ d0
    have hfl := lt_of_heap hf
    have H1 := hid (And.intro hf hB)
    clear hf hB hb0
    go_wp2_with fail
    refine leaves_cons (f := 70) (args := #[.pointer (some ⟨w.heap.size, 0, none⟩)]) (by simp) (by simp [go_sem]) ?_
    refine (guard_catch w.heap.size w1 _ _ [] d0 f0).mono ?_
    rintro e u' w'' ⟨rfl, rfl, rfl⟩
    obtain ⟨hf, hB⟩ := H1.out
    have hsz : (w1.setCell ⟨w.heap.size, 0, none⟩ (.iface 69 (.pointer (some ⟨fb, 0, none⟩)))).heap.size = w1.heap.size := by simp [World.setCell]
    refine ⟨.tuple #[.pointer none, .iface 69 (.pointer (some ⟨fb, 0, none⟩))], ?_, fb, rfl, ?_, ?_⟩
    · simp [results, Tryz.results29, go_sem, d0, hl1, hsz]
    · rw [Below.heap_alloc _ _ _ (by omega), Below.heap_setCell _ _ _ _ hne]
      exact hf
    · exact (((((Below.refl _ _).alloc (Nat.le_refl _) _).trans (hB.mono (by simp))).setCell (Nat.le_refl _) _).alloc (by omega) _)

/-- what is thrown where a text is too long, or what reading gives -/
def readR (s : ByteArray) : Res := if 20000 < s.size then .bad 20000 else readS s

set_option maxHeartbeats 4000000 in
theorem read_any {w : World} (s : ByteArray) (hs : s.size < 9223372036854775808) (m8 : Int) (h8 : w.cell? ⟨8, 0, none⟩ = some (.int .i64 m8)) (hE : Errs w (fun _ => .other)) (bv : Value) (hbv : w.cell? ⟨0, 0, none⟩ = some bv) :
    Calls Tryz.prog 8 #[.string s] w (ReadPost w bv (readR s)) := by
  have hlt8 : 8 < w.heap.size := World.block_lt_of_cell? w _ h8
  have hltb : 0 < w.heap.size := World.block_lt_of_cell? w _ hbv
  have hBA : Below w.heap.size w (w.alloc (.cells #[.string s] 9)) := (Below.refl _ _).alloc (Nat.le_refl _) _
  by_cases hl : 20000 < s.size
  · have hR : readR s = .bad 20000 := by unfold readR; rw [if_pos hl]
    rw [hR]
    obtain ⟨t2, x2, hc2⟩ := hE.cell 0 (by decide)
    have hb2 := Option.some.inj (hbv.symm.trans hc2)
    subst hb2
    clear hc2
    have hbv2 : (w.alloc (.cells #[.string s] 9)).cell? ⟨0, 0, none⟩ = some (.iface t2 (.pointer (some x2))) := (World.cell?_alloc_lt _ _ ⟨0, 0, none⟩ hltb).trans hbv
    clear hE h8 hR
    go_enter Tryz.func8, Tryz.ntmps8
    go_wp2_with fail
    have hz0 : (w.alloc (.cells #[.string s] 9)).heap.size = w.heap.size + 1 := by simp
    have H1 := hid (And.intro hBA hz0)
    generalize (w.alloc (.cells #[.string s] 9)) = w1 at *
    have hq1 : 0 < w1.heap.size := World.block_lt_of_cell? w1 _ hbv2
    clear hbv hltb hBA hz0 hlt8
    go_region
    all_goals go_wp2_with fail
    all_goals go_ret2
    all_goals (first
      | (refine ⟨w1.heap.size, rfl, heap_alloc_new w1 (.cells #[.int .i64 20000, .iface t2 (.pointer (some x2))] 71), H1.out.1.trans (((Below.refl w1.heap.size w1).alloc (Nat.le_refl _) _).drew.mono (by have := H1.out.2; omega))⟩)
      | (trace_state; fail))
  · have hR : readR s = readS s := by unfold readR; rw [if_neg hl]
    have hg := guard_any (w := w.alloc (.cells #[.string s] 9)) (b := w.heap.size) s (by rw [cell_of_row _ w.heap.size 0 _ _ _ (heap_alloc_new w _)]; rfl) (by omega) m8 ((World.cell?_alloc_lt _ _ ⟨8, 0, none⟩ hlt8).trans h8) (hE.below hBA) bv ((World.cell?_alloc_lt _ _ ⟨0, 0, none⟩ hltb).trans hbv)
    have HG := hid hg
    have HBA := hid hBA
    clear hg hE hbv h8 hBA
    rw [hR]
    obtain ⟨R, hR⟩ : ∃ R, R = readS s := ⟨_, rfl⟩
    rw [← hR] at HG ⊢
    clear hR
    have hmf : ∀ (fn : Fn) (first cap : Array Value) (w : World), (Instr.makeFunc fn first cap).run Tryz.prog w = .ok (.func fn first cap) w := fun _ _ _ _ => rfl
    go_enter Tryz.func8, Tryz.ntmps8
    go_wp2_with fail
    refine HG.out.mono ?_
    intro e w1 hp
    cases R with
    | ok ns =>
      obtain ⟨tb, M, nv, uv, ps, rfl, h1, h2, h3⟩ := hp
      have H := hid (And.intro h1 (And.intro h2 h3))
      clear h1 h2 h3
      go_wp2_with fail
      go_ret2
      obtain ⟨h1, h2, h3⟩ := H.out
      exact ⟨tb, M, nv, uv, ps, rfl, h1, h2, ((Moved.refl w _).below HBA.out).trans h3⟩
    | bad i =>
      obtain ⟨fb, rfl, h1, h2⟩ := hp
      have H := hid (And.intro h1 h2)
      clear h1 h2
      go_wp2_with fail
      go_ret2
      exact ⟨fb, rfl, H.out.1, HBA.out.trans (H.out.2.mono (by simp))⟩
end Go.Proofs.YtnoaojjljcbflaaGreatDoor

/- How a tree of the document's answer lies in memory: as the program's does, of other types. -/
namespace Go.Proofs.YtnoaojjljcbflaaGreatDoor
open Go.RowKit

/-- what lies behind a tree in its own block, and of which type that block is -/
structure Ext where
  rest : List Value
  ty : TypeId
theorem head_cellX {w : World} {tb : Nat} {nv uv : Value} {l : List Value} {t : TypeId} (h : w.heap[tb]? = some (.cells ⟨nv :: uv :: l⟩ t (0, 0))) : w.cell? ⟨tb, 0, none⟩ = some nv ∧ w.cell? ⟨tb, 1, none⟩ = some uv ∧ w.frozen? ⟨tb, 0, none⟩ = false ∧ w.frozen? ⟨tb, 1, none⟩ = false := by
  refine ⟨?_, ?_, ?_, ?_⟩
  · rw [cell_of_row w tb 0 _ _ _ h]; rfl
  · rw [cell_of_row w tb 1 _ _ _ h]; rfl
  · simp [World.frozen?, h]
  · simp [World.frozen?, h]
structure RLies {EX : Ext} (w : World) (M : Nat → Lab) (tb : Nat) (nv uv : Value) (ps : List Pn) (us : List Value) : Prop where
  fresh : ∀ b, w.heap.size ≤ b → M b = .other
  tree : M tb = .tree
  head : w.heap[tb]? = some (.cells ⟨nv :: uv :: EX.rest⟩ EX.ty (0, 0))
  nodes : Row w M .nodes 50 6 nv ps.length (flat ps)
  undos : Row w M .undos 23 1 uv us.length us
  node : ∀ i p, ps[i]? = some p → Row w M (.attrs i) 81 2 p.av p.n.attrs.length (attrCells p.n.attrs) ∧ Row w M (.kids i) 3 1 p.kv p.n.kids.length (p.n.kids.map intV)
theorem RLies.far {EX : Ext} {w w' : World} {M : Nat → Lab} {tb : Nat} {nv uv : Value} {ps : List Pn} {us : List Value} (h : RLies (EX := EX) w M tb nv uv ps us) (hs : w.heap.size ≤ w'.heap.size) (hb : ∀ b, b < w.heap.size → M b ≠ .other → w'.heap[b]? = w.heap[b]?) : RLies (EX := EX) w' M tb nv uv ps us where
  fresh b hb' := h.fresh b (by omega)
  tree := h.tree
  head := (hb tb (lt_of_heap h.head) (by rw [h.tree]; intro e; cases e)).trans h.head
  nodes := h.nodes.keep (fun b hb' e => hb b hb' (by rw [e]; intro e; cases e)) (fun _ _ => rfl)
  undos := h.undos.keep (fun b hb' e => hb b hb' (by rw [e]; intro e; cases e)) (fun _ _ => rfl)
  node i p hp := ⟨(h.node i p hp).1.keep (fun b hb' e => hb b hb' (by rw [e]; intro e; cases e)) (fun _ _ => rfl), (h.node i p hp).2.keep (fun b hb' e => hb b hb' (by rw [e]; intro e; cases e)) (fun _ _ => rfl)⟩
theorem RLies.alloc {EX : Ext} {w : World} {M : Nat → Lab} {tb : Nat} {nv uv : Value} {ps : List Pn} {us : List Value} (h : RLies (EX := EX) w M tb nv uv ps us) (o : Obj) : RLies (EX := EX) (w.alloc o) M tb nv uv ps us :=
  h.far (by simp) (fun b hb _ => Below.heap_alloc w o b hb)
theorem RLies.drew {EX : Ext} {w : World} {M : Nat → Lab} {tb : Nat} {nv uv : Value} {ps : List Pn} {us : List Value} (h : RLies (EX := EX) w M tb nv uv ps us) : RLies (EX := EX) w.drew M tb nv uv ps us :=
  h.far (Nat.le_refl _) (fun _ _ _ => rfl)
theorem RLies.below {EX : Ext} {w w' : World} {M : Nat → Lab} {tb : Nat} {nv uv : Value} {ps : List Pn} {us : List Value} (h : RLies (EX := EX) w M tb nv uv ps us) (hb : Below w.heap.size w w') : RLies (EX := EX) w' M tb nv uv ps us :=
  h.far hb.size (fun b hb' _ => hb.block b hb')
theorem RLies.cell0 {EX : Ext} {w : World} {M : Nat → Lab} {tb : Nat} {nv uv : Value} {ps : List Pn} {us : List Value} (h : RLies (EX := EX) w M tb nv uv ps us) : w.cell? ⟨tb, 0, none⟩ = some nv := by
  rw [cell_of_row w tb 0 _ _ _ h.head]; rfl
theorem RLies.cell1 {EX : Ext} {w : World} {M : Nat → Lab} {tb : Nat} {nv uv : Value} {ps : List Pn} {us : List Value} (h : RLies (EX := EX) w M tb nv uv ps us) : w.cell? ⟨tb, 1, none⟩ = some uv := by
  rw [cell_of_row w tb 1 _ _ _ h.head]; rfl
theorem RLies.frozen {EX : Ext} {w : World} {M : Nat → Lab} {tb : Nat} {nv uv : Value} {ps : List Pn} {us : List Value} (h : RLies (EX := EX) w M tb nv uv ps us) (o : Nat) : w.frozen? ⟨tb, o, none⟩ = false := by
  simp [World.frozen?, h.head]
theorem RLies.setNode {EX : Ext} {w : World} {M : Nat → Lab} {tb : Nat} {nv uv : Value} {ps : List Pn} {us : List Value} (h : RLies (EX := EX) w M tb nv uv ps us) {nb m c0 : Nat} (hv : nv = .slice (some ⟨nb, 0, none⟩) m c0)
    {i f : Nat} {p p' : Pn} {c : Value} (hp : ps[i]? = some p) (hf : f < 6) (he : p'.cells = p.cells.set f c)
    (ha : Row w M (.attrs i) 81 2 p'.av p'.n.attrs.length (attrCells p'.n.attrs)) (hk : Row w M (.kids i) 3 1 p'.kv p'.n.kids.length (p'.n.kids.map intV)) :
    RLies (EX := EX) (w.setCell ⟨nb, i * 6 + f, none⟩ c) M tb nv uv (ps.set i p') us ∧ Step w M (w.setCell ⟨nb, i * 6 + f, none⟩ c) M .nodes := by
  have hi : i < ps.length := (List.getElem?_eq_some_iff.1 hp).1
  obtain ⟨g, cap, hg, _, _, hM, _⟩ := h.nodes.form (by omega)
  have e1 : g = nb := by rw [hv] at hg; cases hg; rfl
  subst e1
  have st : Step w M (w.setCell ⟨g, i * 6 + f, none⟩ c) M .nodes := step_setCell c hM h.fresh
  refine ⟨⟨st.fresh, h.tree, (st.far tb (lt_of_heap h.head) (by rw [h.tree]; intro e; cases e)).trans h.head, ?_, h.undos.step st (by intro e; cases e), ?_⟩, st⟩
  · rw [List.length_set, flat_set ps i f p p' c hp hf he]
    exact h.nodes.set hv _ c (by rw [flat_length]; omega)
  · intro j q hq
    by_cases hij : i = j
    · subst hij
      rw [List.getElem?_set_self hi] at hq
      cases hq
      exact ⟨ha.step st (by intro e; cases e), hk.step st (by intro e; cases e)⟩
    · rw [List.getElem?_set_ne hij] at hq
      exact ⟨(h.node j q hq).1.step st (by intro e; cases e), (h.node j q hq).2.step st (by intro e; cases e)⟩
theorem RLies.headNodes {EX : Ext} {w w1 : World} {M M1 : Nat → Lab} {tb : Nat} {nv uv : Value} {ps : List Pn} {us : List Value} (h : RLies (EX := EX) w M tb nv uv ps us) (st : Step w M w1 M1 .nodes) {nv' : Value} {qs : List Pn}
    (hn : Row w1 M1 .nodes 50 6 nv' qs.length (flat qs)) (hq : ∀ i p, qs[i]? = some p → Row w M (.attrs i) 81 2 p.av p.n.attrs.length (attrCells p.n.attrs) ∧ Row w M (.kids i) 3 1 p.kv p.n.kids.length (p.n.kids.map intV)) :
    RLies (EX := EX) (w1.setCell ⟨tb, 0, none⟩ nv') M1 tb nv' uv qs us ∧ Moved w M (w1.setCell ⟨tb, 0, none⟩ nv') M1 := by
  have hlt := lt_of_heap h.head
  have hM : M1 tb = .tree := (st.lab tb hlt).trans h.tree
  have st2 : Step w1 M1 (w1.setCell ⟨tb, 0, none⟩ nv') M1 .tree := step_setCell nv' hM st.fresh
  have hh : w1.heap[tb]? = some (.cells ⟨nv :: uv :: EX.rest⟩ EX.ty (0, 0)) := (st.far tb hlt (by rw [h.tree]; intro e; cases e)).trans h.head
  refine ⟨⟨st2.fresh, hM, ?_, hn.step st2 (by intro e; cases e), (h.undos.step st (by intro e; cases e)).step st2 (by intro e; cases e), ?_⟩, (st.moved (by intro e; cases e)).trans (st2.moved (by intro e; cases e))⟩
  · rw [setCell_heap w1 tb 0 nv' _ _ _ hh]; rfl
  · intro i p hp
    exact ⟨((hq i p hp).1.step st (by intro e; cases e)).step st2 (by intro e; cases e), ((hq i p hp).2.step st (by intro e; cases e)).step st2 (by intro e; cases e)⟩
theorem RLies.headUndos {EX : Ext} {w w1 : World} {M M1 : Nat → Lab} {tb : Nat} {nv uv : Value} {ps : List Pn} {us : List Value} (h : RLies (EX := EX) w M tb nv uv ps us) (st : Step w M w1 M1 .undos) {uv' : Value} {us' : List Value}
    (hn : Row w1 M1 .undos 23 1 uv' us'.length us') :
    RLies (EX := EX) (w1.setCell ⟨tb, 1, none⟩ uv') M1 tb nv uv' ps us' ∧ Moved w M (w1.setCell ⟨tb, 1, none⟩ uv') M1 := by
  have hlt := lt_of_heap h.head
  have hM : M1 tb = .tree := (st.lab tb hlt).trans h.tree
  have st2 : Step w1 M1 (w1.setCell ⟨tb, 1, none⟩ uv') M1 .tree := step_setCell uv' hM st.fresh
  have hh : w1.heap[tb]? = some (.cells ⟨nv :: uv :: EX.rest⟩ EX.ty (0, 0)) := (st.far tb hlt (by rw [h.tree]; intro e; cases e)).trans h.head
  refine ⟨⟨st2.fresh, hM, ?_, (h.nodes.step st (by intro e; cases e)).step st2 (by intro e; cases e), hn.step st2 (by intro e; cases e), ?_⟩, (st.moved (by intro e; cases e)).trans (st2.moved (by intro e; cases e))⟩
  · rw [setCell_heap w1 tb 1 uv' _ _ _ hh]; rfl
  · intro i p hp
    exact ⟨((h.node i p hp).1.step st (by intro e; cases e)).step st2 (by intro e; cases e), ((h.node i p hp).2.step st (by intro e; cases e)).step st2 (by intro e; cases e)⟩
theorem RLies.cellN {EX : Ext} {w : World} {M : Nat → Lab} {tb : Nat} {nv uv : Value} {ps : List Pn} {us : List Value} (h : RLies (EX := EX) w M tb nv uv ps us) {nb m c0 : Nat} (hv : nv = .slice (some ⟨nb, 0, none⟩) m c0) {i f : Nat} {p : Pn} {c : Value} (hp : ps[i]? = some p) (hf : f < 6) (hc : p.cells[f]? = some c) :
    w.cell? ⟨nb, i * 6 + f, none⟩ = some c ∧ w.frozen? ⟨nb, i * 6 + f, none⟩ = false :=
  h.nodes.cell hv (by rw [flat_get ps i f p hp hf]; exact hc)
theorem RLies.form {EX : Ext} {w : World} {M : Nat → Lab} {tb : Nat} {nv uv : Value} {ps : List Pn} {us : List Value} (h : RLies (EX := EX) w M tb nv uv ps us) {i : Nat} {p : Pn} (hp : ps[i]? = some p) :
    ∃ nb cap, nv = .slice (some ⟨nb, 0, none⟩) ps.length cap ∧ ps.length ≤ cap ∧ cap ≤ maxLen ∧ M nb = .nodes ∧ nb < w.heap.size ∧ i < ps.length := by
  have hi : i < ps.length := (List.getElem?_eq_some_iff.1 hp).1
  obtain ⟨g, cap, h1, h2, h3, h4, h5⟩ := h.nodes.form (by omega)
  exact ⟨g, cap, h1, h2, h3, h4, h5, hi⟩
theorem RLies.drewN {EX : Ext} {w : World} {M : Nat → Lab} {tb : Nat} {nv uv : Value} {ps : List Pn} {us : List Value} (h : RLies (EX := EX) w M tb nv uv ps us) (n : Nat) : RLies (EX := EX) (w.drewN n) M tb nv uv ps us :=
  h.far (Nat.le_refl _) (fun _ _ _ => rfl)
theorem RLies.setAttrs {EX : Ext} {w w1 : World} {M M1 : Nat → Lab} {tb : Nat} {nv uv : Value} {ps : List Pn} {us : List Value} (h : RLies (EX := EX) w M tb nv uv ps us) {nb m c0 : Nat} (hv : nv = .slice (some ⟨nb, 0, none⟩) m c0) {i : Nat} {p : Pn} (hp : ps[i]? = some p) (st : Step w M w1 M1 (.attrs i))
    {av' : Value} {at' : List (ByteArray × ByteArray)} (hr : Row w1 M1 (.attrs i) 81 2 av' at'.length (attrCells at')) :
    RLies (EX := EX) (w1.setCell ⟨nb, i * 6 + 3, none⟩ av') M1 tb nv uv (ps.set i ⟨{ p.n with attrs := at' }, av', p.kv⟩) us ∧ Moved w M (w1.setCell ⟨nb, i * 6 + 3, none⟩ av') M1 ∧ (∃ u, w1.cell? ⟨nb, i * 6 + 3, none⟩ = some u) ∧ w1.frozen? ⟨nb, i * 6 + 3, none⟩ = false := by
  have hi : i < ps.length := (List.getElem?_eq_some_iff.1 hp).1
  obtain ⟨g, cap, hg, _, _, hM, hgl⟩ := h.nodes.form (by omega)
  have e1 : g = nb := by rw [hv] at hg; cases hg; rfl
  subst e1
  have hn1 : Row w1 M1 .nodes 50 6 nv ps.length (flat ps) := h.nodes.step st (by intro e; cases e)
  have hM1 : M1 g = .nodes := (st.lab g hgl).trans hM
  have st2 : Step w1 M1 (w1.setCell ⟨g, i * 6 + 3, none⟩ av') M1 .nodes := step_setCell av' hM1 st.fresh
  have hc := hn1.cell hv (flat_get ps i 3 p hp (by omega))
  refine ⟨⟨st2.fresh, (st.lab tb (lt_of_heap h.head)).trans h.tree, ?_, ?_, (h.undos.step st (by intro e; cases e)).step st2 (by intro e; cases e), ?_⟩, (st.moved (by intro e; cases e)).trans (st2.moved (by intro e; cases e)), ⟨_, hc.1⟩, hc.2⟩
  · have ht : M1 tb = .tree := (st.lab tb (lt_of_heap h.head)).trans h.tree
    have hl : tb < w1.heap.size := Nat.lt_of_lt_of_le (lt_of_heap h.head) st.size
    exact ((st2.far tb hl (by rw [ht]; intro e; cases e)).trans (st.far tb (lt_of_heap h.head) (by rw [h.tree]; intro e; cases e))).trans h.head
  · rw [List.length_set, flat_set ps i 3 p ⟨{ p.n with attrs := at' }, av', p.kv⟩ av' hp (by omega) rfl]
    exact hn1.set hv _ _ (by rw [flat_length]; omega)
  · intro j q hq
    by_cases hij : i = j
    · subst hij
      rw [List.getElem?_set_self hi] at hq
      cases hq
      exact ⟨hr.step st2 (by intro e; cases e), ((h.node i p hp).2.step st (by intro e; cases e)).step st2 (by intro e; cases e)⟩
    · rw [List.getElem?_set_ne hij] at hq
      exact ⟨((h.node j q hq).1.step st (by intro e; cases e; exact hij rfl)).step st2 (by intro e; cases e), ((h.node j q hq).2.step st (by intro e; cases e)).step st2 (by intro e; cases e)⟩
theorem RLies.turnAttrs {EX : Ext} {w w1 : World} {M M1 : Nat → Lab} {tb : Nat} {nv uv : Value} {ps : List Pn} {us : List Value} (h : RLies (EX := EX) w M tb nv uv ps us) {i : Nat} {p : Pn} (hp : ps[i]? = some p) (st : Step w M w1 M1 (.attrs i))
    {at' : List (ByteArray × ByteArray)} (hr : Row w1 M1 (.attrs i) 81 2 p.av at'.length (attrCells at')) :
    RLies (EX := EX) w1 M1 tb nv uv (ps.set i ⟨{ p.n with attrs := at' }, p.av, p.kv⟩) us ∧ Moved w M w1 M1 := by
  have hi : i < ps.length := (List.getElem?_eq_some_iff.1 hp).1
  refine ⟨⟨st.fresh, (st.lab tb (lt_of_heap h.head)).trans h.tree, (st.far tb (lt_of_heap h.head) (by rw [h.tree]; intro e; cases e)).trans h.head, ?_, h.undos.step st (by intro e; cases e), ?_⟩, st.moved (by intro e; cases e)⟩
  · rw [List.length_set, flat_same ps i p ⟨{ p.n with attrs := at' }, p.av, p.kv⟩ hp rfl]
    exact h.nodes.step st (by intro e; cases e)
  · intro j q hq
    by_cases hij : i = j
    · subst hij
      rw [List.getElem?_set_self hi] at hq
      cases hq
      exact ⟨hr, (h.node i p hp).2.step st (by intro e; cases e)⟩
    · rw [List.getElem?_set_ne hij] at hq
      exact ⟨(h.node j q hq).1.step st (by intro e; cases e; exact hij rfl), (h.node j q hq).2.step st (by intro e; cases e)⟩
theorem RLies.setKids {EX : Ext} {w w1 : World} {M M1 : Nat → Lab} {tb : Nat} {nv uv : Value} {ps : List Pn} {us : List Value} (h : RLies (EX := EX) w M tb nv uv ps us) {nb m c0 : Nat} (hv : nv = .slice (some ⟨nb, 0, none⟩) m c0) {i : Nat} {p : Pn} (hp : ps[i]? = some p) (st : Step w M w1 M1 (.kids i))
    {kv' : Value} {ks' : List Int} (hr : Row w1 M1 (.kids i) 3 1 kv' ks'.length (ks'.map intV)) :
    RLies (EX := EX) (w1.setCell ⟨nb, i * 6 + 5, none⟩ kv') M1 tb nv uv (ps.set i ⟨{ p.n with kids := ks' }, p.av, kv'⟩) us ∧ Moved w M (w1.setCell ⟨nb, i * 6 + 5, none⟩ kv') M1 ∧ w1.cell? ⟨nb, i * 6 + 5, none⟩ = some p.kv ∧ w1.frozen? ⟨nb, i * 6 + 5, none⟩ = false ∧ w1.cell? ⟨tb, 0, none⟩ = some nv := by
  have hi : i < ps.length := (List.getElem?_eq_some_iff.1 hp).1
  obtain ⟨g, cap, hg, _, _, hM, hgl⟩ := h.nodes.form (by omega)
  have e1 : g = nb := by rw [hv] at hg; cases hg; rfl
  subst e1
  have hn1 : Row w1 M1 .nodes 50 6 nv ps.length (flat ps) := h.nodes.step st (by intro e; cases e)
  have hM1 : M1 g = .nodes := (st.lab g hgl).trans hM
  have st2 : Step w1 M1 (w1.setCell ⟨g, i * 6 + 5, none⟩ kv') M1 .nodes := step_setCell kv' hM1 st.fresh
  have hc := hn1.cell hv ((flat_get ps i 5 p hp (by omega)).trans rfl)
  have hh := (st.far tb (lt_of_heap h.head) (by rw [h.tree]; intro e; cases e)).trans h.head
  refine ⟨⟨st2.fresh, (st.lab tb (lt_of_heap h.head)).trans h.tree, ?_, ?_, (h.undos.step st (by intro e; cases e)).step st2 (by intro e; cases e), ?_⟩, (st.moved (by intro e; cases e)).trans (st2.moved (by intro e; cases e)), hc.1, hc.2, (head_cellX hh).1⟩
  · have ht : M1 tb = .tree := (st.lab tb (lt_of_heap h.head)).trans h.tree
    have hl : tb < w1.heap.size := Nat.lt_of_lt_of_le (lt_of_heap h.head) st.size
    exact (st2.far tb hl (by rw [ht]; intro e; cases e)).trans hh
  · rw [List.length_set, flat_set ps i 5 p ⟨{ p.n with kids := ks' }, p.av, kv'⟩ kv' hp (by omega) rfl]
    exact hn1.set hv _ _ (by rw [flat_length]; omega)
  · intro j q hq
    by_cases hij : i = j
    · subst hij
      rw [List.getElem?_set_self hi] at hq
      cases hq
      exact ⟨((h.node i p hp).1.step st (by intro e; cases e)).step st2 (by intro e; cases e), hr.step st2 (by intro e; cases e)⟩
    · rw [List.getElem?_set_ne hij] at hq
      exact ⟨((h.node j q hq).1.step st (by intro e; cases e)).step st2 (by intro e; cases e), ((h.node j q hq).2.step st (by intro e; cases e; exact hij rfl)).step st2 (by intro e; cases e)⟩
theorem RLies.grown {EX : Ext} {w w' : World} {M : Nat → Lab} {tb : Nat} {nv uv : Value} {ps : List Pn} {us : List Value} {row : Option Nat} (h : RLies (EX := EX) w M tb nv uv ps us) (hg : w.grownBy w' row) (hr : ∀ k, row = some k → M k = .other) : RLies (EX := EX) w' M tb nv uv ps us :=
  h.far hg.size (fun b hb hne => hg.block b hb (fun e => hne (hr b e.symm)))
end Go.Proofs.YtnoaojjljcbflaaGreatDoor
