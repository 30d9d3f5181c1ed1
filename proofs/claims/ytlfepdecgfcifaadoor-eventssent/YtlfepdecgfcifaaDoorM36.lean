/- EventsSent's steps as they lie in memory; no node of a built tree has kind 0; the two ways are one. -/
import Derived.Test.YtlfepdecgfcifaaDoorEvLawS
import Derived.Test.YtlfepdecgfcifaaDoorRFrom2
import Derived.Test.YtlfepdecgfcifaaDoorOpenB
namespace Go.Proofs.YtlfepdecgfcifaaDoor
open Go.RowKit
set_option linter.unusedVariables false

structure StepR where
  kind : Int
  ear : EvE
  k : Int
  name : ByteArray
  rises : Bool
structure StepAt (w : World) (b c : Nat) (s : StepR) : Prop where
  c0 : w.cell? ⟨b, c, none⟩ = some (.int .i64 s.kind)
  c1 : w.cell? ⟨b, c + 1, none⟩ = some (.int .i64 s.ear.node)
  c2 : w.cell? ⟨b, c + 2, none⟩ = some (.string s.ear.name)
  c3 : w.cell? ⟨b, c + 3, none⟩ = some (.bool s.ear.down)
  c4 : w.cell? ⟨b, c + 4, none⟩ = some (.bool s.ear.once)
  c5 : w.cell? ⟨b, c + 5, none⟩ = some (.bool s.ear.calm)
  c6 : w.cell? ⟨b, c + 6, none⟩ = some (.bool s.ear.stop)
  c7 : w.cell? ⟨b, c + 7, none⟩ = some (.bool s.ear.now)
  c8 : w.cell? ⟨b, c + 8, none⟩ = some (.bool s.ear.bar)
  c9 : w.cell? ⟨b, c + 9, none⟩ = some (.int .i64 s.k)
  c10 : w.cell? ⟨b, c + 10, none⟩ = some (.string s.name)
  c11 : w.cell? ⟨b, c + 11, none⟩ = some (.bool s.rises)
  z1 : s.ear.name.size ≤ 9223372036854775807
  z2 : s.name.size ≤ 9223372036854775807
def StepsL (w : World) (S : Nat) (a : Option Addr) (l : List StepR) : Prop := ∀ (j : Nat) (s : StepR), l[j]? = some s → ∃ b o, a = some ⟨b, o, none⟩ ∧ b < S ∧ StepAt w b (o + j * 12) s
theorem StepAt.same {w w' : World} {b c : Nat} {s : StepR} (h : StepAt w b c s) (hb : w'.heap[b]? = w.heap[b]?) : StepAt w' b c s := by
  have cc : ∀ o, w'.cell? ⟨b, o, none⟩ = w.cell? ⟨b, o, none⟩ := fun o => World.cell?_of_block (a := ⟨b, o, none⟩) hb
  exact ⟨(cc _).trans h.c0, (cc _).trans h.c1, (cc _).trans h.c2, (cc _).trans h.c3, (cc _).trans h.c4, (cc _).trans h.c5, (cc _).trans h.c6, (cc _).trans h.c7, (cc _).trans h.c8, (cc _).trans h.c9, (cc _).trans h.c10, (cc _).trans h.c11, h.z1, h.z2⟩
theorem StepsL.same {w w' : World} {S : Nat} {a : Option Addr} {l : List StepR} (h : StepsL w S a l) (hb : ∀ b, b < S → w'.heap[b]? = w.heap[b]?) : StepsL w' S a l := fun j s hj => by
  obtain ⟨b, o, e, h1, h2⟩ := h j s hj
  exact ⟨b, o, e, h1, h2.same (hb b h1)⟩

/-! ### kinds -/
def KNz (ns : List Nd) : Prop := ∀ n ∈ ns, n.kind ≠ 0
theorem KNz.set {ns : List Nd} (h : KNz ns) (i : Nat) {n : Nd} (hn : n.kind ≠ 0) : KNz (ns.set i n) := fun x hx => by
  rcases List.mem_or_eq_of_mem_set hx with e | e
  · exact h x e
  · rw [e]; exact hn
theorem KNz.setS {ns : List Nd} (h : KNz ns) (i : Nat) (a b : ByteArray) : KNz (setS ns i a b) := by
  unfold Go.Proofs.YtlfepdecgfcifaaDoor.setS
  split
  · exact h
  · rename_i n hn
    split
    · exact h.set i (h n (List.mem_of_getElem? hn))
    · exact h
theorem KNz.put {ns : List Nd} (h : KNz ns) (a b : Nat) : KNz (putS ns a b) := by
  unfold putS
  split
  · rename_i na nb ha hb
    split
    · have h1 := h na (List.mem_of_getElem? ha)
      have h2 := h nb (List.mem_of_getElem? hb)
      exact (h.set a (n := { na with kids := na.kids ++ [(b : Int)] }) h1).set b (n := { nb with parent := (a : Int) }) h2
    · exact h
  · exact h
theorem KNz.attrs {i : Nat} (l : List (ByteArray × ByteArray)) : ∀ {ns : List Nd}, KNz ns → KNz (attrsS i ns l) := by
  induction l with
  | nil => intro ns h; exact h
  | cons x l ih => intro ns h; exact ih (h.setS i x.1 x.2)
theorem KNz.kids {k : Nat} (l : List Int) : ∀ {ns : List Nd}, KNz ns → KNz (kidsS k ns l) := by
  induction l with
  | nil => intro ns h; exact h
  | cons x l ih =>
    intro ns h
    refine ih ?_
    unfold kidS
    split
    · exact h.put _ _
    · exact h
theorem headS_nz (kind : Int) (tag text : ByteArray) : (headS kind tag text).kind ≠ 0 := by
  unfold headS
  split
  · show (2 : Int) ≠ 0; decide
  · split
    · show (4 : Int) ≠ 0; decide
    · show (3 : Int) ≠ 0; decide
theorem bodyS_nz (ts : List Tw) : ∀ k, KNz (bodyS ts k)
  | 0 => fun n hn => by
    simp only [bodyS, List.mem_cons, List.not_mem_nil, or_false] at hn
    rw [hn]
    decide
  | k + 1 => by
    unfold bodyS
    split
    · refine KNz.kids _ (KNz.attrs _ fun n hn => ?_)
      rcases List.mem_append.1 hn with e | e
      · exact bodyS_nz ts k n e
      · simp only [List.mem_cons, List.not_mem_nil, or_false] at e
        rw [e]
        exact headS_nz _ _ _
    · exact bodyS_nz ts k
theorem lastS_nz (ts : List Tw) : ∀ j, KNz (lastS ts j)
  | 0 => bodyS_nz ts _
  | j + 1 => by
    unfold lastS rootS
    split
    · exact (lastS_nz ts j).put _ _
    · exact lastS_nz ts j
theorem wayD_wayI {ns : List Nd} (h : KNz ns) (z : Int) : wayD ns z = wayI ns z := by
  unfold wayD wayI kindI
  cases hb : hasB ns.length z
  · simp
  · have hz : 0 ≤ z ∧ z < (ns.length : Int) := by unfold hasB at hb; simpa using hb
    obtain ⟨i, rfl⟩ : ∃ i : Nat, z = i := ⟨z.toNat, by omega⟩
    have hi : i < ns.length := by omega
    rw [if_pos rfl, if_pos rfl, Int.toNat_natCast, List.getElem?_eq_getElem hi]
    rw [if_neg (h _ (List.getElem_mem hi))]
theorem treeS_wayD (ts : List Tw) (z : Int) : wayD (treeS ts) z = wayI (treeS ts) z := wayD_wayI (lastS_nz ts _) z

/-! ### what a step does -/
theorem addR_len {E : List EvS} (h : E.length ≤ 200) (x : EvE) : (addR E x).1.length ≤ 200 := by
  unfold addR
  split
  · exact h
  · simp; omega
theorem dropR_len {E : List EvS} (h : E.length ≤ 200) (k : Int) : (dropR E k).1.length ≤ 200 := by
  unfold dropR
  split
  · exact h
  · split
    · exact h
    · split
      · exact h
      · simpa using h
theorem sendE_len {E : List EvS} (h : E.length ≤ 200) (name : ByteArray) (rises : Bool) (way : List Int) : (sendT name rises way (st0E E)).E.length ≤ 200 := by
  rw [sendT_len]
  exact h
theorem RLies.tqv {W : World} {M : Nat → Lab} {B : Nat} {nv uv : Value} {ps : List Pn} {us : List Value} (h : RLies W M B nv uv ps us) (hp : 0 < ps.length) : TqV W nv (nodesOf ps) ∧ ∀ b, M b = .other → nv.ownBlock ≠ some b := by
  obtain ⟨nb, cap, rfl, h1, h2, h3, h4, _⟩ := h.form (List.getElem?_eq_getElem hp)
  unfold maxLen at h2
  have hl : (nodesOf ps).length = ps.length := by simp [nodesOf]
  refine ⟨⟨nb, cap, by rw [hl], by omega, by omega, by omega, h4, fun i n hn => ?_⟩, fun b hb e => ?_⟩
  · obtain ⟨p, hp2, rfl⟩ : ∃ p, ps[i]? = some p ∧ p.n = n := by
      unfold nodesOf at hn
      rw [List.getElem?_map] at hn
      cases hq : ps[i]? with
      | none => rw [hq] at hn; cases hn
      | some p => rw [hq] at hn; exact ⟨p, rfl, by simpa using hn⟩
    exact (h.cellN rfl hp2 (f := 4) (by omega) rfl).1
  · simp only [Value.ownBlock, Option.some.injEq] at e
    subst e
    rw [h3] at hb
    cases hb
/-- what is of another type is not the nodes' block -/
theorem RLies.nodes_ne {W : World} {M : Nat → Lab} {B : Nat} {nv uv : Value} {ps : List Pn} {us : List Value} (h : RLies W M B nv uv ps us) (hp : 0 < ps.length) {eb : Nat} {cs : Array Value} {e : TypeId} {fr : Nat × Nat} (hh : W.heap[eb]? = some (.cells cs e fr)) (he : e ≠ 83) : nv.ownBlock ≠ some eb := fun q => by
  obtain ⟨_, a, cap, rfl, h1, _, h3⟩ := h.nodes
  rcases h3 with ⟨rfl, _⟩ | ⟨g, cur, rfl, _, hg, _⟩
  · omega
  · simp only [Value.ownBlock, Option.some.injEq] at q
    subst q
    rw [hg] at hh
    injection hh with hh
    injection hh with _ hh
    exact he hh.symm
end Go.Proofs.YtlfepdecgfcifaaDoor

/- A list of steps that came in, laid open. -/
namespace Go.Proofs.YtlfepdecgfcifaaDoor
open Go.RowKit Go.Deep Go.ChangeShapes

theorem twelve_list {α : Type} {l : List α} (h : l.length = 12) : ∃ a b c d e f g h i j k m, l = [a, b, c, d, e, f, g, h, i, j, k, m] := by
  match l, h with
  | [a, b, c, d, e, f, g, h, i, j, k, m], _ => exact ⟨a, b, c, d, e, f, g, h, i, j, k, m, rfl⟩
theorem eight_list {α : Type} {l : List α} (h : l.length = 8) : ∃ a b c d e f g h, l = [a, b, c, d, e, f, g, h] := by
  match l, h with
  | [a, b, c, d, e, f, g, h], _ => exact ⟨a, b, c, d, e, f, g, h, rfl⟩
theorem Tryd.cellsStepE : Tryd.prog.cellsOf 42 = 12 := by kernel_rfl
theorem Tryd.cellsQear : Tryd.prog.cellsOf 40 = 8 := by kernel_rfl
theorem Tryd.cellsBool : Tryd.prog.cellsOf 4 = 1 := by kernel_rfl

set_option maxHeartbeats 4000000 in
set_option maxRecDepth 100000 in
theorem open_steps {H : Type} {enc : TypeId × Value → H} {W : World} {fuel : Nat} {v : Value} {x : DataW H × List MemPlace} (h : DataW.trod enc Tryd.prog W 0 (fun _ => true) true fuel 23 [v] = some x) :
    ∃ (a : Option Addr) (cap : Nat) (l : List StepR), v = .slice a l.length cap ∧ StepsL W W.heap.size a l := by
  rcases open_slice Tryd.underlying23 h with ⟨h0, _⟩ | ⟨a, len, cap, m, n, D, Pl, h0, _, hl, hm, hmm, _, hx⟩
  · refine ⟨none, 0, [], by simpa using h0, fun j x hj => by simp at hj⟩
  · have hlm : len ≤ m := by rw [hmm]; simp; exact hl
    unfold maxLen at hm
    have h00 : 0 < len → a = ⟨a.block, a.off, none⟩ := by
      intro hp
      obtain ⟨cs', h1, h2⟩ := hx 0 (by omega)
      rw [Tryd.cellsStepE] at h1
      obtain ⟨_, hlen, hcell⟩ := World.cells?_some h1
      have e0 := hcell 0 (by omega)
      rw [add_add, List.getElem?_eq_getElem (by omega)] at e0
      simp only [Nat.zero_mul, Nat.add_zero] at e0
      exact addr_of e0
    have each : ∀ i, i < len → ∃ o : StepR, a.block < W.heap.size ∧ StepAt W a.block (a.off + i * 12) o := by
      intro i hi
      have ea := h00 (by omega)
      obtain ⟨cs', h1, h2⟩ := hx i (by omega)
      rw [Tryd.cellsStepE] at h1
      obtain ⟨_, hlen, hcell⟩ := World.cells?_some h1
      obtain ⟨xs, k, hk, _, _, hxl, hf⟩ := DataW.trod_struct Tryd.underlying42 h2
      obtain ⟨v0, v1, v2, v3, v4, v5, v6, v7, v8, v9, v10, v11, rfl⟩ := twelve_list hlen
      obtain ⟨y0, y1, y2, y3, y4, rfl⟩ := five_list hxl
      have g0 : DataW.trod enc Tryd.prog W 0 (fun _ => true) true k 3 [v0] = some y0 := by
        have := hf 0 _ rfl
        simpa [Tryd.cellsInt] using this
      have g1 : DataW.trod enc Tryd.prog W 0 (fun _ => true) true k 40 [v1, v2, v3, v4, v5, v6, v7, v8] = some y1 := by
        have := hf 1 _ rfl
        simpa [Tryd.cellsQear] using this
      have g2 : DataW.trod enc Tryd.prog W 0 (fun _ => true) true k 3 [v9] = some y2 := by
        have := hf 2 _ rfl
        simpa [Tryd.cellsInt] using this
      have g3 : DataW.trod enc Tryd.prog W 0 (fun _ => true) true k 9 [v10] = some y3 := by
        have := hf 3 _ rfl
        simpa [Tryd.cellsStr] using this
      have g4 : DataW.trod enc Tryd.prog W 0 (fun _ => true) true k 4 [v11] = some y4 := by
        have := hf 4 _ rfl
        simpa [Tryd.cellsBool] using this
      obtain ⟨xs2, k2, hk2, _, _, hxl2, hf2⟩ := DataW.trod_struct Tryd.underlying40 g1
      obtain ⟨z0, z1, z2, z3, z4, z5, z6, z7, rfl⟩ := eight_list hxl2
      have r0 : DataW.trod enc Tryd.prog W 0 (fun _ => true) true k2 3 [v1] = some z0 := by
        have := hf2 0 _ rfl
        simpa [Tryd.cellsInt] using this
      have r1 : DataW.trod enc Tryd.prog W 0 (fun _ => true) true k2 9 [v2] = some z1 := by
        have := hf2 1 _ rfl
        simpa [Tryd.cellsStr] using this
      have r2 : DataW.trod enc Tryd.prog W 0 (fun _ => true) true k2 4 [v3] = some z2 := by
        have := hf2 2 _ rfl
        simpa [Tryd.cellsBool] using this
      have r3 : DataW.trod enc Tryd.prog W 0 (fun _ => true) true k2 4 [v4] = some z3 := by
        have := hf2 3 _ rfl
        simpa [Tryd.cellsBool] using this
      have r4 : DataW.trod enc Tryd.prog W 0 (fun _ => true) true k2 4 [v5] = some z4 := by
        have := hf2 4 _ rfl
        simpa [Tryd.cellsBool] using this
      have r5 : DataW.trod enc Tryd.prog W 0 (fun _ => true) true k2 4 [v6] = some z5 := by
        have := hf2 5 _ rfl
        simpa [Tryd.cellsBool] using this
      have r6 : DataW.trod enc Tryd.prog W 0 (fun _ => true) true k2 4 [v7] = some z6 := by
        have := hf2 6 _ rfl
        simpa [Tryd.cellsBool] using this
      have r7 : DataW.trod enc Tryd.prog W 0 (fun _ => true) true k2 4 [v8] = some z7 := by
        have := hf2 7 _ rfl
        simpa [Tryd.cellsBool] using this
      obtain ⟨k0, e0, _, _⟩ := DataW.trod_int Tryd.underlying3 g0
      obtain ⟨k1, e1, _, _⟩ := DataW.trod_int Tryd.underlying3 r0
      obtain ⟨s2, e2, _, q2⟩ := DataW.trod_string Tryd.underlying9 r1
      obtain ⟨b3, e3, _, _⟩ := DataW.trod_bool Tryd.underlying4 r2
      obtain ⟨b4, e4, _, _⟩ := DataW.trod_bool Tryd.underlying4 r3
      obtain ⟨b5, e5, _, _⟩ := DataW.trod_bool Tryd.underlying4 r4
      obtain ⟨b6, e6, _, _⟩ := DataW.trod_bool Tryd.underlying4 r5
      obtain ⟨b7, e7, _, _⟩ := DataW.trod_bool Tryd.underlying4 r6
      obtain ⟨b8, e8, _, _⟩ := DataW.trod_bool Tryd.underlying4 r7
      obtain ⟨k9, e9, _, _⟩ := DataW.trod_int Tryd.underlying3 g2
      obtain ⟨s10, e10, _, q10⟩ := DataW.trod_string Tryd.underlying9 g3
      obtain ⟨b11, e11, _, _⟩ := DataW.trod_bool Tryd.underlying4 g4
      simp only [List.cons.injEq, and_true] at e0 e1 e2 e3 e4 e5 e6 e7 e8 e9 e10 e11
      subst e0 e1 e2 e3 e4 e5 e6 e7 e8 e9 e10 e11
      have q : ∀ f, f < 12 → W.cell? ⟨a.block, a.off + i * 12 + f, none⟩ = [Value.int .i64 k0, .int .i64 k1, .string s2, .bool b3, .bool b4, .bool b5, .bool b6, .bool b7, .bool b8, .int .i64 k9, .string s10, .bool b11][f]? := by
        intro f hf7
        have := hcell f hf7
        rw [add_add, addr_add ea] at this
        rw [show a.off + i * 12 + f = a.off + (i * 12 + f) by omega]
        exact this
      unfold maxLen at q2 q10
      have q0 := q 0 (by omega)
      exact ⟨⟨k0, ⟨k1, s2, b3, b4, b5, b6, b7, b8⟩, k9, s10, b11⟩, blk_lt q0, q0, q 1 (by omega), q 2 (by omega), q 3 (by omega), q 4 (by omega), q 5 (by omega), q 6 (by omega), q 7 (by omega), q 8 (by omega), q 9 (by omega), q 10 (by omega), q 11 (by omega), by simpa using q2, by simpa using q10⟩
    have : Inhabited StepR := ⟨⟨0, ⟨0, ⟨#[]⟩, false, false, false, false, false, false⟩, 0, ⟨#[]⟩, false⟩⟩
    obtain ⟨q, hq⟩ := choose_lt each
    refine ⟨some a, cap, (List.range len).map q, by simpa using h0, fun j x hj => ?_⟩
    have hjl : j < len := by simpa using (List.getElem?_eq_some_iff.1 hj).1
    have hxq : x = q j := by simpa [List.getElem?_range hjl] using hj.symm
    subst hxq
    obtain ⟨hb, hs⟩ := hq j hjl
    exact ⟨a.block, a.off, congrArg some (h00 (by omega)), hb, hs⟩
end Go.Proofs.YtlfepdecgfcifaaDoor
