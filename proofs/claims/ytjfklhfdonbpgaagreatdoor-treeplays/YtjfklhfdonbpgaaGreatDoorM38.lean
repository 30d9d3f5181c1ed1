/- What the listed variables give: package api's seven errors lie in memory, each at an address of its own, and the type handle of package errors is that of 'error'. -/
import Derived.Test.YtjfklhfdonbpgaaGreatDoorRows
import Derived.Test.YtjfklhfdonbpgaaGreatDoorM26
import Derived.LaidLaws
import Derived.LaidHandle
import Derived.Stop.LaidErr
import Derived.Test.YtjfklhfdonbpgaaGreatDoorTLaw
import Derived.Deep.SlicePairs
import Derived.ChangeSlices
namespace Go.Proofs.YtjfklhfdonbpgaaGreatDoor
open Go.RowKit Go.ChangeShapes

theorem sentinels {P : Program} {W : World} {ti tp te ts : TypeId} {ms : Array (String × TypeId)} {nm : String} {f : Field}
    (hi : P.underlying ti = some (.interface ms)) (hrow : ∀ u, P.typeName? 3 u = some nm → u = tp)
    (hp : P.underlying tp = some (.pointer te)) (he : P.underlying te = some (.struct #[f])) (hft : f.type = ts) (hfo : f.offset = 0) (hs : P.underlying ts = some .string) (hc : P.cellsOf te = 1) (hcs : P.cellsOf ts = 1) :
    ∀ (l : List (String × List UInt8)) (ps : List MemPlace), DataW.LaidVars P W (l.map fun x => (x.1, .iface nm (.ptr (.agg [.lit (.string x.2)])))) ps →
      (∀ x ∈ l, (P.globalNamed x.1).bind (fun g => (P.globals[g]?).map (·.type)) = some ti) →
      (∀ b off, MemPlace.cell b off ∈ ps → (∃ c t, W.heap[b]? = some (.cells c t (0, 0))) ∧ ∀ u v, W.cell? ⟨b, off, none⟩ = some (.iface u v) → Value.okWide P W .any 0 u v) →
      ∃ av : List Addr, av.length = l.length ∧ (∀ i (h : i < l.length) (h' : i < av.length), W.var? P l[i].1 = some #[.iface tp (.pointer (some av[i]))]) ∧ List.Sublist (av.map fun a => MemPlace.cell a.block a.off) ps
  | [], ps, _, _, _ => ⟨[], rfl, fun i h => by simp at h, List.nil_sublist _⟩
  | x :: l, ps, h, ht, hr => by
    obtain ⟨g, t, cs, fuel, p, q, hg, htt, hv, hd, hq, rfl⟩ := h
    have ht0 := ht x (List.mem_cons_self ..)
    rw [hg] at ht0
    simp only [Option.bind_some] at ht0
    obtain rfl := Option.some.inj (ht0.symm.trans htt)
    obtain ⟨l0⟩ := cs
    have ok0 : ∀ u v, l0 = [.iface u v] → Value.okWide P W .any 0 u v := fun u v e => by
      subst e
      exact (hr g 0 (by simp [MemPlace.row])).2 u v (by simpa using World.var?_cell hg hv 0)
    obtain ⟨a, s, rfl, _, _, _, rfl⟩ := errorString_of_trod hi hrow hp he hft hfo hs hc hcs hd ok0
    obtain ⟨av, hl, hvs, hsub⟩ := sentinels hi hrow hp he hft hfo hs hc hcs l q hq (fun y hy => ht y (List.mem_cons_of_mem _ hy)) (fun b off hm => hr b off (List.mem_append_right _ hm))
    refine ⟨a :: av, by simp [hl], ?_, ?_⟩
    · intro i h1 h2
      cases i with
      | zero => exact hv
      | succ i => exact hvs i (by simpa using h1) (by simpa using h2)
    · have e : MemPlace.row a 1 = [MemPlace.cell a.block a.off] := by simp [MemPlace.row]
      rw [e, List.map_cons]
      rw [List.append_assoc]
      exact (List.Sublist.cons_cons (MemPlace.cell a.block a.off) hsub).trans (List.sublist_append_right _ _)

theorem star : ("*" ++ "errors.errorString" : String) = "*errors.errorString" := by decide
theorem rowErr (u : TypeId) (h : Tryz.prog.typeName? 3 u = some "*errors.errorString") : u = 149 :=
  typeName_ptr_named (nm := "errors.errorString") (by rw [star]; kernel_rfl) (by kernel_rfl) (by decide) u (by rw [star]; exact h)
theorem cellsErr : Tryz.prog.cellsOf 170 = 1 := by kernel_rfl
theorem cellsS : Tryz.prog.cellsOf 9 = 1 := by kernel_rfl
theorem rt : (Tryz.prog.cutTypes.find? (·.1 == "internal/reflectlite.rtype")).map (·.2) = some 134 := by kernel_rfl
theorem oneRow : ((List.range 182).filter fun t => Tryz.prog.rowNamed t [101, 114, 114, 111, 114]) = [55] := by kernel_rfl
theorem typesSize : Tryz.prog.types.size = 182 := by kernel_rfl
theorem gType : Tryz.prog.globalNamed "errors.errorType" = some 7 := by kernel_rfl

/-- the seven, by name and text -/
def seven : List (String × List UInt8) := [("casement/api.ErrText", [99, 97, 115, 101, 109, 101, 110, 116, 58, 32, 116, 101, 120, 116]), ("casement/api.ErrBound", [99, 97, 115, 101, 109, 101, 110, 116, 58, 32, 98, 111, 117, 110, 100]), ("casement/api.ErrName", [99, 97, 115, 101, 109, 101, 110, 116, 58, 32, 110, 97, 109, 101]), ("casement/api.ErrNode", [99, 97, 115, 101, 109, 101, 110, 116, 58, 32, 110, 111, 100, 101]), ("casement/api.ErrPlace", [99, 97, 115, 101, 109, 101, 110, 116, 58, 32, 112, 108, 97, 99, 101]), ("casement/api.ErrShape", [99, 97, 115, 101, 109, 101, 110, 116, 58, 32, 115, 104, 97, 112, 101]), ("casement/api.ErrValue", [99, 97, 115, 101, 109, 101, 110, 116, 58, 32, 118, 97, 108, 117, 101])]

theorem gErrs : ∀ i (h : i < seven.length), Tryz.prog.globalNamed seven[i].1 = some (gl i) := by
  intro i h
  have h7 : i < 7 := h
  match i, h7 with
  | 0, _ => exact (show Tryz.prog.globalNamed "casement/api.ErrText" = some 4 by kernel_rfl)
  | 1, _ => exact (show Tryz.prog.globalNamed "casement/api.ErrBound" = some 3 by kernel_rfl)
  | 2, _ => exact (show Tryz.prog.globalNamed "casement/api.ErrName" = some 0 by kernel_rfl)
  | 3, _ => exact (show Tryz.prog.globalNamed "casement/api.ErrNode" = some 1 by kernel_rfl)
  | 4, _ => exact (show Tryz.prog.globalNamed "casement/api.ErrPlace" = some 2 by kernel_rfl)
  | 5, _ => exact (show Tryz.prog.globalNamed "casement/api.ErrShape" = some 5 by kernel_rfl)
  | 6, _ => exact (show Tryz.prog.globalNamed "casement/api.ErrValue" = some 6 by kernel_rfl)
theorem tErrs : ∀ x ∈ seven, (Tryz.prog.globalNamed x.1).bind (fun g => (Tryz.prog.globals[g]?).map (·.type)) = some 55 := by
  have h : (seven.all fun x => (Tryz.prog.globalNamed x.1).bind (fun g => (Tryz.prog.globals[g]?).map (·.type)) == some 55) = true := by kernel_rfl
  intro x hx
  exact of_decide_eq_true (by simpa using List.all_eq_true.1 h x hx)

theorem errs_of_laid {W : World} (h : laidMetH Tryz.prog Rows.treePlaysRow.laid W) : ∃ A, Errs7 W A := by
  have h' : laidMet Tryz.prog (seven.map fun x => (x.1, .iface "*errors.errorString" (.ptr (.agg [.lit (.string x.2)])))) W ∧ handlesMet Tryz.prog [("errors.errorType", Rows.laid_errors_errorType)] W := h
  obtain ⟨⟨ps, hv, hnd, hr⟩, hh⟩ := h'
  obtain ⟨av, hl, hvs, hsub⟩ := sentinels Tryz.underlying55 rowErr Tryz.underlying149 Tryz.underlying170 rfl rfl Tryz.underlying9 cellsErr cellsS seven ps hv tErrs hr
  have hl7 : av.length = 7 := hl
  have hnd2 := List.Nodup.sublist hsub hnd
  obtain ⟨name, u, ty, e1, e2, e3, e4, e5⟩ := hh _ (List.mem_singleton.2 rfl)
  have en : name = [101, 114, 114, 111, 114] := (Option.some.inj e1).symm
  subst en
  obtain rfl := Option.some.inj (rt.symm.trans e2)
  have hm : ty ∈ (List.range 182).filter fun t => Tryz.prog.rowNamed t [101, 114, 114, 111, 114] := List.mem_filter.2 ⟨List.mem_range.2 (by rw [← typesSize]; exact e3), e4⟩
  rw [oneRow] at hm
  obtain rfl := List.mem_singleton.1 hm
  have hth : typeHandle Tryz.prog 55 = .pointer (some ⟨8, 55, none⟩) := by kernel_rfl
  rw [hth] at e5
  refine ⟨fun i => av.getD i ⟨0, 0, none⟩, ?_, ?_, ?_, by simpa using World.var?_cell gType e5 0⟩
  · intro i h7
    have := hvs i h7 (by omega)
    have h2 := World.var?_cell (gErrs i h7) this 0
    simpa [List.getD_eq_getElem?_getD, List.getElem?_eq_getElem (show i < av.length by omega)] using h2
  · intro i h7
    have hi : i < av.length := by omega
    have hmem : MemPlace.cell av[i].block av[i].off ∈ ps := hsub.subset (List.mem_map.2 ⟨av[i], List.getElem_mem hi, rfl⟩)
    simpa [List.getD_eq_getElem?_getD, List.getElem?_eq_getElem hi] using (hr _ _ hmem).1
  · intro i j h1 h2 hne e
    have hi : i < av.length := by omega
    have hj : j < av.length := by omega
    simp only [List.getD_eq_getElem?_getD, List.getElem?_eq_getElem hi, List.getElem?_eq_getElem hj, Option.getD_some] at e
    have hi' : i < (av.map fun a => MemPlace.cell a.block a.off).length := by simpa using hi
    have hj' : j < (av.map fun a => MemPlace.cell a.block a.off).length := by simpa using hj
    have hpw := List.pairwise_iff_getElem.1 hnd2
    rcases Nat.lt_or_gt_of_ne hne with hlt | hlt
    · exact hpw i j hi' hj' hlt (by simp [e])
    · exact hpw j i hj' hi' hlt (by simp [e])
end Go.Proofs.YtjfklhfdonbpgaaGreatDoor

/- A list of changes that came in, laid open. -/
namespace Go.Proofs.YtjfklhfdonbpgaaGreatDoor
open Go.RowKit Go.Deep Go.ChangeShapes

/-- an address at which something lies is that of a cell -/
theorem addr_of {w : World} {a : Addr} {v : Value} (h : w.cell? (a.add 0) = some v) : a = ⟨a.block, a.off, none⟩ := by
  obtain ⟨b, o, s⟩ := a
  cases s with
  | none => rfl
  | some x =>
    exfalso
    simp only [Addr.add, if_true, World.cell?] at h
    split at h
    · simp at h
    · cases h
theorem addr_add {a : Addr} (h : a = ⟨a.block, a.off, none⟩) (j : Nat) : a.add j = ⟨a.block, a.off + j, none⟩ := by
  generalize a.block = b at h
  generalize a.off = o at h
  subst h
  unfold Addr.add
  split
  · simp_all
  · rfl
theorem blk_lt {w : World} {b o : Nat} {v : Value} (h : w.cell? ⟨b, o, none⟩ = some v) : b < w.heap.size := World.block_lt_of_cell? w ⟨b, o, none⟩ h
theorem six_list {α : Type} {l : List α} (h : l.length = 6) : ∃ a b c d e f, l = [a, b, c, d, e, f] := by
  match l, h with
  | [a, b, c, d, e, f], _ => exact ⟨a, b, c, d, e, f, rfl⟩

theorem Tryz.cellsStr : Tryz.prog.cellsOf 9 = 1 := by kernel_rfl
theorem Tryz.cellsInt : Tryz.prog.cellsOf 3 = 1 := by kernel_rfl
theorem Tryz.cellsOp : Tryz.prog.cellsOf 33 = 6 := by kernel_rfl

set_option maxRecDepth 100000 in
theorem open_ops {H : Type} {enc : TypeId × Value → H} {W : World} {fuel : Nat} {v : Value} {x : DataW H × List MemPlace} (h : DataW.trod enc Tryz.prog W 0 (fun _ => true) true fuel 22 [v] = some x) :
    ∃ os : List OpD, OpsAt W v os := by
  rcases open_slice Tryz.underlying22 h with ⟨h0, _⟩ | ⟨a, len, cap, m, n, D, Pl, h0, _, hl, hm, hmm, _, hx⟩
  · refine ⟨[], none, 0, by simpa using h0, Nat.le_refl _, by unfold maxLen; omega, fun j x hj => by simp at hj⟩
  · have hlm : len ≤ m := by rw [hmm]; simp; exact hl
    have h00 : 0 < len → a = ⟨a.block, a.off, none⟩ := by
      intro hp
      obtain ⟨cs', h1, h2⟩ := hx 0 (by omega)
      rw [Tryz.cellsOp] at h1
      obtain ⟨_, hlen, hcell⟩ := World.cells?_some h1
      have e0 := hcell 0 (by omega)
      rw [add_add, List.getElem?_eq_getElem (by omega)] at e0
      simp only [Nat.zero_mul, Nat.add_zero] at e0
      exact addr_of e0
    have each : ∀ i, i < len → ∃ o : OpD, (o.s.size ≤ 9223372036854775807 ∧ o.t.size ≤ 9223372036854775807) ∧ a.block < W.heap.size ∧
        W.cell? ⟨a.block, a.off + i * 6, none⟩ = some (.int .i64 o.kind) ∧ W.cell? ⟨a.block, a.off + i * 6 + 1, none⟩ = some (.int .i64 o.a) ∧ W.cell? ⟨a.block, a.off + i * 6 + 2, none⟩ = some (.int .i64 o.b) ∧ W.cell? ⟨a.block, a.off + i * 6 + 3, none⟩ = some (.int .i64 o.c) ∧ W.cell? ⟨a.block, a.off + i * 6 + 4, none⟩ = some (.string o.s) ∧ W.cell? ⟨a.block, a.off + i * 6 + 5, none⟩ = some (.string o.t) := by
      intro i hi
      have ea := h00 (by omega)
      obtain ⟨cs', h1, h2⟩ := hx i (by omega)
      rw [Tryz.cellsOp] at h1
      obtain ⟨_, hlen, hcell⟩ := World.cells?_some h1
      obtain ⟨xs, k, hk, _, _, hxl, hf⟩ := DataW.trod_struct Tryz.underlying33 h2
      obtain ⟨v0, v1, v2, v3, v4, v5, rfl⟩ := six_list hlen
      obtain ⟨y0, y1, y2, y3, y4, y5, rfl⟩ := six_list hxl
      have g0 : DataW.trod enc Tryz.prog W 0 (fun _ => true) true k 3 [v0] = some y0 := by
        have := hf 0 _ rfl
        simpa [Tryz.cellsInt] using this
      have g1 : DataW.trod enc Tryz.prog W 0 (fun _ => true) true k 3 [v1] = some y1 := by
        have := hf 1 _ rfl
        simpa [Tryz.cellsInt] using this
      have g2 : DataW.trod enc Tryz.prog W 0 (fun _ => true) true k 3 [v2] = some y2 := by
        have := hf 2 _ rfl
        simpa [Tryz.cellsInt] using this
      have g3 : DataW.trod enc Tryz.prog W 0 (fun _ => true) true k 3 [v3] = some y3 := by
        have := hf 3 _ rfl
        simpa [Tryz.cellsInt] using this
      have g4 : DataW.trod enc Tryz.prog W 0 (fun _ => true) true k 9 [v4] = some y4 := by
        have := hf 4 _ rfl
        simpa [Tryz.cellsStr] using this
      have g5 : DataW.trod enc Tryz.prog W 0 (fun _ => true) true k 9 [v5] = some y5 := by
        have := hf 5 _ rfl
        simpa [Tryz.cellsStr] using this
      obtain ⟨k0, e0, _, _⟩ := DataW.trod_int Tryz.underlying3 g0
      obtain ⟨k1, e1, _, _⟩ := DataW.trod_int Tryz.underlying3 g1
      obtain ⟨k2, e2, _, _⟩ := DataW.trod_int Tryz.underlying3 g2
      obtain ⟨k3, e3, _, _⟩ := DataW.trod_int Tryz.underlying3 g3
      obtain ⟨s4, e4, _, z4⟩ := DataW.trod_string Tryz.underlying9 g4
      obtain ⟨s5, e5, _, z5⟩ := DataW.trod_string Tryz.underlying9 g5
      simp only [List.cons.injEq, and_true] at e0 e1 e2 e3 e4 e5
      subst e0 e1 e2 e3 e4 e5
      have q : ∀ f, f < 6 → W.cell? ⟨a.block, a.off + i * 6 + f, none⟩ = [Value.int .i64 k0, .int .i64 k1, .int .i64 k2, .int .i64 k3, .string s4, .string s5][f]? := by
        intro f hf6
        have := hcell f hf6
        rw [add_add, addr_add ea] at this
        rw [show a.off + i * 6 + f = a.off + (i * 6 + f) by omega]
        exact this
      unfold maxLen at z4 z5
      have q0 := q 0 (by omega)
      exact ⟨⟨k0, k1, k2, k3, s4, s5⟩, ⟨by simpa using z4, by simpa using z5⟩, blk_lt q0, q0, q 1 (by omega), q 2 (by omega), q 3 (by omega), q 4 (by omega), q 5 (by omega)⟩
    have : Inhabited OpD := ⟨⟨0, 0, 0, 0, ⟨#[]⟩, ⟨#[]⟩⟩⟩
    obtain ⟨q, hq⟩ := choose_lt each
    refine ⟨(List.range len).map q, some a, cap, by simpa using h0, by simpa using hl, hm, fun j x hj => ?_⟩
    have hjl : j < len := by simpa using (List.getElem?_eq_some_iff.1 hj).1
    have hxq : x = q j := by simpa [List.getElem?_range hjl] using hj.symm
    subst hxq
    obtain ⟨hs, hb, c0, c1, c2, c3, c4, c5⟩ := hq j hjl
    exact ⟨hs, a.block, a.off, congrArg some (h00 (by omega)), hb, c0, c1, c2, c3, c4, c5⟩
end Go.Proofs.YtjfklhfdonbpgaaGreatDoor
