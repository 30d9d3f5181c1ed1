/- What the listed variables give: four of package api's errors lie in memory. -/
import Derived.Test.YtiikjflaonhfdaaDoorRows
import Derived.Test.YtiikjflaonhfdaaDoorMake2
import Derived.LaidLaws
import Derived.LaidHandle
import Derived.Stop.LaidErr
namespace Go.Proofs.YtiikjflaonhfdaaDoor
open Go.RowKit Go.ChangeShapes

theorem sentinels {P : Program} {W : World} {ti tp te ts : TypeId} {ms : Array (String × TypeId)} {nm : String} {f : Field}
    (hi : P.underlying ti = some (.interface ms)) (hrow : ∀ u, P.typeName? 3 u = some nm → u = tp)
    (hp : P.underlying tp = some (.pointer te)) (he : P.underlying te = some (.struct #[f])) (hft : f.type = ts) (hfo : f.offset = 0) (hs : P.underlying ts = some .string) (hc : P.cellsOf te = 1) (hcs : P.cellsOf ts = 1) :
    ∀ (l : List (String × List UInt8)) (ps : List MemPlace), DataW.LaidVars P W (l.map fun x => (x.1, .iface nm (.ptr (.agg [.lit (.string x.2)])))) ps →
      (∀ x ∈ l, (P.globalNamed x.1).bind (fun g => (P.globals[g]?).map (·.type)) = some ti) →
      (∀ b off, MemPlace.cell b off ∈ ps → (∃ c t, W.heap[b]? = some (.cells c t (0, 0))) ∧ ∀ u v, W.cell? ⟨b, off, none⟩ = some (.iface u v) → Value.okWide P W .any 0 u v) →
      ∃ av : List Addr, av.length = l.length ∧ (∀ i (h : i < l.length) (h' : i < av.length), W.var? P l[i].1 = some #[.iface tp (.pointer (some av[i]))]) ∧ List.Sublist (av.map fun a => MemPlace.cell a.block a.off) ps
  | [], ps, _, _, _ => ⟨[], rfl, fun i h => by simp at h, List.nil_sublist _⟩
  | x :: l, ps, h, ht, hr => by
    obtain ⟨g, t, cs, fuel, p, q, hg, htt, hv, hd, hq, rfl⟩ := h
    have ht0 := ht x (List.mem_cons_self ..)
    rw [hg] at ht0
    simp only [Option.bind_some] at ht0
    obtain rfl := Option.some.inj (ht0.symm.trans htt)
    obtain ⟨l0⟩ := cs
    have ok0 : ∀ u v, l0 = [.iface u v] → Value.okWide P W .any 0 u v := fun u v e => by
      subst e
      exact (hr g 0 (by simp [MemPlace.row])).2 u v (by simpa using World.var?_cell hg hv 0)
    obtain ⟨a, s, rfl, _, _, _, rfl⟩ := errorString_of_trod hi hrow hp he hft hfo hs hc hcs hd ok0
    obtain ⟨av, hl, hvs, hsub⟩ := sentinels hi hrow hp he hft hfo hs hc hcs l q hq (fun y hy => ht y (List.mem_cons_of_mem _ hy)) (fun b off hm => hr b off (List.mem_append_right _ hm))
    refine ⟨a :: av, by simp [hl], ?_, ?_⟩
    · intro i h1 h2
      cases i with
      | zero => exact hv
      | succ i => exact hvs i (by simpa using h1) (by simpa using h2)
    · have e : MemPlace.row a 1 = [MemPlace.cell a.block a.off] := by simp [MemPlace.row]
      rw [e, List.map_cons]
      rw [List.append_assoc]
      exact (List.Sublist.cons_cons (MemPlace.cell a.block a.off) hsub).trans (List.sublist_append_right _ _)

theorem star : ("*" ++ "errors.errorString" : String) = "*errors.errorString" := by decide
theorem rowErr (u : TypeId) (h : Tryd.prog.typeName? 3 u = some "*errors.errorString") : u = 129 :=
  typeName_ptr_named (nm := "errors.errorString") (by rw [star]; kernel_rfl) (by kernel_rfl) (by decide) u (by rw [star]; exact h)
theorem cellsErr : Tryd.prog.cellsOf 150 = 1 := by kernel_rfl
theorem cellsS : Tryd.prog.cellsOf 9 = 1 := by kernel_rfl

/-- the four, by name and text -/
def four : List (String × List UInt8) := [("casement/api.ErrBound", [99, 97, 115, 101, 109, 101, 110, 116, 58, 32, 98, 111, 117, 110, 100]), ("casement/api.ErrName", [99, 97, 115, 101, 109, 101, 110, 116, 58, 32, 110, 97, 109, 101]), ("casement/api.ErrNode", [99, 97, 115, 101, 109, 101, 110, 116, 58, 32, 110, 111, 100, 101]), ("casement/api.ErrPlace", [99, 97, 115, 101, 109, 101, 110, 116, 58, 32, 112, 108, 97, 99, 101])]
theorem gErrs : ∀ g, errG g = true → ∃ (i : Nat) (h : i < four.length), Tryd.prog.globalNamed (four[i]'h).1 = some g := by
  intro g hg
  unfold errG at hg
  simp only [Bool.or_eq_true, beq_iff_eq] at hg
  rcases hg with ((rfl | rfl) | rfl) | rfl
  · exact ⟨1, by decide, (show Tryd.prog.globalNamed "casement/api.ErrName" = some 2 by kernel_rfl)⟩
  · exact ⟨0, by decide, (show Tryd.prog.globalNamed "casement/api.ErrBound" = some 3 by kernel_rfl)⟩
  · exact ⟨2, by decide, (show Tryd.prog.globalNamed "casement/api.ErrNode" = some 4 by kernel_rfl)⟩
  · exact ⟨3, by decide, (show Tryd.prog.globalNamed "casement/api.ErrPlace" = some 5 by kernel_rfl)⟩
theorem tErrs : ∀ x ∈ four, (Tryd.prog.globalNamed x.1).bind (fun g => (Tryd.prog.globals[g]?).map (·.type)) = some 24 := by
  have h : (four.all fun x => (Tryd.prog.globalNamed x.1).bind (fun g => (Tryd.prog.globals[g]?).map (·.type)) == some 24) = true := by kernel_rfl
  intro x hx
  exact of_decide_eq_true (by simpa using List.all_eq_true.1 h x hx)

theorem errs_of_laid {W : World} {M : Nat → Lab} (hM : ∀ b, M b = .other) (h : laidMetH Tryd.prog Rows.treeUndoesRow.laid W) : Errs W M := by
  have h' : laidMet Tryd.prog (four.map fun x => (x.1, .iface "*errors.errorString" (.ptr (.agg [.lit (.string x.2)])))) W := h
  obtain ⟨ps, hv, hnd, hr⟩ := h'
  obtain ⟨av, hl, hvs, _⟩ := sentinels Tryd.underlying24 rowErr Tryd.underlying129 Tryd.underlying150 rfl rfl Tryd.underlying9 cellsErr cellsS four ps hv tErrs hr
  refine ⟨fun g _ => hM g, fun g hg => ?_⟩
  obtain ⟨i, h1, h2⟩ := gErrs g hg
  have := hvs i h1 (by rw [hl]; exact h1)
  exact ⟨129, av[i]'(by rw [hl]; exact h1), by simpa using World.var?_cell h2 this 0⟩
end Go.Proofs.YtiikjflaonhfdaaDoor
