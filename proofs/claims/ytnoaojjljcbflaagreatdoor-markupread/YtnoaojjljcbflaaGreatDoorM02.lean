/- What plain.Code answers of each of package api's errors: its number, and no place. Condition: package api's errors and the type handle of package errors lie as the program's text lays them. -/
import Derived.Test.YtnoaojjljcbflaaGreatDoorIs
import Derived.WalkSmall
import Derived.Deep.Light
import Derived.Test.YtnoaojjljcbflaaGreatDoorRows
import Derived.LaidLaws
import Derived.LaidHandle
import Derived.Stop.LaidErr
import Derived.Test.YtnoaojjljcbflaaGreatDoorShelf
import Derived.Test.YtnoaojjljcbflaaGreatDoorChecked
import Derived.RangeFuncNested
import Derived.RangeFuncBound
import Derived.RangeFuncCalls
import Derived.RangeFuncLeaves
import Derived.RangeFuncBox
import Derived.Shelf.Abstract
import Derived.Shelf.RegionOpen
import Derived.WalkKit
import Derived.OwnWalkIn
import Derived.TacticsInMore
import Derived.LoopNIn
import Derived.LoopIn
namespace Go.Proofs.YtnoaojjljcbflaaGreatDoor
open Go.RowKit

/-- which of the program's variables is the i-th error -/
def gl : Nat → Nat
  | 0 => 4 | 1 => 0 | 2 => 5 | 3 => 2 | 4 => 1 | 5 => 3 | _ => 6

/-- package api's errors lie in memory, each apart -/
structure Errs7 (w : World) (A : Nat → Addr) : Prop where
  cell : ∀ i, i < 7 → w.cell? ⟨gl i, 0, none⟩ = some (.iface 233 (.pointer (some (A i))))
  row : ∀ i, i < 7 → ∃ c t, w.heap[(A i).block]? = some (.cells c t (0, 0))
  ne : ∀ i j, i < 7 → j < 7 → i ≠ j → A i ≠ A j
  typ : w.cell? ⟨7, 0, none⟩ = some (.iface 183 (.agg #[.pointer (some ⟨9, 33, none⟩)]))

theorem lt_of_cell {w : World} {a : Addr} {v : Value} (h : w.cell? a = some v) : a.block < w.heap.size := World.block_lt_of_cell? w a h

theorem Errs7.below {w w' : World} {A : Nat → Addr} (h : Errs7 w A) (hb : Below w.heap.size w w') : Errs7 w' A where
  cell i hi := (hb.cell (lt_of_cell (h.cell i hi))).trans (h.cell i hi)
  row i hi := by
    obtain ⟨c, t, hr⟩ := h.row i hi
    exact ⟨c, t, (hb.block _ (Array.getElem?_eq_some_iff.1 hr).1).trans hr⟩
  ne := h.ne
  typ := (hb.cell (lt_of_cell h.typ)).trans h.typ

/-- errors.Is of the k-th and the j-th -/
theorem is_any {w : World} {A : Nat → Addr} (h : Errs7 w A) (k j : Nat) (hk : k < 7) (hj : j < 7) :
    Calls Tryz.prog 57 #[.iface 233 (.pointer (some (A k))), .iface 233 (.pointer (some (A j)))] w fun e w' => e = .returned (.bool (k == j)) ∧ w' = w := by
  by_cases e : k = j
  · subst e
    rw [show (k == k) = true by simp]
    exact is_same _ w
  · rw [show (k == j) = false by simp [e]]
    obtain ⟨ca, ta, ha⟩ := h.row k hk
    obtain ⟨cb, tb, hb⟩ := h.row j hj
    exact is_other _ _ ca cb ta tb w (h.ne k j hk hj e) ha hb

set_option maxHeartbeats 4000000 in
set_option maxRecDepth 100000 in
theorem code_any {w : World} {A : Nat → Addr} (h : Errs7 w A) (k : Nat) (hk : k < 7) :
    Calls Tryz.prog 17 #[.iface 233 (.pointer (some (A k)))] w fun e w' => e = .returned (.tuple #[.int .i64 ((k + 1 : Nat) : Int), .int .i64 (-1)]) ∧ Below w.heap.size w w' := by
  have c0 := h.cell 0 (by decide)
  have c1 := h.cell 1 (by decide)
  have c2 := h.cell 2 (by decide)
  have c3 := h.cell 3 (by decide)
  have c4 := h.cell 4 (by decide)
  have c5 := h.cell 5 (by decide)
  have c6 := h.cell 6 (by decide)
  simp only [gl] at c0 c1 c2 c3 c4 c5 c6
  have H : Hid (Errs7 w A) := h
  clear h
  go_enter Tryz.func17, Tryz.ntmps17
  go_wp2
  have hW1 : Below w.heap.size w (w.alloc (.cells #[.iface 233 (.pointer (some (A 0))), .iface 233 (.pointer (some (A 1))), .iface 233 (.pointer (some (A 2))), .iface 233 (.pointer (some (A 3))), .iface 233 (.pointer (some (A 4))), .iface 233 (.pointer (some (A 5))), .iface 233 (.pointer (some (A 6)))] 33)) := (Below.refl _ _).alloc (Nat.le_refl _) _
  have hc : ∀ j, j < 7 → (w.alloc (.cells #[.iface 233 (.pointer (some (A 0))), .iface 233 (.pointer (some (A 1))), .iface 233 (.pointer (some (A 2))), .iface 233 (.pointer (some (A 3))), .iface 233 (.pointer (some (A 4))), .iface 233 (.pointer (some (A 5))), .iface 233 (.pointer (some (A 6)))] 33)).cell? ⟨w.heap.size, j, none⟩ = some (.iface 233 (.pointer (some (A j)))) := by
    intro j hj
    rw [cell_of_row _ w.heap.size j _ 33 (0, 0) (heap_alloc_new w _)]
    match j, hj with
    | 0, _ => rfl
    | 1, _ => rfl
    | 2, _ => rfl
    | 3, _ => rfl
    | 4, _ => rfl
    | 5, _ => rfl
    | 6, _ => rfl
  generalize (w.alloc (.cells #[.iface 233 (.pointer (some (A 0))), .iface 233 (.pointer (some (A 1))), .iface 233 (.pointer (some (A 2))), .iface 233 (.pointer (some (A 3))), .iface 233 (.pointer (some (A 4))), .iface 233 (.pointer (some (A 5))), .iface 233 (.pointer (some (A 6)))] 33)) = W1 at *
  have h1 : Hid (Errs7 W1 A) := H.out.below hW1
  have HC : Hid (∀ j, j < 7 → W1.cell? ⟨w.heap.size, j, none⟩ = some (.iface 233 (.pointer (some (A j))))) := hc
  clear H c0 c1 c2 c3 c4 c5 c6 hc
  go_loop [4, 19] (fun n i => ∃ j : Nat, j ≤ 7 ∧ i = .int .i64 j ∧ n = .int .i64 ((if k < j then k + 1 else 0 : Nat) : Int)) (fun _ i => 7 - (intOf i).toNat)
  case atStart => exact ⟨0, by omega, rfl, rfl⟩
  case round =>
    obtain ⟨j, hj, rfl, rfl⟩ := hrel
    by_cases hlt : j < 7
    · have hcj := HC.out j hlt
      have hi := is_any h1.out k j hk hlt
      by_cases hjk : k = j
      · subst hjk
        rw [show (k == k) = true by simp] at hi
        rw [if_neg (Nat.lt_irrefl k)]
        have HI : Hid (Calls Tryz.prog 57 #[.iface 233 (.pointer (some (A k))), .iface 233 (.pointer (some (A k)))] W1 fun e w' => e = .returned (.bool true) ∧ w' = W1) := hi
        clear hi
        go_wp2_with (go_at_call 57; refine HI.out.mono ?_; rintro e w' ⟨rfl, hw'⟩; subst hw')
        go_round
        case rel => go_light; exact ⟨k + 1, by omega, by go_num, by rw [if_pos (Nat.lt_succ_self k)]; go_num⟩
        case measure => go_light; simp [intOf]; omega
      · rw [show (k == j) = false by simp [hjk]] at hi
        have HI : Hid (Calls Tryz.prog 57 #[.iface 233 (.pointer (some (A k))), .iface 233 (.pointer (some (A j)))] W1 fun e w' => e = .returned (.bool false) ∧ w' = W1) := hi
        have HN : Hid ((if k < j then k + 1 else 0 : Nat) = (if k < j + 1 then k + 1 else 0 : Nat)) := by
          show _ = _
          by_cases h1 : k < j
          · rw [if_pos h1, if_pos (by omega)]
          · rw [if_neg h1, if_neg (by omega)]
        clear hi
        generalize (if k < j then k + 1 else 0 : Nat) = q at *
        go_wp2_with (go_at_call 57; refine HI.out.mono ?_; rintro e w' ⟨rfl, hw'⟩; subst hw')
        go_round
        case rel => go_light; exact ⟨j + 1, by omega, by go_num, by rw [HN.out]⟩
        case measure => go_light; simp [intOf]; omega
    · obtain rfl : j = 7 := by omega
      rw [if_pos hk]
      have hty : ∀ o, (W1.alloc o).cell? ⟨7, 0, none⟩ = some (.iface 183 (.agg #[.pointer (some ⟨9, 33, none⟩)])) := fun o => (World.cell?_alloc_lt _ _ ⟨7, 0, none⟩ (lt_of_cell h1.out.typ)).trans h1.out.typ
      have HT := hty
      clear hty
      go_wp2_with fail
      refine (as_miss _ _ _ (HT _)).mono ?_
      rintro e W2 ⟨rfl, hb2⟩
      clear HT
      have hb : Below w.heap.size w W2 := hW1.trans (((Below.refl _ _).alloc hW1.size _).trans (hb2.mono (by have := hW1.size; simp; omega)))
      clear hb2
      go_wp2_with fail
      go_ret2
      exact ⟨rfl, hb⟩

set_option maxHeartbeats 1000000 in
theorem coded_any {w : World} {A : Nat → Addr} (h : Errs7 w A) (k : Nat) (hk : k < 7) :
    Calls Tryz.prog 16 #[.iface 233 (.pointer (some (A k))), .int .i64 ((k + 1 : Nat) : Int)] w fun e w' => e = .returned (.bool true) ∧ Below w.heap.size w w' := by
  have H : Hid (Errs7 w A) := h
  clear h
  go_enter Tryz.func16, Tryz.ntmps16
  go_wp2_with fail
  refine (code_any H.out k hk).mono ?_
  rintro e W1 ⟨rfl, hb⟩
  go_wp2_with fail
  go_ret
  exact ⟨rfl, hb⟩

end Go.Proofs.YtnoaojjljcbflaaGreatDoor

/- What the listed variables give: package api's seven errors lie in memory, each at an address of its own, and the type handle of package errors is that of 'error'. -/
namespace Go.Proofs.YtnoaojjljcbflaaGreatDoor
open Go.RowKit Go.ChangeShapes

theorem sentinels {P : Program} {W : World} {ti tp te ts : TypeId} {ms : Array (String × TypeId)} {nm : String} {f : Field}
    (hi : P.underlying ti = some (.interface ms)) (hrow : ∀ u, P.typeName? 3 u = some nm → u = tp)
    (hp : P.underlying tp = some (.pointer te)) (he : P.underlying te = some (.struct #[f])) (hft : f.type = ts) (hfo : f.offset = 0) (hs : P.underlying ts = some .string) (hc : P.cellsOf te = 1) (hcs : P.cellsOf ts = 1) :
    ∀ (l : List (String × List UInt8)) (ps : List MemPlace), DataW.LaidVars P W (l.map fun x => (x.1, .iface nm (.ptr (.agg [.lit (.string x.2)])))) ps →
      (∀ x ∈ l, (P.globalNamed x.1).bind (fun g => (P.globals[g]?).map (·.type)) = some ti) →
      (∀ b off, MemPlace.cell b off ∈ ps → (∃ c t, W.heap[b]? = some (.cells c t (0, 0))) ∧ ∀ u v, W.cell? ⟨b, off, none⟩ = some (.iface u v) → Value.okWide P W .any 0 u v) →
      ∃ av : List Addr, av.length = l.length ∧ (∀ i (h : i < l.length) (h' : i < av.length), W.var? P l[i].1 = some #[.iface tp (.pointer (some av[i]))]) ∧ List.Sublist (av.map fun a => MemPlace.cell a.block a.off) ps
  | [], ps, _, _, _ => ⟨[], rfl, fun i h => by simp at h, List.nil_sublist _⟩
  | x :: l, ps, h, ht, hr => by
    obtain ⟨g, t, cs, fuel, p, q, hg, htt, hv, hd, hq, rfl⟩ := h
    have ht0 := ht x (List.mem_cons_self ..)
    rw [hg] at ht0
    simp only [Option.bind_some] at ht0
    obtain rfl := Option.some.inj (ht0.symm.trans htt)
    obtain ⟨l0⟩ := cs
    have ok0 : ∀ u v, l0 = [.iface u v] → Value.okWide P W .any 0 u v := fun u v e => by
      subst e
      exact (hr g 0 (by simp [MemPlace.row])).2 u v (by simpa using World.var?_cell hg hv 0)
    obtain ⟨a, s, rfl, _, _, _, rfl⟩ := errorString_of_trod hi hrow hp he hft hfo hs hc hcs hd ok0
    obtain ⟨av, hl, hvs, hsub⟩ := sentinels hi hrow hp he hft hfo hs hc hcs l q hq (fun y hy => ht y (List.mem_cons_of_mem _ hy)) (fun b off hm => hr b off (List.mem_append_right _ hm))
    refine ⟨a :: av, by simp [hl], ?_, ?_⟩
    · intro i h1 h2
      cases i with
      | zero => exact hv
      | succ i => exact hvs i (by simpa using h1) (by simpa using h2)
    · have e : MemPlace.row a 1 = [MemPlace.cell a.block a.off] := by simp [MemPlace.row]
      rw [e, List.map_cons]
      rw [List.append_assoc]
      exact (List.Sublist.cons_cons (MemPlace.cell a.block a.off) hsub).trans (List.sublist_append_right _ _)

theorem star : ("*" ++ "errors.errorString" : String) = "*errors.errorString" := by decide
theorem rowErr (u : TypeId) (h : Tryz.prog.typeName? 3 u = some "*errors.errorString") : u = 233 :=
  typeName_ptr_named (nm := "errors.errorString") (by rw [star]; kernel_rfl) (by kernel_rfl) (by decide) u (by rw [star]; exact h)
theorem cellsErr : Tryz.prog.cellsOf 251 = 1 := by kernel_rfl
theorem cellsS : Tryz.prog.cellsOf 9 = 1 := by kernel_rfl
theorem rt : (Tryz.prog.cutTypes.find? (·.1 == "internal/reflectlite.rtype")).map (·.2) = some 183 := by kernel_rfl
theorem oneRow : ((List.range 263).filter fun t => Tryz.prog.rowNamed t [101, 114, 114, 111, 114]) = [33] := by kernel_rfl
theorem typesSize : Tryz.prog.types.size = 263 := by kernel_rfl
theorem gType : Tryz.prog.globalNamed "errors.errorType" = some 7 := by kernel_rfl

/-- the seven, by name and text -/
def seven : List (String × List UInt8) := [("casement/api.ErrText", [99, 97, 115, 101, 109, 101, 110, 116, 58, 32, 116, 101, 120, 116]), ("casement/api.ErrBound", [99, 97, 115, 101, 109, 101, 110, 116, 58, 32, 98, 111, 117, 110, 100]), ("casement/api.ErrName", [99, 97, 115, 101, 109, 101, 110, 116, 58, 32, 110, 97, 109, 101]), ("casement/api.ErrNode", [99, 97, 115, 101, 109, 101, 110, 116, 58, 32, 110, 111, 100, 101]), ("casement/api.ErrPlace", [99, 97, 115, 101, 109, 101, 110, 116, 58, 32, 112, 108, 97, 99, 101]), ("casement/api.ErrShape", [99, 97, 115, 101, 109, 101, 110, 116, 58, 32, 115, 104, 97, 112, 101]), ("casement/api.ErrValue", [99, 97, 115, 101, 109, 101, 110, 116, 58, 32, 118, 97, 108, 117, 101])]

theorem gErrs : ∀ i (h : i < seven.length), Tryz.prog.globalNamed seven[i].1 = some (gl i) := by
  intro i h
  have h7 : i < 7 := h
  match i, h7 with
  | 0, _ => exact (show Tryz.prog.globalNamed "casement/api.ErrText" = some 4 by kernel_rfl)
  | 1, _ => exact (show Tryz.prog.globalNamed "casement/api.ErrBound" = some 0 by kernel_rfl)
  | 2, _ => exact (show Tryz.prog.globalNamed "casement/api.ErrName" = some 5 by kernel_rfl)
  | 3, _ => exact (show Tryz.prog.globalNamed "casement/api.ErrNode" = some 2 by kernel_rfl)
  | 4, _ => exact (show Tryz.prog.globalNamed "casement/api.ErrPlace" = some 1 by kernel_rfl)
  | 5, _ => exact (show Tryz.prog.globalNamed "casement/api.ErrShape" = some 3 by kernel_rfl)
  | 6, _ => exact (show Tryz.prog.globalNamed "casement/api.ErrValue" = some 6 by kernel_rfl)
theorem tErrs : ∀ x ∈ seven, (Tryz.prog.globalNamed x.1).bind (fun g => (Tryz.prog.globals[g]?).map (·.type)) = some 33 := by
  have h : (seven.all fun x => (Tryz.prog.globalNamed x.1).bind (fun g => (Tryz.prog.globals[g]?).map (·.type)) == some 33) = true := by kernel_rfl
  intro x hx
  exact of_decide_eq_true (by simpa using List.all_eq_true.1 h x hx)

theorem errs_of_laid {W : World} (h : laidMetH Tryz.prog Rows.markupReadRow.laid W) : ∃ A, Errs7 W A := by
  have h' : laidMet Tryz.prog (seven.map fun x => (x.1, .iface "*errors.errorString" (.ptr (.agg [.lit (.string x.2)])))) W ∧ handlesMet Tryz.prog [("errors.errorType", Rows.laid_errors_errorType)] W := h
  obtain ⟨⟨ps, hv, hnd, hr⟩, hh⟩ := h'
  obtain ⟨av, hl, hvs, hsub⟩ := sentinels Tryz.underlying33 rowErr Tryz.underlying233 Tryz.underlying251 rfl rfl Tryz.underlying9 cellsErr cellsS seven ps hv tErrs hr
  have hl7 : av.length = 7 := hl
  have hnd2 := List.Nodup.sublist hsub hnd
  obtain ⟨name, u, ty, e1, e2, e3, e4, e5⟩ := hh _ (List.mem_singleton.2 rfl)
  have en : name = [101, 114, 114, 111, 114] := (Option.some.inj e1).symm
  subst en
  obtain rfl := Option.some.inj (rt.symm.trans e2)
  have hm : ty ∈ (List.range 263).filter fun t => Tryz.prog.rowNamed t [101, 114, 114, 111, 114] := List.mem_filter.2 ⟨List.mem_range.2 (by rw [← typesSize]; exact e3), e4⟩
  rw [oneRow] at hm
  obtain rfl := List.mem_singleton.1 hm
  have hth : typeHandle Tryz.prog 33 = .pointer (some ⟨9, 33, none⟩) := by kernel_rfl
  rw [hth] at e5
  refine ⟨fun i => av.getD i ⟨0, 0, none⟩, ?_, ?_, ?_, by simpa using World.var?_cell gType e5 0⟩
  · intro i h7
    have := hvs i h7 (by omega)
    have h2 := World.var?_cell (gErrs i h7) this 0
    simpa [List.getD_eq_getElem?_getD, List.getElem?_eq_getElem (show i < av.length by omega)] using h2
  · intro i h7
    have hi : i < av.length := by omega
    have hmem : MemPlace.cell av[i].block av[i].off ∈ ps := hsub.subset (List.mem_map.2 ⟨av[i], List.getElem_mem hi, rfl⟩)
    simpa [List.getD_eq_getElem?_getD, List.getElem?_eq_getElem hi] using (hr _ _ hmem).1
  · intro i j h1 h2 hne e
    have hi : i < av.length := by omega
    have hj : j < av.length := by omega
    simp only [List.getD_eq_getElem?_getD, List.getElem?_eq_getElem hi, List.getElem?_eq_getElem hj, Option.getD_some] at e
    have hi' : i < (av.map fun a => MemPlace.cell a.block a.off).length := by simpa using hi
    have hj' : j < (av.map fun a => MemPlace.cell a.block a.off).length := by simpa using hj
    have hpw := List.pairwise_iff_getElem.1 hnd2
    rcases Nat.lt_or_gt_of_ne hne with hlt | hlt
    · exact hpw i j hi' hj' hlt (by simp [e])
    · exact hpw j i hj' hi' hlt (by simp [e])
end Go.Proofs.YtnoaojjljcbflaaGreatDoor

/- The program: slices.Backward over whole numbers, and slices.Contains of texts. -/
namespace Go.Proofs.YtnoaojjljcbflaaGreatDoor
open Go.RowKit Go.Shelf
attribute [local go_sem] Oper.semAt_some

/-- texts that lie in a slice -/
def StrsAt (w : World) (v : Value) (A : List ByteArray) : Prop :=
  (A = [] ∧ ∃ a c, v = .slice a 0 c) ∨ ∃ b c, v = .slice (some ⟨b, 0, none⟩) A.length c ∧ A.length ≤ 100 ∧ b < w.heap.size ∧ ∀ j, j < A.length → w.cell? ⟨b, j, none⟩ = some (.string (A.getD j ByteArray.empty))
theorem StrsAt.below {w w' : World} {v : Value} {A : List ByteArray} (h : StrsAt w v A) (hb : Below w.heap.size w w') : StrsAt w' v A := by
  rcases h with h | ⟨b, c, h1, h2, h3, h4⟩
  · exact .inl h
  · exact .inr ⟨b, c, h1, h2, Nat.lt_of_lt_of_le h3 hb.size, fun j hj => (hb.cell (p := ⟨b, j, none⟩) h3).trans (h4 j hj)⟩
theorem contains_any {w : World} {v : Value} {A : List ByteArray} (h : StrsAt w v A) (x : ByteArray) :
    Calls Tryz.prog 144 #[v, .string x] w fun e w' => e = .returned (.bool (Lib.containsS A x)) ∧ w' = w := by
  rcases h with ⟨rfl, a, c, rfl⟩ | ⟨b, c, rfl, h2, _, h4⟩
  · exact Tryz.slices_Contains_string_empty a c x w
  · have := Tryz.slices_Contains_string b 0 A.length c A x w (Nat.le_refl _) (by omega) (fun j hj => by rw [Nat.zero_add]; exact h4 j hj)
    rw [List.take_length] at this
    exact this

/-- the k-th of what comes -/
def bkF (zs : List Int) (k : Nat) : Int × Int := ((zs.length : Int) - 1 - k, zs[zs.length - 1 - k]?.getD 0)
abbrev BkA (zs : List Int) : Type := { x : Int × Int // ∃ k : Nat, k < zs.length ∧ x = bkF zs k }
def upto {α : Type} (f : Nat → α) (k : Nat) : List α := (List.range k).map f
theorem upto_succ {α : Type} (f : Nat → α) (k : Nat) : upto f (k + 1) = upto f k ++ [f k] := by simp [upto, List.range_succ]
theorem upto_length {α : Type} (f : Nat → α) (k : Nat) : (upto f k).length = k := by simp [upto]

set_option maxRecDepth 100000 in
set_option maxHeartbeats 4000000 in
theorem back1_in (F : Fence) (n : Nat) (h8 : F.fn 167) (hro : F.round = none) (hn : 1 ≤ n) (l Bs n₀ b cap : Nat) (zs : List Int) (hreach : zs.length ≤ 100000) (hb : b < n₀) (J Jx : List (BkA zs) → World → Prop)
    (hY : ∀ pre (x : BkA zs) W, J pre W → pre.length < zs.length → YieldAt F (n - 1) Tryz.prog l #[.int .i64 x.1.1, .int .i64 x.1.2] W fun e W' =>
      (e = .returned (.bool true) ∧ J (pre ++ [x]) W' ∧ Below n₀ W W') ∨ (e = .returned (.bool false) ∧ Jx (pre ++ [x]) W'))
    (W : World) (hBl : Bs < n₀) (hBs : W.cell? ⟨Bs, 0, none⟩ = some (.slice (some ⟨b, 0, none⟩) zs.length cap)) (hc : ∀ j, j < zs.length → W.cell? ⟨b, j, none⟩ = some (.int .i64 (zs[j]?.getD 0))) (h0 : J [] W) :
    CallsIn F n Tryz.prog 167 #[.func (.yield l) #[] #[], .pointer (some ⟨Bs, 0, none⟩)] W fun e W' => (∃ v, e = .returned v) ∧
      ((∃ ys, ys.map Subtype.val = upto (bkF zs) zs.length ∧ J ys W') ∨ (∃ pre, (∃ k, k ≤ zs.length ∧ pre.map Subtype.val = upto (bkF zs) k) ∧ Jx pre W')) := by
  refine callsIn_of_wp Tryz.func167 rfl h8 ?_ hro
  simp only [Tryz.ntmps167, List.size_toArray, List.length_cons, List.length_nil, Nat.reduceAdd, Nat.reduceSub, Array.replicate_succ, Array.replicate_zero, List.push_toArray, List.append_toArray, List.nil_append, List.cons_append]
  gi_wp2
  gi_loopw [3] (fun i wr => ∃ k : Nat, k ≤ zs.length ∧ i = .int .i64 ((zs.length : Int) - 1 - k) ∧ (∃ pre, pre.map Subtype.val = upto (bkF zs) k ∧ J pre wr) ∧ Below n₀ W wr)
    (fun i _ => (intOf i + 1).toNat)
  case atStart => exact ⟨0, Nat.zero_le _, by simp, ⟨[], rfl, h0⟩, Below.refl _ _⟩
  case round =>
    obtain ⟨k, hk, rfl, ⟨pre, hpre, hJs⟩, hnx⟩ := hrel
    have hBs' := (hnx.cell (p := ⟨Bs, 0, none⟩) hBl).trans hBs
    have hpl : pre.length = k := by
      have e := congrArg List.length hpre
      rw [List.length_map, upto_length] at e
      exact e
    by_cases hlt : k < zs.length
    · have hcx' : wr.cell? ⟨b, zs.length - 1 - k, none⟩ = some (.int .i64 (zs[zs.length - 1 - k]?.getD 0)) := (hnx.cell (p := ⟨b, zs.length - 1 - k, none⟩) hb).trans (hc _ (by omega))
      obtain ⟨fn, tmps, assign, body, hy, hR⟩ := hY pre ⟨bkF zs k, k, hlt, rfl⟩ wr hJs (by omega)
      dsimp only [bkF] at hy
      have hi : ((zs.length : Int) - 1 - k).toNat = zs.length - 1 - k := by omega
      have hge : (0 : Int) ≤ (zs.length : Int) - 1 - k := by omega
      have hlt2 : (zs.length : Int) - 1 - k < (zs.length : Int) := by omega
      gi_wp2
      refine hR.mono ?_
      have hmap : (pre ++ [(⟨bkF zs k, k, hlt, rfl⟩ : BkA zs)]).map Subtype.val = upto (bkF zs) (k + 1) := by
        rw [upto_succ, List.map_append, hpre]; rfl
      rintro e W3 (⟨rfl, hJ3, hk3⟩ | ⟨rfl, hJx3⟩)
      · gi_wp2
        go_roundw
        case rel => exact ⟨k + 1, by omega, by simp; omega, ⟨_, hmap, hJ3⟩, hnx.trans hk3⟩
        case measure => simp [intOf]; omega
      · gi_wp2
        refine bodyPost_ret (results_none rfl _ _ _) rfl ?_
        exact ⟨⟨_, rfl⟩, .inr ⟨_, ⟨k + 1, by omega, hmap⟩, hJx3⟩⟩
    · obtain rfl : k = zs.length := by omega
      have hneg : ¬ (0 : Int) ≤ (zs.length : Int) - 1 - zs.length := by omega
      gi_wp2
      go_end0
      exact ⟨⟨_, rfl⟩, .inl ⟨_, hpre, hJs⟩⟩

set_option maxRecDepth 100000 in
set_option maxHeartbeats 1000000 in
theorem back0_in (F : Fence) (n : Nat) (h8 : F.fn 167) (hro : F.round = none) (l Bs : Nat) (a : Option Addr) (cap : Nat) (J : List (BkA []) → World → Prop) (W : World) (hBs : W.cell? ⟨Bs, 0, none⟩ = some (.slice a 0 cap)) (h0 : J [] W) :
    CallsIn F n Tryz.prog 167 #[.func (.yield l) #[] #[], .pointer (some ⟨Bs, 0, none⟩)] W fun e W' => (∃ v, e = .returned v) ∧ J [] W' := by
  refine callsIn_of_wp Tryz.func167 rfl h8 ?_ hro
  simp only [Tryz.ntmps167, List.size_toArray, List.length_cons, List.length_nil, Nat.reduceAdd, Nat.reduceSub, Array.replicate_succ, Array.replicate_zero, List.push_toArray, List.append_toArray, List.nil_append, List.cons_append]
  gi_wp2
  gi_loopw [3] (fun i wr => i = .int .i64 (-1) ∧ J [] wr) (fun _ _ => 0)
  case atStart => exact ⟨rfl, h0⟩
  case round =>
    obtain ⟨rfl, hJs⟩ := hrel
    gi_wp2
    go_end0
    exact ⟨⟨_, rfl⟩, hJs⟩

set_option maxHeartbeats 1000000 in
/-- slices.Backward(s): the slice is boxed, the function value captures the box -/
theorem back_in (F : Fence) (n : Nat) (h5 : F.fn 143) (hro : F.round = none) (a : Option Addr) (len cap : Nat) (w : World) :
    CallsIn F n Tryz.prog 143 #[.slice a len cap] w fun e w' => e = .returned (.func (.func 167) #[] #[.pointer (some ⟨w.heap.size, 0, none⟩)]) ∧ w' = w.alloc (.cells #[.slice a len cap] 48) := by
  refine callsIn_of_wp Tryz.func143 rfl h5 ?_ hro
  simp only [Tryz.ntmps143, List.size_toArray, List.length_cons, List.length_nil, Nat.reduceAdd, Nat.reduceSub, Array.replicate_succ, Array.replicate_zero, List.push_toArray, List.append_toArray, List.nil_append, List.cons_append]
  gi_wp2
  go_ret
  exact ⟨rfl, rfl⟩

/-- whole numbers that lie in a slice below a block -/
def IntsIn (n₀ : Nat) (W : World) (sv : Value) (zs : List Int) : Prop :=
  (zs = [] ∧ ∃ a c, sv = .slice a 0 c) ∨ ∃ b cap, sv = .slice (some ⟨b, 0, none⟩) zs.length cap ∧ b < n₀ ∧ ∀ j, j < zs.length → W.cell? ⟨b, j, none⟩ = some (.int .i64 (zs[j]?.getD 0))
theorem IntsIn.below {n₀ : Nat} {A B : World} (h : Below n₀ A B) {sv : Value} {zs : List Int} : IntsIn n₀ A sv zs → IntsIn n₀ B sv zs
  | .inl e => .inl e
  | .inr ⟨b, cap, e, hb, hc⟩ => .inr ⟨b, cap, e, hb, fun j hj => (h.cell (p := ⟨b, j, none⟩) hb).trans (hc j hj)⟩
theorem back_stops (F : Fence) (n : Nat) (h8 : F.fn 167) (hro : F.round = none) (hn : 1 ≤ n) (Bs n₀ : Nat) (sv : Value) (zs : List Int) (hreach : zs.length ≤ 100000) (w : World) (hBs : Bs < n₀) (hn₀ : n₀ ≤ w.heap.size)
    (hc : w.cell? ⟨Bs, 0, none⟩ = some sv) (hI : IntsIn n₀ w sv zs) :
    SeqStopsK F n Tryz.prog 167 #[.pointer (some ⟨Bs, 0, none⟩)] (fun x : BkA zs => #[Value.int .i64 x.1.1, Value.int .i64 x.1.2]) (Below n₀) (fun ys => ys.map Subtype.val = upto (bkF zs) zs.length)
      (fun pre => ∃ k, k ≤ zs.length ∧ pre.map Subtype.val = upto (bkF zs) k) zs.length w := fun l J Jx W hW _ _ hY h0 => by
  have hc' := (hW.cell (p := ⟨Bs, 0, none⟩) (by show Bs < w.heap.size; omega)).trans hc
  rcases hI.below (hW.mono hn₀) with ⟨rfl, a, c, rfl⟩ | ⟨b, cap, rfl, hb, hcs⟩
  · exact (back0_in F n h8 hro l Bs a c J W hc' h0).mono fun e W' ⟨he, hj⟩ => ⟨he, .inl ⟨_, rfl, hj⟩⟩
  · exact back1_in F n h8 hro hn l Bs n₀ b cap zs hreach hb J Jx hY W hBs hc' hcs h0
end Go.Proofs.YtnoaojjljcbflaaGreatDoor
