/- New trees and new nodes. -/
import Derived.Test.YtnoaojjljcbflaaGreatDoorM04
import Derived.Deep.LoopGhost
import Derived.Lib.SliceRun
import Derived.Deep.RegionLaw
import Derived.BigRegion
namespace Go.Proofs.YtnoaojjljcbflaaGreatDoor
open Go.RowKit

/-- the variables of package api's errors -/
def errG (g : Nat) : Bool := g == 5 || g == 0 || g == 2 || g == 1
/-- package api's errors lie in memory -/
structure Errs (w : World) (M : Nat → Lab) : Prop where
  lab : ∀ g, errG g = true → M g = .other
  cell : ∀ g, errG g = true → ∃ t a, w.cell? ⟨g, 0, none⟩ = some (.iface t (.pointer (some a)))

theorem Errs.moved {w w' : World} {M M' : Nat → Lab} (h : Errs w M) (m : Moved w M w' M') : Errs w' M' where
  lab g hg := by
    obtain ⟨t, a, hc⟩ := h.cell g hg
    exact (m.lab g (World.block_lt_of_cell? w _ hc)).trans (h.lab g hg)
  cell g hg := by
    obtain ⟨t, a, hc⟩ := h.cell g hg
    have hlt : g < w.heap.size := World.block_lt_of_cell? w _ hc
    exact ⟨t, a, (World.cell?_of_block (a := ⟨g, 0, none⟩) (m.far g hlt (h.lab g hg))).trans hc⟩
theorem Errs.below {w w' : World} {M : Nat → Lab} (h : Errs w M) (m : Below w.heap.size w w') : Errs w' M := h.moved ((Moved.refl w M).below m)

def docP : Pn := ⟨⟨1, ⟨#[]⟩, ⟨#[]⟩, [], -1, []⟩, .slice none 0 0, .slice none 0 0⟩

theorem below_drewN {B : Nat} {a w : World} (h : Below B a w) (n : Nat) : Below B a (w.drewN n) := ⟨h.os, h.tape, h.output, h.size, h.block⟩

set_option maxHeartbeats 1000000 in
theorem new_any (w : World) : Calls Tryz.prog 37 #[] w fun e w' => ∃ tb nv uv M', e = .returned (.pointer (some ⟨tb, 0, none⟩)) ∧ Lies w' M' tb nv uv [docP] [] ∧ Moved w (fun _ => .other) w' M' := by
  go_enter Tryz.func37, Tryz.ntmps37
  go_wp2
  go_ret
  have e1 : ∀ b, b < w.heap.size → b ≠ w.heap.size ∧ b ≠ w.heap.size + 1 := fun b hb => ⟨by omega, by omega⟩
  refine ⟨w.heap.size + 1, .slice (some ⟨w.heap.size, 0, none⟩) 1 1, .slice none 0 0, fun b => if b = w.heap.size then .nodes else if b = w.heap.size + 1 then .tree else .other, rfl, ⟨?_, by simp, ?_, ?_, Row.nil _ _ _ _ _, ?_⟩, ⟨rfl, rfl, rfl, by simp; omega, ?_, ?_⟩⟩
  · intro b hb
    have hb' : w.heap.size + 1 + 1 ≤ b := by simpa using hb
    simp [show b ≠ w.heap.size by omega, show b ≠ w.heap.size + 1 by omega]
  · have := heap_alloc_new (w.alloc (.cells #[.int .i64 1, .string ⟨#[]⟩, .string ⟨#[]⟩, .slice none 0 0, .int .i64 (-1), .slice none 0 0] 126)) (.cells #[.slice (some ⟨w.heap.size, 0, none⟩) 1 1, .slice none 0 0] 104)
    simpa using this
  · refine ⟨rfl, some ⟨w.heap.size, 0, none⟩, 1, rfl, by decide, by unfold maxLen; omega, .inr ⟨w.heap.size, #[.int .i64 1, .string ⟨#[]⟩, .string ⟨#[]⟩, .slice none 0 0, .int .i64 (-1), .slice none 0 0], rfl, by simp, ?_, by simp, rfl⟩⟩
    rw [Below.heap_alloc _ _ _ (by simp)]
    exact heap_alloc_new w _
  · intro i p hp
    have : i = 0 := by
      rcases Nat.eq_zero_or_pos i with e | e
      · exact e
      · rw [List.getElem?_eq_none (by simp; omega)] at hp; cases hp
    subst this
    cases hp
    exact ⟨Row.nil _ _ _ _ _, Row.nil _ _ _ _ _⟩
  · intro b hb
    simp [e1 b hb]
  · intro b hb _
    rw [Below.heap_alloc _ _ _ (by simp; omega), Below.heap_alloc _ _ _ hb]

/-- an error of the program's -/
def isErr (v : Value) : Prop := ∃ t a, v = .iface t (.pointer (some a))

set_option maxHeartbeats 2000000 in
set_option maxRecDepth 100000 in
theorem create_bad {w : World} {M : Nat → Lab} {tb : Nat} {nv uv : Value} {ps : List Pn} {us : List Value} (h : Lies w M tb nv uv ps us) (hE : Errs w M) (hn : ps.length ≤ 400) (kind : Int) (tag words : ByteArray) (hbad : 20000 < words.size ∨ ps.length = 400) :
    Calls Tryz.prog 81 #[.pointer (some ⟨tb, 0, none⟩), .agg #[.int .i64 kind, .string tag, .string words, .slice none 0 0, .int .i64 0, .slice none 0 0]] w fun e w' =>
      ∃ v, e = .returned (.tuple #[.int .i64 0, v]) ∧ isErr v ∧ Below w.heap.size w w' := by
  obtain ⟨t, a, hc⟩ := hE.cell 0 (by decide)
  have hlt : 0 < w.heap.size := World.block_lt_of_cell? w _ hc
  have H : Hid (Lies w M tb nv uv ps us) := h
  clear h hE
  by_cases h2 : 20000 < words.size
  · go_enter Tryz.func81, Tryz.ntmps81
    go_wp2
    go_quiet (fail)
    go_wp2
    go_ret2
    exact ⟨_, rfl, ⟨t, a, rfl⟩, below_drewN ((Below.refl _ _).alloc (Nat.le_refl _) _) _⟩
  · have hr : decide (ps.length < 400) = false := by simp; omega
    go_enter Tryz.func81, Tryz.ntmps81
    go_wp2_with (go_at_call 120; refine (room_any (H.out.alloc _) hn).mono ?_; rintro e w' ⟨rfl, rfl⟩; rw [hr])
    go_quiet (fail)
    go_wp2
    go_ret2
    exact ⟨_, rfl, ⟨t, a, rfl⟩, below_drewN ((Below.refl _ _).alloc (Nat.le_refl _) _) _⟩

/-- a new root -/
def newP (kind : Int) (tag words : ByteArray) : Pn := ⟨⟨kind, tag, words, [], -1, []⟩, .slice none 0 0, .slice none 0 0⟩

/-- a node was made -/
def Made (w : World) (M : Nat → Lab) (tb : Nat) (ps : List Pn) (us : List Value) (p : Pn) (e : Ending) (w' : World) : Prop :=
  e = .returned (.tuple #[.int .i64 ps.length, .nilIface]) ∧ ∃ M' nv' uv' f, Lies w' M' tb nv' uv' (ps ++ [p]) (us ++ [f]) ∧ Frg w' M' f tb ps.length ∧ Moved w M w' M'

theorem six_cells {w : World} {b : Nat} {t : TypeId} {fr : Nat × Nat} {a0 a1 a2 a3 a4 a5 : Value} (h : w.heap[b]? = some (.cells #[a0, a1, a2, a3, a4, a5] t fr)) :
    w.cell? ⟨b, 0, none⟩ = some a0 ∧ w.cell? ⟨b, 1, none⟩ = some a1 ∧ w.cell? ⟨b, 2, none⟩ = some a2 ∧ w.cell? ⟨b, 3, none⟩ = some a3 ∧ w.cell? ⟨b, 4, none⟩ = some a4 ∧ w.cell? ⟨b, 5, none⟩ = some a5 := by
  refine ⟨?_, ?_, ?_, ?_, ?_, ?_⟩ <;> (rw [cell_of_row w b _ _ _ _ h]; rfl)

set_option maxHeartbeats 2000000 in
set_option maxRecDepth 100000 in
theorem create_good {w : World} {M : Nat → Lab} {tb : Nat} {nv uv : Value} {ps : List Pn} {us : List Value} (h : Lies w M tb nv uv ps us) (hn : ps.length < 400) (hu : us.length ≤ 1099511627776) (kind : Int) (tag words : ByteArray) (hw : words.size ≤ 20000) :
    Calls Tryz.prog 81 #[.pointer (some ⟨tb, 0, none⟩), .agg #[.int .i64 kind, .string tag, .string words, .slice none 0 0, .int .i64 0, .slice none 0 0]] w (Made w M tb ps us (newP kind tag words)) := by
  have H : Hid (Lies w M tb nv uv ps us) := h
  have hr : decide (ps.length < 400) = true := by simp; omega
  clear h
  go_enter Tryz.func81, Tryz.ntmps81
  go_wp2_with (first
    | (go_at_call 120; refine (room_any (H.out.alloc _) (by omega)).mono ?_; rintro e w' ⟨rfl, rfl⟩; rw [hr])
    | (go_at_call 121; refine (forget_any (H.out.alloc _)).mono ?_; rintro e w1 ⟨ca, rfl, hF, hB⟩; have H1 : Hid _ := And.intro ((H.out.alloc _).below hB) (And.intro hF hB); clear hF hB)
    | (go_at_call 84; refine (keep_any H1.out.1 _ _ ca hu).mono ?_; rintro e w2 ⟨rfl, M2, uv2, hL2, hm2⟩; obtain ⟨hb0, hb1, hb2, hb3, hb4, hb5⟩ := six_cells (((hm2.far _ (Nat.lt_of_lt_of_le (by simp) H1.out.2.2.size) (H.out.fresh _ (Nat.le_refl _))).trans (H1.out.2.2.block _ (by simp))).trans (heap_alloc_new w _)); have H2 : Hid _ := And.intro hL2 hm2; clear hL2 hm2)
    | (go_at_call 122; refine (add_any H2.out.1 (by omega) kind 0 tag words none 0 0 [] (Row.nil _ _ _ _ _)).mono ?_; rintro e w3 ⟨rfl, M3, nv3, hL3, hm3⟩))
  go_ret2
  refine ⟨rfl, M3, nv3, uv2, _, hL3, (H1.out.2.1.moved H2.out.2).moved hm3, ?_⟩
  exact ((((Moved.refl _ _).alloc _).below H1.out.2.2).trans H2.out.2).trans hm3
end Go.Proofs.YtnoaojjljcbflaaGreatDoor

/- What looks at a tree: kids, places, ways. -/
namespace Go.Proofs.YtnoaojjljcbflaaGreatDoor
open Go.RowKit

theorem Tryz.infoInt : (Tryz.prog.info? 3).map (fun i => (i.zero, i.size, i.bytes)) = some (some (.int .i64 0), 1, 8) := by kernel_rfl

set_option maxHeartbeats 1000000 in
set_option maxRecDepth 100000 in
theorem clone_any {w : World} {M : Nat → Lab} {l : Lab} {v : Value} {n : Nat} {xs : List Int} (h : Row w M l 3 1 v n (xs.map intV)) (hn : n ≤ 1099511627776) :
    Calls Tryz.prog 91 #[v] w fun e w' => ∃ v', e = .returned v' ∧ w'.ownsRow w.heap.size 3 1 v' n (xs.map intV) ∧ Below w.heap.size w w' := by
  obtain ⟨i0, hi, hz0, hz1, hz2⟩ := info_parts Tryz.infoInt
  have qs : ∀ (w : World) (a : Option Addr) (n c n' c' : Nat), (binOp .eql 48 (.slice a n c) (.slice none n' c')).run Tryz.prog w = .ok (.bool a.isNone) w := fun w a n c n' c' => Lib.run_eql_slice_nil w _ _ a n c n' c' Tryz.underlying48
  obtain ⟨hl, a, cap, rfl, h1, h2, h3⟩ := id h
  cases a with
  | none =>
    have hz : n = 0 ∧ cap = 0 := by
      rcases h3 with ⟨h3, _⟩ | ⟨g, cur, ha, _⟩
      · exact ⟨by omega, h3⟩
      · cases ha
    obtain ⟨rfl, rfl⟩ := hz
    have hx : xs.map intV = [] := List.eq_nil_of_length_eq_zero (by simpa using hl)
    have HX : Hid (xs.map intV = []) := hx
    clear h hl h3 hx
    go_enter Tryz.func91, Tryz.ntmps91
    go_wp2
    go_ret
    exact ⟨_, rfl, by rw [HX.out]; exact World.ownsRow_nil _ _ _ _, Below.refl _ _⟩
  | some ad =>
    obtain ⟨g, rfl⟩ : ∃ g, ad = ⟨g, 0, none⟩ := by
      rcases h3 with ⟨_, h3 | ⟨g, h3⟩⟩ | ⟨g, cur, ha, _⟩
      · cases h3
      · exact ⟨g, by cases h3; rfl⟩
      · exact ⟨g, by cases ha; rfl⟩
    have hcells : Hid (∀ j u, (xs.map intV)[j]? = some u → (w.alloc (.cells #[] 3)).cell? ((⟨g, 0, none⟩ : Addr).add j) = some u) := by
      intro j u hu
      have hadd : (⟨g, 0, none⟩ : Addr).add j = ⟨g, j, none⟩ := by unfold Addr.add; split <;> simp_all
      have hc := (h.cell rfl hu).1
      rw [hadd]
      exact (World.cell?_of_block (a := ⟨g, j, none⟩) (Below.heap_alloc w _ g (World.block_lt_of_cell? w _ hc))).trans hc
    have hone : Hid (∀ u ∈ xs.map intV, u.oneCell' = true) := by
      intro u hu
      obtain ⟨k, _, rfl⟩ := List.mem_map.1 hu
      rfl
    have hown : Hid ((w.alloc (.cells #[] 3)).ownsRow w.heap.size 3 1 (.slice (some ⟨w.heap.size, 0, none⟩) 0 0) 0 []) := World.ownsRow_made w #[] 0 (Nat.le_refl _) (by unfold maxLen; omega) rfl
    have HL : Hid ((xs.map intV).length = n * 1) := hl
    clear h hl h3
    unfold maxLen at h2
    go_enter Tryz.func91, Tryz.ntmps91
    go_wp2_with (at_builtin; refine wpList_append_own_at _ (by rfl) (.tmp 5) (.tmp 6) 48 (by rfl) w.heap.size 3 i0 (.int .i64 0) 1 8 Tryz.underlying48 hi hz0 hz1 hz2 rfl (by decide) (.slice (some ⟨w.heap.size, 0, none⟩) 0 0) 0 [] (by rfl) hown.out ⟨g, 0, none⟩ n cap (xs.map intV) (by rfl) HL.out hcells.out hone.out (by unfold maxLen; omega) (by omega) (by simp) ?_; intro v' w' hv hg _ _; have HV : Hid _ := And.intro hv hg; clear hv hg)
    go_ret
    refine ⟨_, rfl, by simpa using HV.out.1, ?_⟩
    exact ((Below.refl _ _).alloc (Nat.le_refl _) _).grown HV.out.2 (by simp) (fun k hk => by simp [Value.ownBlock] at hk; omega)

set_option maxHeartbeats 1000000 in
theorem kids_any {w : World} {M : Nat → Lab} {tb : Nat} {nv uv : Value} {ps : List Pn} {us : List Value} (h : Lies w M tb nv uv ps us) {i : Nat} {p : Pn} (hp : ps[i]? = some p) (hk : p.n.kids.length ≤ 1099511627776) :
    Calls Tryz.prog 44 #[.pointer (some ⟨tb, 0, none⟩), .int .i64 i] w fun e w' => ∃ v', e = .returned v' ∧ w'.ownsRow w.heap.size 3 1 v' p.n.kids.length (p.n.kids.map intV) ∧ Below w.heap.size w w' := by
  have hb := hasB_of hp
  obtain ⟨nb, cap, rfl, hc, hm, _, _, hi⟩ := h.form hp
  have c0 := h.cell0
  have c5 := (h.cellN rfl (f := 5) hp (by omega) rfl).1
  have hr := (h.node i p hp).2
  obtain ⟨ka, kc, hkv, _, _⟩ := hr.shape
  rw [hkv] at c5
  have HR : Hid (Row w M (.kids i) 3 1 (.slice ka p.n.kids.length kc) p.n.kids.length (p.n.kids.map intV)) := hkv ▸ hr
  have H : Hid (Lies w M tb (.slice (some ⟨nb, 0, none⟩) ps.length cap) uv ps us) := h
  unfold maxLen at hm
  clear h hr hkv
  go_enter Tryz.func44, Tryz.ntmps44
  go_wp2_with (first
    | (go_at_call 73; refine (has_any H.out _).mono ?_; rintro e w' ⟨rfl, rfl⟩; rw [hb])
    | (go_at_call 91; refine (clone_any HR.out hk).mono ?_; rintro e w1 ⟨v1, rfl, ho, hB⟩))
  go_ret
  exact ⟨_, rfl, ho, hB⟩

def kidsB (k : Int) : Bool := decide (k = 1 ∨ k = 2)
set_option maxHeartbeats 1000000 in
theorem mayHaveKids_any {w : World} {M : Nat → Lab} {tb : Nat} {nv uv : Value} {ps : List Pn} {us : List Value} (h : Lies w M tb nv uv ps us) {i : Nat} {p : Pn} (hp : ps[i]? = some p) :
    Calls Tryz.prog 88 #[.pointer (some ⟨tb, 0, none⟩), .int .i64 i] w fun e w' => e = .returned (.bool (kidsB p.n.kind)) ∧ w' = w := by
  obtain ⟨nb, cap, rfl, hc, hm, _, _, hi⟩ := h.form hp
  have c0 := h.cell0
  have c4 := (h.cellN rfl (f := 0) hp (by omega) rfl).1
  rw [Nat.add_zero] at c4
  unfold maxLen at hm
  clear h
  go_enter Tryz.func88, Tryz.ntmps88
  go_wp2
  all_goals go_ret
  all_goals refine ⟨ret_bool ?_, rfl⟩
  all_goals (unfold kidsB; by_cases h1 : p.n.kind = 1 <;> by_cases h2 : p.n.kind = 2 <;> simp_all)

set_option maxHeartbeats 2000000 in
theorem index_any {w : World} {M : Nat → Lab} {l : Lab} {v : Value} {n : Nat} {xs : List Int} (h : Row w M l 3 1 v n (xs.map intV)) (x : Int) (hx : x ∈ xs) :
    Calls Tryz.prog 170 #[v, .int .i64 x] w fun e w' => e = .returned (.int .i64 (idx xs x : Nat)) ∧ w' = w := by
  have hln : xs.length = n := by have := h.1; simpa using this
  have hpos : 0 < n := by
    rw [← hln]
    exact List.length_pos_of_mem hx
  obtain ⟨g, cap, rfl, hc, hm, _, _⟩ := h.form hpos
  unfold maxLen at hm
  have hcell : Hid (∀ k y, xs[k]? = some y → w.cell? ⟨g, k, none⟩ = some (.int .i64 y)) := by
    intro k y hk
    exact (h.cell rfl (j := k) (u := .int .i64 y) (by simp [hk, intV])).1
  have hlt : idx xs x < xs.length := List.findIdx_lt_length.2 ⟨x, hx, by simp⟩
  have HG : Hid (xs[idx xs x]? = some x) := idx_get hx
  have HB : Hid (∀ k, k < idx xs x → xs[k]? ≠ some x) := by
    intro k hk e
    have := List.not_of_lt_findIdx hk
    rw [List.getElem?_eq_getElem (by omega)] at e
    rw [Option.some.inj e] at this
    simp at this
  clear h
  generalize idx xs x = r at *
  go_enter Tryz.func170, Tryz.ntmps170
  go_wp2
  go_loop [8] (fun i => ∃ k : Nat, k ≤ r ∧ i = .int .i64 k) (fun i => r + 1 - (intOf i).toNat)
  case atStart => exact ⟨0, by omega, rfl⟩
  case round =>
    obtain ⟨k, hk, rfl⟩ := hrel
    have hks : ∃ y, xs[k]? = some y := ⟨xs[k]'(by omega), List.getElem?_eq_getElem _⟩
    obtain ⟨y, hy⟩ := hks
    have ck := hcell.out k y hy
    by_cases hkr : k = r
    · subst hkr
      obtain rfl : y = x := Option.some.inj (hy.symm.trans HG.out)
      clear hy
      go_wp2
      go_ret
      exact ⟨rfl, rfl⟩
    · have hne : (x == y) = false := by
        rw [beq_eq_false_iff_ne]
        intro e
        subst e
        exact HB.out k (by omega) hy
      have hne' : ¬ x = y := by simpa using hne
      clear hy
      go_wp2
      go_round
      case rel => exact ⟨k + 1, by omega, by go_num⟩
      case measure => simp [intOf]; omega
end Go.Proofs.YtnoaojjljcbflaaGreatDoor

/- Where an attribute stands. -/
namespace Go.Proofs.YtnoaojjljcbflaaGreatDoor
open Go.RowKit

def eqS (a b : ByteArray) : Bool := a.toList == b.toList
def findA (l : List (ByteArray × ByteArray)) (name : ByteArray) : Option Nat := l.findIdx? fun x => eqS x.1 name
def findI (l : List (ByteArray × ByteArray)) (name : ByteArray) : Int := match findA l name with
  | some k => k
  | none => -1

set_option maxHeartbeats 1000000 in
theorem find1_any (n v name : ByteArray) (b : Nat) (w : World) (hb : w.cell? ⟨b, 0, none⟩ = some (.string name)) :
    Calls Tryz.prog 124 #[.agg #[.string n, .string v], .pointer (some ⟨b, 0, none⟩)] w fun e w' => e = .returned (.bool (eqS n name)) ∧ Below w.heap.size w w' := by
  have hlt : b < w.heap.size := World.block_lt_of_cell? w _ hb
  go_enter Tryz.func124, Tryz.ntmps124
  go_wp2
  go_ret
  exact ⟨rfl, (Below.refl _ _).alloc (Nat.le_refl _) _⟩

theorem findI_some {l : List (ByteArray × ByteArray)} {name : ByteArray} {k : Nat} {x : ByteArray × ByteArray} (hx : l[k]? = some x) (he : eqS x.1 name = true) (hb : ∀ j, j < k → ∀ y, l[j]? = some y → eqS y.1 name = false) : findA l name = some k := by
  unfold findA
  rw [List.findIdx?_eq_some_iff_getElem]
  obtain ⟨hk, rfl⟩ := List.getElem?_eq_some_iff.1 hx
  refine ⟨hk, he, fun j hj => ?_⟩
  have := hb j hj l[j] (List.getElem?_eq_getElem (by omega))
  simp [this]
theorem findI_none {l : List (ByteArray × ByteArray)} {name : ByteArray} (hb : ∀ j, j < l.length → ∀ y, l[j]? = some y → eqS y.1 name = false) : findA l name = none := by
  unfold findA
  rw [List.findIdx?_eq_none_iff]
  intro x hx
  obtain ⟨j, hj, rfl⟩ := List.getElem_of_mem hx
  exact hb j hj _ (List.getElem?_eq_getElem hj)

set_option maxHeartbeats 4000000 in
set_option maxRecDepth 100000 in
theorem indexFunc_any {w : World} {M : Nat → Lab} {l : Lab} {v : Value} {at_ : List (ByteArray × ByteArray)} (h : Row w M l 81 2 v at_.length (attrCells at_)) (name : ByteArray) (b : Nat) (hb : w.cell? ⟨b, 0, none⟩ = some (.string name)) :
    Calls Tryz.prog 123 #[v, .func (.func 124) #[] #[.pointer (some ⟨b, 0, none⟩)]] w fun e w' => e = .returned (.int .i64 (findI at_ name)) ∧ Below w.heap.size w w' := by
  obtain ⟨a, cap, rfl, h1, h2⟩ := h.shape
  have hcell : Hid (∀ k x, at_[k]? = some x → ∃ g, a = some ⟨g, 0, none⟩ ∧ g < w.heap.size ∧ w.cell? ⟨g, k * 2, none⟩ = some (.string x.1) ∧ w.cell? ⟨g, k * 2 + 1, none⟩ = some (.string x.2)) := by
    intro k x hk
    have hkl : k < at_.length := (List.getElem?_eq_some_iff.1 hk).1
    obtain ⟨g, c, hv, _, _, _, hg⟩ := h.form (by omega)
    cases hv
    obtain ⟨q1, q2⟩ := attrCells_get at_ k x hk
    exact ⟨g, rfl, hg, (h.cell rfl q1).1, (h.cell rfl q2).1⟩
  have hlt : b < w.heap.size := World.block_lt_of_cell? w _ hb
  unfold maxLen at h2
  clear h
  go_enter Tryz.func123, Tryz.ntmps123
  go_wp2
  go_loopw [8] (fun i wr => ∃ k : Nat, k ≤ at_.length ∧ i = .int .i64 k ∧ Hid (∀ j, j < k → ∀ y, at_[j]? = some y → eqS y.1 name = false) ∧ Hid (Below w.heap.size w wr)) (fun i _ => at_.length - (intOf i).toNat)
  case atStart => exact ⟨0, by omega, rfl, (fun j hj => absurd hj (by omega) : ∀ j, j < 0 → ∀ y, at_[j]? = some y → eqS y.1 name = false), Below.refl _ _⟩
  case round =>
    obtain ⟨k, hk, rfl, hno, hbel⟩ := hrel
    by_cases hkl : k < at_.length
    · obtain ⟨x, hx⟩ : ∃ x, at_[k]? = some x := ⟨_, List.getElem?_eq_getElem hkl⟩
      obtain ⟨g, rfl, hg, c1, c2⟩ := hcell.out k x hx
      have c1' := (hbel.out.cell (p := ⟨g, k * 2, none⟩) hg).trans c1
      have c2' := (hbel.out.cell (p := ⟨g, k * 2 + 1, none⟩) hg).trans c2
      have hb' := (hbel.out.cell (p := ⟨b, 0, none⟩) hlt).trans hb
      have HX : Hid (at_[k]? = some x) := hx
      clear hx c1 c2
      cases he : eqS x.1 name
      · go_wp2_with (go_at_call 124; refine (find1_any x.1 x.2 name b _ hb').mono ?_; rintro e w1 ⟨rfl, hB⟩; rw [he])
        go_roundw
        case rel =>
          go_light
          refine ⟨k + 1, by omega, by go_num, ?_, (hbel.out.trans (hB.mono hbel.out.size) : Below w.heap.size w w1)⟩
          intro j hj y hy
          by_cases hjk : j = k
          · subst hjk
            obtain rfl := Option.some.inj (hy.symm.trans HX.out)
            exact he
          · exact hno.out j (by omega) y hy
        case measure => go_light; simp [intOf]; omega
      · have HF : Hid (findI at_ name = k) := by
          show findI at_ name = k
          simp only [findI, findI_some HX.out he hno.out]
        go_wp2_with (go_at_call 124; refine (find1_any x.1 x.2 name b _ hb').mono ?_; rintro e w1 ⟨rfl, hB⟩; rw [he])
        go_ret
        exact ⟨ret_int HF.out.symm, hbel.out.trans (hB.mono hbel.out.size)⟩
    · have hke : k = at_.length := by omega
      have HF : Hid (findI at_ name = -1) := by
        show findI at_ name = -1
        simp only [findI, findI_none (hke ▸ hno.out)]
      go_wp2
      go_ret
      exact ⟨ret_int HF.out.symm, hbel.out⟩

set_option maxHeartbeats 2000000 in
theorem find_any {w : World} {M : Nat → Lab} {tb : Nat} {uv : Value} {ps : List Pn} {us : List Value} {nb nc : Nat} (h : Lies w M tb (.slice (some ⟨nb, 0, none⟩) ps.length nc) uv ps us) {i : Nat} {p : Pn} (hp : ps[i]? = some p) (name : ByteArray) :
    Calls Tryz.prog 83 #[.pointer (some ⟨nb, i * 6, none⟩), .string name] w fun e w' => e = .returned (.int .i64 (findI p.n.attrs name)) ∧ Below w.heap.size w w' := by
  have c3 := (h.cellN rfl (f := 3) hp (by omega) rfl).1
  have hlt : nb < w.heap.size := World.block_lt_of_cell? w _ c3
  have hr := (h.node i p hp).1
  obtain ⟨ka, kc, hkv, _, _⟩ := hr.shape
  rw [hkv] at c3
  have HR : Hid (Row (w.alloc (.cells #[.string name] 9)) M (.attrs i) 81 2 (.slice ka p.n.attrs.length kc) p.n.attrs.length (attrCells p.n.attrs)) := by
    rw [hkv] at hr
    exact hr.keep (fun b hb _ => Below.heap_alloc w _ b hb) (fun _ _ => rfl)
  clear h hr hkv
  go_enter Tryz.func83, Tryz.ntmps83
  go_wp2_with (go_at_call 123; refine (indexFunc_any HR.out name _ (by simp)).mono ?_; rintro e w1 ⟨rfl, hB⟩)
  go_ret
  exact ⟨rfl, ((Below.refl _ _).alloc (Nat.le_refl _) _).trans (hB.mono (by simp))⟩

set_option maxHeartbeats 2000000 in
theorem wantElement_any {w : World} {M : Nat → Lab} {tb : Nat} {nv uv : Value} {ps : List Pn} {us : List Value} (h : Lies w M tb nv uv ps us) (hE : Errs w M) {i : Nat} {p : Pn} (hp : ps[i]? = some p) :
    Calls Tryz.prog 82 #[.pointer (some ⟨tb, 0, none⟩), .int .i64 i] w fun e w' => (∃ v, e = .returned v ∧ (if p.n.kind = 2 then v = .nilIface else isErr v)) ∧ w' = w := by
  have hb := hasB_of hp
  obtain ⟨nb, cap, rfl, hc, hm, _, _, hi⟩ := h.form hp
  obtain ⟨t, a, hc3⟩ := hE.cell 1 (by decide)
  have c0 := h.cell0
  have c4 := (h.cellN rfl (f := 0) hp (by omega) rfl).1
  rw [Nat.add_zero] at c4
  have H : Hid (Lies w M tb (.slice (some ⟨nb, 0, none⟩) ps.length cap) uv ps us) := h
  unfold maxLen at hm
  clear h hE
  by_cases hk : p.n.kind = 2
  · rw [hk] at c4
    simp only [if_pos hk]
    go_enter Tryz.func82, Tryz.ntmps82
    go_wp2_with (go_at_call 73; refine (has_any H.out _).mono ?_; rintro e w' ⟨rfl, rfl⟩; rw [hb])
    go_ret
    exact ⟨⟨_, rfl, rfl⟩, rfl⟩
  · have hkb : (p.n.kind == 2) = false := by simpa using hk
    simp only [if_neg hk]
    go_enter Tryz.func82, Tryz.ntmps82
    go_wp2_with (go_at_call 73; refine (has_any H.out _).mono ?_; rintro e w' ⟨rfl, rfl⟩; rw [hb])
    go_ret
    exact ⟨⟨_, rfl, ⟨t, a, rfl⟩⟩, rfl⟩
end Go.Proofs.YtnoaojjljcbflaaGreatDoor

/- What Set makes of a tree. -/
namespace Go.Proofs.YtnoaojjljcbflaaGreatDoor
open Go.RowKit

/-- a node's attributes turn: their row, and where the node says that it lies -/
theorem Lies.setAttrs {w w1 : World} {M M1 : Nat → Lab} {tb : Nat} {nv uv : Value} {ps : List Pn} {us : List Value} (h : Lies w M tb nv uv ps us) {nb m c0 : Nat} (hv : nv = .slice (some ⟨nb, 0, none⟩) m c0) {i : Nat} {p : Pn} (hp : ps[i]? = some p) (st : Step w M w1 M1 (.attrs i))
    {av' : Value} {at' : List (ByteArray × ByteArray)} (hr : Row w1 M1 (.attrs i) 81 2 av' at'.length (attrCells at')) :
    Lies (w1.setCell ⟨nb, i * 6 + 3, none⟩ av') M1 tb nv uv (ps.set i ⟨{ p.n with attrs := at' }, av', p.kv⟩) us ∧ Moved w M (w1.setCell ⟨nb, i * 6 + 3, none⟩ av') M1 ∧ (∃ u, w1.cell? ⟨nb, i * 6 + 3, none⟩ = some u) ∧ w1.frozen? ⟨nb, i * 6 + 3, none⟩ = false := by
  have hi : i < ps.length := (List.getElem?_eq_some_iff.1 hp).1
  obtain ⟨g, cap, hg, _, _, hM, hgl⟩ := h.nodes.form (by omega)
  have e1 : g = nb := by rw [hv] at hg; cases hg; rfl
  subst e1
  have hn1 : Row w1 M1 .nodes 126 6 nv ps.length (flat ps) := h.nodes.step st (by intro e; cases e)
  have hM1 : M1 g = .nodes := (st.lab g hgl).trans hM
  have st2 : Step w1 M1 (w1.setCell ⟨g, i * 6 + 3, none⟩ av') M1 .nodes := step_setCell av' hM1 st.fresh
  have hc := hn1.cell hv (flat_get ps i 3 p hp (by omega))
  refine ⟨⟨st2.fresh, (st.lab tb (lt_of_heap h.head)).trans h.tree, ?_, ?_, (h.undos.step st (by intro e; cases e)).step st2 (by intro e; cases e), ?_⟩, (st.moved (by intro e; cases e)).trans (st2.moved (by intro e; cases e)), ⟨_, hc.1⟩, hc.2⟩
  · have ht : M1 tb = .tree := (st.lab tb (lt_of_heap h.head)).trans h.tree
    have hl : tb < w1.heap.size := Nat.lt_of_lt_of_le (lt_of_heap h.head) st.size
    exact ((st2.far tb hl (by rw [ht]; intro e; cases e)).trans (st.far tb (lt_of_heap h.head) (by rw [h.tree]; intro e; cases e))).trans h.head
  · rw [List.length_set, flat_set ps i 3 p ⟨{ p.n with attrs := at' }, av', p.kv⟩ av' hp (by omega) rfl]
    exact hn1.set hv _ _ (by rw [flat_length]; omega)
  · intro j q hq
    by_cases hij : i = j
    · subst hij
      rw [List.getElem?_set_self hi] at hq
      cases hq
      exact ⟨hr.step st2 (by intro e; cases e), ((h.node i p hp).2.step st (by intro e; cases e)).step st2 (by intro e; cases e)⟩
    · rw [List.getElem?_set_ne hij] at hq
      exact ⟨((h.node j q hq).1.step st (by intro e; cases e; exact hij rfl)).step st2 (by intro e; cases e), ((h.node j q hq).2.step st (by intro e; cases e)).step st2 (by intro e; cases e)⟩

theorem flat_same (ps : List Pn) : ∀ (i : Nat) (p p' : Pn), ps[i]? = some p → p'.cells = p.cells → flat (ps.set i p') = flat ps := by
  induction ps with
  | nil => intro i p p' h; simp at h
  | cons q ps ih =>
    intro i p p' h he
    cases i with
    | zero => simp at h; subst h; rw [List.set_cons_zero, flat_cons, flat_cons, he]
    | succ i => rw [List.set_cons_succ, flat_cons, flat_cons, ih i p p' (by simpa using h) he]

/-- a node's attributes turn in their place -/
theorem Lies.turnAttrs {w w1 : World} {M M1 : Nat → Lab} {tb : Nat} {nv uv : Value} {ps : List Pn} {us : List Value} (h : Lies w M tb nv uv ps us) {i : Nat} {p : Pn} (hp : ps[i]? = some p) (st : Step w M w1 M1 (.attrs i))
    {at' : List (ByteArray × ByteArray)} (hr : Row w1 M1 (.attrs i) 81 2 p.av at'.length (attrCells at')) :
    Lies w1 M1 tb nv uv (ps.set i ⟨{ p.n with attrs := at' }, p.av, p.kv⟩) us ∧ Moved w M w1 M1 := by
  have hi : i < ps.length := (List.getElem?_eq_some_iff.1 hp).1
  refine ⟨⟨st.fresh, (st.lab tb (lt_of_heap h.head)).trans h.tree, (st.far tb (lt_of_heap h.head) (by rw [h.tree]; intro e; cases e)).trans h.head, ?_, h.undos.step st (by intro e; cases e), ?_⟩, st.moved (by intro e; cases e)⟩
  · rw [List.length_set, flat_same ps i p ⟨{ p.n with attrs := at' }, p.av, p.kv⟩ hp rfl]
    exact h.nodes.step st (by intro e; cases e)
  · intro j q hq
    by_cases hij : i = j
    · subst hij
      rw [List.getElem?_set_self hi] at hq
      cases hq
      exact ⟨hr, (h.node i p hp).2.step st (by intro e; cases e)⟩
    · rw [List.getElem?_set_ne hij] at hq
      exact ⟨(h.node j q hq).1.step st (by intro e; cases e; exact hij rfl), (h.node j q hq).2.step st (by intro e; cases e)⟩

/-- what Set makes of a list of attributes -/
def setAttr (l : List (ByteArray × ByteArray)) (name value : ByteArray) : List (ByteArray × ByteArray) := match findA l name with
  | some k => l.set k ((l.getD k (name, value)).1, value)
  | none => l ++ [(name, value)]

theorem Tryz.infoAttr : (Tryz.prog.info? 81).map (fun i => (i.zero, i.size, i.bytes)) = some (some (.agg #[.string ⟨#[]⟩, .string ⟨#[]⟩]), 2, 32) := by kernel_rfl

set_option maxHeartbeats 4000000 in
set_option maxRecDepth 100000 in
theorem set_bad {w : World} {M : Nat → Lab} {tb : Nat} {nv uv : Value} {ps : List Pn} {us : List Value} (h : Lies w M tb nv uv ps us) (hE : Errs w M) {i : Nat} {p : Pn} (hp : ps[i]? = some p) (name value : ByteArray) (hv : value.size ≤ 9223372036854775807) (hbad : p.n.kind ≠ 2 ∨ nameB name = false ∨ 20000 < value.size) :
    Calls Tryz.prog 41 #[.pointer (some ⟨tb, 0, none⟩), .int .i64 i, .string name, .string value] w fun e w' => (∃ v, e = .returned v ∧ isErr v) ∧ Below w.heap.size w w' := by
  obtain ⟨t1, a1, hc1⟩ := hE.cell 5 (by decide)
  obtain ⟨t2, a2, hc2⟩ := hE.cell 0 (by decide)
  have l1 : 5 < w.heap.size := World.block_lt_of_cell? w _ hc1
  have l2 : 0 < w.heap.size := World.block_lt_of_cell? w _ hc2
  have W0 : Hid (∀ o1 o2, Lies ((w.alloc o1).alloc o2) M tb nv uv ps us ∧ Errs ((w.alloc o1).alloc o2) M) := fun o1 o2 => ⟨(h.alloc o1).alloc o2, hE.below (((Below.refl _ _).alloc (Nat.le_refl _) _).alloc (by simp) _)⟩
  clear h hE
  by_cases hk : p.n.kind = 2
  · cases hn : nameB name
    · go_enter Tryz.func41, Tryz.ntmps41
      go_wp2_with (first
        | (go_at_call 82; refine (wantElement_any (W0.out _ _).1 (W0.out _ _).2 hp).mono ?_; rintro e w' ⟨⟨v, rfl, hv⟩, rfl⟩; rw [if_pos hk] at hv; subst hv)
        | (go_at_call 80; refine (name_any _ _).mono ?_; rintro e w' ⟨rfl, rfl⟩; rw [hn]))
      all_goals go_ret
      all_goals exact ⟨⟨_, rfl, ⟨t1, a1, rfl⟩⟩, ((Below.refl _ _).alloc (Nat.le_refl _) _).alloc (by simp) _⟩
    · have hvs : 20000 < value.size := by
        rcases hbad with h | h | h
        · exact absurd hk h
        · rw [hn] at h; cases h
        · exact h
      go_enter Tryz.func41, Tryz.ntmps41
      go_wp2_with (first
        | (go_at_call 82; refine (wantElement_any (W0.out _ _).1 (W0.out _ _).2 hp).mono ?_; rintro e w' ⟨⟨v, rfl, hv⟩, rfl⟩; rw [if_pos hk] at hv; subst hv)
        | (go_at_call 80; refine (name_any _ _).mono ?_; rintro e w' ⟨rfl, rfl⟩; rw [hn]))
      all_goals go_ret
      all_goals exact ⟨⟨_, rfl, ⟨t2, a2, rfl⟩⟩, ((Below.refl _ _).alloc (Nat.le_refl _) _).alloc (by simp) _⟩
  · go_enter Tryz.func41, Tryz.ntmps41
    go_wp2_with (go_at_call 82; refine (wantElement_any (W0.out _ _).1 (W0.out _ _).2 hp).mono ?_; rintro e w' ⟨⟨v, rfl, hv⟩, rfl⟩; rw [if_neg hk] at hv; obtain ⟨t3, a3, rfl⟩ := hv)
    all_goals go_ret
    all_goals exact ⟨⟨_, rfl, ⟨t3, a3, rfl⟩⟩, ((Below.refl _ _).alloc (Nat.le_refl _) _).alloc (by simp) _⟩
end Go.Proofs.YtnoaojjljcbflaaGreatDoor
