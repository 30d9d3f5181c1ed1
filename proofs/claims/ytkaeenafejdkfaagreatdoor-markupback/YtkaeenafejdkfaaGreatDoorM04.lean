/- Which texts are names. -/
import Derived.Test.YtkaeenafejdkfaaGreatDoorM03
import Derived.Test.YtkaeenafejdkfaaGreatDoorM02
import Derived.Test.YtkaeenafejdkfaaGreatDoorChecked
import Derived.WalkKit
import Derived.WalkSmall
import Derived.Deep.Light
import Derived.Deep.QuietTactic
import Derived.BigQuiet
import Derived.Laws.DeepStrings4
import Derived.Lib.Strings
namespace Go.Proofs.YtkaeenafejdkfaaGreatDoor
open Go.RowKit

def lowB (b : Int) : Bool := decide (97 ≤ b ∧ b ≤ 122)
def digB (b : Int) : Bool := decide (48 ≤ b ∧ b ≤ 57)
def signB (b : Int) : Bool := lowB b || digB b || b == 45 || b == 95 || b == 58
/-- the document's names -/
def nameB (s : ByteArray) : Bool := decide (0 < s.size) && decide (s.size ≤ 40) && lowB (s.data.toList.headD 0).toNat && s.data.toList.all fun c => signB c.toNat

theorem small_any (b : Int) (w : World) : Calls Tryz.prog 118 #[.int .u8 b] w fun e w' => e = .returned (.bool (lowB b)) ∧ w' = w := by
  go_enter Tryz.func118, Tryz.ntmps118
  go_wp2
  all_goals go_ret
  all_goals refine ⟨ret_bool ?_, rfl⟩
  all_goals (unfold lowB; simp; try omega)
theorem digit_any (b : Int) (w : World) : Calls Tryz.prog 119 #[.int .u8 b] w fun e w' => e = .returned (.bool (digB b)) ∧ w' = w := by
  go_enter Tryz.func119, Tryz.ntmps119
  go_wp2
  all_goals go_ret
  all_goals refine ⟨ret_bool ?_, rfl⟩
  all_goals (unfold digB; simp; try omega)

theorem take_all (s : ByteArray) (k : Nat) (h : k < s.size) (f : UInt8 → Bool) : ((s.data.toList.take (k + 1)).all f) = ((s.data.toList.take k).all f && f s[k]) := by
  rw [List.take_succ_eq_append_getElem (by simpa using h), List.all_append]
  simp
  rfl
theorem nameB_false (s : ByteArray) (k : Nat) (h : k < s.size) (hf : signB s[k].toNat = false) : nameB s = false := by
  have : (s.data.toList.all fun c => signB c.toNat) = false := by
    rw [List.all_eq_false]
    exact ⟨s[k], by exact List.getElem_mem (l := s.data.toList) (by simpa using h), by simpa using hf⟩
  unfold nameB
  rw [this, Bool.and_false]
theorem head_eq (s : ByteArray) (h0 : 0 < s.size) : s.data.toList.headD 0 = s[0] := by
  have hl : 0 < s.data.toList.length := by simpa using h0
  rw [List.headD_eq_head?_getD, List.head?_eq_getElem?, List.getElem?_eq_getElem hl]
  rfl
theorem nameB_low (s : ByteArray) (h0 : 0 < s.size) (h : lowB s[0].toNat = false) : nameB s = false := by
  unfold nameB
  rw [head_eq s h0, h]
  simp
theorem nameB_true (s : ByteArray) (h0 : 0 < s.size) (h1 : s.size ≤ 40) (h2 : lowB s[0].toNat = true) (h3 : (s.data.toList.take s.size).all (fun c => signB c.toNat) = true) : nameB s = true := by
  have e : s.data.toList.take s.size = s.data.toList := List.take_of_length_le (by simp)
  rw [e] at h3
  have e2 : s.data.toList.headD 0 = s[0] := by
    have hl : 0 < s.data.toList.length := by simpa using h0
    rw [List.headD_eq_head?_getD, List.head?_eq_getElem?, List.getElem?_eq_getElem hl]
    rfl
  unfold nameB
  rw [h3, e2, h2]
  simp [h0, h1]

theorem empty_of (s : ByteArray) (h : s.size = 0) : s.toList.isEmpty = true := by
  rw [← decide_eq_emptyBytes, decide_eq_true_eq]
  apply ByteArray.ext
  exact Array.eq_empty_of_size_eq_zero h
theorem not_empty (s : ByteArray) (h : 0 < s.size) : s.toList.isEmpty = false := by
  rw [← decide_eq_emptyBytes, decide_eq_false_iff_not]
  intro e
  subst e
  simp at h

theorem round_up (s : ByteArray) (k : Nat) (h : k < s.size) (ha : Hid ((s.data.toList.take k).all (fun c => signB c.toNat) = true)) (H : Hid (signB s[k].toNat = true)) : Hid ((s.data.toList.take (k + 1)).all (fun c => signB c.toNat) = true) := by
  show (s.data.toList.take (k + 1)).all (fun c => signB c.toNat) = true
  rw [take_all s k h, ha.out, H.out]
  rfl

set_option maxHeartbeats 4000000 in
set_option maxRecDepth 100000 in
theorem name_any (s : ByteArray) (w : World) : Calls Tryz.prog 80 #[.string s] w fun e w' => e = .returned (.bool (nameB s)) ∧ w' = w := by
  by_cases h0 : s.size = 0
  · have hN : nameB s = false := by unfold nameB; simp [h0]
    have H : Hid (nameB s = false) := hN
    clear hN
    have he := empty_of s h0
    go_enter Tryz.func80, Tryz.ntmps80
    go_wp2
    go_ret
    exact ⟨ret_bool H.out.symm, rfl⟩
  · have he := not_empty s (by omega)
    have hp : 0 < s.size := by omega
    by_cases h4 : 40 < s.size
    · have hN : nameB s = false := by unfold nameB; simp [show ¬ s.size ≤ 40 by omega]
      have H : Hid (nameB s = false) := hN
      clear hN
      go_enter Tryz.func80, Tryz.ntmps80
      go_wp2
      all_goals go_ret
      all_goals exact ⟨ret_bool H.out.symm, rfl⟩
    · cases hl : lowB s[0].toNat
      · have H : Hid (nameB s = false) := nameB_low s hp hl
        go_enter Tryz.func80, Tryz.ntmps80
        go_wp2_with (go_at_call 118; refine (small_any _ _).mono ?_; rintro e w' ⟨rfl, rfl⟩; rw [hl])
        all_goals go_ret
        all_goals exact ⟨ret_bool H.out.symm, rfl⟩
      · go_enter Tryz.func80, Tryz.ntmps80
        go_wp2_with (go_at_call 118; refine (small_any _ _).mono ?_; rintro e w' ⟨rfl, rfl⟩; rw [hl])
        go_loop [19] (fun i => ∃ k : Nat, k ≤ s.size ∧ i = .int .i64 k ∧ Hid ((s.data.toList.take k).all (fun c => signB c.toNat) = true)) (fun i => s.size - (intOf i).toNat)
        case atStart => exact ⟨0, by omega, rfl, (show ((s.data.toList.take 0).all (fun c => signB c.toNat) = true) by simp)⟩
        case round =>
          obtain ⟨k, hk, rfl, ha⟩ := hrel
          by_cases hlt : k < s.size
          · cases hs : signB s[k].toNat
            · have H : Hid (nameB s = false) := nameB_false s k hlt hs
              unfold signB at hs
              simp only [Bool.or_eq_false_iff, beq_eq_false_iff_ne, ne_eq] at hs
              obtain ⟨⟨⟨⟨q1, q2⟩, q3⟩, q4⟩, q5⟩ := hs
              go_wp2_with (first | (go_at_call 118; refine (small_any _ _).mono ?_; rintro e w' ⟨rfl, rfl⟩; rw [q1]) | (go_at_call 119; refine (digit_any _ _).mono ?_; rintro e w' ⟨rfl, rfl⟩; rw [q2]))
              all_goals go_light
              all_goals first | (go_ret; exact ⟨ret_bool H.out.symm, rfl⟩) | (rename_i hh; exfalso; rcases hh with (hh | hh) | hh <;> simp at hh <;> omega)
            · have H : Hid (signB s[k].toNat = true) := hs
              clear hs
              go_wp2_with (first | (go_at_call 118; refine (small_any _ _).mono ?_; rintro e w' ⟨rfl, rfl⟩; cases q1 : lowB s[k].toNat) | (go_at_call 119; refine (digit_any _ _).mono ?_; rintro e w' ⟨rfl, rfl⟩; cases q2 : digB s[k].toNat))
              all_goals go_light
              all_goals first | (refine ⟨⟨k + 1, by omega, by go_num, round_up s k hlt ha H⟩, ?_⟩; simp [intOf]; omega) | (rename_i h1 h2 hh; exfalso; have hs := H.out; unfold signB at hs; simp [*] at hs; simp at hh; omega)
          · have hke : k = s.size := by omega
            have H : Hid (nameB s = true) := nameB_true s hp (by omega) hl (by rw [← hke]; exact ha.out)
            go_wp2
            go_ret
            exact ⟨ret_bool H.out.symm, rfl⟩
end Go.Proofs.YtkaeenafejdkfaaGreatDoor

/- New trees and new nodes. -/
namespace Go.Proofs.YtkaeenafejdkfaaGreatDoor
open Go.RowKit

/-- the variables of package api's errors -/
def errG (g : Nat) : Bool := g == 5 || g == 0 || g == 2 || g == 1
/-- package api's errors lie in memory -/
structure Errs (w : World) (M : Nat → Lab) : Prop where
  lab : ∀ g, errG g = true → M g = .other
  cell : ∀ g, errG g = true → ∃ t a, w.cell? ⟨g, 0, none⟩ = some (.iface t (.pointer (some a)))

theorem Errs.moved {w w' : World} {M M' : Nat → Lab} (h : Errs w M) (m : Moved w M w' M') : Errs w' M' where
  lab g hg := by
    obtain ⟨t, a, hc⟩ := h.cell g hg
    exact (m.lab g (World.block_lt_of_cell? w _ hc)).trans (h.lab g hg)
  cell g hg := by
    obtain ⟨t, a, hc⟩ := h.cell g hg
    have hlt : g < w.heap.size := World.block_lt_of_cell? w _ hc
    exact ⟨t, a, (World.cell?_of_block (a := ⟨g, 0, none⟩) (m.far g hlt (h.lab g hg))).trans hc⟩
theorem Errs.below {w w' : World} {M : Nat → Lab} (h : Errs w M) (m : Below w.heap.size w w') : Errs w' M := h.moved ((Moved.refl w M).below m)

def docP : Pn := ⟨⟨1, ⟨#[]⟩, ⟨#[]⟩, [], -1, []⟩, .slice none 0 0, .slice none 0 0⟩

theorem below_drewN {B : Nat} {a w : World} (h : Below B a w) (n : Nat) : Below B a (w.drewN n) := ⟨h.os, h.tape, h.output, h.size, h.block⟩

set_option maxHeartbeats 1000000 in
theorem new_any (w : World) : Calls Tryz.prog 37 #[] w fun e w' => ∃ tb nv uv M', e = .returned (.pointer (some ⟨tb, 0, none⟩)) ∧ Lies w' M' tb nv uv [docP] [] ∧ Moved w (fun _ => .other) w' M' := by
  go_enter Tryz.func37, Tryz.ntmps37
  go_wp2
  go_ret
  have e1 : ∀ b, b < w.heap.size → b ≠ w.heap.size ∧ b ≠ w.heap.size + 1 := fun b hb => ⟨by omega, by omega⟩
  refine ⟨w.heap.size + 1, .slice (some ⟨w.heap.size, 0, none⟩) 1 1, .slice none 0 0, fun b => if b = w.heap.size then .nodes else if b = w.heap.size + 1 then .tree else .other, rfl, ⟨?_, by simp, ?_, ?_, Row.nil _ _ _ _ _, ?_⟩, ⟨rfl, rfl, rfl, by simp; omega, ?_, ?_⟩⟩
  · intro b hb
    have hb' : w.heap.size + 1 + 1 ≤ b := by simpa using hb
    simp [show b ≠ w.heap.size by omega, show b ≠ w.heap.size + 1 by omega]
  · have := heap_alloc_new (w.alloc (.cells #[.int .i64 1, .string ⟨#[]⟩, .string ⟨#[]⟩, .slice none 0 0, .int .i64 (-1), .slice none 0 0] 126)) (.cells #[.slice (some ⟨w.heap.size, 0, none⟩) 1 1, .slice none 0 0] 104)
    simpa using this
  · refine ⟨rfl, some ⟨w.heap.size, 0, none⟩, 1, rfl, by decide, by unfold maxLen; omega, .inr ⟨w.heap.size, #[.int .i64 1, .string ⟨#[]⟩, .string ⟨#[]⟩, .slice none 0 0, .int .i64 (-1), .slice none 0 0], rfl, by simp, ?_, by simp, rfl⟩⟩
    rw [Below.heap_alloc _ _ _ (by simp)]
    exact heap_alloc_new w _
  · intro i p hp
    have : i = 0 := by
      rcases Nat.eq_zero_or_pos i with e | e
      · exact e
      · rw [List.getElem?_eq_none (by simp; omega)] at hp; cases hp
    subst this
    cases hp
    exact ⟨Row.nil _ _ _ _ _, Row.nil _ _ _ _ _⟩
  · intro b hb
    simp [e1 b hb]
  · intro b hb _
    rw [Below.heap_alloc _ _ _ (by simp; omega), Below.heap_alloc _ _ _ hb]

/-- an error of the program's -/
def isErr (v : Value) : Prop := ∃ t a, v = .iface t (.pointer (some a))

set_option maxHeartbeats 2000000 in
set_option maxRecDepth 100000 in
theorem create_bad {w : World} {M : Nat → Lab} {tb : Nat} {nv uv : Value} {ps : List Pn} {us : List Value} (h : Lies w M tb nv uv ps us) (hE : Errs w M) (hn : ps.length ≤ 400) (kind : Int) (tag words : ByteArray) (hbad : 20000 < words.size ∨ ps.length = 400) :
    Calls Tryz.prog 81 #[.pointer (some ⟨tb, 0, none⟩), .agg #[.int .i64 kind, .string tag, .string words, .slice none 0 0, .int .i64 0, .slice none 0 0]] w fun e w' =>
      ∃ v, e = .returned (.tuple #[.int .i64 0, v]) ∧ isErr v ∧ Below w.heap.size w w' := by
  obtain ⟨t, a, hc⟩ := hE.cell 0 (by decide)
  have hlt : 0 < w.heap.size := World.block_lt_of_cell? w _ hc
  have H : Hid (Lies w M tb nv uv ps us) := h
  clear h hE
  by_cases h2 : 20000 < words.size
  · go_enter Tryz.func81, Tryz.ntmps81
    go_wp2
    go_quiet (fail)
    go_wp2
    go_ret2
    exact ⟨_, rfl, ⟨t, a, rfl⟩, below_drewN ((Below.refl _ _).alloc (Nat.le_refl _) _) _⟩
  · have hr : decide (ps.length < 400) = false := by simp; omega
    go_enter Tryz.func81, Tryz.ntmps81
    go_wp2_with (go_at_call 120; refine (room_any (H.out.alloc _) hn).mono ?_; rintro e w' ⟨rfl, rfl⟩; rw [hr])
    go_quiet (fail)
    go_wp2
    go_ret2
    exact ⟨_, rfl, ⟨t, a, rfl⟩, below_drewN ((Below.refl _ _).alloc (Nat.le_refl _) _) _⟩

/-- a new root -/
def newP (kind : Int) (tag words : ByteArray) : Pn := ⟨⟨kind, tag, words, [], -1, []⟩, .slice none 0 0, .slice none 0 0⟩

/-- a node was made -/
def Made (w : World) (M : Nat → Lab) (tb : Nat) (ps : List Pn) (us : List Value) (p : Pn) (e : Ending) (w' : World) : Prop :=
  e = .returned (.tuple #[.int .i64 ps.length, .nilIface]) ∧ ∃ M' nv' uv' f, Lies w' M' tb nv' uv' (ps ++ [p]) (us ++ [f]) ∧ Frg w' M' f tb ps.length ∧ Moved w M w' M'

theorem six_cells {w : World} {b : Nat} {t : TypeId} {fr : Nat × Nat} {a0 a1 a2 a3 a4 a5 : Value} (h : w.heap[b]? = some (.cells #[a0, a1, a2, a3, a4, a5] t fr)) :
    w.cell? ⟨b, 0, none⟩ = some a0 ∧ w.cell? ⟨b, 1, none⟩ = some a1 ∧ w.cell? ⟨b, 2, none⟩ = some a2 ∧ w.cell? ⟨b, 3, none⟩ = some a3 ∧ w.cell? ⟨b, 4, none⟩ = some a4 ∧ w.cell? ⟨b, 5, none⟩ = some a5 := by
  refine ⟨?_, ?_, ?_, ?_, ?_, ?_⟩ <;> (rw [cell_of_row w b _ _ _ _ h]; rfl)

set_option maxHeartbeats 2000000 in
set_option maxRecDepth 100000 in
theorem create_good {w : World} {M : Nat → Lab} {tb : Nat} {nv uv : Value} {ps : List Pn} {us : List Value} (h : Lies w M tb nv uv ps us) (hn : ps.length < 400) (hu : us.length ≤ 1099511627776) (kind : Int) (tag words : ByteArray) (hw : words.size ≤ 20000) :
    Calls Tryz.prog 81 #[.pointer (some ⟨tb, 0, none⟩), .agg #[.int .i64 kind, .string tag, .string words, .slice none 0 0, .int .i64 0, .slice none 0 0]] w (Made w M tb ps us (newP kind tag words)) := by
  have H : Hid (Lies w M tb nv uv ps us) := h
  have hr : decide (ps.length < 400) = true := by simp; omega
  clear h
  go_enter Tryz.func81, Tryz.ntmps81
  go_wp2_with (first
    | (go_at_call 120; refine (room_any (H.out.alloc _) (by omega)).mono ?_; rintro e w' ⟨rfl, rfl⟩; rw [hr])
    | (go_at_call 121; refine (forget_any (H.out.alloc _)).mono ?_; rintro e w1 ⟨ca, rfl, hF, hB⟩; have H1 : Hid _ := And.intro ((H.out.alloc _).below hB) (And.intro hF hB); clear hF hB)
    | (go_at_call 84; refine (keep_any H1.out.1 _ _ ca hu).mono ?_; rintro e w2 ⟨rfl, M2, uv2, hL2, hm2⟩; obtain ⟨hb0, hb1, hb2, hb3, hb4, hb5⟩ := six_cells (((hm2.far _ (Nat.lt_of_lt_of_le (by simp) H1.out.2.2.size) (H.out.fresh _ (Nat.le_refl _))).trans (H1.out.2.2.block _ (by simp))).trans (heap_alloc_new w _)); have H2 : Hid _ := And.intro hL2 hm2; clear hL2 hm2)
    | (go_at_call 122; refine (add_any H2.out.1 (by omega) kind 0 tag words none 0 0 [] (Row.nil _ _ _ _ _)).mono ?_; rintro e w3 ⟨rfl, M3, nv3, hL3, hm3⟩))
  go_ret2
  refine ⟨rfl, M3, nv3, uv2, _, hL3, (H1.out.2.1.moved H2.out.2).moved hm3, ?_⟩
  exact ((((Moved.refl _ _).alloc _).below H1.out.2.2).trans H2.out.2).trans hm3
end Go.Proofs.YtkaeenafejdkfaaGreatDoor

/- What MarkupBack's listed variables give: five of package api's errors lie in memory. -/
namespace Go.Proofs.YtkaeenafejdkfaaGreatDoor
open Go.RowKit Go.ChangeShapes

/-- the five, by name and text -/
def fiveE : List (String × List UInt8) := [("casement/api.ErrBound", [99, 97, 115, 101, 109, 101, 110, 116, 58, 32, 98, 111, 117, 110, 100]), ("casement/api.ErrName", [99, 97, 115, 101, 109, 101, 110, 116, 58, 32, 110, 97, 109, 101]), ("casement/api.ErrNode", [99, 97, 115, 101, 109, 101, 110, 116, 58, 32, 110, 111, 100, 101]), ("casement/api.ErrPlace", [99, 97, 115, 101, 109, 101, 110, 116, 58, 32, 112, 108, 97, 99, 101]), ("casement/api.ErrShape", [99, 97, 115, 101, 109, 101, 110, 116, 58, 32, 115, 104, 97, 112, 101])]
theorem gErrsB : ∀ g, errG g = true → ∃ (i : Nat) (h : i < fiveE.length), Tryz.prog.globalNamed (fiveE[i]'h).1 = some g := by
  intro g hg
  unfold errG at hg
  simp only [Bool.or_eq_true, beq_iff_eq] at hg
  rcases hg with ((rfl | rfl) | rfl) | rfl
  · exact ⟨1, by decide, (show Tryz.prog.globalNamed "casement/api.ErrName" = some 5 by kernel_rfl)⟩
  · exact ⟨0, by decide, (show Tryz.prog.globalNamed "casement/api.ErrBound" = some 0 by kernel_rfl)⟩
  · exact ⟨2, by decide, (show Tryz.prog.globalNamed "casement/api.ErrNode" = some 2 by kernel_rfl)⟩
  · exact ⟨3, by decide, (show Tryz.prog.globalNamed "casement/api.ErrPlace" = some 1 by kernel_rfl)⟩
theorem tErrsB : ∀ x ∈ fiveE, (Tryz.prog.globalNamed x.1).bind (fun g => (Tryz.prog.globals[g]?).map (·.type)) = some 33 := by
  have h : (fiveE.all fun x => (Tryz.prog.globalNamed x.1).bind (fun g => (Tryz.prog.globals[g]?).map (·.type)) == some 33) = true := by kernel_rfl
  intro x hx
  exact of_decide_eq_true (by simpa using List.all_eq_true.1 h x hx)
theorem errsB_of_laid {W : World} (h : laidMetH Tryz.prog Rows.markupBackRow.laid W) : Errs W (fun _ => .other) := by
  have h' : laidMet Tryz.prog (fiveE.map fun x => (x.1, .iface "*errors.errorString" (.ptr (.agg [.lit (.string x.2)])))) W := h
  obtain ⟨ps, hv, hnd, hr⟩ := h'
  obtain ⟨av, hl, hvs, _⟩ := sentinels Tryz.underlying33 rowErr Tryz.underlying233 Tryz.underlying251 rfl rfl Tryz.underlying9 cellsErr cellsS fiveE ps hv tErrsB hr
  refine ⟨fun _ _ => rfl, fun g hg => ?_⟩
  obtain ⟨i, h1, h2⟩ := gErrsB g hg
  have := hvs i h1 (by rw [hl]; exact h1)
  exact ⟨233, av[i]'(by rw [hl]; exact h1), by simpa using World.var?_cell h2 this 0⟩
end Go.Proofs.YtkaeenafejdkfaaGreatDoor

/- Bytes of texts: which are blank, letters, may stand in tags; how far bytes of a sort go. -/
namespace Go.Proofs.YtkaeenafejdkfaaGreatDoor
open Go.RowKit

def blankB (c : Nat) : Bool := decide (c = 32 ∨ c = 9 ∨ c = 10 ∨ c = 12 ∨ c = 13)
def alphaB (c : Nat) : Bool := decide ((97 ≤ c ∧ c ≤ 122) ∨ (65 ≤ c ∧ c ≤ 90))
def betwB (c : Nat) : Bool := blankB c || decide (c = 47)
def inTagB (c : Nat) : Bool := !betwB c && decide (c ≠ 62)
def inAttrB (c : Nat) : Bool := inTagB c && decide (c ≠ 61)
def inValB (c : Nat) : Bool := !blankB c && decide (c ≠ 62)
def lowerB (c : UInt8) : UInt8 := if 65 ≤ c.toNat ∧ c.toNat ≤ 90 then c + 32 else c

theorem retb {a b : Bool} (h : a = b) : Ending.returned (.bool a) = .returned (.bool b) := by rw [h]
theorem retn {a b : Int} (h : a = b) : Ending.returned (.int .i64 a) = .returned (.int .i64 b) := by rw [h]
theorem rets {a b : ByteArray} (h : a = b) : Ending.returned (.string a) = .returned (.string b) := by rw [h]

/-- the byte at a place; 256: there is none -/
def bt (s : ByteArray) (i : Nat) : Nat := if h : i < s.size then s[i].toNat else 256
theorem bt_lt {s : ByteArray} {i : Nat} (h : i < s.size) : bt s i = s[i].toNat := by unfold bt; simp [h]
theorem bt_ge {s : ByteArray} {i : Nat} (h : s.size ≤ i) : bt s i = 256 := by unfold bt; simp [show ¬ i < s.size by omega]
/-- a piece that is no text begins there -/
def startB (s : ByteArray) (i : Nat) : Bool := bt s i == 60 && (bt s (i + 1) == 33 || bt s (i + 1) == 63 || (bt s (i + 1) == 47 && alphaB (bt s (i + 2))) || alphaB (bt s (i + 1)))

/-- how far bytes of a sort go from a place on -/
def spanE (p : Nat → Bool) (s : ByteArray) (i : Nat) : Nat := if h : i < s.size then (if p s[i].toNat then spanE p s (i + 1) else i) else i
  termination_by s.size - i

theorem spanE_step {p : Nat → Bool} {s : ByteArray} {i : Nat} (h : i < s.size) (hp : p s[i].toNat = true) : spanE p s i = spanE p s (i + 1) := by
  rw [spanE]; simp [h, hp]
theorem spanE_stop {p : Nat → Bool} {s : ByteArray} {i : Nat} (h : i < s.size) (hp : p s[i].toNat = false) : spanE p s i = i := by
  rw [spanE]; simp [h, hp]
theorem spanE_end {p : Nat → Bool} {s : ByteArray} {i : Nat} (h : s.size ≤ i) : spanE p s i = i := by
  rw [spanE]; simp [show ¬ i < s.size by omega]
theorem spanE_le (p : Nat → Bool) (s : ByteArray) (i : Nat) : i ≤ spanE p s i := by
  by_cases h : i < s.size
  · cases hp : p s[i].toNat
    · rw [spanE_stop h hp]; exact Nat.le_refl _
    · rw [spanE_step h hp]
      have := spanE_le p s (i + 1)
      omega
  · rw [spanE_end (by omega)]; exact Nat.le_refl _
  termination_by s.size - i
theorem spanE_size (p : Nat → Bool) (s : ByteArray) (i : Nat) (hi : i ≤ s.size) : spanE p s i ≤ s.size := by
  by_cases h : i < s.size
  · cases hp : p s[i].toNat
    · rw [spanE_stop h hp]; exact hi
    · rw [spanE_step h hp]
      exact spanE_size p s (i + 1) h
  · rw [spanE_end (by omega)]; exact hi
  termination_by s.size - i
/-- where it stops there is none -/
theorem spanE_none (p : Nat → Bool) (s : ByteArray) (i : Nat) (h : spanE p s i < s.size) : p s[spanE p s i].toNat = false := by
  by_cases hi : i < s.size
  · cases hp : p s[i].toNat
    · have e := spanE_stop hi hp
      simp only [e]
      exact hp
    · have e := spanE_step hi hp
      simp only [e]
      exact spanE_none p s (i + 1) (by rw [← e]; exact h)
  · have e : spanE p s i = i := spanE_end (by omega)
    omega
  termination_by s.size - i

/-- a text stands at a place -/
def standsAt (what s : ByteArray) (i : Nat) : Prop := i + what.size ≤ s.size ∧ s.extract i (i + what.size) = what
instance (what s : ByteArray) (i : Nat) : Decidable (standsAt what s i) := by unfold standsAt; infer_instance
/-- where a text is found, from a place on -/
def findE (what s : ByteArray) (i : Nat) : Option Nat := if i + what.size ≤ s.size then (if standsAt what s i then some i else if i < s.size then findE what s (i + 1) else none) else none
  termination_by s.size - i
theorem findE_none {what s : ByteArray} {i : Nat} (h : ¬ i + what.size ≤ s.size) : findE what s i = none := by rw [findE]; simp [h]
theorem findE_hit {what s : ByteArray} {i : Nat} (h : standsAt what s i) : findE what s i = some i := by rw [findE]; simp [h, h.1]
theorem findE_step {what s : ByteArray} {i : Nat} (h : i + what.size ≤ s.size) (hn : ¬ standsAt what s i) (hw : 0 < what.size) : findE what s i = findE what s (i + 1) := by
  rw [findE]; simp [h, hn, show i < s.size by omega]
theorem findE_some {what s : ByteArray} {i k : Nat} (h : findE what s i = some k) : i ≤ k ∧ standsAt what s k ∧ ∀ j, i ≤ j → j < k → ¬ standsAt what s j := by
  rw [findE] at h
  split at h
  · rename_i h1
    split at h
    · rename_i h2
      obtain rfl : i = k := by simpa using h
      exact ⟨Nat.le_refl _, h2, fun j a b => absurd b (by omega)⟩
    · rename_i h2
      split at h
      · obtain ⟨a, b, c⟩ := findE_some h
        refine ⟨by omega, b, fun j u v => ?_⟩
        by_cases hj : j = i
        · subst hj; exact h2
        · exact c j (by omega) v
      · cases h
  · cases h
  termination_by s.size - i
theorem findE_no {what s : ByteArray} {i : Nat} (hw : 0 < what.size) (h : findE what s i = none) : ∀ j, i ≤ j → ¬ standsAt what s j := by
  intro j hj hs
  by_cases hi : i + what.size ≤ s.size
  · by_cases h0 : standsAt what s i
    · rw [findE_hit h0] at h; cases h
    · rw [findE_step hi h0 hw] at h
      by_cases hij : j = i
      · subst hij; exact h0 hs
      · exact findE_no hw h j (by omega) hs
  · have := hs.1; omega
  termination_by s.size - i

/-- small letters -/
def smallL (l : List UInt8) : List UInt8 := l.map lowerB
def smallS (s : ByteArray) : ByteArray := ⟨(smallL s.data.toList).toArray⟩
end Go.Proofs.YtkaeenafejdkfaaGreatDoor

/- The document's answer: bytes of a sort; small letters; a text found in another one. -/
namespace Go.Proofs.YtkaeenafejdkfaaGreatDoor
open Go.RowKit

theorem rblank_any (c : Nat) (w : World) : Calls Tryz.prog 69 #[.int .u8 c] w fun e w' => e = .returned (.bool (blankB c)) ∧ w' = w := by
  go_enter Tryz.func69, Tryz.ntmps69
  go_wp2
  all_goals go_ret
  all_goals refine ⟨retb ?_, rfl⟩
  all_goals (rw [Bool.eq_iff_iff]; unfold blankB; simp; try omega)
theorem ralpha_any (c : Nat) (w : World) : Calls Tryz.prog 104 #[.int .u8 c] w fun e w' => e = .returned (.bool (alphaB c)) ∧ w' = w := by
  go_enter Tryz.func104, Tryz.ntmps104
  go_wp2
  all_goals go_ret
  all_goals refine ⟨retb ?_, rfl⟩
  all_goals (rw [Bool.eq_iff_iff]; unfold alphaB; simp; try omega)

theorem toList_inj' {a b : ByteArray} (h : a.toList = b.toList) : a = b := by
  rw [Lib.toList_data, Lib.toList_data] at h
  exact ByteArray.ext (Array.toList_inj.mp h)

set_option maxHeartbeats 4000000 in
set_option maxRecDepth 100000 in
theorem rfind_any (s what : ByteArray) (i0 : Nat) (hs : s.size ≤ 100000) (hw : 0 < what.size) (hw2 : what.size ≤ 100) (hi : i0 ≤ s.size) (w : World) :
    Calls Tryz.prog 61 #[.string s, .string what, .int .i64 i0] w fun e w' => e = .returned (.int .i64 (match findE what s i0 with | some k => (k : Int) | none => -1)) ∧ w' = w := by
  obtain ⟨r, hr⟩ : ∃ r : Int, r = (match findE what s i0 with | some k => (k : Int) | none => -1) := ⟨_, rfl⟩
  rw [← hr]
  have HR : Hid (r = (match findE what s i0 with | some k => (k : Int) | none => -1)) := hr
  clear hr
  go_enter Tryz.func61, Tryz.ntmps61
  go_wp2
  go_loop [7] (fun i => ∃ k : Nat, k ≤ s.size ∧ i = .int .i64 k ∧ Hid (findE what s i0 = findE what s k)) (fun i => s.size - (intOf i).toNat)
  case atStart => exact ⟨i0, hi, rfl, (rfl : findE what s i0 = findE what s i0)⟩
  case round =>
    obtain ⟨k, hk, rfl, ha⟩ := hrel
    by_cases hlt : k + what.size ≤ s.size
    · by_cases hst : s.extract k (k + what.size) = what
      · have H : Hid (r = k) := by
          show r = k
          rw [HR.out, ha.out, findE_hit ⟨hlt, hst⟩]
        go_wp2
        all_goals go_light
        go_ret
        exact ⟨retn H.out.symm, rfl⟩
      · have H : Hid (findE what s i0 = findE what s (k + 1)) := by
          show findE what s i0 = findE what s (k + 1)
          rw [ha.out, findE_step hlt (fun h => hst h.2) hw]
        go_wp2
        all_goals go_light
        · rename_i h0 _
          exact absurd (toList_inj' (eq_of_beq h0)) hst
        · refine ⟨⟨k + 1, by omega, by go_num, H⟩, ?_⟩
          simp [intOf]
          omega
    · have H : Hid (r = -1) := by
        show r = -1
        rw [HR.out, ha.out, findE_none hlt]
      go_wp2
      go_ret
      exact ⟨retn H.out.symm, rfl⟩

set_option maxHeartbeats 4000000 in
set_option maxRecDepth 100000 in
theorem nameEnd_any (s : ByteArray) (i0 : Nat) (hs : s.size ≤ 100000) (hi : i0 ≤ s.size) (w : World) :
    Calls Tryz.prog 107 #[.string s, .int .i64 i0] w fun e w' => e = .returned (.int .i64 (spanE inTagB s i0)) ∧ w' = w := by
  obtain ⟨r, hr⟩ : ∃ r : Nat, r = spanE inTagB s i0 := ⟨_, rfl⟩
  rw [← hr]
  have HR : Hid (r = spanE inTagB s i0) := hr
  clear hr
  go_enter Tryz.func107, Tryz.ntmps107
  go_wp2
  go_loop [1] (fun i => ∃ k : Nat, k ≤ s.size ∧ i = .int .i64 k ∧ Hid (r = spanE inTagB s k)) (fun i => s.size - (intOf i).toNat)
  case atStart => exact ⟨i0, hi, rfl, HR⟩
  case round =>
    obtain ⟨k, hk, rfl, ha⟩ := hrel
    by_cases hlt : k < s.size
    · obtain ⟨c, hc⟩ : ∃ c, s[k].toNat = c := ⟨_, rfl⟩
      cases hb : inTagB c
      · have H : Hid (r = k) := ha.out.trans (spanE_stop hlt (by rw [hc]; exact hb))
        have HB : Hid (inTagB c = false) := hb
        clear hb
        go_wp2_with (go_at_call 69; refine (rblank_any c _).mono ?_; rintro e w' ⟨rfl, rfl⟩; cases hq : blankB c)
        all_goals go_light
        all_goals first
          | (go_ret; exact ⟨retn (by rw [H.out]), rfl⟩)
          | (exfalso; have h2 := HB.out; unfold inTagB betwB at h2; simp_all; done)
          | (exfalso; have h2 := HB.out; unfold inTagB betwB at h2; simp_all; omega)
      · have H : Hid (r = spanE inTagB s (k + 1)) := ha.out.trans (spanE_step hlt (by rw [hc]; exact hb))
        have HB : Hid (inTagB c = true) := hb
        clear hb
        go_wp2_with (go_at_call 69; refine (rblank_any c _).mono ?_; rintro e w' ⟨rfl, rfl⟩; cases hq : blankB c)
        all_goals go_light
        all_goals first
          | (refine ⟨⟨k + 1, by omega, by go_num, H⟩, ?_⟩; simp [intOf]; omega)
          | (exfalso; have h2 := HB.out; unfold inTagB betwB at h2; simp_all; done)
          | (exfalso; have h2 := HB.out; unfold inTagB betwB at h2; simp_all; omega)
    · have H : Hid (r = k) := ha.out.trans (spanE_end (by omega))
      go_wp2
      go_ret
      exact ⟨retn (by rw [H.out]), rfl⟩
end Go.Proofs.YtkaeenafejdkfaaGreatDoor
