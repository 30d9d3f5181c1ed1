/- Which texts are names. -/
import Derived.Test.YtlfepdecgfcifaaGreatDoorM01
import Derived.Deep.LoopGhost
import Derived.Lib.SliceRun
namespace Go.Proofs.YtlfepdecgfcifaaGreatDoor
open Go.RowKit

def lowB (b : Int) : Bool := decide (97 ≤ b ∧ b ≤ 122)
def digB (b : Int) : Bool := decide (48 ≤ b ∧ b ≤ 57)
def signB (b : Int) : Bool := lowB b || digB b || b == 45 || b == 95 || b == 58
/-- the document's names -/
def nameB (s : ByteArray) : Bool := decide (0 < s.size) && decide (s.size ≤ 40) && lowB (s.data.toList.headD 0).toNat && s.data.toList.all fun c => signB c.toNat

theorem small_any (b : Int) (w : World) : Calls Tryz.prog 73 #[.int .u8 b] w fun e w' => e = .returned (.bool (lowB b)) ∧ w' = w := by
  go_enter Tryz.func73, Tryz.ntmps73
  go_wp2
  all_goals go_ret
  all_goals refine ⟨ret_bool ?_, rfl⟩
  all_goals (unfold lowB; simp; try omega)
theorem digit_any (b : Int) (w : World) : Calls Tryz.prog 74 #[.int .u8 b] w fun e w' => e = .returned (.bool (digB b)) ∧ w' = w := by
  go_enter Tryz.func74, Tryz.ntmps74
  go_wp2
  all_goals go_ret
  all_goals refine ⟨ret_bool ?_, rfl⟩
  all_goals (unfold digB; simp; try omega)

theorem take_all (s : ByteArray) (k : Nat) (h : k < s.size) (f : UInt8 → Bool) : ((s.data.toList.take (k + 1)).all f) = ((s.data.toList.take k).all f && f s[k]) := by
  rw [List.take_succ_eq_append_getElem (by simpa using h), List.all_append]
  simp
  rfl
theorem nameB_false (s : ByteArray) (k : Nat) (h : k < s.size) (hf : signB s[k].toNat = false) : nameB s = false := by
  have : (s.data.toList.all fun c => signB c.toNat) = false := by
    rw [List.all_eq_false]
    exact ⟨s[k], by exact List.getElem_mem (l := s.data.toList) (by simpa using h), by simpa using hf⟩
  unfold nameB
  rw [this, Bool.and_false]
theorem head_eq (s : ByteArray) (h0 : 0 < s.size) : s.data.toList.headD 0 = s[0] := by
  have hl : 0 < s.data.toList.length := by simpa using h0
  rw [List.headD_eq_head?_getD, List.head?_eq_getElem?, List.getElem?_eq_getElem hl]
  rfl
theorem nameB_low (s : ByteArray) (h0 : 0 < s.size) (h : lowB s[0].toNat = false) : nameB s = false := by
  unfold nameB
  rw [head_eq s h0, h]
  simp
theorem nameB_true (s : ByteArray) (h0 : 0 < s.size) (h1 : s.size ≤ 40) (h2 : lowB s[0].toNat = true) (h3 : (s.data.toList.take s.size).all (fun c => signB c.toNat) = true) : nameB s = true := by
  have e : s.data.toList.take s.size = s.data.toList := List.take_of_length_le (by simp)
  rw [e] at h3
  have e2 : s.data.toList.headD 0 = s[0] := by
    have hl : 0 < s.data.toList.length := by simpa using h0
    rw [List.headD_eq_head?_getD, List.head?_eq_getElem?, List.getElem?_eq_getElem hl]
    rfl
  unfold nameB
  rw [h3, e2, h2]
  simp [h0, h1]

theorem empty_of (s : ByteArray) (h : s.size = 0) : s.toList.isEmpty = true := by
  rw [← decide_eq_emptyBytes, decide_eq_true_eq]
  apply ByteArray.ext
  exact Array.eq_empty_of_size_eq_zero h
theorem not_empty (s : ByteArray) (h : 0 < s.size) : s.toList.isEmpty = false := by
  rw [← decide_eq_emptyBytes, decide_eq_false_iff_not]
  intro e
  subst e
  simp at h

theorem round_up (s : ByteArray) (k : Nat) (h : k < s.size) (ha : Hid ((s.data.toList.take k).all (fun c => signB c.toNat) = true)) (H : Hid (signB s[k].toNat = true)) : Hid ((s.data.toList.take (k + 1)).all (fun c => signB c.toNat) = true) := by
  show (s.data.toList.take (k + 1)).all (fun c => signB c.toNat) = true
  rw [take_all s k h, ha.out, H.out]
  rfl

set_option maxHeartbeats 4000000 in
set_option maxRecDepth 100000 in
theorem name_any (s : ByteArray) (w : World) : Calls Tryz.prog 46 #[.string s] w fun e w' => e = .returned (.bool (nameB s)) ∧ w' = w := by
  by_cases h0 : s.size = 0
  · have hN : nameB s = false := by unfold nameB; simp [h0]
    have H : Hid (nameB s = false) := hN
    clear hN
    have he := empty_of s h0
    go_enter Tryz.func46, Tryz.ntmps46
    go_wp2
    go_ret
    exact ⟨ret_bool H.out.symm, rfl⟩
  · have he := not_empty s (by omega)
    have hp : 0 < s.size := by omega
    by_cases h4 : 40 < s.size
    · have hN : nameB s = false := by unfold nameB; simp [show ¬ s.size ≤ 40 by omega]
      have H : Hid (nameB s = false) := hN
      clear hN
      go_enter Tryz.func46, Tryz.ntmps46
      go_wp2
      all_goals go_ret
      all_goals exact ⟨ret_bool H.out.symm, rfl⟩
    · cases hl : lowB s[0].toNat
      · have H : Hid (nameB s = false) := nameB_low s hp hl
        go_enter Tryz.func46, Tryz.ntmps46
        go_wp2_with (go_at_call 73; refine (small_any _ _).mono ?_; rintro e w' ⟨rfl, rfl⟩; rw [hl])
        all_goals go_ret
        all_goals exact ⟨ret_bool H.out.symm, rfl⟩
      · go_enter Tryz.func46, Tryz.ntmps46
        go_wp2_with (go_at_call 73; refine (small_any _ _).mono ?_; rintro e w' ⟨rfl, rfl⟩; rw [hl])
        go_loop [19] (fun i => ∃ k : Nat, k ≤ s.size ∧ i = .int .i64 k ∧ Hid ((s.data.toList.take k).all (fun c => signB c.toNat) = true)) (fun i => s.size - (intOf i).toNat)
        case atStart => exact ⟨0, by omega, rfl, (show ((s.data.toList.take 0).all (fun c => signB c.toNat) = true) by simp)⟩
        case round =>
          obtain ⟨k, hk, rfl, ha⟩ := hrel
          by_cases hlt : k < s.size
          · cases hs : signB s[k].toNat
            · have H : Hid (nameB s = false) := nameB_false s k hlt hs
              unfold signB at hs
              simp only [Bool.or_eq_false_iff, beq_eq_false_iff_ne, ne_eq] at hs
              obtain ⟨⟨⟨⟨q1, q2⟩, q3⟩, q4⟩, q5⟩ := hs
              go_wp2_with (first | (go_at_call 73; refine (small_any _ _).mono ?_; rintro e w' ⟨rfl, rfl⟩; rw [q1]) | (go_at_call 74; refine (digit_any _ _).mono ?_; rintro e w' ⟨rfl, rfl⟩; rw [q2]))
              all_goals go_light
              all_goals first | (go_ret; exact ⟨ret_bool H.out.symm, rfl⟩) | (rename_i hh; exfalso; rcases hh with (hh | hh) | hh <;> simp at hh <;> omega)
            · have H : Hid (signB s[k].toNat = true) := hs
              clear hs
              go_wp2_with (first | (go_at_call 73; refine (small_any _ _).mono ?_; rintro e w' ⟨rfl, rfl⟩; cases q1 : lowB s[k].toNat) | (go_at_call 74; refine (digit_any _ _).mono ?_; rintro e w' ⟨rfl, rfl⟩; cases q2 : digB s[k].toNat))
              all_goals go_light
              all_goals first | (refine ⟨⟨k + 1, by omega, by go_num, round_up s k hlt ha H⟩, ?_⟩; simp [intOf]; omega) | (rename_i h1 h2 hh; exfalso; have hs := H.out; unfold signB at hs; simp [*] at hs; simp at hh; omega)
          · have hke : k = s.size := by omega
            have H : Hid (nameB s = true) := nameB_true s hp (by omega) hl (by rw [← hke]; exact ha.out)
            go_wp2
            go_ret
            exact ⟨ret_bool H.out.symm, rfl⟩
end Go.Proofs.YtlfepdecgfcifaaGreatDoor

/- New trees and new nodes. -/
namespace Go.Proofs.YtlfepdecgfcifaaGreatDoor
open Go.RowKit

/-- the variables of package api's errors -/
def errG (g : Nat) : Bool := g == 0 || g == 1 || g == 2 || g == 3
/-- package api's errors lie in memory -/
structure Errs (w : World) (M : Nat → Lab) : Prop where
  lab : ∀ g, errG g = true → M g = .other
  cell : ∀ g, errG g = true → ∃ t a, w.cell? ⟨g, 0, none⟩ = some (.iface t (.pointer (some a)))

theorem Errs.moved {w w' : World} {M M' : Nat → Lab} (h : Errs w M) (m : Moved w M w' M') : Errs w' M' where
  lab g hg := by
    obtain ⟨t, a, hc⟩ := h.cell g hg
    exact (m.lab g (World.block_lt_of_cell? w _ hc)).trans (h.lab g hg)
  cell g hg := by
    obtain ⟨t, a, hc⟩ := h.cell g hg
    have hlt : g < w.heap.size := World.block_lt_of_cell? w _ hc
    exact ⟨t, a, (World.cell?_of_block (a := ⟨g, 0, none⟩) (m.far g hlt (h.lab g hg))).trans hc⟩
theorem Errs.below {w w' : World} {M : Nat → Lab} (h : Errs w M) (m : Below w.heap.size w w') : Errs w' M := h.moved ((Moved.refl w M).below m)

def docP : Pn := ⟨⟨1, ⟨#[]⟩, ⟨#[]⟩, [], -1, []⟩, .slice none 0 0, .slice none 0 0⟩

theorem below_drewN {B : Nat} {a w : World} (h : Below B a w) (n : Nat) : Below B a (w.drewN n) := ⟨h.os, h.tape, h.output, h.size, h.block⟩

set_option maxHeartbeats 1000000 in
theorem new_any (w : World) : Calls Tryz.prog 16 #[] w fun e w' => ∃ tb nv uv M', e = .returned (.pointer (some ⟨tb, 0, none⟩)) ∧ Lies w' M' tb nv uv [docP] [] ∧ Moved w (fun _ => .other) w' M' := by
  go_enter Tryz.func16, Tryz.ntmps16
  go_wp2
  go_ret
  have e1 : ∀ b, b < w.heap.size → b ≠ w.heap.size ∧ b ≠ w.heap.size + 1 := fun b hb => ⟨by omega, by omega⟩
  refine ⟨w.heap.size + 1, .slice (some ⟨w.heap.size, 0, none⟩) 1 1, .slice none 0 0, fun b => if b = w.heap.size then .nodes else if b = w.heap.size + 1 then .tree else .other, rfl, ⟨?_, by simp, ?_, ?_, Row.nil _ _ _ _ _, ?_⟩, ⟨rfl, rfl, rfl, by simp; omega, ?_, ?_⟩⟩
  · intro b hb
    have hb' : w.heap.size + 1 + 1 ≤ b := by simpa using hb
    simp [show b ≠ w.heap.size by omega, show b ≠ w.heap.size + 1 by omega]
  · have := heap_alloc_new (w.alloc (.cells #[.int .i64 1, .string ⟨#[]⟩, .string ⟨#[]⟩, .slice none 0 0, .int .i64 (-1), .slice none 0 0] 78)) (.cells #[.slice (some ⟨w.heap.size, 0, none⟩) 1 1, .slice none 0 0] 82)
    simpa using this
  · refine ⟨rfl, some ⟨w.heap.size, 0, none⟩, 1, rfl, by decide, by unfold maxLen; omega, .inr ⟨w.heap.size, #[.int .i64 1, .string ⟨#[]⟩, .string ⟨#[]⟩, .slice none 0 0, .int .i64 (-1), .slice none 0 0], rfl, by simp, ?_, by simp, rfl⟩⟩
    rw [Below.heap_alloc _ _ _ (by simp)]
    exact heap_alloc_new w _
  · intro i p hp
    have : i = 0 := by
      rcases Nat.eq_zero_or_pos i with e | e
      · exact e
      · rw [List.getElem?_eq_none (by simp; omega)] at hp; cases hp
    subst this
    cases hp
    exact ⟨Row.nil _ _ _ _ _, Row.nil _ _ _ _ _⟩
  · intro b hb
    simp [e1 b hb]
  · intro b hb _
    rw [Below.heap_alloc _ _ _ (by simp; omega), Below.heap_alloc _ _ _ hb]

/-- an error of the program's -/
def isErr (v : Value) : Prop := ∃ t a, v = .iface t (.pointer (some a))

set_option maxHeartbeats 2000000 in
set_option maxRecDepth 100000 in
theorem create_bad {w : World} {M : Nat → Lab} {tb : Nat} {nv uv : Value} {ps : List Pn} {us : List Value} (h : Lies w M tb nv uv ps us) (hE : Errs w M) (hn : ps.length ≤ 400) (kind : Int) (tag words : ByteArray) (hbad : 20000 < words.size ∨ ps.length = 400) :
    Calls Tryz.prog 47 #[.pointer (some ⟨tb, 0, none⟩), .agg #[.int .i64 kind, .string tag, .string words, .slice none 0 0, .int .i64 0, .slice none 0 0]] w fun e w' =>
      ∃ v, e = .returned (.tuple #[.int .i64 0, v]) ∧ isErr v ∧ Below w.heap.size w w' := by
  obtain ⟨t, a, hc⟩ := hE.cell 1 (by decide)
  have hlt : 1 < w.heap.size := World.block_lt_of_cell? w _ hc
  have H : Hid (Lies w M tb nv uv ps us) := h
  clear h hE
  by_cases h2 : 20000 < words.size
  · go_enter Tryz.func47, Tryz.ntmps47
    go_wp2
    go_quiet (fail)
    go_wp2
    go_ret2
    exact ⟨_, rfl, ⟨t, a, rfl⟩, below_drewN ((Below.refl _ _).alloc (Nat.le_refl _) _) _⟩
  · have hr : decide (ps.length < 400) = false := by simp; omega
    go_enter Tryz.func47, Tryz.ntmps47
    go_wp2_with (go_at_call 75; refine (room_any (H.out.alloc _) hn).mono ?_; rintro e w' ⟨rfl, rfl⟩; rw [hr])
    go_quiet (fail)
    go_wp2
    go_ret2
    exact ⟨_, rfl, ⟨t, a, rfl⟩, below_drewN ((Below.refl _ _).alloc (Nat.le_refl _) _) _⟩

/-- a new root -/
def newP (kind : Int) (tag words : ByteArray) : Pn := ⟨⟨kind, tag, words, [], -1, []⟩, .slice none 0 0, .slice none 0 0⟩

/-- a node was made -/
def Made (w : World) (M : Nat → Lab) (tb : Nat) (ps : List Pn) (us : List Value) (p : Pn) (e : Ending) (w' : World) : Prop :=
  e = .returned (.tuple #[.int .i64 ps.length, .nilIface]) ∧ ∃ M' nv' uv' f, Lies w' M' tb nv' uv' (ps ++ [p]) (us ++ [f]) ∧ Frg w' M' f tb ps.length ∧ Moved w M w' M'

theorem six_cells {w : World} {b : Nat} {t : TypeId} {fr : Nat × Nat} {a0 a1 a2 a3 a4 a5 : Value} (h : w.heap[b]? = some (.cells #[a0, a1, a2, a3, a4, a5] t fr)) :
    w.cell? ⟨b, 0, none⟩ = some a0 ∧ w.cell? ⟨b, 1, none⟩ = some a1 ∧ w.cell? ⟨b, 2, none⟩ = some a2 ∧ w.cell? ⟨b, 3, none⟩ = some a3 ∧ w.cell? ⟨b, 4, none⟩ = some a4 ∧ w.cell? ⟨b, 5, none⟩ = some a5 := by
  refine ⟨?_, ?_, ?_, ?_, ?_, ?_⟩ <;> (rw [cell_of_row w b _ _ _ _ h]; rfl)

set_option maxHeartbeats 2000000 in
set_option maxRecDepth 100000 in
theorem create_good {w : World} {M : Nat → Lab} {tb : Nat} {nv uv : Value} {ps : List Pn} {us : List Value} (h : Lies w M tb nv uv ps us) (hn : ps.length < 400) (hu : us.length ≤ 1099511627776) (kind : Int) (tag words : ByteArray) (hw : words.size ≤ 20000) :
    Calls Tryz.prog 47 #[.pointer (some ⟨tb, 0, none⟩), .agg #[.int .i64 kind, .string tag, .string words, .slice none 0 0, .int .i64 0, .slice none 0 0]] w (Made w M tb ps us (newP kind tag words)) := by
  have H : Hid (Lies w M tb nv uv ps us) := h
  have hr : decide (ps.length < 400) = true := by simp; omega
  clear h
  go_enter Tryz.func47, Tryz.ntmps47
  go_wp2_with (first
    | (go_at_call 75; refine (room_any (H.out.alloc _) (by omega)).mono ?_; rintro e w' ⟨rfl, rfl⟩; rw [hr])
    | (go_at_call 76; refine (forget_any (H.out.alloc _)).mono ?_; rintro e w1 ⟨ca, rfl, hF, hB⟩; have H1 : Hid _ := And.intro ((H.out.alloc _).below hB) (And.intro hF hB); clear hF hB)
    | (go_at_call 50; refine (keep_any H1.out.1 _ _ ca hu).mono ?_; rintro e w2 ⟨rfl, M2, uv2, hL2, hm2⟩; obtain ⟨hb0, hb1, hb2, hb3, hb4, hb5⟩ := six_cells (((hm2.far _ (Nat.lt_of_lt_of_le (by simp) H1.out.2.2.size) (H.out.fresh _ (Nat.le_refl _))).trans (H1.out.2.2.block _ (by simp))).trans (heap_alloc_new w _)); have H2 : Hid _ := And.intro hL2 hm2; clear hL2 hm2)
    | (go_at_call 77; refine (add_any H2.out.1 (by omega) kind 0 tag words none 0 0 [] (Row.nil _ _ _ _ _)).mono ?_; rintro e w3 ⟨rfl, M3, nv3, hL3, hm3⟩))
  go_ret2
  refine ⟨rfl, M3, nv3, uv2, _, hL3, (H1.out.2.1.moved H2.out.2).moved hm3, ?_⟩
  exact ((((Moved.refl _ _).alloc _).below H1.out.2.2).trans H2.out.2).trans hm3
end Go.Proofs.YtlfepdecgfcifaaGreatDoor

/- What looks at a tree: kids, places, ways. -/
namespace Go.Proofs.YtlfepdecgfcifaaGreatDoor
open Go.RowKit

theorem Tryz.infoInt : (Tryz.prog.info? 3).map (fun i => (i.zero, i.size, i.bytes)) = some (some (.int .i64 0), 1, 8) := by kernel_rfl

set_option maxHeartbeats 1000000 in
set_option maxRecDepth 100000 in
theorem clone_any {w : World} {M : Nat → Lab} {l : Lab} {v : Value} {n : Nat} {xs : List Int} (h : Row w M l 3 1 v n (xs.map intV)) (hn : n ≤ 1099511627776) :
    Calls Tryz.prog 58 #[v] w fun e w' => ∃ v', e = .returned v' ∧ w'.ownsRow w.heap.size 3 1 v' n (xs.map intV) ∧ Below w.heap.size w w' := by
  obtain ⟨i0, hi, hz0, hz1, hz2⟩ := info_parts Tryz.infoInt
  have qs : ∀ (w : World) (a : Option Addr) (n c n' c' : Nat), (binOp .eql 32 (.slice a n c) (.slice none n' c')).run Tryz.prog w = .ok (.bool a.isNone) w := fun w a n c n' c' => Lib.run_eql_slice_nil w _ _ a n c n' c' Tryz.underlying32
  obtain ⟨hl, a, cap, rfl, h1, h2, h3⟩ := id h
  cases a with
  | none =>
    have hz : n = 0 ∧ cap = 0 := by
      rcases h3 with ⟨h3, _⟩ | ⟨g, cur, ha, _⟩
      · exact ⟨by omega, h3⟩
      · cases ha
    obtain ⟨rfl, rfl⟩ := hz
    have hx : xs.map intV = [] := List.eq_nil_of_length_eq_zero (by simpa using hl)
    have HX : Hid (xs.map intV = []) := hx
    clear h hl h3 hx
    go_enter Tryz.func58, Tryz.ntmps58
    go_wp2
    go_ret
    exact ⟨_, rfl, by rw [HX.out]; exact World.ownsRow_nil _ _ _ _, Below.refl _ _⟩
  | some ad =>
    obtain ⟨g, rfl⟩ : ∃ g, ad = ⟨g, 0, none⟩ := by
      rcases h3 with ⟨_, h3 | ⟨g, h3⟩⟩ | ⟨g, cur, ha, _⟩
      · cases h3
      · exact ⟨g, by cases h3; rfl⟩
      · exact ⟨g, by cases ha; rfl⟩
    have hcells : Hid (∀ j u, (xs.map intV)[j]? = some u → (w.alloc (.cells #[] 3)).cell? ((⟨g, 0, none⟩ : Addr).add j) = some u) := by
      intro j u hu
      have hadd : (⟨g, 0, none⟩ : Addr).add j = ⟨g, j, none⟩ := by unfold Addr.add; split <;> simp_all
      have hc := (h.cell rfl hu).1
      rw [hadd]
      exact (World.cell?_of_block (a := ⟨g, j, none⟩) (Below.heap_alloc w _ g (World.block_lt_of_cell? w _ hc))).trans hc
    have hone : Hid (∀ u ∈ xs.map intV, u.oneCell' = true) := by
      intro u hu
      obtain ⟨k, _, rfl⟩ := List.mem_map.1 hu
      rfl
    have hown : Hid ((w.alloc (.cells #[] 3)).ownsRow w.heap.size 3 1 (.slice (some ⟨w.heap.size, 0, none⟩) 0 0) 0 []) := World.ownsRow_made w #[] 0 (Nat.le_refl _) (by unfold maxLen; omega) rfl
    have HL : Hid ((xs.map intV).length = n * 1) := hl
    clear h hl h3
    unfold maxLen at h2
    go_enter Tryz.func58, Tryz.ntmps58
    go_wp2_with (at_builtin; refine wpList_append_own_at _ (by rfl) (.tmp 5) (.tmp 6) 32 (by rfl) w.heap.size 3 i0 (.int .i64 0) 1 8 Tryz.underlying32 hi hz0 hz1 hz2 rfl (by decide) (.slice (some ⟨w.heap.size, 0, none⟩) 0 0) 0 [] (by rfl) hown.out ⟨g, 0, none⟩ n cap (xs.map intV) (by rfl) HL.out hcells.out hone.out (by unfold maxLen; omega) (by omega) (by simp) ?_; intro v' w' hv hg _ _; have HV : Hid _ := And.intro hv hg; clear hv hg)
    go_ret
    refine ⟨_, rfl, by simpa using HV.out.1, ?_⟩
    exact ((Below.refl _ _).alloc (Nat.le_refl _) _).grown HV.out.2 (by simp) (fun k hk => by simp [Value.ownBlock] at hk; omega)

set_option maxHeartbeats 1000000 in
theorem kids_any {w : World} {M : Nat → Lab} {tb : Nat} {nv uv : Value} {ps : List Pn} {us : List Value} (h : Lies w M tb nv uv ps us) {i : Nat} {p : Pn} (hp : ps[i]? = some p) (hk : p.n.kids.length ≤ 1099511627776) :
    Calls Tryz.prog 24 #[.pointer (some ⟨tb, 0, none⟩), .int .i64 i] w fun e w' => ∃ v', e = .returned v' ∧ w'.ownsRow w.heap.size 3 1 v' p.n.kids.length (p.n.kids.map intV) ∧ Below w.heap.size w w' := by
  have hb := hasB_of hp
  obtain ⟨nb, cap, rfl, hc, hm, _, _, hi⟩ := h.form hp
  have c0 := h.cell0
  have c5 := (h.cellN rfl (f := 5) hp (by omega) rfl).1
  have hr := (h.node i p hp).2
  obtain ⟨ka, kc, hkv, _, _⟩ := hr.shape
  rw [hkv] at c5
  have HR : Hid (Row w M (.kids i) 3 1 (.slice ka p.n.kids.length kc) p.n.kids.length (p.n.kids.map intV)) := hkv ▸ hr
  have H : Hid (Lies w M tb (.slice (some ⟨nb, 0, none⟩) ps.length cap) uv ps us) := h
  unfold maxLen at hm
  clear h hr hkv
  go_enter Tryz.func24, Tryz.ntmps24
  go_wp2_with (first
    | (go_at_call 54; refine (has_any H.out _).mono ?_; rintro e w' ⟨rfl, rfl⟩; rw [hb])
    | (go_at_call 58; refine (clone_any HR.out hk).mono ?_; rintro e w1 ⟨v1, rfl, ho, hB⟩))
  go_ret
  exact ⟨_, rfl, ho, hB⟩

def kidsB (k : Int) : Bool := decide (k = 1 ∨ k = 2)
set_option maxHeartbeats 1000000 in
theorem mayHaveKids_any {w : World} {M : Nat → Lab} {tb : Nat} {nv uv : Value} {ps : List Pn} {us : List Value} (h : Lies w M tb nv uv ps us) {i : Nat} {p : Pn} (hp : ps[i]? = some p) :
    Calls Tryz.prog 55 #[.pointer (some ⟨tb, 0, none⟩), .int .i64 i] w fun e w' => e = .returned (.bool (kidsB p.n.kind)) ∧ w' = w := by
  obtain ⟨nb, cap, rfl, hc, hm, _, _, hi⟩ := h.form hp
  have c0 := h.cell0
  have c4 := (h.cellN rfl (f := 0) hp (by omega) rfl).1
  rw [Nat.add_zero] at c4
  unfold maxLen at hm
  clear h
  go_enter Tryz.func55, Tryz.ntmps55
  go_wp2
  all_goals go_ret
  all_goals refine ⟨ret_bool ?_, rfl⟩
  all_goals (unfold kidsB; by_cases h1 : p.n.kind = 1 <;> by_cases h2 : p.n.kind = 2 <;> simp_all)

set_option maxHeartbeats 2000000 in
theorem index_any {w : World} {M : Nat → Lab} {l : Lab} {v : Value} {n : Nat} {xs : List Int} (h : Row w M l 3 1 v n (xs.map intV)) (x : Int) (hx : x ∈ xs) :
    Calls Tryz.prog 39 #[v, .int .i64 x] w fun e w' => e = .returned (.int .i64 (idx xs x : Nat)) ∧ w' = w := by
  have hln : xs.length = n := by have := h.1; simpa using this
  have hpos : 0 < n := by
    rw [← hln]
    exact List.length_pos_of_mem hx
  obtain ⟨g, cap, rfl, hc, hm, _, _⟩ := h.form hpos
  unfold maxLen at hm
  have hcell : Hid (∀ k y, xs[k]? = some y → w.cell? ⟨g, k, none⟩ = some (.int .i64 y)) := by
    intro k y hk
    exact (h.cell rfl (j := k) (u := .int .i64 y) (by simp [hk, intV])).1
  have hlt : idx xs x < xs.length := List.findIdx_lt_length.2 ⟨x, hx, by simp⟩
  have HG : Hid (xs[idx xs x]? = some x) := idx_get hx
  have HB : Hid (∀ k, k < idx xs x → xs[k]? ≠ some x) := by
    intro k hk e
    have := List.not_of_lt_findIdx hk
    rw [List.getElem?_eq_getElem (by omega)] at e
    rw [Option.some.inj e] at this
    simp at this
  clear h
  generalize idx xs x = r at *
  go_enter Tryz.func39, Tryz.ntmps39
  go_wp2
  go_loop [8] (fun i => ∃ k : Nat, k ≤ r ∧ i = .int .i64 k) (fun i => r + 1 - (intOf i).toNat)
  case atStart => exact ⟨0, by omega, rfl⟩
  case round =>
    obtain ⟨k, hk, rfl⟩ := hrel
    have hks : ∃ y, xs[k]? = some y := ⟨xs[k]'(by omega), List.getElem?_eq_getElem _⟩
    obtain ⟨y, hy⟩ := hks
    have ck := hcell.out k y hy
    by_cases hkr : k = r
    · subst hkr
      obtain rfl : y = x := Option.some.inj (hy.symm.trans HG.out)
      clear hy
      go_wp2
      go_ret
      exact ⟨rfl, rfl⟩
    · have hne : (x == y) = false := by
        rw [beq_eq_false_iff_ne]
        intro e
        subst e
        exact HB.out k (by omega) hy
      have hne' : ¬ x = y := by simpa using hne
      clear hy
      go_wp2
      go_round
      case rel => exact ⟨k + 1, by omega, by go_num⟩
      case measure => simp [intOf]; omega
end Go.Proofs.YtlfepdecgfcifaaGreatDoor
