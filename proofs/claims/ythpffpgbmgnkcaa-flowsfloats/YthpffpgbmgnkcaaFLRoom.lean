/- New, In, All: rooms, and all floats as they came. -/
import Derived.Test.YthpffpgbmgnkcaaFLAdd
import Derived.Lib.SliceRun
import Derived.Maps.AppendAt
import Derived.BigRegion
namespace Go.Proofs.Ythpffpgbmgnkcaa
open Go.RowKit

set_option maxHeartbeats 1000000 in
set_option maxRecDepth 100000 in
theorem cloneF_any {w : World} {M : Nat → Lab} {l : Lab} {v : Value} {n : Nat} {xs : List Value} (h : Row w M l 43 5 v n xs) (ho : ∀ u ∈ xs, u.oneCell' = true) (hn : n ≤ 1000000) :
    Calls Try.prog 23 #[v] w fun e w' => ∃ v', e = .returned v' ∧ w'.ownsRow w.heap.size 43 5 v' n xs ∧ Below w.heap.size w w' := by
  obtain ⟨i0, hi, hz0, hz1, hz2⟩ := info_parts Try.infoFloat
  have qs : ∀ (w : World) (a : Option Addr) (n c n' c' : Nat), (binOp .eql 38 (.slice a n c) (.slice none n' c')).run Try.prog w = .ok (.bool a.isNone) w := fun w a n c n' c' => Lib.run_eql_slice_nil w _ _ a n c n' c' Try.underlying38
  obtain ⟨hl, a, cap, rfl, h1, h2, h3⟩ := id h
  cases a with
  | none =>
    have hz : n = 0 ∧ cap = 0 := by
      rcases h3 with ⟨h3, _⟩ | ⟨g, cur, ha, _⟩
      · exact ⟨by omega, h3⟩
      · cases ha
    obtain ⟨rfl, rfl⟩ := hz
    have hx : xs = [] := List.eq_nil_of_length_eq_zero (by simpa using hl)
    have HX : Hid (xs = []) := hx
    clear h hl h3 hx ho
    go_enter Try.func23, Try.ntmps23
    go_wp2
    go_ret
    exact ⟨_, rfl, by rw [HX.out]; exact World.ownsRow_nil _ _ _ _, Below.refl _ _⟩
  | some ad =>
    obtain ⟨g, rfl⟩ : ∃ g, ad = ⟨g, 0, none⟩ := by
      rcases h3 with ⟨_, h3 | ⟨g, h3⟩⟩ | ⟨g, cur, ha, _⟩
      · cases h3
      · exact ⟨g, by cases h3; rfl⟩
      · exact ⟨g, by cases ha; rfl⟩
    have hcells : Hid (∀ j u, xs[j]? = some u → (w.alloc (.cells #[] 43)).cell? ((⟨g, 0, none⟩ : Addr).add j) = some u) := by
      intro j u hu
      have hadd : (⟨g, 0, none⟩ : Addr).add j = ⟨g, j, none⟩ := by unfold Addr.add; split <;> simp_all
      have hc := (h.cell rfl hu).1
      rw [hadd]
      exact (World.cell?_of_block (a := ⟨g, j, none⟩) (Below.heap_alloc w _ g (World.block_lt_of_cell? w _ hc))).trans hc
    have hone : Hid (∀ u ∈ xs, u.oneCell' = true) := ho
    have hown : Hid ((w.alloc (.cells #[] 43)).ownsRow w.heap.size 43 5 (.slice (some ⟨w.heap.size, 0, none⟩) 0 0) 0 []) := World.ownsRow_made w #[] 0 (Nat.le_refl _) (by unfold maxLen; omega) rfl
    have HL : Hid (xs.length = n * 5) := hl
    clear h hl h3 ho
    unfold maxLen at h2
    go_enter Try.func23, Try.ntmps23
    go_wp2_with (at_builtin; refine wpList_append_own_at _ (by rfl) (.tmp 5) (.tmp 6) 38 (by rfl) w.heap.size 43 i0 (.agg #[.bool false, .int .i64 0, .int .i64 0, .int .i64 0, .int .i64 0]) 5 40 Try.underlying38 hi hz0 hz1 hz2 rfl (by decide) (.slice (some ⟨w.heap.size, 0, none⟩) 0 0) 0 [] (by rfl) hown.out ⟨g, 0, none⟩ n cap xs (by rfl) HL.out hcells.out hone.out (by unfold maxLen; omega) (by omega) (by simp) ?_; intro v' w' hv hg _ _; have HV : Hid _ := And.intro hv hg; clear hv hg)
    go_ret
    refine ⟨_, rfl, by simpa using HV.out.1, ?_⟩
    exact ((Below.refl _ _).alloc (Nat.le_refl _) _).grown HV.out.2 (by simp) (fun k hk => by simp [Value.ownBlock] at hk; omega)


theorem four_last (w : World) (a b c d : Obj) : ((((w.alloc a).alloc b).alloc c).alloc d).drew.heap[w.heap.size + 1 + 1 + 1]? = some d := by
  show ((((w.heap.push a).push b).push c).push d)[w.heap.size + 1 + 1 + 1]? = some d
  rw [Array.getElem?_push, if_pos (by simp)]

theorem fcells_one (fs : List Fl) : ∀ u ∈ fcells fs, u.oneCell' = true := by
  intro u hu
  unfold fcells at hu
  obtain ⟨o, _, hu⟩ := List.mem_flatMap.1 hu
  simp only [flv, List.mem_cons, List.not_mem_nil, or_false] at hu
  rcases hu with rfl | rfl | rfl | rfl | rfl <;> rfl

set_option maxHeartbeats 1000000 in
set_option maxRecDepth 100000 in
theorem all_any {w : World} {M : Nat → Lab} {lb fb : Nat} {sv : Value} {fs : List Fl} {lo hi : Int} (h : FlAt w M lb sv fs) (hr : RmAt w M fb lb lo hi) (hl : fs.length ≤ 200) :
    Calls Try.prog 12 #[.pointer (some ⟨fb, 0, none⟩)] w fun e w' => ∃ v', e = .returned v' ∧ w'.ownsRow w.heap.size 43 5 v' fs.length (fcells fs) ∧ Below w.heap.size w w' := by
  obtain ⟨f0, _, _, _, _, _⟩ := three_c hr.head
  obtain ⟨l0, _⟩ := one_c h.head
  have C := hidF (cloneF_any h.row (fcells_one fs) (by omega))
  go_enter Try.func12, Try.ntmps12
  go_wp2_with fail
  refine C.out.mono ?_
  rintro e w' ⟨v', rfl, ho, hb⟩
  have HO := hidF ho
  have HBB := hidF hb
  clear ho hb
  go_wp2_with fail
  go_returns
  exact ⟨_, rfl, HO.out, HBB.out⟩

set_option maxHeartbeats 1000000 in
set_option maxRecDepth 100000 in
theorem in_any {w : World} {fb lb : Nat} {u v : Value} (h : w.heap[fb]? = some (.cells #[.pointer (some ⟨lb, 0, none⟩), u, v] 51 (0, 0))) (low high : Int) :
    Calls Try.prog 8 #[.pointer (some ⟨fb, 0, none⟩), .int .i64 low, .int .i64 high] w fun e w' => ∃ nb, e = .returned (.pointer (some ⟨nb, 0, none⟩)) ∧ w.heap.size ≤ nb ∧ w'.heap[nb]? = some (.cells #[.pointer (some ⟨lb, 0, none⟩), .int .i64 (heldN low), .int .i64 (max (heldN low) (heldN high))] 51 (0, 0)) ∧ Below w.heap.size w w' := by
  obtain ⟨f0, _, _, _, _, _⟩ := three_c h
  have hfb := lt_of_heap h
  have h1 : fb < w.heap.size + 1 := by omega
  have h2 : fb < w.heap.size + 1 + 1 := by omega
  have h3 : fb < w.heap.size + 1 + 1 + 1 := by omega
  clear h
  go_enter Try.func8, Try.ntmps8
  go_wp2_with fail
  refine (hold_pre [(⟨w.heap.size, 0, none⟩, low), (⟨w.heap.size + 1, 0, none⟩, high)] _ _ _ _ rfl (by simp) (by simp [HoldPre, go_sem]; omega)).mono ?_
  rintro e w' ⟨rfl, rfl⟩
  simp only [holdAll]
  obtain ⟨a, ha⟩ : ∃ a, heldN low = a := ⟨_, rfl⟩
  obtain ⟨b, hb⟩ : ∃ a, heldN high = a := ⟨_, rfl⟩
  rw [ha, hb]
  have HA := hidF ha
  have HB := hidF hb
  clear ha hb
  go_wp2_with fail
  go_region
  all_goals go_wp2_with fail
  all_goals go_returns
  refine ⟨_, rfl, by omega, ?_, Below.drew (by go_grown)⟩
  rw [HA.out, HB.out]
  exact (four_last w _ _ _ _)

set_option maxHeartbeats 1000000 in
set_option maxRecDepth 100000 in
theorem new_any (w : World) (width : Int) :
    Calls Try.prog 5 #[.int .i64 width] w fun e w' => ∃ nb lb M, e = .returned (.pointer (some ⟨nb, 0, none⟩)) ∧ FlAt w' M lb (.slice none 0 0) [] ∧ RmAt w' M nb lb 0 (max 0 (heldN width)) ∧ Below w.heap.size w w' ∧ (∀ b, b < w.heap.size → M b = .other) := by
  go_enter Try.func5, Try.ntmps5
  go_wp2_with fail
  have hh : ((w.alloc (.cells #[.slice none 0 0] 38)).alloc (.cells #[.pointer (some ⟨w.heap.size, 0, none⟩), .int .i64 0, .int .i64 0] 51)).heap[w.heap.size + 1]? = some (.cells #[.pointer (some ⟨w.heap.size, 0, none⟩), .int .i64 0, .int .i64 0] 51 (0, 0)) := by
    have := heap_alloc_new (w.alloc (.cells #[.slice none 0 0] 38)) (.cells #[.pointer (some ⟨w.heap.size, 0, none⟩), .int .i64 0, .int .i64 0] 51)
    simpa using this
  have h0 : ((w.alloc (.cells #[.slice none 0 0] 38)).alloc (.cells #[.pointer (some ⟨w.heap.size, 0, none⟩), .int .i64 0, .int .i64 0] 51)).heap[w.heap.size]? = some (.cells #[.slice none 0 0] 38 (0, 0)) := by
    rw [Below.heap_alloc _ _ _ (by simp)]
    exact heap_alloc_new w _
  refine (in_any hh 0 width).mono ?_
  rintro e w' ⟨nb, rfl, hnb, hn, hb⟩
  have hnb2 : w.heap.size + 1 + 1 ≤ nb := by simpa using hnb
  have HN := hidF hn
  have HBB := hidF hb
  have H0 := hidF h0
  clear hn hb hh h0 hnb
  go_wp2_with fail
  go_returns
  have hsz := HBB.out.size
  simp at hsz
  refine ⟨nb, w.heap.size, fun b => if b = w.heap.size then .tree else .other, rfl, ⟨?_, by simp, ?_, fun b hb => ?_⟩, ⟨?_, ?_⟩, ?_, fun b hb => ?_⟩
  · exact (HBB.out.block w.heap.size (by simp; omega)).trans H0.out
  · exact Row.nil _ _ _ _ _
  · have : b ≠ w.heap.size := by omega
    simp [this]
  · have := HN.out
    rw [show heldN 0 = 0 from by rw [heldN_of 0 (by omega) (by omega)]] at this
    exact this
  · have : nb ≠ w.heap.size := by omega
    simp [this]
  · exact (((Below.refl _ w).alloc (Nat.le_refl _) _).alloc (by simp) _).trans (HBB.out.mono (by simp; omega))
  · have : b ≠ w.heap.size := by omega
    simp [this]
end Go.Proofs.Ythpffpgbmgnkcaa
