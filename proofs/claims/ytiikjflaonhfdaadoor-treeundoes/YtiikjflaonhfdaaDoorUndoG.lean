/- Undo: whatever is kept. -/
import Derived.Test.YtiikjflaonhfdaaDoorUndo1
namespace Go.Proofs.YtiikjflaonhfdaaDoor
open Go.RowKit

set_option maxHeartbeats 1000000 in
theorem undo_none {w : World} {M : Nat → Lab} {tb : Nat} {nv uv : Value} {ps : List Pn} (h : Lies w M tb nv uv ps []) :
    Calls Tryd.prog 12 #[.pointer (some ⟨tb, 0, none⟩)] w fun e w' => e = .returned (.bool false) ∧ w' = w := by
  obtain ⟨a, cap, hv, hc, hm⟩ := h.undos.shape
  have c1 := h.cell1
  rw [hv] at c1
  clear h
  go_enter Tryd.func12, Tryd.ntmps12
  go_wp2
  go_ret
  exact ⟨rfl, rfl⟩

/-- the last one is taken off, and called -/
def UPost (w : World) (M : Nat → Lab) (tb : Nat) (us : List Value) (ns' : List Nd) (e : Ending) (w' : World) : Prop :=
  e = .returned (.bool true) ∧ ∃ M' nv' uv' ps', Lies w' M' tb nv' uv' ps' us ∧ nodesOf ps' = ns' ∧ Moved w M w' M'

set_option maxHeartbeats 2000000 in
set_option maxRecDepth 100000 in
theorem undo_move_call {w : World} {M : Nat → Lab} {tb : Nat} {nv uv : Value} {ps : List Pn} {us : List Value} {ca : Array Value} {ns' : List Nd} (h : Lies w M tb nv uv ps (us ++ [.func (.func 66) #[] ca]))
    (hc : ∀ w1 uv1, Lies w1 M tb nv uv1 ps us → Moved w M w1 M → Calls Tryd.prog 66 ca w1 (Ran w1 M tb us ns')) :
    Calls Tryd.prog 12 #[.pointer (some ⟨tb, 0, none⟩)] w (UPost w M tb us ns') := by
  have hul : (us ++ [Value.func (.func 66) #[] ca]).length = us.length + 1 := by simp
  have hur := h.undos
  rw [hul] at hur
  obtain ⟨ub, uc, rfl, huc, hum, huM, hulb⟩ := hur.form (by omega)
  have c1 := h.cell1
  obtain ⟨cu1, cu2⟩ := (hur.cell rfl (j := us.length) (u := .func (.func 66) #[] ca) (by simp))
  unfold maxLen at hum
  obtain ⟨q1, q2, d1, d2⟩ := h.pop
  have HC : Hid (Calls Tryd.prog 66 ca _ (Ran _ M tb us ns')) := hc _ _ q1 q2
  have H : Hid _ := q2
  clear h hur q1 q2 hc
  go_enter Tryd.func12, Tryd.ntmps12
  go_wp2_with (go_at_call 66; refine HC.out.mono ?_; rintro e w1 ⟨rfl, M1, nv1, uv1, ps1, hL1, hn1, hm1⟩)
  go_ret
  exact ⟨rfl, M1, nv1, uv1, ps1, hL1, hn1, H.out.trans hm1⟩
set_option maxHeartbeats 2000000 in
set_option maxRecDepth 100000 in
theorem undo_cut_call {w : World} {M : Nat → Lab} {tb : Nat} {nv uv : Value} {ps : List Pn} {us : List Value} {ca : Array Value} {ns' : List Nd} (h : Lies w M tb nv uv ps (us ++ [.func (.func 49) #[] ca]))
    (hc : ∀ w1 uv1, Lies w1 M tb nv uv1 ps us → Moved w M w1 M → Calls Tryd.prog 49 ca w1 (Ran w1 M tb us ns')) :
    Calls Tryd.prog 12 #[.pointer (some ⟨tb, 0, none⟩)] w (UPost w M tb us ns') := by
  have hul : (us ++ [Value.func (.func 49) #[] ca]).length = us.length + 1 := by simp
  have hur := h.undos
  rw [hul] at hur
  obtain ⟨ub, uc, rfl, huc, hum, huM, hulb⟩ := hur.form (by omega)
  have c1 := h.cell1
  obtain ⟨cu1, cu2⟩ := (hur.cell rfl (j := us.length) (u := .func (.func 49) #[] ca) (by simp))
  unfold maxLen at hum
  obtain ⟨q1, q2, d1, d2⟩ := h.pop
  have HC : Hid (Calls Tryd.prog 49 ca _ (Ran _ M tb us ns')) := hc _ _ q1 q2
  have H : Hid _ := q2
  clear h hur q1 q2 hc
  go_enter Tryd.func12, Tryd.ntmps12
  go_wp2_with (go_at_call 49; refine HC.out.mono ?_; rintro e w1 ⟨rfl, M1, nv1, uv1, ps1, hL1, hn1, hm1⟩)
  go_ret
  exact ⟨rfl, M1, nv1, uv1, ps1, hL1, hn1, H.out.trans hm1⟩
set_option maxHeartbeats 2000000 in
set_option maxRecDepth 100000 in
theorem undo_back_call {w : World} {M : Nat → Lab} {tb : Nat} {nv uv : Value} {ps : List Pn} {us : List Value} {ca : Array Value} {ns' : List Nd} (h : Lies w M tb nv uv ps (us ++ [.func (.func 51) #[] ca]))
    (hc : ∀ w1 uv1, Lies w1 M tb nv uv1 ps us → Moved w M w1 M → Calls Tryd.prog 51 ca w1 (Ran w1 M tb us ns')) :
    Calls Tryd.prog 12 #[.pointer (some ⟨tb, 0, none⟩)] w (UPost w M tb us ns') := by
  have hul : (us ++ [Value.func (.func 51) #[] ca]).length = us.length + 1 := by simp
  have hur := h.undos
  rw [hul] at hur
  obtain ⟨ub, uc, rfl, huc, hum, huM, hulb⟩ := hur.form (by omega)
  have c1 := h.cell1
  obtain ⟨cu1, cu2⟩ := (hur.cell rfl (j := us.length) (u := .func (.func 51) #[] ca) (by simp))
  unfold maxLen at hum
  obtain ⟨q1, q2, d1, d2⟩ := h.pop
  have HC : Hid (Calls Tryd.prog 51 ca _ (Ran _ M tb us ns')) := hc _ _ q1 q2
  have H : Hid _ := q2
  clear h hur q1 q2 hc
  go_enter Tryd.func12, Tryd.ntmps12
  go_wp2_with (go_at_call 51; refine HC.out.mono ?_; rintro e w1 ⟨rfl, M1, nv1, uv1, ps1, hL1, hn1, hm1⟩)
  go_ret
  exact ⟨rfl, M1, nv1, uv1, ps1, hL1, hn1, H.out.trans hm1⟩
set_option maxHeartbeats 2000000 in
set_option maxRecDepth 100000 in
theorem undo_ins_call {w : World} {M : Nat → Lab} {tb : Nat} {nv uv : Value} {ps : List Pn} {us : List Value} {ca : Array Value} {ns' : List Nd} (h : Lies w M tb nv uv ps (us ++ [.func (.func 52) #[] ca]))
    (hc : ∀ w1 uv1, Lies w1 M tb nv uv1 ps us → Moved w M w1 M → Calls Tryd.prog 52 ca w1 (Ran w1 M tb us ns')) :
    Calls Tryd.prog 12 #[.pointer (some ⟨tb, 0, none⟩)] w (UPost w M tb us ns') := by
  have hul : (us ++ [Value.func (.func 52) #[] ca]).length = us.length + 1 := by simp
  have hur := h.undos
  rw [hul] at hur
  obtain ⟨ub, uc, rfl, huc, hum, huM, hulb⟩ := hur.form (by omega)
  have c1 := h.cell1
  obtain ⟨cu1, cu2⟩ := (hur.cell rfl (j := us.length) (u := .func (.func 52) #[] ca) (by simp))
  unfold maxLen at hum
  obtain ⟨q1, q2, d1, d2⟩ := h.pop
  have HC : Hid (Calls Tryd.prog 52 ca _ (Ran _ M tb us ns')) := hc _ _ q1 q2
  have H : Hid _ := q2
  clear h hur q1 q2 hc
  go_enter Tryd.func12, Tryd.ntmps12
  go_wp2_with (go_at_call 52; refine HC.out.mono ?_; rintro e w1 ⟨rfl, M1, nv1, uv1, ps1, hL1, hn1, hm1⟩)
  go_ret
  exact ⟨rfl, M1, nv1, uv1, ps1, hL1, hn1, H.out.trans hm1⟩
set_option maxHeartbeats 2000000 in
set_option maxRecDepth 100000 in
theorem undo_say_call {w : World} {M : Nat → Lab} {tb : Nat} {nv uv : Value} {ps : List Pn} {us : List Value} {ca : Array Value} {ns' : List Nd} (h : Lies w M tb nv uv ps (us ++ [.func (.func 54) #[] ca]))
    (hc : ∀ w1 uv1, Lies w1 M tb nv uv1 ps us → Moved w M w1 M → Calls Tryd.prog 54 ca w1 (Ran w1 M tb us ns')) :
    Calls Tryd.prog 12 #[.pointer (some ⟨tb, 0, none⟩)] w (UPost w M tb us ns') := by
  have hul : (us ++ [Value.func (.func 54) #[] ca]).length = us.length + 1 := by simp
  have hur := h.undos
  rw [hul] at hur
  obtain ⟨ub, uc, rfl, huc, hum, huM, hulb⟩ := hur.form (by omega)
  have c1 := h.cell1
  obtain ⟨cu1, cu2⟩ := (hur.cell rfl (j := us.length) (u := .func (.func 54) #[] ca) (by simp))
  unfold maxLen at hum
  obtain ⟨q1, q2, d1, d2⟩ := h.pop
  have HC : Hid (Calls Tryd.prog 54 ca _ (Ran _ M tb us ns')) := hc _ _ q1 q2
  have H : Hid _ := q2
  clear h hur q1 q2 hc
  go_enter Tryd.func12, Tryd.ntmps12
  go_wp2_with (go_at_call 54; refine HC.out.mono ?_; rintro e w1 ⟨rfl, M1, nv1, uv1, ps1, hL1, hn1, hm1⟩)
  go_ret
  exact ⟨rfl, M1, nv1, uv1, ps1, hL1, hn1, H.out.trans hm1⟩
set_option maxHeartbeats 2000000 in
set_option maxRecDepth 100000 in
theorem undo_forget_call {w : World} {M : Nat → Lab} {tb : Nat} {nv uv : Value} {ps : List Pn} {us : List Value} {ca : Array Value} {ns' : List Nd} (h : Lies w M tb nv uv ps (us ++ [.func (.func 63) #[] ca]))
    (hc : ∀ w1 uv1, Lies w1 M tb nv uv1 ps us → Moved w M w1 M → Calls Tryd.prog 63 ca w1 (Ran w1 M tb us ns')) :
    Calls Tryd.prog 12 #[.pointer (some ⟨tb, 0, none⟩)] w (UPost w M tb us ns') := by
  have hul : (us ++ [Value.func (.func 63) #[] ca]).length = us.length + 1 := by simp
  have hur := h.undos
  rw [hul] at hur
  obtain ⟨ub, uc, rfl, huc, hum, huM, hulb⟩ := hur.form (by omega)
  have c1 := h.cell1
  obtain ⟨cu1, cu2⟩ := (hur.cell rfl (j := us.length) (u := .func (.func 63) #[] ca) (by simp))
  unfold maxLen at hum
  obtain ⟨q1, q2, d1, d2⟩ := h.pop
  have HC : Hid (Calls Tryd.prog 63 ca _ (Ran _ M tb us ns')) := hc _ _ q1 q2
  have H : Hid _ := q2
  clear h hur q1 q2 hc
  go_enter Tryd.func12, Tryd.ntmps12
  go_wp2_with (go_at_call 63; refine HC.out.mono ?_; rintro e w1 ⟨rfl, M1, nv1, uv1, ps1, hL1, hn1, hm1⟩)
  go_ret
  exact ⟨rfl, M1, nv1, uv1, ps1, hL1, hn1, H.out.trans hm1⟩
end Go.Proofs.YtiikjflaonhfdaaDoor
