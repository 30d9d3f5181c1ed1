/- Undo: whatever is kept. -/
import Derived.Test.YtjfklhfdonbpgaaGreatDoorUndo1
namespace Go.Proofs.YtjfklhfdonbpgaaGreatDoor
open Go.RowKit

set_option maxHeartbeats 1000000 in
theorem undo_none {w : World} {M : Nat → Lab} {tb : Nat} {nv uv : Value} {ps : List Pn} (h : Lies w M tb nv uv ps []) :
    Calls Tryz.prog 38 #[.pointer (some ⟨tb, 0, none⟩)] w fun e w' => e = .returned (.bool false) ∧ w' = w := by
  obtain ⟨a, cap, hv, hc, hm⟩ := h.undos.shape
  have c1 := h.cell1
  rw [hv] at c1
  clear h
  go_enter Tryz.func38, Tryz.ntmps38
  go_wp2
  go_ret
  exact ⟨rfl, rfl⟩

/-- the last one is taken off, and called -/
def UPost (w : World) (M : Nat → Lab) (tb : Nat) (us : List Value) (ns' : List Nd) (e : Ending) (w' : World) : Prop :=
  e = .returned (.bool true) ∧ ∃ M' nv' uv' ps', Lies w' M' tb nv' uv' ps' us ∧ nodesOf ps' = ns' ∧ Moved w M w' M'

set_option maxHeartbeats 2000000 in
set_option maxRecDepth 100000 in
theorem undo_move_call {w : World} {M : Nat → Lab} {tb : Nat} {nv uv : Value} {ps : List Pn} {us : List Value} {ca : Array Value} {ns' : List Nd} (h : Lies w M tb nv uv ps (us ++ [.func (.func 80) #[] ca]))
    (hc : ∀ w1 uv1, Lies w1 M tb nv uv1 ps us → Moved w M w1 M → Calls Tryz.prog 80 ca w1 (Ran w1 M tb us ns')) :
    Calls Tryz.prog 38 #[.pointer (some ⟨tb, 0, none⟩)] w (UPost w M tb us ns') := by
  have hul : (us ++ [Value.func (.func 80) #[] ca]).length = us.length + 1 := by simp
  have hur := h.undos
  rw [hul] at hur
  obtain ⟨ub, uc, rfl, huc, hum, huM, hulb⟩ := hur.form (by omega)
  have c1 := h.cell1
  obtain ⟨cu1, cu2⟩ := (hur.cell rfl (j := us.length) (u := .func (.func 80) #[] ca) (by simp))
  unfold maxLen at hum
  obtain ⟨q1, q2, d1, d2⟩ := h.pop
  have HC : Hid (Calls Tryz.prog 80 ca _ (Ran _ M tb us ns')) := hc _ _ q1 q2
  have H : Hid _ := q2
  clear h hur q1 q2 hc
  go_enter Tryz.func38, Tryz.ntmps38
  go_wp2_with (go_at_call 80; refine HC.out.mono ?_; rintro e w1 ⟨rfl, M1, nv1, uv1, ps1, hL1, hn1, hm1⟩)
  go_ret
  exact ⟨rfl, M1, nv1, uv1, ps1, hL1, hn1, H.out.trans hm1⟩
set_option maxHeartbeats 2000000 in
set_option maxRecDepth 100000 in
theorem undo_cut_call {w : World} {M : Nat → Lab} {tb : Nat} {nv uv : Value} {ps : List Pn} {us : List Value} {ca : Array Value} {ns' : List Nd} (h : Lies w M tb nv uv ps (us ++ [.func (.func 62) #[] ca]))
    (hc : ∀ w1 uv1, Lies w1 M tb nv uv1 ps us → Moved w M w1 M → Calls Tryz.prog 62 ca w1 (Ran w1 M tb us ns')) :
    Calls Tryz.prog 38 #[.pointer (some ⟨tb, 0, none⟩)] w (UPost w M tb us ns') := by
  have hul : (us ++ [Value.func (.func 62) #[] ca]).length = us.length + 1 := by simp
  have hur := h.undos
  rw [hul] at hur
  obtain ⟨ub, uc, rfl, huc, hum, huM, hulb⟩ := hur.form (by omega)
  have c1 := h.cell1
  obtain ⟨cu1, cu2⟩ := (hur.cell rfl (j := us.length) (u := .func (.func 62) #[] ca) (by simp))
  unfold maxLen at hum
  obtain ⟨q1, q2, d1, d2⟩ := h.pop
  have HC : Hid (Calls Tryz.prog 62 ca _ (Ran _ M tb us ns')) := hc _ _ q1 q2
  have H : Hid _ := q2
  clear h hur q1 q2 hc
  go_enter Tryz.func38, Tryz.ntmps38
  go_wp2_with (go_at_call 62; refine HC.out.mono ?_; rintro e w1 ⟨rfl, M1, nv1, uv1, ps1, hL1, hn1, hm1⟩)
  go_ret
  exact ⟨rfl, M1, nv1, uv1, ps1, hL1, hn1, H.out.trans hm1⟩
set_option maxHeartbeats 2000000 in
set_option maxRecDepth 100000 in
theorem undo_back_call {w : World} {M : Nat → Lab} {tb : Nat} {nv uv : Value} {ps : List Pn} {us : List Value} {ca : Array Value} {ns' : List Nd} (h : Lies w M tb nv uv ps (us ++ [.func (.func 64) #[] ca]))
    (hc : ∀ w1 uv1, Lies w1 M tb nv uv1 ps us → Moved w M w1 M → Calls Tryz.prog 64 ca w1 (Ran w1 M tb us ns')) :
    Calls Tryz.prog 38 #[.pointer (some ⟨tb, 0, none⟩)] w (UPost w M tb us ns') := by
  have hul : (us ++ [Value.func (.func 64) #[] ca]).length = us.length + 1 := by simp
  have hur := h.undos
  rw [hul] at hur
  obtain ⟨ub, uc, rfl, huc, hum, huM, hulb⟩ := hur.form (by omega)
  have c1 := h.cell1
  obtain ⟨cu1, cu2⟩ := (hur.cell rfl (j := us.length) (u := .func (.func 64) #[] ca) (by simp))
  unfold maxLen at hum
  obtain ⟨q1, q2, d1, d2⟩ := h.pop
  have HC : Hid (Calls Tryz.prog 64 ca _ (Ran _ M tb us ns')) := hc _ _ q1 q2
  have H : Hid _ := q2
  clear h hur q1 q2 hc
  go_enter Tryz.func38, Tryz.ntmps38
  go_wp2_with (go_at_call 64; refine HC.out.mono ?_; rintro e w1 ⟨rfl, M1, nv1, uv1, ps1, hL1, hn1, hm1⟩)
  go_ret
  exact ⟨rfl, M1, nv1, uv1, ps1, hL1, hn1, H.out.trans hm1⟩
set_option maxHeartbeats 2000000 in
set_option maxRecDepth 100000 in
theorem undo_ins_call {w : World} {M : Nat → Lab} {tb : Nat} {nv uv : Value} {ps : List Pn} {us : List Value} {ca : Array Value} {ns' : List Nd} (h : Lies w M tb nv uv ps (us ++ [.func (.func 65) #[] ca]))
    (hc : ∀ w1 uv1, Lies w1 M tb nv uv1 ps us → Moved w M w1 M → Calls Tryz.prog 65 ca w1 (Ran w1 M tb us ns')) :
    Calls Tryz.prog 38 #[.pointer (some ⟨tb, 0, none⟩)] w (UPost w M tb us ns') := by
  have hul : (us ++ [Value.func (.func 65) #[] ca]).length = us.length + 1 := by simp
  have hur := h.undos
  rw [hul] at hur
  obtain ⟨ub, uc, rfl, huc, hum, huM, hulb⟩ := hur.form (by omega)
  have c1 := h.cell1
  obtain ⟨cu1, cu2⟩ := (hur.cell rfl (j := us.length) (u := .func (.func 65) #[] ca) (by simp))
  unfold maxLen at hum
  obtain ⟨q1, q2, d1, d2⟩ := h.pop
  have HC : Hid (Calls Tryz.prog 65 ca _ (Ran _ M tb us ns')) := hc _ _ q1 q2
  have H : Hid _ := q2
  clear h hur q1 q2 hc
  go_enter Tryz.func38, Tryz.ntmps38
  go_wp2_with (go_at_call 65; refine HC.out.mono ?_; rintro e w1 ⟨rfl, M1, nv1, uv1, ps1, hL1, hn1, hm1⟩)
  go_ret
  exact ⟨rfl, M1, nv1, uv1, ps1, hL1, hn1, H.out.trans hm1⟩
set_option maxHeartbeats 2000000 in
set_option maxRecDepth 100000 in
theorem undo_say_call {w : World} {M : Nat → Lab} {tb : Nat} {nv uv : Value} {ps : List Pn} {us : List Value} {ca : Array Value} {ns' : List Nd} (h : Lies w M tb nv uv ps (us ++ [.func (.func 67) #[] ca]))
    (hc : ∀ w1 uv1, Lies w1 M tb nv uv1 ps us → Moved w M w1 M → Calls Tryz.prog 67 ca w1 (Ran w1 M tb us ns')) :
    Calls Tryz.prog 38 #[.pointer (some ⟨tb, 0, none⟩)] w (UPost w M tb us ns') := by
  have hul : (us ++ [Value.func (.func 67) #[] ca]).length = us.length + 1 := by simp
  have hur := h.undos
  rw [hul] at hur
  obtain ⟨ub, uc, rfl, huc, hum, huM, hulb⟩ := hur.form (by omega)
  have c1 := h.cell1
  obtain ⟨cu1, cu2⟩ := (hur.cell rfl (j := us.length) (u := .func (.func 67) #[] ca) (by simp))
  unfold maxLen at hum
  obtain ⟨q1, q2, d1, d2⟩ := h.pop
  have HC : Hid (Calls Tryz.prog 67 ca _ (Ran _ M tb us ns')) := hc _ _ q1 q2
  have H : Hid _ := q2
  clear h hur q1 q2 hc
  go_enter Tryz.func38, Tryz.ntmps38
  go_wp2_with (go_at_call 67; refine HC.out.mono ?_; rintro e w1 ⟨rfl, M1, nv1, uv1, ps1, hL1, hn1, hm1⟩)
  go_ret
  exact ⟨rfl, M1, nv1, uv1, ps1, hL1, hn1, H.out.trans hm1⟩
set_option maxHeartbeats 2000000 in
set_option maxRecDepth 100000 in
theorem undo_forget_call {w : World} {M : Nat → Lab} {tb : Nat} {nv uv : Value} {ps : List Pn} {us : List Value} {ca : Array Value} {ns' : List Nd} (h : Lies w M tb nv uv ps (us ++ [.func (.func 87) #[] ca]))
    (hc : ∀ w1 uv1, Lies w1 M tb nv uv1 ps us → Moved w M w1 M → Calls Tryz.prog 87 ca w1 (Ran w1 M tb us ns')) :
    Calls Tryz.prog 38 #[.pointer (some ⟨tb, 0, none⟩)] w (UPost w M tb us ns') := by
  have hul : (us ++ [Value.func (.func 87) #[] ca]).length = us.length + 1 := by simp
  have hur := h.undos
  rw [hul] at hur
  obtain ⟨ub, uc, rfl, huc, hum, huM, hulb⟩ := hur.form (by omega)
  have c1 := h.cell1
  obtain ⟨cu1, cu2⟩ := (hur.cell rfl (j := us.length) (u := .func (.func 87) #[] ca) (by simp))
  unfold maxLen at hum
  obtain ⟨q1, q2, d1, d2⟩ := h.pop
  have HC : Hid (Calls Tryz.prog 87 ca _ (Ran _ M tb us ns')) := hc _ _ q1 q2
  have H : Hid _ := q2
  clear h hur q1 q2 hc
  go_enter Tryz.func38, Tryz.ntmps38
  go_wp2_with (go_at_call 87; refine HC.out.mono ?_; rintro e w1 ⟨rfl, M1, nv1, uv1, ps1, hL1, hn1, hm1⟩)
  go_ret
  exact ⟨rfl, M1, nv1, uv1, ps1, hL1, hn1, H.out.trans hm1⟩
end Go.Proofs.YtjfklhfdonbpgaaGreatDoor
