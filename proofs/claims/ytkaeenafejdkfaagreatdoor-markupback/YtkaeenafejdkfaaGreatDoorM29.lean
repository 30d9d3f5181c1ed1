/- The program: which elements have nothing in them, and what a start tag closes. -/
import Derived.Test.YtkaeenafejdkfaaGreatDoorM15
import Derived.Test.YtkaeenafejdkfaaGreatDoorM08
import Derived.Test.YtkaeenafejdkfaaGreatDoorM28
namespace Go.Proofs.YtkaeenafejdkfaaGreatDoor
open Go.RowKit

def voidB (s : ByteArray) : Bool := decide (s.toList = [98, 114] ∨ s.toList = [104, 114] ∨ s.toList = [105, 109, 103] ∨ s.toList = [105, 110, 112, 117, 116] ∨ s.toList = [108, 105, 110, 107] ∨ s.toList = [109, 101, 116, 97] ∨ s.toList = [119, 98, 114])
def closeT (s : ByteArray) : List ByteArray × List ByteArray :=
  if s.toList = [108, 105] then ([⟨#[108, 105]⟩], [⟨#[117, 108]⟩, ⟨#[111, 108]⟩])
  else if s.toList = [100, 116] ∨ s.toList = [100, 100] then ([⟨#[100, 116]⟩, ⟨#[100, 100]⟩], [⟨#[100, 108]⟩])
  else if s.toList = [111, 112, 116, 105, 111, 110] then ([⟨#[111, 112, 116, 105, 111, 110]⟩], [⟨#[115, 101, 108, 101, 99, 116]⟩])
  else if s.toList = [116, 114] then ([⟨#[116, 114]⟩], [⟨#[116, 97, 98, 108, 101]⟩])
  else if s.toList = [116, 100] ∨ s.toList = [116, 104] then ([⟨#[116, 100]⟩, ⟨#[116, 104]⟩], [⟨#[116, 114]⟩, ⟨#[116, 97, 98, 108, 101]⟩])
  else if s.toList = [100, 105, 118] ∨ s.toList = [112] ∨ s.toList = [117, 108] ∨ s.toList = [111, 108] ∨ s.toList = [100, 108] ∨ s.toList = [116, 97, 98, 108, 101] ∨ s.toList = [104, 49] ∨ s.toList = [104, 50] ∨ s.toList = [104, 51] ∨ s.toList = [112, 114, 101] ∨ s.toList = [115, 101, 99, 116, 105, 111, 110] ∨ s.toList = [102, 111, 114, 109] ∨ s.toList = [104, 114] then ([⟨#[112]⟩], [⟨#[116, 100]⟩, ⟨#[116, 104]⟩, ⟨#[108, 105]⟩, ⟨#[100, 105, 118]⟩, ⟨#[115, 101, 99, 116, 105, 111, 110]⟩, ⟨#[98, 117, 116, 116, 111, 110]⟩])
  else ([], [])
set_option maxHeartbeats 4000000 in
set_option maxRecDepth 100000 in
theorem void_any (s : ByteArray) (w : World) : Calls Tryz.prog 166 #[.string s] w fun e w' => e = .returned (.bool (voidB s)) ∧ w' = w := by
  go_enter Tryz.func166, Tryz.ntmps166
  go_wp2
  all_goals go_light
  all_goals (
    go_ret
    refine ⟨retb ?_, rfl⟩
    unfold voidB
    simp_all)
set_option maxHeartbeats 4000000 in
set_option maxRecDepth 100000 in
theorem staysOpen_any (s : ByteArray) (n : Nat) (w : World) : Calls Tryz.prog 142 #[.string s, .int .i64 n] w fun e w' => e = .returned (.bool (!voidB s && decide (n < 40))) ∧ w' = w := by
  cases hv : voidB s
  all_goals (
    go_enter Tryz.func142, Tryz.ntmps142
    go_wp2_with (go_at_call 166; refine (void_any _ _).mono ?_; rintro e w' ⟨rfl, rfl⟩; rw [hv])
    all_goals go_light
    all_goals (
      go_ret
      refine ⟨retb ?_, rfl⟩
      simp
      try omega))
theorem StrsAt.new (w : World) (A : List ByteArray) (hA : A.length ≤ 100) : StrsAt (w.alloc (.cells (A.map Value.string).toArray 9)) (.slice (some ⟨w.heap.size, 0, none⟩) A.length A.length) A := by
  refine .inr ⟨w.heap.size, A.length, rfl, hA, by simp, fun j hj => ?_⟩
  rw [cell_of_row _ w.heap.size j _ 9 (0, 0) (heap_alloc_new w _)]
  simp [hj]
theorem StrsAt.al {w : World} {v : Value} {A : List ByteArray} (h : StrsAt w v A) (o : Obj) : StrsAt (w.alloc o) v A := h.below ((Below.refl _ _).alloc (Nat.le_refl _) _)
/-- what closing tells -/
def ClosePost (w : World) (A B : List ByteArray) (e : Ending) (w' : World) : Prop := ∃ a1 n1 c1 a2 n2 c2, e = .returned (.tuple #[.slice a1 n1 c1, .slice a2 n2 c2]) ∧ StrsAt w' (.slice a1 n1 c1) A ∧ StrsAt w' (.slice a2 n2 c2) B ∧ Below w.heap.size w w'
theorem close_two (w : World) (A B : List ByteArray) (hA : A.length ≤ 100) (hB : B.length ≤ 100) : ClosePost w A B (.returned (.tuple #[.slice (some ⟨w.heap.size, 0, none⟩) A.length A.length, .slice (some ⟨w.heap.size + 1, 0, none⟩) B.length B.length])) ((w.alloc (.cells (A.map Value.string).toArray 9)).alloc (.cells (B.map Value.string).toArray 9)) := by
  refine ⟨_, _, _, _, _, _, rfl, (StrsAt.new w A hA).al _, ?_, ((Below.refl _ _).alloc (Nat.le_refl _) _).alloc (by simp) _⟩
  have := StrsAt.new (w.alloc (.cells (A.map Value.string).toArray 9)) B hB
  rw [World.size_alloc] at this
  exact this
theorem of_list {s : ByteArray} {l : List UInt8} (h : s.toList = l) : s = ⟨l.toArray⟩ := by
  rw [Lib.toList_data] at h
  exact ByteArray.ext (by rw [← h])
set_option maxHeartbeats 4000000 in
set_option maxRecDepth 100000 in
theorem closing_li (w : World) : Calls Tryz.prog 140 #[.string ⟨#[108, 105]⟩] w (ClosePost w [⟨#[108, 105]⟩] [⟨#[117, 108]⟩, ⟨#[111, 108]⟩]) := by
  go_enter Tryz.func140, Tryz.ntmps140
  go_wp2_with fail
  go_ret2
  exact close_two w [⟨#[108, 105]⟩] [⟨#[117, 108]⟩, ⟨#[111, 108]⟩] (by decide) (by decide)
set_option maxHeartbeats 4000000 in
set_option maxRecDepth 100000 in
theorem closing_dt (w : World) : Calls Tryz.prog 140 #[.string ⟨#[100, 116]⟩] w (ClosePost w [⟨#[100, 116]⟩, ⟨#[100, 100]⟩] [⟨#[100, 108]⟩]) := by
  go_enter Tryz.func140, Tryz.ntmps140
  go_wp2_with fail
  go_ret2
  exact close_two w [⟨#[100, 116]⟩, ⟨#[100, 100]⟩] [⟨#[100, 108]⟩] (by decide) (by decide)
set_option maxHeartbeats 4000000 in
set_option maxRecDepth 100000 in
theorem closing_dd (w : World) : Calls Tryz.prog 140 #[.string ⟨#[100, 100]⟩] w (ClosePost w [⟨#[100, 116]⟩, ⟨#[100, 100]⟩] [⟨#[100, 108]⟩]) := by
  go_enter Tryz.func140, Tryz.ntmps140
  go_wp2_with fail
  go_ret2
  exact close_two w [⟨#[100, 116]⟩, ⟨#[100, 100]⟩] [⟨#[100, 108]⟩] (by decide) (by decide)
set_option maxHeartbeats 4000000 in
set_option maxRecDepth 100000 in
theorem closing_option (w : World) : Calls Tryz.prog 140 #[.string ⟨#[111, 112, 116, 105, 111, 110]⟩] w (ClosePost w [⟨#[111, 112, 116, 105, 111, 110]⟩] [⟨#[115, 101, 108, 101, 99, 116]⟩]) := by
  go_enter Tryz.func140, Tryz.ntmps140
  go_wp2_with fail
  go_ret2
  exact close_two w [⟨#[111, 112, 116, 105, 111, 110]⟩] [⟨#[115, 101, 108, 101, 99, 116]⟩] (by decide) (by decide)
set_option maxHeartbeats 4000000 in
set_option maxRecDepth 100000 in
theorem closing_tr (w : World) : Calls Tryz.prog 140 #[.string ⟨#[116, 114]⟩] w (ClosePost w [⟨#[116, 114]⟩] [⟨#[116, 97, 98, 108, 101]⟩]) := by
  go_enter Tryz.func140, Tryz.ntmps140
  go_wp2_with fail
  go_ret2
  exact close_two w [⟨#[116, 114]⟩] [⟨#[116, 97, 98, 108, 101]⟩] (by decide) (by decide)
set_option maxHeartbeats 4000000 in
set_option maxRecDepth 100000 in
theorem closing_td (w : World) : Calls Tryz.prog 140 #[.string ⟨#[116, 100]⟩] w (ClosePost w [⟨#[116, 100]⟩, ⟨#[116, 104]⟩] [⟨#[116, 114]⟩, ⟨#[116, 97, 98, 108, 101]⟩]) := by
  go_enter Tryz.func140, Tryz.ntmps140
  go_wp2_with fail
  go_ret2
  exact close_two w [⟨#[116, 100]⟩, ⟨#[116, 104]⟩] [⟨#[116, 114]⟩, ⟨#[116, 97, 98, 108, 101]⟩] (by decide) (by decide)
set_option maxHeartbeats 4000000 in
set_option maxRecDepth 100000 in
theorem closing_th (w : World) : Calls Tryz.prog 140 #[.string ⟨#[116, 104]⟩] w (ClosePost w [⟨#[116, 100]⟩, ⟨#[116, 104]⟩] [⟨#[116, 114]⟩, ⟨#[116, 97, 98, 108, 101]⟩]) := by
  go_enter Tryz.func140, Tryz.ntmps140
  go_wp2_with fail
  go_ret2
  exact close_two w [⟨#[116, 100]⟩, ⟨#[116, 104]⟩] [⟨#[116, 114]⟩, ⟨#[116, 97, 98, 108, 101]⟩] (by decide) (by decide)
set_option maxHeartbeats 4000000 in
set_option maxRecDepth 100000 in
theorem closing_div (w : World) : Calls Tryz.prog 140 #[.string ⟨#[100, 105, 118]⟩] w (ClosePost w [⟨#[112]⟩] [⟨#[116, 100]⟩, ⟨#[116, 104]⟩, ⟨#[108, 105]⟩, ⟨#[100, 105, 118]⟩, ⟨#[115, 101, 99, 116, 105, 111, 110]⟩, ⟨#[98, 117, 116, 116, 111, 110]⟩]) := by
  go_enter Tryz.func140, Tryz.ntmps140
  go_wp2_with fail
  go_ret2
  exact close_two w [⟨#[112]⟩] [⟨#[116, 100]⟩, ⟨#[116, 104]⟩, ⟨#[108, 105]⟩, ⟨#[100, 105, 118]⟩, ⟨#[115, 101, 99, 116, 105, 111, 110]⟩, ⟨#[98, 117, 116, 116, 111, 110]⟩] (by decide) (by decide)
set_option maxHeartbeats 4000000 in
set_option maxRecDepth 100000 in
theorem closing_p (w : World) : Calls Tryz.prog 140 #[.string ⟨#[112]⟩] w (ClosePost w [⟨#[112]⟩] [⟨#[116, 100]⟩, ⟨#[116, 104]⟩, ⟨#[108, 105]⟩, ⟨#[100, 105, 118]⟩, ⟨#[115, 101, 99, 116, 105, 111, 110]⟩, ⟨#[98, 117, 116, 116, 111, 110]⟩]) := by
  go_enter Tryz.func140, Tryz.ntmps140
  go_wp2_with fail
  go_ret2
  exact close_two w [⟨#[112]⟩] [⟨#[116, 100]⟩, ⟨#[116, 104]⟩, ⟨#[108, 105]⟩, ⟨#[100, 105, 118]⟩, ⟨#[115, 101, 99, 116, 105, 111, 110]⟩, ⟨#[98, 117, 116, 116, 111, 110]⟩] (by decide) (by decide)
set_option maxHeartbeats 4000000 in
set_option maxRecDepth 100000 in
theorem closing_ul (w : World) : Calls Tryz.prog 140 #[.string ⟨#[117, 108]⟩] w (ClosePost w [⟨#[112]⟩] [⟨#[116, 100]⟩, ⟨#[116, 104]⟩, ⟨#[108, 105]⟩, ⟨#[100, 105, 118]⟩, ⟨#[115, 101, 99, 116, 105, 111, 110]⟩, ⟨#[98, 117, 116, 116, 111, 110]⟩]) := by
  go_enter Tryz.func140, Tryz.ntmps140
  go_wp2_with fail
  go_ret2
  exact close_two w [⟨#[112]⟩] [⟨#[116, 100]⟩, ⟨#[116, 104]⟩, ⟨#[108, 105]⟩, ⟨#[100, 105, 118]⟩, ⟨#[115, 101, 99, 116, 105, 111, 110]⟩, ⟨#[98, 117, 116, 116, 111, 110]⟩] (by decide) (by decide)
set_option maxHeartbeats 4000000 in
set_option maxRecDepth 100000 in
theorem closing_ol (w : World) : Calls Tryz.prog 140 #[.string ⟨#[111, 108]⟩] w (ClosePost w [⟨#[112]⟩] [⟨#[116, 100]⟩, ⟨#[116, 104]⟩, ⟨#[108, 105]⟩, ⟨#[100, 105, 118]⟩, ⟨#[115, 101, 99, 116, 105, 111, 110]⟩, ⟨#[98, 117, 116, 116, 111, 110]⟩]) := by
  go_enter Tryz.func140, Tryz.ntmps140
  go_wp2_with fail
  go_ret2
  exact close_two w [⟨#[112]⟩] [⟨#[116, 100]⟩, ⟨#[116, 104]⟩, ⟨#[108, 105]⟩, ⟨#[100, 105, 118]⟩, ⟨#[115, 101, 99, 116, 105, 111, 110]⟩, ⟨#[98, 117, 116, 116, 111, 110]⟩] (by decide) (by decide)
set_option maxHeartbeats 4000000 in
set_option maxRecDepth 100000 in
theorem closing_dl (w : World) : Calls Tryz.prog 140 #[.string ⟨#[100, 108]⟩] w (ClosePost w [⟨#[112]⟩] [⟨#[116, 100]⟩, ⟨#[116, 104]⟩, ⟨#[108, 105]⟩, ⟨#[100, 105, 118]⟩, ⟨#[115, 101, 99, 116, 105, 111, 110]⟩, ⟨#[98, 117, 116, 116, 111, 110]⟩]) := by
  go_enter Tryz.func140, Tryz.ntmps140
  go_wp2_with fail
  go_ret2
  exact close_two w [⟨#[112]⟩] [⟨#[116, 100]⟩, ⟨#[116, 104]⟩, ⟨#[108, 105]⟩, ⟨#[100, 105, 118]⟩, ⟨#[115, 101, 99, 116, 105, 111, 110]⟩, ⟨#[98, 117, 116, 116, 111, 110]⟩] (by decide) (by decide)
set_option maxHeartbeats 4000000 in
set_option maxRecDepth 100000 in
theorem closing_table (w : World) : Calls Tryz.prog 140 #[.string ⟨#[116, 97, 98, 108, 101]⟩] w (ClosePost w [⟨#[112]⟩] [⟨#[116, 100]⟩, ⟨#[116, 104]⟩, ⟨#[108, 105]⟩, ⟨#[100, 105, 118]⟩, ⟨#[115, 101, 99, 116, 105, 111, 110]⟩, ⟨#[98, 117, 116, 116, 111, 110]⟩]) := by
  go_enter Tryz.func140, Tryz.ntmps140
  go_wp2_with fail
  go_ret2
  exact close_two w [⟨#[112]⟩] [⟨#[116, 100]⟩, ⟨#[116, 104]⟩, ⟨#[108, 105]⟩, ⟨#[100, 105, 118]⟩, ⟨#[115, 101, 99, 116, 105, 111, 110]⟩, ⟨#[98, 117, 116, 116, 111, 110]⟩] (by decide) (by decide)
set_option maxHeartbeats 4000000 in
set_option maxRecDepth 100000 in
theorem closing_h1 (w : World) : Calls Tryz.prog 140 #[.string ⟨#[104, 49]⟩] w (ClosePost w [⟨#[112]⟩] [⟨#[116, 100]⟩, ⟨#[116, 104]⟩, ⟨#[108, 105]⟩, ⟨#[100, 105, 118]⟩, ⟨#[115, 101, 99, 116, 105, 111, 110]⟩, ⟨#[98, 117, 116, 116, 111, 110]⟩]) := by
  go_enter Tryz.func140, Tryz.ntmps140
  go_wp2_with fail
  go_ret2
  exact close_two w [⟨#[112]⟩] [⟨#[116, 100]⟩, ⟨#[116, 104]⟩, ⟨#[108, 105]⟩, ⟨#[100, 105, 118]⟩, ⟨#[115, 101, 99, 116, 105, 111, 110]⟩, ⟨#[98, 117, 116, 116, 111, 110]⟩] (by decide) (by decide)
set_option maxHeartbeats 4000000 in
set_option maxRecDepth 100000 in
theorem closing_h2 (w : World) : Calls Tryz.prog 140 #[.string ⟨#[104, 50]⟩] w (ClosePost w [⟨#[112]⟩] [⟨#[116, 100]⟩, ⟨#[116, 104]⟩, ⟨#[108, 105]⟩, ⟨#[100, 105, 118]⟩, ⟨#[115, 101, 99, 116, 105, 111, 110]⟩, ⟨#[98, 117, 116, 116, 111, 110]⟩]) := by
  go_enter Tryz.func140, Tryz.ntmps140
  go_wp2_with fail
  go_ret2
  exact close_two w [⟨#[112]⟩] [⟨#[116, 100]⟩, ⟨#[116, 104]⟩, ⟨#[108, 105]⟩, ⟨#[100, 105, 118]⟩, ⟨#[115, 101, 99, 116, 105, 111, 110]⟩, ⟨#[98, 117, 116, 116, 111, 110]⟩] (by decide) (by decide)
set_option maxHeartbeats 4000000 in
set_option maxRecDepth 100000 in
theorem closing_h3 (w : World) : Calls Tryz.prog 140 #[.string ⟨#[104, 51]⟩] w (ClosePost w [⟨#[112]⟩] [⟨#[116, 100]⟩, ⟨#[116, 104]⟩, ⟨#[108, 105]⟩, ⟨#[100, 105, 118]⟩, ⟨#[115, 101, 99, 116, 105, 111, 110]⟩, ⟨#[98, 117, 116, 116, 111, 110]⟩]) := by
  go_enter Tryz.func140, Tryz.ntmps140
  go_wp2_with fail
  go_ret2
  exact close_two w [⟨#[112]⟩] [⟨#[116, 100]⟩, ⟨#[116, 104]⟩, ⟨#[108, 105]⟩, ⟨#[100, 105, 118]⟩, ⟨#[115, 101, 99, 116, 105, 111, 110]⟩, ⟨#[98, 117, 116, 116, 111, 110]⟩] (by decide) (by decide)
set_option maxHeartbeats 4000000 in
set_option maxRecDepth 100000 in
theorem closing_pre (w : World) : Calls Tryz.prog 140 #[.string ⟨#[112, 114, 101]⟩] w (ClosePost w [⟨#[112]⟩] [⟨#[116, 100]⟩, ⟨#[116, 104]⟩, ⟨#[108, 105]⟩, ⟨#[100, 105, 118]⟩, ⟨#[115, 101, 99, 116, 105, 111, 110]⟩, ⟨#[98, 117, 116, 116, 111, 110]⟩]) := by
  go_enter Tryz.func140, Tryz.ntmps140
  go_wp2_with fail
  go_ret2
  exact close_two w [⟨#[112]⟩] [⟨#[116, 100]⟩, ⟨#[116, 104]⟩, ⟨#[108, 105]⟩, ⟨#[100, 105, 118]⟩, ⟨#[115, 101, 99, 116, 105, 111, 110]⟩, ⟨#[98, 117, 116, 116, 111, 110]⟩] (by decide) (by decide)
set_option maxHeartbeats 4000000 in
set_option maxRecDepth 100000 in
theorem closing_section (w : World) : Calls Tryz.prog 140 #[.string ⟨#[115, 101, 99, 116, 105, 111, 110]⟩] w (ClosePost w [⟨#[112]⟩] [⟨#[116, 100]⟩, ⟨#[116, 104]⟩, ⟨#[108, 105]⟩, ⟨#[100, 105, 118]⟩, ⟨#[115, 101, 99, 116, 105, 111, 110]⟩, ⟨#[98, 117, 116, 116, 111, 110]⟩]) := by
  go_enter Tryz.func140, Tryz.ntmps140
  go_wp2_with fail
  go_ret2
  exact close_two w [⟨#[112]⟩] [⟨#[116, 100]⟩, ⟨#[116, 104]⟩, ⟨#[108, 105]⟩, ⟨#[100, 105, 118]⟩, ⟨#[115, 101, 99, 116, 105, 111, 110]⟩, ⟨#[98, 117, 116, 116, 111, 110]⟩] (by decide) (by decide)
set_option maxHeartbeats 4000000 in
set_option maxRecDepth 100000 in
theorem closing_form (w : World) : Calls Tryz.prog 140 #[.string ⟨#[102, 111, 114, 109]⟩] w (ClosePost w [⟨#[112]⟩] [⟨#[116, 100]⟩, ⟨#[116, 104]⟩, ⟨#[108, 105]⟩, ⟨#[100, 105, 118]⟩, ⟨#[115, 101, 99, 116, 105, 111, 110]⟩, ⟨#[98, 117, 116, 116, 111, 110]⟩]) := by
  go_enter Tryz.func140, Tryz.ntmps140
  go_wp2_with fail
  go_ret2
  exact close_two w [⟨#[112]⟩] [⟨#[116, 100]⟩, ⟨#[116, 104]⟩, ⟨#[108, 105]⟩, ⟨#[100, 105, 118]⟩, ⟨#[115, 101, 99, 116, 105, 111, 110]⟩, ⟨#[98, 117, 116, 116, 111, 110]⟩] (by decide) (by decide)
set_option maxHeartbeats 4000000 in
set_option maxRecDepth 100000 in
theorem closing_hr (w : World) : Calls Tryz.prog 140 #[.string ⟨#[104, 114]⟩] w (ClosePost w [⟨#[112]⟩] [⟨#[116, 100]⟩, ⟨#[116, 104]⟩, ⟨#[108, 105]⟩, ⟨#[100, 105, 118]⟩, ⟨#[115, 101, 99, 116, 105, 111, 110]⟩, ⟨#[98, 117, 116, 116, 111, 110]⟩]) := by
  go_enter Tryz.func140, Tryz.ntmps140
  go_wp2_with fail
  go_ret2
  exact close_two w [⟨#[112]⟩] [⟨#[116, 100]⟩, ⟨#[116, 104]⟩, ⟨#[108, 105]⟩, ⟨#[100, 105, 118]⟩, ⟨#[115, 101, 99, 116, 105, 111, 110]⟩, ⟨#[98, 117, 116, 116, 111, 110]⟩] (by decide) (by decide)
set_option maxHeartbeats 4000000 in
set_option maxRecDepth 100000 in
theorem closing_none (s : ByteArray) (h0 : ¬ s.toList = [108, 105]) (h1 : ¬ s.toList = [100, 116]) (h2 : ¬ s.toList = [100, 100]) (h3 : ¬ s.toList = [111, 112, 116, 105, 111, 110]) (h4 : ¬ s.toList = [116, 114]) (h5 : ¬ s.toList = [116, 100]) (h6 : ¬ s.toList = [116, 104]) (h7 : ¬ s.toList = [100, 105, 118]) (h8 : ¬ s.toList = [112]) (h9 : ¬ s.toList = [117, 108]) (h10 : ¬ s.toList = [111, 108]) (h11 : ¬ s.toList = [100, 108]) (h12 : ¬ s.toList = [116, 97, 98, 108, 101]) (h13 : ¬ s.toList = [104, 49]) (h14 : ¬ s.toList = [104, 50]) (h15 : ¬ s.toList = [104, 51]) (h16 : ¬ s.toList = [112, 114, 101]) (h17 : ¬ s.toList = [115, 101, 99, 116, 105, 111, 110]) (h18 : ¬ s.toList = [102, 111, 114, 109]) (h19 : ¬ s.toList = [104, 114]) (w : World) : Calls Tryz.prog 140 #[.string s] w (ClosePost w [] []) := by
  have e0 : (s.toList == [108, 105]) = false := by rw [beq_eq_false_iff_ne]; exact h0
  have e1 : (s.toList == [100, 116]) = false := by rw [beq_eq_false_iff_ne]; exact h1
  have e2 : (s.toList == [100, 100]) = false := by rw [beq_eq_false_iff_ne]; exact h2
  have e3 : (s.toList == [111, 112, 116, 105, 111, 110]) = false := by rw [beq_eq_false_iff_ne]; exact h3
  have e4 : (s.toList == [116, 114]) = false := by rw [beq_eq_false_iff_ne]; exact h4
  have e5 : (s.toList == [116, 100]) = false := by rw [beq_eq_false_iff_ne]; exact h5
  have e6 : (s.toList == [116, 104]) = false := by rw [beq_eq_false_iff_ne]; exact h6
  have e7 : (s.toList == [100, 105, 118]) = false := by rw [beq_eq_false_iff_ne]; exact h7
  have e8 : (s.toList == [112]) = false := by rw [beq_eq_false_iff_ne]; exact h8
  have e9 : (s.toList == [117, 108]) = false := by rw [beq_eq_false_iff_ne]; exact h9
  have e10 : (s.toList == [111, 108]) = false := by rw [beq_eq_false_iff_ne]; exact h10
  have e11 : (s.toList == [100, 108]) = false := by rw [beq_eq_false_iff_ne]; exact h11
  have e12 : (s.toList == [116, 97, 98, 108, 101]) = false := by rw [beq_eq_false_iff_ne]; exact h12
  have e13 : (s.toList == [104, 49]) = false := by rw [beq_eq_false_iff_ne]; exact h13
  have e14 : (s.toList == [104, 50]) = false := by rw [beq_eq_false_iff_ne]; exact h14
  have e15 : (s.toList == [104, 51]) = false := by rw [beq_eq_false_iff_ne]; exact h15
  have e16 : (s.toList == [112, 114, 101]) = false := by rw [beq_eq_false_iff_ne]; exact h16
  have e17 : (s.toList == [115, 101, 99, 116, 105, 111, 110]) = false := by rw [beq_eq_false_iff_ne]; exact h17
  have e18 : (s.toList == [102, 111, 114, 109]) = false := by rw [beq_eq_false_iff_ne]; exact h18
  have e19 : (s.toList == [104, 114]) = false := by rw [beq_eq_false_iff_ne]; exact h19
  clear h0 h1 h2 h3 h4 h5 h6 h7 h8 h9 h10 h11 h12 h13 h14 h15 h16 h17 h18 h19
  go_enter Tryz.func140, Tryz.ntmps140
  go_wp2_with fail
  go_ret2
  exact ⟨none, 0, 0, none, 0, 0, rfl, .inl ⟨rfl, _, _, rfl⟩, .inl ⟨rfl, _, _, rfl⟩, Below.refl _ _⟩
theorem closing_any (s : ByteArray) (w : World) : Calls Tryz.prog 140 #[.string s] w (ClosePost w (closeT s).1 (closeT s).2) := by
  unfold closeT
  by_cases g0 : s.toList = [108, 105]
  · rw [if_pos g0]
    rw [of_list g0]; exact closing_li w
  by_cases g1 : s.toList = [100, 116] ∨ s.toList = [100, 100]
  · rw [if_neg g0, if_pos g1]
    rcases g1 with h | h
    · rw [of_list h]; exact closing_dt w
    · rw [of_list h]; exact closing_dd w
  by_cases g2 : s.toList = [111, 112, 116, 105, 111, 110]
  · rw [if_neg g0, if_neg g1, if_pos g2]
    rw [of_list g2]; exact closing_option w
  by_cases g3 : s.toList = [116, 114]
  · rw [if_neg g0, if_neg g1, if_neg g2, if_pos g3]
    rw [of_list g3]; exact closing_tr w
  by_cases g4 : s.toList = [116, 100] ∨ s.toList = [116, 104]
  · rw [if_neg g0, if_neg g1, if_neg g2, if_neg g3, if_pos g4]
    rcases g4 with h | h
    · rw [of_list h]; exact closing_td w
    · rw [of_list h]; exact closing_th w
  by_cases g5 : s.toList = [100, 105, 118] ∨ s.toList = [112] ∨ s.toList = [117, 108] ∨ s.toList = [111, 108] ∨ s.toList = [100, 108] ∨ s.toList = [116, 97, 98, 108, 101] ∨ s.toList = [104, 49] ∨ s.toList = [104, 50] ∨ s.toList = [104, 51] ∨ s.toList = [112, 114, 101] ∨ s.toList = [115, 101, 99, 116, 105, 111, 110] ∨ s.toList = [102, 111, 114, 109] ∨ s.toList = [104, 114]
  · rw [if_neg g0, if_neg g1, if_neg g2, if_neg g3, if_neg g4, if_pos g5]
    rcases g5 with h | h | h | h | h | h | h | h | h | h | h | h | h
    · rw [of_list h]; exact closing_div w
    · rw [of_list h]; exact closing_p w
    · rw [of_list h]; exact closing_ul w
    · rw [of_list h]; exact closing_ol w
    · rw [of_list h]; exact closing_dl w
    · rw [of_list h]; exact closing_table w
    · rw [of_list h]; exact closing_h1 w
    · rw [of_list h]; exact closing_h2 w
    · rw [of_list h]; exact closing_h3 w
    · rw [of_list h]; exact closing_pre w
    · rw [of_list h]; exact closing_section w
    · rw [of_list h]; exact closing_form w
    · rw [of_list h]; exact closing_hr w
  rw [if_neg g0, if_neg g1, if_neg g2, if_neg g3, if_neg g4, if_neg g5]
  exact closing_none s g0 (fun h => g1 (.inl h)) (fun h => g1 (.inr h)) g2 g3 (fun h => g4 (.inl h)) (fun h => g4 (.inr h)) (fun h => g5 (.inl h)) (fun h => g5 (.inr (.inl h))) (fun h => g5 (.inr (.inr (.inl h)))) (fun h => g5 (.inr (.inr (.inr (.inl h))))) (fun h => g5 (.inr (.inr (.inr (.inr (.inl h)))))) (fun h => g5 (.inr (.inr (.inr (.inr (.inr (.inl h))))))) (fun h => g5 (.inr (.inr (.inr (.inr (.inr (.inr (.inl h)))))))) (fun h => g5 (.inr (.inr (.inr (.inr (.inr (.inr (.inr (.inl h))))))))) (fun h => g5 (.inr (.inr (.inr (.inr (.inr (.inr (.inr (.inr (.inl h)))))))))) (fun h => g5 (.inr (.inr (.inr (.inr (.inr (.inr (.inr (.inr (.inr (.inl h))))))))))) (fun h => g5 (.inr (.inr (.inr (.inr (.inr (.inr (.inr (.inr (.inr (.inr (.inl h)))))))))))) (fun h => g5 (.inr (.inr (.inr (.inr (.inr (.inr (.inr (.inr (.inr (.inr (.inr (.inl h))))))))))))) (fun h => g5 (.inr (.inr (.inr (.inr (.inr (.inr (.inr (.inr (.inr (.inr (.inr (.inr h))))))))))))) w
end Go.Proofs.YtkaeenafejdkfaaGreatDoor

/- The program: what shutting makes of a grower. -/
namespace Go.Proofs.YtkaeenafejdkfaaGreatDoor
open Go.RowKit

def inL (A : List ByteArray) (t : ByteArray) : Bool := Lib.containsS A t
theorem shutI_M {ns : List Nd} {A B : List ByteArray} {op0 : List Nat} : ∀ (l : List Nat), (match shutI (hitT ns A) (hitT ns B) (l.map fun (k : Nat) => (k : Int)) with
    | some m => m < l.length ∧ shutM ns (inL A) (inL B) op0 l = l.drop (l.length - m)
    | none => shutM ns (inL A) (inL B) op0 l = op0)
  | [] => rfl
  | k :: l => by
    have ih := shutI_M (ns := ns) (A := A) (B := B) (op0 := op0) l
    rw [List.map_cons, shutI, shutM]
    have e1 : hitT ns A (k : Int) = inL A (tagOf ns k) := by unfold hitT inL; rw [Int.toNat_natCast]
    have e2 : hitT ns B (k : Int) = inL B (tagOf ns k) := by unfold hitT inL; rw [Int.toNat_natCast]
    rw [e1, e2]
    by_cases hA : inL A (tagOf ns k) = true
    · rw [if_pos hA, if_pos hA]
      simp
    · rw [if_neg hA, if_neg hA]
      by_cases hB : inL B (tagOf ns k) = true
      · rw [if_pos hB, if_pos hB]
      · rw [if_neg hB, if_neg hB]
        cases hs : shutI (hitT ns A) (hitT ns B) (l.map fun (k : Nat) => (k : Int)) with
        | none => rw [hs] at ih; exact ih
        | some m =>
          rw [hs] at ih
          obtain ⟨h1, h2⟩ := ih
          refine ⟨by simp; omega, ?_⟩
          rw [h2]
          have : (k :: l).length - m = (l.length - m) + 1 := by simp; omega
          rw [this, List.drop_succ_cons]
theorem Row.intsIn {w : World} {M : Nat → Lab} {l : Lab} {a : Option Addr} {cap n : Nat} {xs : List Int} (h : Row w M l 3 1 (.slice a n cap) n (xs.map intV)) (hn : n = xs.length) : IntsIn w.heap.size w (.slice a xs.length cap) xs := by
  subst hn
  by_cases h0 : xs.length = 0
  · have : xs = [] := List.eq_nil_of_length_eq_zero h0
    subst this
    exact .inl ⟨rfl, a, cap, rfl⟩
  · obtain ⟨g, c, hv, _, _, _, hg⟩ := h.form (by omega)
    cases hv
    refine .inr ⟨g, cap, rfl, hg, fun j hj => ?_⟩
    have := (h.cell rfl (j := j) (u := intV xs[j]) (by rw [List.getElem?_map, List.getElem?_eq_getElem hj]; rfl)).1
    rw [this, List.getElem?_eq_getElem hj]
    rfl
theorem Chain.all {ns : List Nd} : ∀ {op : List Nat}, Chain ns op → ∀ k ∈ op, ∃ n, ns[k]? = some n
  | _, .nil, _, h => by cases h
  | _, .cons hk _ _ _ _ hc, k, h => by
    rcases List.mem_cons.1 h with rfl | h
    · exact ⟨_, hk⟩
    · exact hc.all k h
/-- what shutting makes of a grower -/
theorem GS.shut {w : World} {gb tb : Nat} {ns : List Nd} {op : List Nat} {u i : Nat} {M Mo : Nat → Lab} (h : GS w gb tb ns op (txOf ns op) u M Mo) (hI : Inv ns op i) {a1 a2 : Option Addr} {n1 c1 n2 c2 : Nat} {A B : List ByteArray} (hA : StrsAt w (.slice a1 n1 c1) A) (hB : StrsAt w (.slice a2 n2 c2) B) :
    Calls Tryz.prog 114 #[.pointer (some ⟨gb, 0, none⟩), .slice a1 n1 c1, .slice a2 n2 c2] w fun e w' => e = .returned (.tuple #[]) ∧ GDone w gb tb ns (shutM ns (inL A) (inL B) op op) (txOf ns (shutM ns (inL A) (inL B) op op)) u M Mo w' := by
  obtain ⟨nv, uv, ps, us, h1, h2, h3⟩ := h.tree
  obtain ⟨a, cap, hg, hrow⟩ := h.head
  obtain ⟨zs, hzs⟩ : ∃ zs : List Int, zs = op.reverse.map fun (k : Nat) => (k : Int) := ⟨_, rfl⟩
  have hzl : zs.length = op.length := by rw [hzs]; simp
  have hzr : zs.reverse = op.map fun (k : Nat) => (k : Int) := by rw [hzs, ← List.map_reverse, List.reverse_reverse]
  rw [← hzs] at hrow
  obtain ⟨_, _, hsh, hc1, hc2⟩ := hrow.shape
  cases hsh
  unfold maxLen at hc2
  have hint := hrow.intsIn (xs := zs) hzl.symm
  have hg2 := hg
  rw [← hzl] at hg2
  have hsm := shutI_M (ns := ns) (A := A) (B := B) (op0 := op) op
  rw [← hzr] at hsm
  have hsc := (shut_chain (A := inL A) (B := inL B) hI.chain hI.chain (Nat.le_refl _)).2.2
  refine (shut_any h1 hg2 hint (fun z hz => ?_) (by have := hI.few; omega) ⟨by omega, hc2⟩ hA hB ⟨_, _, _, rfl⟩ ⟨_, _, _, rfl⟩).mono ?_
  · rw [hzs, List.mem_map] at hz
    obtain ⟨k, hk, rfl⟩ := hz
    obtain ⟨n, hn⟩ := hI.chain.all k (List.mem_reverse.1 hk)
    obtain ⟨p, hp, _⟩ := node_back h2 hn
    exact ⟨k, p, rfl, hp⟩
  · rintro e w' ⟨rfl, hpost⟩
    rw [h2] at hpost
    refine ⟨rfl, ?_⟩
    cases hs : shutI (hitT ns A) (hitT ns B) zs.reverse with
    | none =>
      rw [hs] at hpost hsm
      rw [hsm]
      exact ⟨M, Mo, h.below hpost, GMv.below hpost⟩
    | some m =>
      rw [hs] at hpost hsm
      obtain ⟨hm, he⟩ := hsm
      obtain ⟨hO, hg'⟩ := hpost
      obtain ⟨z1, z2⟩ := h.cut hg (by omega : m ≤ op.length) hO hg'
      have ht : txOf ns (shutM ns (inL A) (inL B) op op) = 0 := by
        rcases hsc with e | e
        · exfalso
          rw [he] at e
          have := congrArg List.length e
          rw [List.length_drop] at this
          omega
        · unfold txOf; rw [e]; rfl
      rw [ht, he]
      exact ⟨M, Mo, z1, z2⟩
end Go.Proofs.YtkaeenafejdkfaaGreatDoor
