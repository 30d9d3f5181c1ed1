/- The program: the steps of a scanner. -/
import Derived.Test.YtkaeenafejdkfaaGreatDoorM07
import Derived.Deep.LoopGhost

namespace Go.Proofs.YtkaeenafejdkfaaGreatDoor
open Go.RowKit

/-- a scanner lies there -/
def Sc (w : World) (b : Nat) (s : ByteArray) (i : Nat) (raw : ByteArray) : Prop := w.heap[b]? = some (.cells #[.string s, .int .i64 i, .string raw] 119 (0, 0))
theorem Sc.cells {w : World} {b : Nat} {s : ByteArray} {i : Nat} {raw : ByteArray} (h : Sc w b s i raw) : w.cell? ⟨b, 0, none⟩ = some (.string s) ∧ w.cell? ⟨b, 1, none⟩ = some (.int .i64 i) ∧ w.cell? ⟨b, 2, none⟩ = some (.string raw) ∧ ∀ o, w.frozen? ⟨b, o, none⟩ = false := by
  unfold Sc at h
  refine ⟨?_, ?_, ?_, fun o => by simp [World.frozen?, h]⟩ <;> (rw [cell_of_row w b _ _ _ _ h]; rfl)
theorem Sc.set {w : World} {b : Nat} {s : ByteArray} {i : Nat} {raw : ByteArray} (h : Sc w b s i raw) (j : Int) (k : Nat) (hj : j = k) : Sc (w.setCell ⟨b, 1, none⟩ (.int .i64 j)) b s k raw := by
  subst hj
  unfold Sc at h ⊢
  simp [World.setCell, Array.getElem?_modify, h]
theorem Sc.below {w w' : World} {b : Nat} {s : ByteArray} {i : Nat} {raw : ByteArray} (h : Sc w b s i raw) {B : Nat} (hb : b < B) (hB : Below B w w') : Sc w' b s i raw := by
  unfold Sc at h ⊢
  rw [hB.block b hb]; exact h

/-- only one block has turned, and new ones may lie beside -/
structure Only (b : Nat) (w w' : World) : Prop where
  os : w'.os = w.os
  tape : w'.tape = w.tape
  output : w'.output = w.output
  size : w.heap.size ≤ w'.heap.size
  block : ∀ k, k < w.heap.size → k ≠ b → w'.heap[k]? = w.heap[k]?
theorem Only.refl (b : Nat) (w : World) : Only b w w := ⟨rfl, rfl, rfl, Nat.le_refl _, fun _ _ _ => rfl⟩
theorem Only.trans {b : Nat} {x y z : World} (h : Only b x y) (k : Only b y z) : Only b x z :=
  ⟨k.os.trans h.os, k.tape.trans h.tape, k.output.trans h.output, Nat.le_trans h.size k.size, fun i hi hb => (k.block i (Nat.lt_of_lt_of_le hi h.size) hb).trans (h.block i hi hb)⟩
theorem Only.of {b : Nat} {w w' : World} (h : Below w.heap.size w w') : Only b w w' := ⟨h.os, h.tape, h.output, h.size, fun k hk _ => h.block k hk⟩
theorem Only.set {b : Nat} {w w' : World} (h : Only b w w') (o : Nat) (u : Value) : Only b w (w'.setCell ⟨b, o, none⟩ u) :=
  ⟨h.os, h.tape, h.output, by simpa [World.setCell] using h.size, fun k hk hb => (Below.heap_setCell w' ⟨b, o, none⟩ u k hb).trans (h.block k hk hb)⟩
theorem Only.drew {b : Nat} {w w' : World} (h : Only b w w') (n : Nat) : Only b w (w'.drewN n) := ⟨h.os, h.tape, h.output, h.size, h.block⟩
theorem Sc.drew {w : World} {b : Nat} {s : ByteArray} {i : Nat} {raw : ByteArray} (h : Sc w b s i raw) (n : Nat) : Sc (w.drewN n) b s i raw := h
theorem Sc.lt {w : World} {b : Nat} {s : ByteArray} {i : Nat} {raw : ByteArray} (h : Sc w b s i raw) : b < w.heap.size := by
  unfold Sc at h
  rcases Nat.lt_or_ge b w.heap.size with h2 | h2
  · exact h2
  · rw [Array.getElem?_eq_none h2] at h; cases h

set_option maxHeartbeats 4000000 in
set_option maxRecDepth 100000 in
theorem atEnd_any {w : World} {b : Nat} {s : ByteArray} {i : Nat} {raw : ByteArray} (h : Sc w b s i raw) (r : Bool) (hr : decide (i = s.size) = r) :
    Calls Tryz.prog 109 #[.pointer (some ⟨b, 0, none⟩)] w fun e w' => e = .returned (.bool r) ∧ ∃ m, w' = w.drewN m := by
  have HR := hid hr
  obtain ⟨c0, c1, c2, cf⟩ := h.cells
  clear h hr
  go_enter Tryz.func109, Tryz.ntmps109
  go_wp2
  go_quiet (fail)
  go_wp2
  go_ret
  refine ⟨retb ?_, _, rfl⟩
  rw [← HR.out, Bool.eq_iff_iff]
  simp
  try omega
theorem at_end {i n : Nat} (h : i = n) : decide (i = n) = true := by rw [decide_eq_true_eq]; exact h
theorem at_no {i n : Nat} (h : i < n) : decide (i = n) = false := by rw [decide_eq_false_iff_not]; omega

theorem pinTag_at (c : Nat) (v : Bool) (h : inTagB c = v) (w : World) : Calls Tryz.prog 160 #[.int .u8 c] w fun e w' => e = .returned (.bool v) ∧ w' = w := by
  rw [← h]; exact pinTag_any c w
set_option maxHeartbeats 4000000 in
set_option maxRecDepth 100000 in
theorem take_tag {w : World} {b : Nat} {s : ByteArray} {i : Nat} {raw : ByteArray} (h : Sc w b s i raw) (hs : s.size ≤ 100000) (hi : i ≤ s.size) :
    Calls Tryz.prog 159 #[.pointer (some ⟨b, 0, none⟩), .func (.func 160) #[] #[]] w fun e w' => e = .returned (.string (s.extract i (spanE inTagB s i))) ∧ Only b w w' ∧ Sc w' b s (spanE inTagB s i) raw := by
  obtain ⟨e, E, a1, b1, g1, x1⟩ := spanE_is inTagB s i hi
  rw [E]
  have H := hid h
  have G := hid g1
  have X := hid x1
  obtain ⟨c0, c1, c2, cf⟩ := h.cells
  clear h g1 x1 E
  go_enter Tryz.func159, Tryz.ntmps159
  go_wp2_with fail
  clear c0 c1 c2 cf
  go_loopg [] (e - i) (fun g wr => ∃ j : Nat, i ≤ j ∧ j ≤ e ∧ g = e - j ∧ Hid (Sc wr b s j raw ∧ Only b w wr))
  case atStart => exact ⟨i, by omega, by omega, rfl, hid ⟨H.out, Only.refl _ _⟩⟩
  case round =>
    obtain ⟨j, hj1, hj2, rfl, hB⟩ := hrel
    obtain ⟨c0, c1, c2, cf⟩ := hB.out.1.cells
    by_cases hlt : j < e
    · obtain ⟨hsz, hp⟩ := G.out j hj1 hlt
      obtain ⟨c, hc⟩ : ∃ c, s[j].toNat = c := ⟨_, rfl⟩
      rw [hc] at hp
      go_wp2_with fail
      go_quiet ((first | (go_at_call 109; exact Calls.quiet_of (atEnd_any (hB.out.1.drew _) false (at_no hsz))) | (go_at_call 160; exact Calls.quiet_of_same (pinTag_at c true hp _))))
      go_wp2_with fail
      go_roundg (e - (j + 1))
      case measure => omega
      case rel => exact ⟨j + 1, by omega, by omega, rfl, hid ⟨(hB.out.1.drew _).set _ _ (by go_num), (hB.out.2.drew _).set _ _⟩⟩
    · obtain rfl : j = e := by omega
      by_cases hsz : j < s.size
      · have hp := X.out hsz
        obtain ⟨c, hc⟩ : ∃ c, s[j].toNat = c := ⟨_, rfl⟩
        rw [hc] at hp
        go_wp2_with fail
        go_quiet ((first | (go_at_call 109; exact Calls.quiet_of (atEnd_any (hB.out.1.drew _) false (at_no hsz))) | (go_at_call 160; exact Calls.quiet_of_same (pinTag_at c false hp _))))
        go_wp2_with fail
        go_quiet (fail)
        go_wp2_with fail
        go_ret
        exact ⟨rfl, (hB.out.2.drew _).drew _, hB.out.1⟩
      · go_wp2_with fail
        go_quiet ((go_at_call 109; exact Calls.quiet_of (atEnd_any (hB.out.1.drew _) true (at_end (by omega)))))
        go_wp2_with fail
        go_quiet (fail)
        go_wp2_with fail
        go_ret
        exact ⟨rfl, (hB.out.2.drew _).drew _, hB.out.1⟩

theorem pbetw_at (c : Nat) (v : Bool) (h : betwB c = v) (w : World) : Calls Tryz.prog 161 #[.int .u8 c] w fun e w' => e = .returned (.bool v) ∧ w' = w := by
  rw [← h]; exact pbetw_any c w
set_option maxHeartbeats 4000000 in
set_option maxRecDepth 100000 in
theorem take_betw {w : World} {b : Nat} {s : ByteArray} {i : Nat} {raw : ByteArray} (h : Sc w b s i raw) (hs : s.size ≤ 100000) (hi : i ≤ s.size) :
    Calls Tryz.prog 159 #[.pointer (some ⟨b, 0, none⟩), .func (.func 161) #[] #[]] w fun e w' => e = .returned (.string (s.extract i (spanE betwB s i))) ∧ Only b w w' ∧ Sc w' b s (spanE betwB s i) raw := by
  obtain ⟨e, E, a1, b1, g1, x1⟩ := spanE_is betwB s i hi
  rw [E]
  have H := hid h
  have G := hid g1
  have X := hid x1
  obtain ⟨c0, c1, c2, cf⟩ := h.cells
  clear h g1 x1 E
  go_enter Tryz.func159, Tryz.ntmps159
  go_wp2_with fail
  clear c0 c1 c2 cf
  go_loopg [] (e - i) (fun g wr => ∃ j : Nat, i ≤ j ∧ j ≤ e ∧ g = e - j ∧ Hid (Sc wr b s j raw ∧ Only b w wr))
  case atStart => exact ⟨i, by omega, by omega, rfl, hid ⟨H.out, Only.refl _ _⟩⟩
  case round =>
    obtain ⟨j, hj1, hj2, rfl, hB⟩ := hrel
    obtain ⟨c0, c1, c2, cf⟩ := hB.out.1.cells
    by_cases hlt : j < e
    · obtain ⟨hsz, hp⟩ := G.out j hj1 hlt
      obtain ⟨c, hc⟩ : ∃ c, s[j].toNat = c := ⟨_, rfl⟩
      rw [hc] at hp
      go_wp2_with fail
      go_quiet ((first | (go_at_call 109; exact Calls.quiet_of (atEnd_any (hB.out.1.drew _) false (at_no hsz))) | (go_at_call 161; exact Calls.quiet_of_same (pbetw_at c true hp _))))
      go_wp2_with fail
      go_roundg (e - (j + 1))
      case measure => omega
      case rel => exact ⟨j + 1, by omega, by omega, rfl, hid ⟨(hB.out.1.drew _).set _ _ (by go_num), (hB.out.2.drew _).set _ _⟩⟩
    · obtain rfl : j = e := by omega
      by_cases hsz : j < s.size
      · have hp := X.out hsz
        obtain ⟨c, hc⟩ : ∃ c, s[j].toNat = c := ⟨_, rfl⟩
        rw [hc] at hp
        go_wp2_with fail
        go_quiet ((first | (go_at_call 109; exact Calls.quiet_of (atEnd_any (hB.out.1.drew _) false (at_no hsz))) | (go_at_call 161; exact Calls.quiet_of_same (pbetw_at c false hp _))))
        go_wp2_with fail
        go_quiet (fail)
        go_wp2_with fail
        go_ret
        exact ⟨rfl, (hB.out.2.drew _).drew _, hB.out.1⟩
      · go_wp2_with fail
        go_quiet ((go_at_call 109; exact Calls.quiet_of (atEnd_any (hB.out.1.drew _) true (at_end (by omega)))))
        go_wp2_with fail
        go_quiet (fail)
        go_wp2_with fail
        go_ret
        exact ⟨rfl, (hB.out.2.drew _).drew _, hB.out.1⟩

theorem pinAttr_at (c : Nat) (v : Bool) (h : inAttrB c = v) (w : World) : Calls Tryz.prog 175 #[.int .u8 c] w fun e w' => e = .returned (.bool v) ∧ w' = w := by
  rw [← h]; exact pinAttr_any c w
set_option maxHeartbeats 4000000 in
set_option maxRecDepth 100000 in
theorem take_attr {w : World} {b : Nat} {s : ByteArray} {i : Nat} {raw : ByteArray} (h : Sc w b s i raw) (hs : s.size ≤ 100000) (hi : i ≤ s.size) :
    Calls Tryz.prog 159 #[.pointer (some ⟨b, 0, none⟩), .func (.func 175) #[] #[]] w fun e w' => e = .returned (.string (s.extract i (spanE inAttrB s i))) ∧ Only b w w' ∧ Sc w' b s (spanE inAttrB s i) raw := by
  obtain ⟨e, E, a1, b1, g1, x1⟩ := spanE_is inAttrB s i hi
  rw [E]
  have H := hid h
  have G := hid g1
  have X := hid x1
  obtain ⟨c0, c1, c2, cf⟩ := h.cells
  clear h g1 x1 E
  go_enter Tryz.func159, Tryz.ntmps159
  go_wp2_with fail
  clear c0 c1 c2 cf
  go_loopg [] (e - i) (fun g wr => ∃ j : Nat, i ≤ j ∧ j ≤ e ∧ g = e - j ∧ Hid (Sc wr b s j raw ∧ Only b w wr))
  case atStart => exact ⟨i, by omega, by omega, rfl, hid ⟨H.out, Only.refl _ _⟩⟩
  case round =>
    obtain ⟨j, hj1, hj2, rfl, hB⟩ := hrel
    obtain ⟨c0, c1, c2, cf⟩ := hB.out.1.cells
    by_cases hlt : j < e
    · obtain ⟨hsz, hp⟩ := G.out j hj1 hlt
      obtain ⟨c, hc⟩ : ∃ c, s[j].toNat = c := ⟨_, rfl⟩
      rw [hc] at hp
      go_wp2_with fail
      go_quiet ((first | (go_at_call 109; exact Calls.quiet_of (atEnd_any (hB.out.1.drew _) false (at_no hsz))) | (go_at_call 175; exact Calls.quiet_of_same (pinAttr_at c true hp _))))
      go_wp2_with fail
      go_roundg (e - (j + 1))
      case measure => omega
      case rel => exact ⟨j + 1, by omega, by omega, rfl, hid ⟨(hB.out.1.drew _).set _ _ (by go_num), (hB.out.2.drew _).set _ _⟩⟩
    · obtain rfl : j = e := by omega
      by_cases hsz : j < s.size
      · have hp := X.out hsz
        obtain ⟨c, hc⟩ : ∃ c, s[j].toNat = c := ⟨_, rfl⟩
        rw [hc] at hp
        go_wp2_with fail
        go_quiet ((first | (go_at_call 109; exact Calls.quiet_of (atEnd_any (hB.out.1.drew _) false (at_no hsz))) | (go_at_call 175; exact Calls.quiet_of_same (pinAttr_at c false hp _))))
        go_wp2_with fail
        go_quiet (fail)
        go_wp2_with fail
        go_ret
        exact ⟨rfl, (hB.out.2.drew _).drew _, hB.out.1⟩
      · go_wp2_with fail
        go_quiet ((go_at_call 109; exact Calls.quiet_of (atEnd_any (hB.out.1.drew _) true (at_end (by omega)))))
        go_wp2_with fail
        go_quiet (fail)
        go_wp2_with fail
        go_ret
        exact ⟨rfl, (hB.out.2.drew _).drew _, hB.out.1⟩

theorem pinVal_at (c : Nat) (v : Bool) (h : inValB c = v) (w : World) : Calls Tryz.prog 184 #[.int .u8 c] w fun e w' => e = .returned (.bool v) ∧ w' = w := by
  rw [← h]; exact pinVal_any c w
set_option maxHeartbeats 4000000 in
set_option maxRecDepth 100000 in
theorem take_val {w : World} {b : Nat} {s : ByteArray} {i : Nat} {raw : ByteArray} (h : Sc w b s i raw) (hs : s.size ≤ 100000) (hi : i ≤ s.size) :
    Calls Tryz.prog 159 #[.pointer (some ⟨b, 0, none⟩), .func (.func 184) #[] #[]] w fun e w' => e = .returned (.string (s.extract i (spanE inValB s i))) ∧ Only b w w' ∧ Sc w' b s (spanE inValB s i) raw := by
  obtain ⟨e, E, a1, b1, g1, x1⟩ := spanE_is inValB s i hi
  rw [E]
  have H := hid h
  have G := hid g1
  have X := hid x1
  obtain ⟨c0, c1, c2, cf⟩ := h.cells
  clear h g1 x1 E
  go_enter Tryz.func159, Tryz.ntmps159
  go_wp2_with fail
  clear c0 c1 c2 cf
  go_loopg [] (e - i) (fun g wr => ∃ j : Nat, i ≤ j ∧ j ≤ e ∧ g = e - j ∧ Hid (Sc wr b s j raw ∧ Only b w wr))
  case atStart => exact ⟨i, by omega, by omega, rfl, hid ⟨H.out, Only.refl _ _⟩⟩
  case round =>
    obtain ⟨j, hj1, hj2, rfl, hB⟩ := hrel
    obtain ⟨c0, c1, c2, cf⟩ := hB.out.1.cells
    by_cases hlt : j < e
    · obtain ⟨hsz, hp⟩ := G.out j hj1 hlt
      obtain ⟨c, hc⟩ : ∃ c, s[j].toNat = c := ⟨_, rfl⟩
      rw [hc] at hp
      go_wp2_with fail
      go_quiet ((first | (go_at_call 109; exact Calls.quiet_of (atEnd_any (hB.out.1.drew _) false (at_no hsz))) | (go_at_call 184; exact Calls.quiet_of_same (pinVal_at c true hp _))))
      go_wp2_with fail
      go_roundg (e - (j + 1))
      case measure => omega
      case rel => exact ⟨j + 1, by omega, by omega, rfl, hid ⟨(hB.out.1.drew _).set _ _ (by go_num), (hB.out.2.drew _).set _ _⟩⟩
    · obtain rfl : j = e := by omega
      by_cases hsz : j < s.size
      · have hp := X.out hsz
        obtain ⟨c, hc⟩ : ∃ c, s[j].toNat = c := ⟨_, rfl⟩
        rw [hc] at hp
        go_wp2_with fail
        go_quiet ((first | (go_at_call 109; exact Calls.quiet_of (atEnd_any (hB.out.1.drew _) false (at_no hsz))) | (go_at_call 184; exact Calls.quiet_of_same (pinVal_at c false hp _))))
        go_wp2_with fail
        go_quiet (fail)
        go_wp2_with fail
        go_ret
        exact ⟨rfl, (hB.out.2.drew _).drew _, hB.out.1⟩
      · go_wp2_with fail
        go_quiet ((go_at_call 109; exact Calls.quiet_of (atEnd_any (hB.out.1.drew _) true (at_end (by omega)))))
        go_wp2_with fail
        go_quiet (fail)
        go_wp2_with fail
        go_ret
        exact ⟨rfl, (hB.out.2.drew _).drew _, hB.out.1⟩

theorem pblank_at (c : Nat) (v : Bool) (h : blankB c = v) (w : World) : Calls Tryz.prog 174 #[.int .u8 c] w fun e w' => e = .returned (.bool v) ∧ w' = w := by
  rw [← h]; exact pblank_any c w
set_option maxHeartbeats 4000000 in
set_option maxRecDepth 100000 in
theorem take_blank {w : World} {b : Nat} {s : ByteArray} {i : Nat} {raw : ByteArray} (h : Sc w b s i raw) (hs : s.size ≤ 100000) (hi : i ≤ s.size) :
    Calls Tryz.prog 159 #[.pointer (some ⟨b, 0, none⟩), .func (.func 174) #[] #[]] w fun e w' => e = .returned (.string (s.extract i (spanE blankB s i))) ∧ Only b w w' ∧ Sc w' b s (spanE blankB s i) raw := by
  obtain ⟨e, E, a1, b1, g1, x1⟩ := spanE_is blankB s i hi
  rw [E]
  have H := hid h
  have G := hid g1
  have X := hid x1
  obtain ⟨c0, c1, c2, cf⟩ := h.cells
  clear h g1 x1 E
  go_enter Tryz.func159, Tryz.ntmps159
  go_wp2_with fail
  clear c0 c1 c2 cf
  go_loopg [] (e - i) (fun g wr => ∃ j : Nat, i ≤ j ∧ j ≤ e ∧ g = e - j ∧ Hid (Sc wr b s j raw ∧ Only b w wr))
  case atStart => exact ⟨i, by omega, by omega, rfl, hid ⟨H.out, Only.refl _ _⟩⟩
  case round =>
    obtain ⟨j, hj1, hj2, rfl, hB⟩ := hrel
    obtain ⟨c0, c1, c2, cf⟩ := hB.out.1.cells
    by_cases hlt : j < e
    · obtain ⟨hsz, hp⟩ := G.out j hj1 hlt
      obtain ⟨c, hc⟩ : ∃ c, s[j].toNat = c := ⟨_, rfl⟩
      rw [hc] at hp
      go_wp2_with fail
      go_quiet ((first | (go_at_call 109; exact Calls.quiet_of (atEnd_any (hB.out.1.drew _) false (at_no hsz))) | (go_at_call 174; exact Calls.quiet_of_same (pblank_at c true hp _))))
      go_wp2_with fail
      go_roundg (e - (j + 1))
      case measure => omega
      case rel => exact ⟨j + 1, by omega, by omega, rfl, hid ⟨(hB.out.1.drew _).set _ _ (by go_num), (hB.out.2.drew _).set _ _⟩⟩
    · obtain rfl : j = e := by omega
      by_cases hsz : j < s.size
      · have hp := X.out hsz
        obtain ⟨c, hc⟩ : ∃ c, s[j].toNat = c := ⟨_, rfl⟩
        rw [hc] at hp
        go_wp2_with fail
        go_quiet ((first | (go_at_call 109; exact Calls.quiet_of (atEnd_any (hB.out.1.drew _) false (at_no hsz))) | (go_at_call 174; exact Calls.quiet_of_same (pblank_at c false hp _))))
        go_wp2_with fail
        go_quiet (fail)
        go_wp2_with fail
        go_ret
        exact ⟨rfl, (hB.out.2.drew _).drew _, hB.out.1⟩
      · go_wp2_with fail
        go_quiet ((go_at_call 109; exact Calls.quiet_of (atEnd_any (hB.out.1.drew _) true (at_end (by omega)))))
        go_wp2_with fail
        go_quiet (fail)
        go_wp2_with fail
        go_ret
        exact ⟨rfl, (hB.out.2.drew _).drew _, hB.out.1⟩
end Go.Proofs.YtkaeenafejdkfaaGreatDoor

/- The program: a mark that stands at a scanner's place. -/
namespace Go.Proofs.YtkaeenafejdkfaaGreatDoor
open Go.RowKit

theorem ext_ext (s : ByteArray) (i m : Nat) (_h : i + m ≤ s.size) : (s.extract i s.size).extract 0 m = s.extract i (i + m) := by
  apply ByteArray.ext
  apply Array.toList_inj.mp
  rw [ext_list, ext_list, ext_list]
  simp [List.take_take]
  try omega
theorem prefix_at {s p : ByteArray} {i : Nat} (hi : i ≤ s.size) : (p.size ≤ (s.extract i s.size).size ∧ (s.extract i s.size).extract 0 p.size = p) ↔ standsAt p s i := by
  unfold standsAt
  rw [ByteArray.size_extract]
  constructor
  · rintro ⟨h1, h2⟩
    have : i + p.size ≤ s.size := by omega
    exact ⟨this, by rw [ext_ext s i p.size this] at h2; exact h2⟩
  · rintro ⟨h1, h2⟩
    exact ⟨by omega, by rw [ext_ext s i p.size h1]; exact h2⟩

set_option maxHeartbeats 4000000 in
set_option maxRecDepth 100000 in
theorem lite_any (s p : ByteArray) (r : Bool) (hr : decide (p.size ≤ s.size ∧ s.extract 0 p.size = p) = r) (w : World) :
    Calls Tryz.prog 173 #[.string s, .string p] w fun e w' => e = .returned (.bool r) ∧ w' = w := by
  have HR := hid hr
  clear hr
  go_enter Tryz.func173, Tryz.ntmps173
  go_wp2
  all_goals go_light
  all_goals go_ret
  all_goals (refine ⟨retb ?_, rfl⟩; rw [← HR.out])
  · rw [Bool.eq_iff_iff, decide_eq_true_eq]
    constructor
    · intro h; exact ⟨by omega, toList_inj' (eq_of_beq h)⟩
    · intro h; rw [h.2]; simp
  · symm
    rw [decide_eq_false_iff_not]
    rintro ⟨h, _⟩
    omega
theorem prefix_any (s p : ByteArray) (r : Bool) (hr : decide (p.size ≤ s.size ∧ s.extract 0 p.size = p) = r) (w : World) :
    Calls Tryz.prog 155 #[.string s, .string p] w fun e w' => e = .returned (.bool r) ∧ w' = w := by
  go_enter Tryz.func155, Tryz.ntmps155
  go_wp2_with (go_at_call 173; refine (lite_any s p r hr _).mono ?_; rintro e w' ⟨rfl, rfl⟩)
  go_ret
  exact ⟨rfl, rfl⟩

set_option maxHeartbeats 4000000 in
set_option maxRecDepth 100000 in
theorem skip_yes {w : World} {b : Nat} {s : ByteArray} {i : Nat} {raw : ByteArray} (h : Sc w b s i raw) (hs : s.size ≤ 100000) (p : ByteArray) (hp : standsAt p s i) :
    Calls Tryz.prog 157 #[.pointer (some ⟨b, 0, none⟩), .string p] w fun e w' => e = .returned (.bool true) ∧ Only b w w' ∧ Sc w' b s (i + p.size) raw := by
  have hi : i + p.size ≤ s.size := hp.1
  have hpre : decide (p.size ≤ (s.extract i s.size).size ∧ (s.extract i s.size).extract 0 p.size = p) = true := by
    rw [decide_eq_true_eq, prefix_at (by omega)]; exact hp
  have H := hid h
  obtain ⟨c0, c1, c2, cf⟩ := h.cells
  clear h hp
  go_enter Tryz.func157, Tryz.ntmps157
  go_wp2_with fail
  go_quiet ((go_at_call 155; exact Calls.quiet_of_same (prefix_any (s.extract i s.size) p true hpre _)))
  go_wp2_with fail
  go_ret
  exact ⟨rfl, ((Only.refl _ _).drew _).set _ _, (H.out.drew _).set _ _ (by omega)⟩
set_option maxHeartbeats 4000000 in
set_option maxRecDepth 100000 in
theorem skip_no {w : World} {b : Nat} {s : ByteArray} {i : Nat} {raw : ByteArray} (h : Sc w b s i raw) (hi : i ≤ s.size) (p : ByteArray) (hp : ¬ standsAt p s i) :
    Calls Tryz.prog 157 #[.pointer (some ⟨b, 0, none⟩), .string p] w fun e w' => e = .returned (.bool false) ∧ Only b w w' ∧ Sc w' b s i raw := by
  have hpre : decide (p.size ≤ (s.extract i s.size).size ∧ (s.extract i s.size).extract 0 p.size = p) = false := by
    rw [decide_eq_false_iff_not, prefix_at hi]; exact hp
  have H := hid h
  obtain ⟨c0, c1, c2, cf⟩ := h.cells
  clear h hp
  go_enter Tryz.func157, Tryz.ntmps157
  go_wp2_with fail
  go_quiet ((go_at_call 155; exact Calls.quiet_of_same (prefix_any (s.extract i s.size) p false hpre _)))
  go_wp2_with fail
  go_ret
  exact ⟨rfl, (Only.refl _ _).drew _, H.out.drew _⟩
end Go.Proofs.YtkaeenafejdkfaaGreatDoor

/- The program: what kind of piece a text begins with. -/
namespace Go.Proofs.YtkaeenafejdkfaaGreatDoor
open Go.RowKit

abbrev mCom : ByteArray := ⟨#[60, 33, 45, 45]⟩
abbrev mBang : ByteArray := ⟨#[60, 33]⟩
abbrev mAsk : ByteArray := ⟨#[60, 63]⟩
abbrev mEnd : ByteArray := ⟨#[60, 47]⟩
abbrev mLt : ByteArray := ⟨#[60]⟩
/-- 0 nothing, 1 words, 2 a comment, 3 a start tag, 4 an end tag -/
def kindT (t : ByteArray) : Int :=
  if standsAt mCom t 0 then 2 else if standsAt mBang t 0 ∨ standsAt mAsk t 0 then 0
  else if standsAt mEnd t 0 ∧ 2 < t.size ∧ alphaB (bt t 2) = true then 4
  else if standsAt mLt t 0 ∧ 1 < t.size ∧ alphaB (bt t 1) = true then 3 else 1
theorem prefix_dec (t p : ByteArray) (w : World) : Calls Tryz.prog 155 #[.string t, .string p] w fun e w' => e = .returned (.bool (decide (standsAt p t 0))) ∧ w' = w := by
  refine prefix_any t p _ ?_ w
  unfold standsAt
  simp only [Nat.zero_add]
theorem first_of {t p : ByteArray} {k : Nat} (h : standsAt p t 0) (hk : k < p.size) : bt t k = p[k].toNat := by
  have h1 : 0 + p.size ≤ t.size := h.1
  have h2 : t.extract 0 (0 + p.size) = p := h.2
  rw [bt_lt (by omega)]
  have e := congrArg (fun x : ByteArray => x.data.toList[k]?) h2
  simp only [ext_list] at e
  rw [List.drop_zero, List.getElem?_take, if_pos (by omega), bytes_get t k (by omega), bytes_get p k hk] at e
  rw [Option.some.inj e]
theorem end_slash {t : ByteArray} (h : standsAt mEnd t 0) : bt t 1 = 47 := first_of (k := 1) h (by decide)
theorem lt_of_end {t : ByteArray} (h : standsAt mEnd t 0) : standsAt mLt t 0 := by
  have h0 : bt t 0 = 60 := first_of (k := 0) h (by decide)
  have hs : 0 + mEnd.size ≤ t.size := h.1
  have hs2 : 0 < t.size := by have : mEnd.size = 2 := rfl; omega
  rw [bt_lt hs2] at h0
  have h1 : t[0] = 60 := UInt8.toNat_inj.mp h0
  exact stands_one.2 (by rw [bytes_get t 0 hs2, h1])

set_option maxHeartbeats 4000000 in
set_option maxRecDepth 100000 in
theorem pbegins_any (t : ByteArray) (r : Int) (hr : r = kindT t) (w : World) :
    Calls Tryz.prog 133 #[.string t] w fun e w' => e = .returned (.int .i64 r) ∧ w' = w := by
  unfold kindT at hr
  cases e1 : decide (standsAt mCom t 0)
  rotate_left
  · rw [if_pos (of_decide_eq_true e1)] at hr
    have HR := hid hr
    clear hr
    go_enter Tryz.func133, Tryz.ntmps133
    go_wp2_with (go_at_call 155; refine (prefix_dec t _ _).mono ?_; rintro e w' ⟨rfl, rfl⟩; rw [e1])
    go_ret
    exact ⟨retn HR.out.symm, rfl⟩
  rw [if_neg (of_decide_eq_false e1)] at hr
  cases e2 : decide (standsAt mBang t 0)
  rotate_left
  · rw [if_pos (.inl (of_decide_eq_true e2))] at hr
    have HR := hid hr
    clear hr
    go_enter Tryz.func133, Tryz.ntmps133
    go_wp2_with (go_at_call 155; refine (prefix_dec t _ _).mono ?_; rintro e w' ⟨rfl, rfl⟩; first | rw [e1] | rw [e2])
    go_ret
    exact ⟨retn HR.out.symm, rfl⟩
  cases e3 : decide (standsAt mAsk t 0)
  rotate_left
  · rw [if_pos (.inr (of_decide_eq_true e3))] at hr
    have HR := hid hr
    clear hr
    go_enter Tryz.func133, Tryz.ntmps133
    go_wp2_with ((go_at_call 155; refine (prefix_dec t _ _).mono ?_; rintro e w' ⟨rfl, rfl⟩; first | rw [e1] | rw [e2] | rw [e3]))
    all_goals go_light
    all_goals first
      | (go_ret; exact ⟨retn HR.out.symm, rfl⟩)
      | (exfalso; simp_all; done)
  rw [if_neg (fun h => h.elim (of_decide_eq_false e2) (of_decide_eq_false e3))] at hr
  cases e5 : decide (standsAt mLt t 0)
  · -- no < at all: no end tag either
    have e4 : decide (standsAt mEnd t 0) = false := by
      rw [decide_eq_false_iff_not]
      intro h
      exact of_decide_eq_false e5 (lt_of_end h)
    rw [if_neg (fun h => of_decide_eq_false e4 h.1), if_neg (fun h => of_decide_eq_false e5 h.1)] at hr
    have HR := hid hr
    clear hr
    go_enter Tryz.func133, Tryz.ntmps133
    go_wp2_with ((go_at_call 155; refine (prefix_dec t _ _).mono ?_; rintro e w' ⟨rfl, rfl⟩; first | rw [e1] | rw [e2] | rw [e3] | rw [e4] | rw [e5]))
    all_goals go_light
    all_goals first
      | (go_ret; exact ⟨retn HR.out.symm, rfl⟩)
      | (exfalso; simp_all; done)
  have h1 : 1 ≤ t.size := (of_decide_eq_true e5).1
  cases e4 : decide (standsAt mEnd t 0)
  · rw [if_neg (fun h => of_decide_eq_false e4 h.1)] at hr
    by_cases h2 : 1 < t.size
    · obtain ⟨c, hc⟩ : ∃ c, t[1].toNat = c := ⟨_, rfl⟩
      rw [bt_lt h2, hc] at hr
      cases ha : alphaB c
      · rw [if_neg (fun h => by rw [ha] at h; exact absurd h.2.2 (by simp))] at hr
        have HR := hid hr
        clear hr
        go_enter Tryz.func133, Tryz.ntmps133
        go_wp2_with (first | (go_at_call 155; refine (prefix_dec t _ _).mono ?_; rintro e w' ⟨rfl, rfl⟩; first | rw [e1] | rw [e2] | rw [e3] | rw [e4] | rw [e5]) | (go_at_call 156; refine (pletter_any _ _).mono ?_; rintro e w' ⟨rfl, rfl⟩; first | rw [ha]))
        all_goals go_light
        all_goals first
          | (go_ret; exact ⟨retn HR.out.symm, rfl⟩)
          | (exfalso; simp_all; done)
      · rw [if_pos ⟨of_decide_eq_true e5, h2, ha⟩] at hr
        have HR := hid hr
        clear hr
        go_enter Tryz.func133, Tryz.ntmps133
        go_wp2_with (first | (go_at_call 155; refine (prefix_dec t _ _).mono ?_; rintro e w' ⟨rfl, rfl⟩; first | rw [e1] | rw [e2] | rw [e3] | rw [e4] | rw [e5]) | (go_at_call 156; refine (pletter_any _ _).mono ?_; rintro e w' ⟨rfl, rfl⟩; first | rw [ha]))
        all_goals go_light
        all_goals first
          | (go_ret; exact ⟨retn HR.out.symm, rfl⟩)
          | (exfalso; simp_all; done)
    · rw [if_neg (fun h => h2 h.2.1)] at hr
      have HR := hid hr
      clear hr
      go_enter Tryz.func133, Tryz.ntmps133
      go_wp2_with ((go_at_call 155; refine (prefix_dec t _ _).mono ?_; rintro e w' ⟨rfl, rfl⟩; first | rw [e1] | rw [e2] | rw [e3] | rw [e4] | rw [e5]))
      all_goals go_light
      all_goals first
        | (go_ret; exact ⟨retn HR.out.symm, rfl⟩)
        | (exfalso; simp_all; done)
  · have h2 : 1 < t.size := (of_decide_eq_true e4).1
    have h47 : bt t 1 = 47 := end_slash (of_decide_eq_true e4)
    rw [show alphaB (bt t 1) = false by rw [h47]; rfl] at hr
    obtain ⟨d, hd⟩ : ∃ c, t[1].toNat = c := ⟨_, rfl⟩
    have hd2 : alphaB d = false := by rw [← hd, ← bt_lt h2, h47]; rfl
    by_cases h3 : 2 < t.size
    · obtain ⟨c, hc⟩ : ∃ c, t[2].toNat = c := ⟨_, rfl⟩
      rw [bt_lt h3, hc] at hr
      cases ha : alphaB c
      · rw [if_neg (fun h => by rw [ha] at h; exact absurd h.2.2 (by simp)), if_neg (fun h => absurd h.2.2 (by simp))] at hr
        have HR := hid hr
        clear hr h47
        go_enter Tryz.func133, Tryz.ntmps133
        go_wp2_with (first | (go_at_call 155; refine (prefix_dec t _ _).mono ?_; rintro e w' ⟨rfl, rfl⟩; first | rw [e1] | rw [e2] | rw [e3] | rw [e4] | rw [e5]) | (go_at_call 156; refine (pletter_any _ _).mono ?_; rintro e w' ⟨rfl, rfl⟩; first | rw [ha] | rw [hd2]))
        all_goals go_light
        all_goals first
          | (go_ret; exact ⟨retn HR.out.symm, rfl⟩)
          | (exfalso; simp_all; done)
      · rw [if_pos ⟨of_decide_eq_true e4, h3, ha⟩] at hr
        have HR := hid hr
        clear hr h47
        go_enter Tryz.func133, Tryz.ntmps133
        go_wp2_with (first | (go_at_call 155; refine (prefix_dec t _ _).mono ?_; rintro e w' ⟨rfl, rfl⟩; first | rw [e1] | rw [e2] | rw [e3] | rw [e4] | rw [e5]) | (go_at_call 156; refine (pletter_any _ _).mono ?_; rintro e w' ⟨rfl, rfl⟩; first | rw [ha]))
        all_goals go_light
        all_goals first
          | (go_ret; exact ⟨retn HR.out.symm, rfl⟩)
          | (exfalso; simp_all; done)
    · rw [if_neg (fun h => h3 h.2.1), if_neg (fun h => absurd h.2.2 (by simp))] at hr
      have HR := hid hr
      clear hr h47
      go_enter Tryz.func133, Tryz.ntmps133
      go_wp2_with (first | (go_at_call 155; refine (prefix_dec t _ _).mono ?_; rintro e w' ⟨rfl, rfl⟩; first | rw [e1] | rw [e2] | rw [e3] | rw [e4] | rw [e5]) | (go_at_call 156; refine (pletter_any _ _).mono ?_; rintro e w' ⟨rfl, rfl⟩; first | rw [hd2]))
      all_goals go_light
      all_goals first
        | (go_ret; exact ⟨retn HR.out.symm, rfl⟩)
        | (exfalso; simp_all; done)
end Go.Proofs.YtkaeenafejdkfaaGreatDoor
