/- One change, as the law makes it in both trees. -/
import Derived.Test.YtoanbjdifddcoaaGreatDoorM38
import Derived.Test.YtoanbjdifddcoaaGreatDoorTOps3
namespace Go.Proofs.YtoanbjdifddcoaaGreatDoor
open Go.RowKit

set_option maxHeartbeats 1000000 in
theorem code_nil (w : World) : Calls Tryz.prog 57 #[.nilIface] w fun e w' => e = .returned (.tuple #[.int .i64 0, .int .i64 (-1)]) ∧ w' = w := by
  go_enter Tryz.func57, Tryz.ntmps57
  go_wp2
  go_ret2
  exact ⟨rfl, rfl⟩
set_option maxHeartbeats 1000000 in
theorem coded_nil (w : World) : Calls Tryz.prog 26 #[.nilIface, .int .i64 0] w fun e w' => e = .returned (.bool true) ∧ w' = w := by
  go_enter Tryz.func26, Tryz.ntmps26
  go_wp2_with (go_at_call 57; refine (code_nil _).mono ?_; rintro e w' ⟨rfl, hw⟩; subst hw)
  go_ret
  exact ⟨rfl, rfl⟩
set_option maxHeartbeats 1000000 in
theorem made_fail {w : World} {A : Nat → Addr} (h : Errs7 w A) (k : Nat) (hk : k < 7) :
    Calls Tryz.prog 22 #[.int .i64 0, .iface 149 (.pointer (some (A k))), .int .i64 0, .int .i64 ((k + 1 : Nat) : Int)] w fun e w' => e = .returned (.bool true) ∧ Below w.heap.size w w' := by
  have H : Hid (Errs7 w A) := h
  clear h
  obtain ⟨c, hc⟩ : ∃ c : Int, c = ((k + 1 : Nat) : Int) := ⟨_, rfl⟩
  have h0 : 0 < c := by omega
  have h1 : c ≤ 7 := by omega
  have HC : Hid (Calls Tryz.prog 26 #[.iface 149 (.pointer (some (A k))), .int .i64 c] w fun e w' => e = .returned (.bool true) ∧ Below w.heap.size w w') := hc ▸ coded_any H.out k hk
  rw [← hc]
  clear hc
  go_enter Tryz.func22, Tryz.ntmps22
  go_wp2_with (go_at_call 26; refine HC.out.mono ?_; rintro e w' ⟨rfl, hb⟩)
  go_ret
  exact ⟨rfl, hb⟩
set_option maxHeartbeats 1000000 in
theorem made_ok (w : World) (n : Nat) :
    Calls Tryz.prog 22 #[.int .i64 n, .nilIface, .int .i64 n, .int .i64 0] w fun e w' => e = .returned (.bool true) ∧ Below w.heap.size w w' := by
  go_enter Tryz.func22, Tryz.ntmps22
  go_wp2
  go_ret
  exact ⟨rfl, Below.refl _ _⟩

/-- what is handed over to make a change -/
structure OpD where
  kind : Int
  a : Int
  b : Int
  c : Int
  s : ByteArray
  t : ByteArray
def OpD.val (o : OpD) : Value := .agg #[.int .i64 o.kind, .int .i64 o.a, .int .i64 o.b, .int .i64 o.c, .string o.s, .string o.t]

section
variable {W : World} {X : List (Nat × Obj)} {tb rb K : Nat} {ns : List Nd} {past : List (List Nd)} {w w' : World} {A : Nat → Addr} {g : FuncId} {args : Array Value} {e : Ending}
theorem twice1 (h : Twice W X tb rb K ns past A sh1 g args e w') : (∃ (k : Nat) (c : Int), (0 < c ∧ c ≤ 7 ∧ ∀ w, Errs7 w A → Calls Tryz.prog 26 #[.iface 149 (.pointer (some (A k))), .int .i64 c] w fun e w' => e = .returned (.bool true) ∧ Below w.heap.size w w') ∧ e = .returned (.iface 149 (.pointer (some (A k)))) ∧ Both W X tb rb K ns past ns past w' ∧ ∀ w'', Below w'.heap.size w' w'' → Calls Tryz.prog g args w'' fun e w3 => e = .returned (.int .i64 c) ∧ Both W X tb rb K ns past ns past w3) ∨
    ∃ ns', e = .returned .nilIface ∧ Both W X tb rb (K + 1) ns' (ns :: past) ns past w' ∧ ∀ w'', Below w'.heap.size w' w'' → Calls Tryz.prog g args w'' fun e w3 => e = .returned (.int .i64 0) ∧ Both W X tb rb (K + 2) ns' (ns :: past) ns' (ns :: past) w3 := by
  obtain ⟨o, h1, h2⟩ := h
  cases o with
  | fail k => exact .inl ⟨k, ((k + 1 : Nat) : Int), ⟨by omega, by have := h1.1; omega, fun w hw => coded_any hw k h1.1⟩, h1.2.1, h1.2.2, h2⟩
  | ok ns' => exact .inr ⟨ns', h1.1, h1.2, h2⟩
theorem twiceM {n : Nat} (h : Twice W X tb rb K ns past A (shM n) g args e w') : (∃ (k : Nat) (c : Int), (0 < c ∧ c ≤ 7 ∧ ∀ w, Errs7 w A → Calls Tryz.prog 22 #[.int .i64 0, .iface 149 (.pointer (some (A k))), .int .i64 0, .int .i64 c] w fun e w' => e = .returned (.bool true) ∧ Below w.heap.size w w') ∧ e = .returned (.tuple #[.int .i64 0, .iface 149 (.pointer (some (A k)))]) ∧ Both W X tb rb K ns past ns past w' ∧ ∀ w'', Below w'.heap.size w' w'' → Calls Tryz.prog g args w'' fun e w3 => e = .returned (.tuple #[.int .i64 0, .int .i64 c]) ∧ Both W X tb rb K ns past ns past w3) ∨
    ∃ ns', e = .returned (.tuple #[.int .i64 n, .nilIface]) ∧ Both W X tb rb (K + 1) ns' (ns :: past) ns past w' ∧ ∀ w'', Below w'.heap.size w' w'' → Calls Tryz.prog g args w'' fun e w3 => e = .returned (.tuple #[.int .i64 n, .int .i64 0]) ∧ Both W X tb rb (K + 2) ns' (ns :: past) ns' (ns :: past) w3 := by
  obtain ⟨o, h1, h2⟩ := h
  cases o with
  | fail k => exact .inl ⟨k, ((k + 1 : Nat) : Int), ⟨by omega, by have := h1.1; omega, fun w hw => made_fail hw k h1.1⟩, h1.2.1, h1.2.2, h2⟩
  | ok ns' => exact .inr ⟨ns', h1.1, h1.2, h2⟩
end

/-- both trees moved on alike -/
def SPost (W : World) (tb rb K : Nat) (e : Ending) (w' : World) : Prop := e = .returned (.bool true) ∧ ∃ ns past, Both W [] tb rb (K + 2) ns past ns past w'

set_option maxHeartbeats 4000000 in
set_option maxRecDepth 100000 in
theorem step_put {W : World} {tb rb K : Nat} {ns : List Nd} {past : List (List Nd)} {w : World} {A : Nat → Addr} (h : Both W [] tb rb K ns past ns past w) (hE : Errs7 W A) (hK : K ≤ 900) (a b c : Int) (s t : ByteArray) :
    Calls Tryz.prog 7 #[.pointer (some ⟨tb, 0, none⟩), .pointer (some ⟨rb, 0, none⟩), .agg #[.int .i64 4, .int .i64 a, .int .i64 b, .int .i64 c, .string s, .string t]] w (SPost W tb rb K) := by
  have HE : Hid (Errs7 W A) := hE
  have HB : Hid (Both W [(w.heap.size, .cells #[.int .i64 4, .int .i64 a, .int .i64 b, .int .i64 c, .string s, .string t] 33)] tb rb K ns past ns past (w.alloc (.cells #[.int .i64 4, .int .i64 a, .int .i64 b, .int .i64 c, .string s, .string t] 33))) := h.hold _
  clear h hE
  go_enter Tryz.func7, Tryz.ntmps7
  go_wp2_with (first
    | (go_at_call 25; refine (both_put HB.out HE.out hK a b c).mono ?_; rintro e w1 hT; rcases twice1 hT with ⟨k, c', ⟨hc0, hc7, hcd⟩, rfl, hB1, hR⟩ | ⟨ns', rfl, hB1, hR⟩ <;> (obtain ⟨d0, d1, d2, d3, d4, d5⟩ := six_cells (hB1.heldAt (List.mem_cons_self ..)); have HR : Hid _ := hR; clear hR hT hB1; try (have HCD : Hid _ := hcd; clear hcd)))
    | (go_at_call 27; refine (HR.out _ (Below.refl _ _)).mono ?_; rintro e w2 ⟨rfl, hB2⟩; have HB2 : Hid _ := hB2; clear hB2 HR))
  · refine (HCD.out _ (HE.out.below (Both.toW HB2.out))).mono ?_
    rintro e w3 ⟨rfl, hb3⟩
    have HB3 : Hid _ := Both.mono (Both.loose (Both.below HB2.out hb3)) (Nat.le_add_right K 2)
    clear hb3
    go_wp2
    go_ret
    exact ⟨rfl, _, _, HB3.out⟩
  · refine (coded_nil _).mono ?_
    rintro e w3 ⟨rfl, hw3⟩
    subst hw3
    have HB3 : Hid _ := Both.loose HB2.out
    go_wp2
    go_ret
    exact ⟨rfl, _, _, HB3.out⟩

set_option maxHeartbeats 4000000 in
set_option maxRecDepth 100000 in
theorem step_take {W : World} {tb rb K : Nat} {ns : List Nd} {past : List (List Nd)} {w : World} {A : Nat → Addr} (h : Both W [] tb rb K ns past ns past w) (hE : Errs7 W A) (hK : K ≤ 900) (a b c : Int) (s t : ByteArray) :
    Calls Tryz.prog 7 #[.pointer (some ⟨tb, 0, none⟩), .pointer (some ⟨rb, 0, none⟩), .agg #[.int .i64 5, .int .i64 a, .int .i64 b, .int .i64 c, .string s, .string t]] w (SPost W tb rb K) := by
  have HE : Hid (Errs7 W A) := hE
  have HB : Hid (Both W [(w.heap.size, .cells #[.int .i64 5, .int .i64 a, .int .i64 b, .int .i64 c, .string s, .string t] 33)] tb rb K ns past ns past (w.alloc (.cells #[.int .i64 5, .int .i64 a, .int .i64 b, .int .i64 c, .string s, .string t] 33))) := h.hold _
  clear h hE
  go_enter Tryz.func7, Tryz.ntmps7
  go_wp2_with (first
    | (go_at_call 28; refine (both_take HB.out HE.out hK a).mono ?_; rintro e w1 hT; rcases twice1 hT with ⟨k, c', ⟨hc0, hc7, hcd⟩, rfl, hB1, hR⟩ | ⟨ns', rfl, hB1, hR⟩ <;> (obtain ⟨d0, d1, d2, d3, d4, d5⟩ := six_cells (hB1.heldAt (List.mem_cons_self ..)); have HR : Hid _ := hR; clear hR hT hB1; try (have HCD : Hid _ := hcd; clear hcd)))
    | (go_at_call 29; refine (HR.out _ (Below.refl _ _)).mono ?_; rintro e w2 ⟨rfl, hB2⟩; have HB2 : Hid _ := hB2; clear hB2 HR))
  · refine (HCD.out _ (HE.out.below (Both.toW HB2.out))).mono ?_
    rintro e w3 ⟨rfl, hb3⟩
    have HB3 : Hid _ := Both.mono (Both.loose (Both.below HB2.out hb3)) (Nat.le_add_right K 2)
    clear hb3
    go_wp2
    go_ret
    exact ⟨rfl, _, _, HB3.out⟩
  · refine (coded_nil _).mono ?_
    rintro e w3 ⟨rfl, hw3⟩
    subst hw3
    have HB3 : Hid _ := Both.loose HB2.out
    go_wp2
    go_ret
    exact ⟨rfl, _, _, HB3.out⟩

set_option maxHeartbeats 4000000 in
set_option maxRecDepth 100000 in
theorem step_set {W : World} {tb rb K : Nat} {ns : List Nd} {past : List (List Nd)} {w : World} {A : Nat → Addr} (h : Both W [] tb rb K ns past ns past w) (hE : Errs7 W A) (hK : K ≤ 900) (a b c : Int) (s t : ByteArray) (hz : t.size ≤ 9223372036854775807) :
    Calls Tryz.prog 7 #[.pointer (some ⟨tb, 0, none⟩), .pointer (some ⟨rb, 0, none⟩), .agg #[.int .i64 6, .int .i64 a, .int .i64 b, .int .i64 c, .string s, .string t]] w (SPost W tb rb K) := by
  have HE : Hid (Errs7 W A) := hE
  have HB : Hid (Both W [(w.heap.size, .cells #[.int .i64 6, .int .i64 a, .int .i64 b, .int .i64 c, .string s, .string t] 33)] tb rb K ns past ns past (w.alloc (.cells #[.int .i64 6, .int .i64 a, .int .i64 b, .int .i64 c, .string s, .string t] 33))) := h.hold _
  clear h hE
  go_enter Tryz.func7, Tryz.ntmps7
  go_wp2_with (first
    | (go_at_call 30; refine (both_set HB.out HE.out hK a s t hz).mono ?_; rintro e w1 hT; rcases twice1 hT with ⟨k, c', ⟨hc0, hc7, hcd⟩, rfl, hB1, hR⟩ | ⟨ns', rfl, hB1, hR⟩ <;> (obtain ⟨d0, d1, d2, d3, d4, d5⟩ := six_cells (hB1.heldAt (List.mem_cons_self ..)); have HR : Hid _ := hR; clear hR hT hB1; try (have HCD : Hid _ := hcd; clear hcd)))
    | (go_at_call 31; refine (HR.out _ (Below.refl _ _)).mono ?_; rintro e w2 ⟨rfl, hB2⟩; have HB2 : Hid _ := hB2; clear hB2 HR))
  · refine (HCD.out _ (HE.out.below (Both.toW HB2.out))).mono ?_
    rintro e w3 ⟨rfl, hb3⟩
    have HB3 : Hid _ := Both.mono (Both.loose (Both.below HB2.out hb3)) (Nat.le_add_right K 2)
    clear hb3
    go_wp2
    go_ret
    exact ⟨rfl, _, _, HB3.out⟩
  · refine (coded_nil _).mono ?_
    rintro e w3 ⟨rfl, hw3⟩
    subst hw3
    have HB3 : Hid _ := Both.loose HB2.out
    go_wp2
    go_ret
    exact ⟨rfl, _, _, HB3.out⟩

set_option maxHeartbeats 4000000 in
set_option maxRecDepth 100000 in
theorem step_unset {W : World} {tb rb K : Nat} {ns : List Nd} {past : List (List Nd)} {w : World} {A : Nat → Addr} (h : Both W [] tb rb K ns past ns past w) (hE : Errs7 W A) (hK : K ≤ 900) (a b c : Int) (s t : ByteArray) :
    Calls Tryz.prog 7 #[.pointer (some ⟨tb, 0, none⟩), .pointer (some ⟨rb, 0, none⟩), .agg #[.int .i64 7, .int .i64 a, .int .i64 b, .int .i64 c, .string s, .string t]] w (SPost W tb rb K) := by
  have HE : Hid (Errs7 W A) := hE
  have HB : Hid (Both W [(w.heap.size, .cells #[.int .i64 7, .int .i64 a, .int .i64 b, .int .i64 c, .string s, .string t] 33)] tb rb K ns past ns past (w.alloc (.cells #[.int .i64 7, .int .i64 a, .int .i64 b, .int .i64 c, .string s, .string t] 33))) := h.hold _
  clear h hE
  go_enter Tryz.func7, Tryz.ntmps7
  go_wp2_with (first
    | (go_at_call 32; refine (both_unset HB.out HE.out hK a s).mono ?_; rintro e w1 hT; rcases twice1 hT with ⟨k, c', ⟨hc0, hc7, hcd⟩, rfl, hB1, hR⟩ | ⟨ns', rfl, hB1, hR⟩ <;> (obtain ⟨d0, d1, d2, d3, d4, d5⟩ := six_cells (hB1.heldAt (List.mem_cons_self ..)); have HR : Hid _ := hR; clear hR hT hB1; try (have HCD : Hid _ := hcd; clear hcd)))
    | (go_at_call 31; refine (HR.out _ (Below.refl _ _)).mono ?_; rintro e w2 ⟨rfl, hB2⟩; have HB2 : Hid _ := hB2; clear hB2 HR))
  · refine (HCD.out _ (HE.out.below (Both.toW HB2.out))).mono ?_
    rintro e w3 ⟨rfl, hb3⟩
    have HB3 : Hid _ := Both.mono (Both.loose (Both.below HB2.out hb3)) (Nat.le_add_right K 2)
    clear hb3
    go_wp2
    go_ret
    exact ⟨rfl, _, _, HB3.out⟩
  · refine (coded_nil _).mono ?_
    rintro e w3 ⟨rfl, hw3⟩
    subst hw3
    have HB3 : Hid _ := Both.loose HB2.out
    go_wp2
    go_ret
    exact ⟨rfl, _, _, HB3.out⟩

set_option maxHeartbeats 4000000 in
set_option maxRecDepth 100000 in
theorem step_say {W : World} {tb rb K : Nat} {ns : List Nd} {past : List (List Nd)} {w : World} {A : Nat → Addr} (h : Both W [] tb rb K ns past ns past w) (hE : Errs7 W A) (hK : K ≤ 900) (a b c : Int) (s t : ByteArray) (hz : s.size ≤ 9223372036854775807) :
    Calls Tryz.prog 7 #[.pointer (some ⟨tb, 0, none⟩), .pointer (some ⟨rb, 0, none⟩), .agg #[.int .i64 8, .int .i64 a, .int .i64 b, .int .i64 c, .string s, .string t]] w (SPost W tb rb K) := by
  have HE : Hid (Errs7 W A) := hE
  have HB : Hid (Both W [(w.heap.size, .cells #[.int .i64 8, .int .i64 a, .int .i64 b, .int .i64 c, .string s, .string t] 33)] tb rb K ns past ns past (w.alloc (.cells #[.int .i64 8, .int .i64 a, .int .i64 b, .int .i64 c, .string s, .string t] 33))) := h.hold _
  clear h hE
  go_enter Tryz.func7, Tryz.ntmps7
  go_wp2_with (first
    | (go_at_call 33; refine (both_say HB.out HE.out hK a s hz).mono ?_; rintro e w1 hT; rcases twice1 hT with ⟨k, c', ⟨hc0, hc7, hcd⟩, rfl, hB1, hR⟩ | ⟨ns', rfl, hB1, hR⟩ <;> (obtain ⟨d0, d1, d2, d3, d4, d5⟩ := six_cells (hB1.heldAt (List.mem_cons_self ..)); have HR : Hid _ := hR; clear hR hT hB1; try (have HCD : Hid _ := hcd; clear hcd)))
    | (go_at_call 34; refine (HR.out _ (Below.refl _ _)).mono ?_; rintro e w2 ⟨rfl, hB2⟩; have HB2 : Hid _ := hB2; clear hB2 HR))
  · refine (HCD.out _ (HE.out.below (Both.toW HB2.out))).mono ?_
    rintro e w3 ⟨rfl, hb3⟩
    have HB3 : Hid _ := Both.mono (Both.loose (Both.below HB2.out hb3)) (Nat.le_add_right K 2)
    clear hb3
    go_wp2
    go_ret
    exact ⟨rfl, _, _, HB3.out⟩
  · refine (coded_nil _).mono ?_
    rintro e w3 ⟨rfl, hw3⟩
    subst hw3
    have HB3 : Hid _ := Both.loose HB2.out
    go_wp2
    go_ret
    exact ⟨rfl, _, _, HB3.out⟩

set_option maxHeartbeats 4000000 in
set_option maxRecDepth 100000 in
theorem step_element {W : World} {tb rb K : Nat} {ns : List Nd} {past : List (List Nd)} {w : World} {A : Nat → Addr} (h : Both W [] tb rb K ns past ns past w) (hE : Errs7 W A) (hK : K ≤ 900) (a b c : Int) (s t : ByteArray) :
    Calls Tryz.prog 7 #[.pointer (some ⟨tb, 0, none⟩), .pointer (some ⟨rb, 0, none⟩), .agg #[.int .i64 1, .int .i64 a, .int .i64 b, .int .i64 c, .string s, .string t]] w (SPost W tb rb K) := by
  have HE : Hid (Errs7 W A) := hE
  have HB : Hid (Both W [(w.heap.size, .cells #[.int .i64 1, .int .i64 a, .int .i64 b, .int .i64 c, .string s, .string t] 33)] tb rb K ns past ns past (w.alloc (.cells #[.int .i64 1, .int .i64 a, .int .i64 b, .int .i64 c, .string s, .string t] 33))) := h.hold _
  clear h hE
  go_enter Tryz.func7, Tryz.ntmps7
  go_wp2_with (first
    | (go_at_call 20; refine (both_element HB.out HE.out hK s).mono ?_; rintro e w1 hT; rcases twiceM hT with ⟨k, c', ⟨hc0, hc7, hcd⟩, rfl, hB1, hR⟩ | ⟨ns', rfl, hB1, hR⟩ <;> (obtain ⟨d0, d1, d2, d3, d4, d5⟩ := six_cells (hB1.heldAt (List.mem_cons_self ..)); have HR : Hid _ := hR; clear hR hT hB1; try (have HCD : Hid _ := hcd; clear hcd)))
    | (go_at_call 21; refine (HR.out _ (Below.refl _ _)).mono ?_; rintro e w2 ⟨rfl, hB2⟩; have HB2 : Hid _ := hB2; clear hB2 HR))
  · refine (HCD.out _ (HE.out.below (Both.toW HB2.out))).mono ?_
    rintro e w3 ⟨rfl, hb3⟩
    have HB3 : Hid _ := Both.mono (Both.loose (Both.below HB2.out hb3)) (Nat.le_add_right K 2)
    clear hb3
    go_wp2
    go_ret
    exact ⟨rfl, _, _, HB3.out⟩
  · refine (made_ok _ _).mono ?_
    rintro e w3 ⟨rfl, hb3⟩
    have HB3 : Hid _ := Both.loose (Both.below HB2.out hb3)
    clear hb3
    go_wp2
    go_ret
    exact ⟨rfl, _, _, HB3.out⟩

set_option maxHeartbeats 4000000 in
set_option maxRecDepth 100000 in
theorem step_text {W : World} {tb rb K : Nat} {ns : List Nd} {past : List (List Nd)} {w : World} {A : Nat → Addr} (h : Both W [] tb rb K ns past ns past w) (hE : Errs7 W A) (hK : K ≤ 900) (a b c : Int) (s t : ByteArray) (hz : s.size ≤ 9223372036854775807) :
    Calls Tryz.prog 7 #[.pointer (some ⟨tb, 0, none⟩), .pointer (some ⟨rb, 0, none⟩), .agg #[.int .i64 2, .int .i64 a, .int .i64 b, .int .i64 c, .string s, .string t]] w (SPost W tb rb K) := by
  have HE : Hid (Errs7 W A) := hE
  have HB : Hid (Both W [(w.heap.size, .cells #[.int .i64 2, .int .i64 a, .int .i64 b, .int .i64 c, .string s, .string t] 33)] tb rb K ns past ns past (w.alloc (.cells #[.int .i64 2, .int .i64 a, .int .i64 b, .int .i64 c, .string s, .string t] 33))) := h.hold _
  clear h hE
  go_enter Tryz.func7, Tryz.ntmps7
  go_wp2_with (first
    | (go_at_call 23; refine (both_text HB.out HE.out hK s hz).mono ?_; rintro e w1 hT; rcases twiceM hT with ⟨k, c', ⟨hc0, hc7, hcd⟩, rfl, hB1, hR⟩ | ⟨ns', rfl, hB1, hR⟩ <;> (obtain ⟨d0, d1, d2, d3, d4, d5⟩ := six_cells (hB1.heldAt (List.mem_cons_self ..)); have HR : Hid _ := hR; clear hR hT hB1; try (have HCD : Hid _ := hcd; clear hcd)))
    | (go_at_call 21; refine (HR.out _ (Below.refl _ _)).mono ?_; rintro e w2 ⟨rfl, hB2⟩; have HB2 : Hid _ := hB2; clear hB2 HR))
  · refine (HCD.out _ (HE.out.below (Both.toW HB2.out))).mono ?_
    rintro e w3 ⟨rfl, hb3⟩
    have HB3 : Hid _ := Both.mono (Both.loose (Both.below HB2.out hb3)) (Nat.le_add_right K 2)
    clear hb3
    go_wp2
    go_ret
    exact ⟨rfl, _, _, HB3.out⟩
  · refine (made_ok _ _).mono ?_
    rintro e w3 ⟨rfl, hb3⟩
    have HB3 : Hid _ := Both.loose (Both.below HB2.out hb3)
    clear hb3
    go_wp2
    go_ret
    exact ⟨rfl, _, _, HB3.out⟩

set_option maxHeartbeats 4000000 in
set_option maxRecDepth 100000 in
theorem step_comment {W : World} {tb rb K : Nat} {ns : List Nd} {past : List (List Nd)} {w : World} {A : Nat → Addr} (h : Both W [] tb rb K ns past ns past w) (hE : Errs7 W A) (hK : K ≤ 900) (a b c : Int) (s t : ByteArray) (hz : s.size ≤ 9223372036854775807) :
    Calls Tryz.prog 7 #[.pointer (some ⟨tb, 0, none⟩), .pointer (some ⟨rb, 0, none⟩), .agg #[.int .i64 3, .int .i64 a, .int .i64 b, .int .i64 c, .string s, .string t]] w (SPost W tb rb K) := by
  have HE : Hid (Errs7 W A) := hE
  have HB : Hid (Both W [(w.heap.size, .cells #[.int .i64 3, .int .i64 a, .int .i64 b, .int .i64 c, .string s, .string t] 33)] tb rb K ns past ns past (w.alloc (.cells #[.int .i64 3, .int .i64 a, .int .i64 b, .int .i64 c, .string s, .string t] 33))) := h.hold _
  clear h hE
  go_enter Tryz.func7, Tryz.ntmps7
  go_wp2_with (first
    | (go_at_call 24; refine (both_comment HB.out HE.out hK s hz).mono ?_; rintro e w1 hT; rcases twiceM hT with ⟨k, c', ⟨hc0, hc7, hcd⟩, rfl, hB1, hR⟩ | ⟨ns', rfl, hB1, hR⟩ <;> (obtain ⟨d0, d1, d2, d3, d4, d5⟩ := six_cells (hB1.heldAt (List.mem_cons_self ..)); have HR : Hid _ := hR; clear hR hT hB1; try (have HCD : Hid _ := hcd; clear hcd)))
    | (go_at_call 21; refine (HR.out _ (Below.refl _ _)).mono ?_; rintro e w2 ⟨rfl, hB2⟩; have HB2 : Hid _ := hB2; clear hB2 HR))
  · refine (HCD.out _ (HE.out.below (Both.toW HB2.out))).mono ?_
    rintro e w3 ⟨rfl, hb3⟩
    have HB3 : Hid _ := Both.mono (Both.loose (Both.below HB2.out hb3)) (Nat.le_add_right K 2)
    clear hb3
    go_wp2
    go_ret
    exact ⟨rfl, _, _, HB3.out⟩
  · refine (made_ok _ _).mono ?_
    rintro e w3 ⟨rfl, hb3⟩
    have HB3 : Hid _ := Both.loose (Both.below HB2.out hb3)
    clear hb3
    go_wp2
    go_ret
    exact ⟨rfl, _, _, HB3.out⟩

set_option maxHeartbeats 4000000 in
set_option maxRecDepth 100000 in
theorem step_copy {W : World} {tb rb K : Nat} {ns : List Nd} {past : List (List Nd)} {w : World} {A : Nat → Addr} (h : Both W [] tb rb K ns past ns past w) (hE : Errs7 W A) (hK : K ≤ 900) (a b c : Int) (s t : ByteArray) :
    Calls Tryz.prog 7 #[.pointer (some ⟨tb, 0, none⟩), .pointer (some ⟨rb, 0, none⟩), .agg #[.int .i64 9, .int .i64 a, .int .i64 b, .int .i64 c, .string s, .string t]] w (SPost W tb rb K) := by
  have HE : Hid (Errs7 W A) := hE
  have HB : Hid (Both W [(w.heap.size, .cells #[.int .i64 9, .int .i64 a, .int .i64 b, .int .i64 c, .string s, .string t] 33)] tb rb K ns past ns past (w.alloc (.cells #[.int .i64 9, .int .i64 a, .int .i64 b, .int .i64 c, .string s, .string t] 33))) := h.hold _
  clear h hE
  go_enter Tryz.func7, Tryz.ntmps7
  go_wp2_with (first
    | (go_at_call 35; refine (both_copy HB.out HE.out hK a).mono ?_; rintro e w1 hT; rcases twiceM hT with ⟨k, c', ⟨hc0, hc7, hcd⟩, rfl, hB1, hR⟩ | ⟨ns', rfl, hB1, hR⟩ <;> (obtain ⟨d0, d1, d2, d3, d4, d5⟩ := six_cells (hB1.heldAt (List.mem_cons_self ..)); have HR : Hid _ := hR; clear hR hT hB1; try (have HCD : Hid _ := hcd; clear hcd)))
    | (go_at_call 36; refine (HR.out _ (Below.refl _ _)).mono ?_; rintro e w2 ⟨rfl, hB2⟩; have HB2 : Hid _ := hB2; clear hB2 HR))
  · refine (HCD.out _ (HE.out.below (Both.toW HB2.out))).mono ?_
    rintro e w3 ⟨rfl, hb3⟩
    have HB3 : Hid _ := Both.mono (Both.loose (Both.below HB2.out hb3)) (Nat.le_add_right K 2)
    clear hb3
    go_wp2
    go_ret
    exact ⟨rfl, _, _, HB3.out⟩
  · refine (made_ok _ _).mono ?_
    rintro e w3 ⟨rfl, hb3⟩
    have HB3 : Hid _ := Both.loose (Both.below HB2.out hb3)
    clear hb3
    go_wp2
    go_ret
    exact ⟨rfl, _, _, HB3.out⟩

end Go.Proofs.YtoanbjdifddcoaaGreatDoor
