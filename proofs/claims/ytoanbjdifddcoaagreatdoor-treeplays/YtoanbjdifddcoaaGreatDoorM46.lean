/- Undo and Settle, as the law makes them in both trees; any change. -/
import Derived.Test.YtoanbjdifddcoaaGreatDoorTStep
import Derived.Test.YtoanbjdifddcoaaGreatDoorM40
namespace Go.Proofs.YtoanbjdifddcoaaGreatDoor
open Go.RowKit

section
variable {W : World} {X : List (Nat × Obj)} {tb rb K : Nat} {ns ms : List Nd} {past mp : List (List Nd)} {w w' : World} {M N : Nat → Lab} {nv uv nv2 uv2 : Value} {ps qs : List Pn} {us vs : List Value}
/-- the document's tree has no past any more -/
theorem BothS.bare (h : BothS W X tb rb K ns past ms mp w M N nv uv nv2 uv2 ps qs us vs) : Both W X tb rb K ns past ms [] (w.setCell ⟨rb, 1, none⟩ (.slice none 0 0)) := by
  obtain ⟨g1, g3⟩ := h.rlies.headUndos (uv' := .slice none 0 0) (us' := []) (Step.refl h.rlies.fresh .undos) (Row.nil _ _ _ _ _)
  have hwW := h.below.size
  have hb' : Below W.heap.size w (w.setCell ⟨rb, 1, none⟩ (.slice none 0 0)) := ⟨g3.os, g3.tape, g3.output, g3.size, fun b hb => g3.far b (Nat.lt_of_lt_of_le hb hwW) (h.labN b hb)⟩
  exact ⟨M, N, nv, uv, nv2, _, ps, qs, us, [], h.lies.beside g3 h.apart, g1, h.below.trans hb', h.labM, h.labN, h.apart, fun x hx => ⟨(h.held x hx).1, (h.held x hx).2.1, (g3.far _ (lt_of_heap (h.held x hx).2.2) (h.held x hx).2.1).trans (h.held x hx).2.2⟩, h.eqp, h.eqr, h.wf, h.kin, h.wfr, h.few, h.fewr, h.lu, Nat.zero_le _, StkX.map (Nat.le_refl _) (fun _ _ _ hk => hk.unjoin fun b hb h1 h2 => ⟨g3.far b hb h2, h1, h2⟩) h.stk, trivial⟩
/-- Settle -/
theorem both_settle (h : Both W X tb rb K ns past ns past w) :
    Calls Tryz.prog 37 #[.pointer (some ⟨tb, 0, none⟩)] w fun e w' => e = .returned (.tuple #[]) ∧ (∃ u, w'.cell? ⟨rb, 1, none⟩ = some u) ∧ w'.frozen? ⟨rb, 1, none⟩ = false ∧ Both W X tb rb K ns [] ns [] (w'.setCell ⟨rb, 1, none⟩ (.slice none 0 0)) := by
  obtain ⟨M, N, nv, uv, nv2, uv2, ps, qs, us, vs, hs⟩ := h
  refine (settle_any hs.lies).mono ?_
  rintro e w' ⟨rfl, g1, g2⟩
  have hb := hs.turned (past' := []) g1 hs.eqp g2 hs.wf hs.kin hs.few (fun f hf => by cases hf) (Nat.zero_le _) trivial
  obtain ⟨M, N, nv, uv, nv2, uv2, ps, qs, us, vs, hs⟩ := hb
  exact ⟨rfl, ⟨_, hs.rlies.cell1⟩, hs.rlies.frozen 1, hs.bare⟩
end

set_option maxHeartbeats 4000000 in
set_option maxRecDepth 100000 in
theorem step_settle {W : World} {tb rb K : Nat} {ns : List Nd} {past : List (List Nd)} {w : World} (h : Both W [] tb rb K ns past ns past w) (a b c : Int) (s t : ByteArray) :
    Calls Tryz.prog 7 #[.pointer (some ⟨tb, 0, none⟩), .pointer (some ⟨rb, 0, none⟩), .agg #[.int .i64 10, .int .i64 a, .int .i64 b, .int .i64 c, .string s, .string t]] w (SPost W tb rb K) := by
  have HB : Hid (∀ o, Both W [] tb rb K ns past ns past (w.alloc o)) := fun o => h.below ((Below.refl _ _).alloc (Nat.le_refl _) _)
  clear h
  go_enter Tryz.func7, Tryz.ntmps7
  go_wp2_with (go_at_call 37; refine (both_settle (HB.out _)).mono ?_; rintro e w1 ⟨rfl, ⟨u, hu⟩, hf, hB1⟩; have HB1 : Hid _ := hB1; clear hB1)
  go_ret
  exact ⟨rfl, _, _, Both.mono HB1.out (Nat.le_add_right K 2)⟩

set_option maxHeartbeats 4000000 in
set_option maxRecDepth 100000 in
theorem step_undo {W : World} {tb rb K : Nat} {ns : List Nd} {past : List (List Nd)} {w : World} (h : Both W [] tb rb K ns past ns past w) (hK : K ≤ 900) (kind a b c : Int) (s t : ByteArray) (n1 : ¬ kind = 1) (n2 : ¬ kind = 2) (n3 : ¬ kind = 3) (n4 : ¬ kind = 4) (n5 : ¬ kind = 5) (n6 : ¬ kind = 6) (n7 : ¬ kind = 7) (n8 : ¬ kind = 8) (n9 : ¬ kind = 9) (n10 : ¬ kind = 10) :
    Calls Tryz.prog 7 #[.pointer (some ⟨tb, 0, none⟩), .pointer (some ⟨rb, 0, none⟩), .agg #[.int .i64 kind, .int .i64 a, .int .i64 b, .int .i64 c, .string s, .string t]] w (SPost W tb rb K) := by
  have HB : Hid (∀ o, Both W [] tb rb K ns past ns past (w.alloc o)) := fun o => h.below ((Below.refl _ _).alloc (Nat.le_refl _) _)
  have e1 : (kind == 1) = false := by simpa using n1
  have e2 : (kind == 2) = false := by simpa using n2
  have e3 : (kind == 3) = false := by simpa using n3
  have e4 : (kind == 4) = false := by simpa using n4
  have e5 : (kind == 5) = false := by simpa using n5
  have e6 : (kind == 6) = false := by simpa using n6
  have e7 : (kind == 7) = false := by simpa using n7
  have e8 : (kind == 8) = false := by simpa using n8
  have e9 : (kind == 9) = false := by simpa using n9
  have e10 : (kind == 10) = false := by simpa using n10
  clear h
  go_enter Tryz.func7, Tryz.ntmps7
  go_wp2_with (first
    | (go_at_call 38; refine (both_undo (HB.out _) hK).mono ?_; rintro e w1 ⟨r, rfl, hR⟩; have HR : Hid _ := hR; clear hR)
    | (go_at_call 39; refine (HR.out _ (Below.refl _ _)).mono ?_; rintro e w2 ⟨rfl, ns', past', hB2⟩; have HB2 : Hid _ := hB2; clear hB2 HR))
  all_goals go_ret
  all_goals refine ⟨?_, _, _, Both.mono HB2.out (Nat.le_add_right K 2)⟩
  all_goals first | rfl | (cases r <;> rfl) | simp

theorem step_any {W : World} {tb rb K : Nat} {ns : List Nd} {past : List (List Nd)} {w : World} {A : Nat → Addr} (h : Both W [] tb rb K ns past ns past w) (hE : Errs7 W A) (hK : K ≤ 900) (o : OpD) (hs : o.s.size ≤ 9223372036854775807) (ht : o.t.size ≤ 9223372036854775807) :
    Calls Tryz.prog 7 #[.pointer (some ⟨tb, 0, none⟩), .pointer (some ⟨rb, 0, none⟩), o.val] w (SPost W tb rb K) := by
  obtain ⟨kind, a, b, c, s, t⟩ := o
  unfold OpD.val
  dsimp only at hs ht ⊢
  by_cases k1 : kind = 1
  · subst k1; exact step_element h hE hK a b c s t
  by_cases k2 : kind = 2
  · subst k2; exact step_text h hE hK a b c s t hs
  by_cases k3 : kind = 3
  · subst k3; exact step_comment h hE hK a b c s t hs
  by_cases k4 : kind = 4
  · subst k4; exact step_put h hE hK a b c s t
  by_cases k5 : kind = 5
  · subst k5; exact step_take h hE hK a b c s t
  by_cases k6 : kind = 6
  · subst k6; exact step_set h hE hK a b c s t ht
  by_cases k7 : kind = 7
  · subst k7; exact step_unset h hE hK a b c s t
  by_cases k8 : kind = 8
  · subst k8; exact step_say h hE hK a b c s t hs
  by_cases k9 : kind = 9
  · subst k9; exact step_copy h hE hK a b c s t
  by_cases k10 : kind = 10
  · subst k10; exact step_settle h a b c s t
  exact step_undo h hK kind a b c s t k1 k2 k3 k4 k5 k6 k7 k8 k9 k10
end Go.Proofs.YtoanbjdifddcoaaGreatDoor

/- Two lists of attributes that are one. -/
namespace Go.Proofs.YtoanbjdifddcoaaGreatDoor
open Go.RowKit

set_option maxHeartbeats 4000000 in
set_option maxRecDepth 100000 in
theorem sameAttrs_any {w : World} {v u : Value} {l : List (ByteArray × ByteArray)} (hv : AttrsAt w v l) (hu : AttrsAt w u l) (hl : l.length ≤ 1099511627776) :
    Calls Tryz.prog 14 #[v, u] w fun e w' => e = .returned (.bool true) ∧ Below w.heap.size w w' := by
  obtain ⟨a, c, rfl, ha⟩ := hv
  obtain ⟨b, d, rfl, hb⟩ := hu
  have HA : Hid _ := ha
  have HB : Hid _ := hb
  clear ha hb
  go_enter Tryz.func14, Tryz.ntmps14
  go_wp2
  go_loopw [5] (fun i wr => ∃ k : Nat, k ≤ l.length ∧ i = .int .i64 k ∧ Hid (Below w.heap.size w wr)) (fun i _ => l.length - (intOf i).toNat)
  case atStart => exact ⟨0, by omega, rfl, Below.refl _ _⟩
  case round =>
    obtain ⟨k, hk, rfl, hbel⟩ := hrel
    by_cases hlt : k < l.length
    · obtain ⟨⟨yn, yv⟩, hy⟩ : ∃ y, l[k]? = some y := ⟨_, List.getElem?_eq_getElem hlt⟩
      obtain ⟨g, rfl, e1, f1⟩ := HA.out k _ hy
      obtain ⟨g2, rfl, e2, f2⟩ := HB.out k _ hy
      have e1' := (hbel.out.cell (p := ⟨g, k * 2, none⟩) (World.block_lt_of_cell? w _ e1)).trans e1
      have e2' := (hbel.out.cell (p := ⟨g2, k * 2, none⟩) (World.block_lt_of_cell? w _ e2)).trans e2
      have f1' := (hbel.out.cell (p := ⟨g, k * 2 + 1, none⟩) (World.block_lt_of_cell? w _ f1)).trans f1
      have f2' := (hbel.out.cell (p := ⟨g2, k * 2 + 1, none⟩) (World.block_lt_of_cell? w _ f2)).trans f2
      dsimp only at e1' e2' f1' f2'
      clear hy e1 e2 f1 f2
      go_wp2
      go_quiet (fail)
      go_wp2
      go_roundw
      case rel => exact ⟨k + 1, by omega, by go_num, below_drewN hbel.out _⟩
      case measure => simp [intOf]; omega
    · go_wp2
      go_ret
      exact ⟨rfl, hbel.out⟩
end Go.Proofs.YtoanbjdifddcoaaGreatDoor
