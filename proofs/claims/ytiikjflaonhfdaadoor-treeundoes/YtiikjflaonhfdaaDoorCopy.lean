/- Copy, of any tree. -/
import Derived.Test.YtiikjflaonhfdaaDoorDbl
namespace Go.Proofs.YtiikjflaonhfdaaDoor
open Go.RowKit

set_option maxHeartbeats 1000000 in
theorem room_gen {w : World} {M : Nat → Lab} {tb : Nat} {nv uv : Value} {ps : List Pn} {us : List Value} (h : Lies w M tb nv uv ps us) (h4 : ps.length ≤ 400) (more : Nat) (hm : more ≤ 400) :
    Calls Tryd.prog 37 #[.pointer (some ⟨tb, 0, none⟩), .int .i64 more] w fun e w' => e = .returned (.bool (decide (ps.length + more ≤ 400))) ∧ w' = w := by
  obtain ⟨a, cap, rfl, hc, hm⟩ := h.nodes.shape
  have c0 := h.cell0
  unfold maxLen at hm
  clear h
  go_enter Tryd.func37, Tryd.ntmps37
  go_wp2
  all_goals go_ret
  all_goals refine ⟨ret_bool ?_, rfl⟩
  all_goals (simp; try omega)

theorem own_moved {w w' : World} {M M' : Nat → Lab} {B : Nat} {v : Value} {n : Nat} {xs : List Value} (h : w.ownsRow B 3 1 v n xs) (m : Moved w M w' M') (hl : ∀ k, v.ownBlock = some k → M k = .other) : w'.ownsRow B 3 1 v n xs ∧ ∀ k, v.ownBlock = some k → M' k = .other := by
  refine ⟨⟨h.1, ?_⟩, fun k hk => (m.lab k (h.lt k hk).2).trans (hl k hk)⟩
  rcases h.2 with h0 | ⟨g, cap, cur, rfl, h1, h2, h3⟩
  · exact .inl h0
  · exact .inr ⟨g, cap, cur, rfl, h1, (m.far g (lt_of_heap h2) (hl g rfl)).trans h2, h3⟩

set_option maxHeartbeats 4000000 in
set_option maxRecDepth 100000 in
theorem copy_any {w : World} {M : Nat → Lab} {tb : Nat} {nv uv : Value} {ps : List Pn} {us : List Value} (h : Lies w M tb nv uv ps us) (hE : Errs w M) (hW : WF (nodesOf ps)) {K : Nat} (hF : Few (nodesOf ps) K) (hK : K ≤ 1000000) (hu : us.length ≤ 1000000) (a : Int) :
    Calls Tryd.prog 30 #[.pointer (some ⟨tb, 0, none⟩), .int .i64 a] w fun e w' => (∃ v, e = .returned v) ∧ (Below w.heap.size w w' ∨ Done w M tb ps us K w') := by
  obtain ⟨t1, a1, hc1⟩ := hE.cell 4 (by decide)
  obtain ⟨t2, a2, hc2⟩ := hE.cell 5 (by decide)
  obtain ⟨t3, a3, hc3⟩ := hE.cell 3 (by decide)
  have l3 : 3 < w.heap.size := World.block_lt_of_cell? w _ hc3
  have H : Hid (Lies w M tb nv uv ps us) := h
  have hln : (nodesOf ps).length = ps.length := by simp [nodesOf]
  have hpl : ps.length ≤ 400 := by have := hW.len; omega
  have HW : Hid (WF (nodesOf ps)) := hW
  have HF : Hid (Few (nodesOf ps) K) := hF
  clear h hE hW hF
  cases hb : hasB ps.length a
  · go_enter Tryd.func30, Tryd.ntmps30
    go_wp2_with (go_at_call 41; refine (has_any H.out _).mono ?_; rintro e w' ⟨rfl, rfl⟩; rw [hb])
    all_goals go_quiet (fail)
    all_goals go_wp2
    all_goals go_ret2
    all_goals exact ⟨⟨_, rfl⟩, .inl (below_drewN (Below.refl _ _) _)⟩
  obtain ⟨i, p, rfl, hp⟩ := hasB_get hb
  by_cases h0 : i = 0
  · subst h0
    have hb3 : hasB ps.length 0 = true := hb
    clear hp
    go_enter Tryd.func30, Tryd.ntmps30
    go_wp2_with (go_at_call 41; refine (has_any H.out _).mono ?_; rintro e w' ⟨rfl, rfl⟩; first | rw [hb] | rw [hb3])
    all_goals go_quiet (fail)
    all_goals go_wp2
    all_goals go_ret2
    all_goals exact ⟨⟨_, rfl⟩, .inl (below_drewN (Below.refl _ _) _)⟩
  have hil := (List.getElem?_eq_some_iff.1 hp).1
  have hi0 : ((i : Int) == 0) = false := by simp; omega
  have hi0' : ¬ ((i : Int) = 0) := by omega
  obtain ⟨all, hall⟩ : ∃ all, und (nodesOf ps) (ps.length + 1) i = all := ⟨_, rfl⟩
  have hU : Calls Tryd.prog 55 #[.pointer (some ⟨tb, 0, none⟩), .int .i64 i] w (UndPost w all) := hall ▸ Under_any H.out HW.out (ps.length + 1) i hil (by have := rkU_le (nodesOf ps) i; omega)
  have HU : Hid (Calls Tryd.prog 55 #[.pointer (some ⟨tb, 0, none⟩), .int .i64 i] w (UndPost w all)) := hU
  have hal : all.length ≤ 400 := by
    have := und_short HW.out (ps.length + 1) i (by omega)
    rw [hall] at this
    omega
  have ha0 : 0 < all.length := by rw [← hall]; simp [und]
  have HIn : Hid (∀ x ∈ all, ∃ c : Nat, x = c ∧ c < ps.length) := by
    intro x hx
    rw [← hall] at hx
    obtain ⟨b, e1, e2, _⟩ := und_anc HW.out _ i (by omega) x hx
    exact ⟨b, e1, by omega⟩
  have HPre : Hid (∀ (k : Nat) (x : Int), all[k]? = some x → 0 < k → ∃ (c : Nat) (n : Nd), x = c ∧ (nodesOf ps)[c]? = some n ∧ n.parent ∈ all.take k) := by
    intro k x hx hk
    rw [← hall] at hx ⊢
    exact und_pre HW.out _ i (by omega) k x hx hk
  clear hp hU hall
  by_cases h4 : ps.length + all.length ≤ 400
  · have hr : decide (ps.length + all.length ≤ 400) = true := by simpa using h4
    go_enter Tryd.func30, Tryd.ntmps30
    go_wp2_with (first
      | (go_at_call 41; refine (has_any H.out _).mono ?_; rintro e w' ⟨rfl, rfl⟩; rw [hb])
      | (go_at_call 55; refine HU.out.mono ?_; rintro e w1 ⟨v1, rfl, ho1, hB1⟩
         obtain ⟨aa, ac, hv1⟩ := own_shape ho1
         subst hv1
         have H1 : Hid _ := And.intro ho1 hB1
         clear ho1 hB1)
      | (go_at_call 37; refine (room_gen (H.out.below H1.out.2) hpl all.length hal).mono ?_; rintro e w' ⟨rfl, rfl⟩; rw [hr])
      | (go_at_call 39; refine (forget_any (H.out.below H1.out.2)).mono ?_; rintro e w2 ⟨ca, rfl, hF2, hB2⟩; have H2 : Hid _ := And.intro ((H.out.below H1.out.2).below hB2) (And.intro hF2 hB2); clear hF2 hB2)
      | (go_at_call 38; refine (keep_any H2.out.1 _ _ ca (by omega)).mono ?_; rintro e w3 ⟨rfl, M3, uv3, hL3, hm3⟩
         have hfr1 : ∀ q, (Value.slice aa all.length ac).ownBlock = some q → M q = .other := fun q hq => H.out.fresh q (H1.out.1.lt q hq).1
         have om := own_moved (own_below H1.out.1 H2.out.2.2 (Nat.le_refl _)) hm3 hfr1
         have H3 : Hid _ := And.intro hL3 (And.intro hm3 om)
         clear hL3 hm3 om hfr1)
      | (go_at_call 56; refine (double_any H3.out.1 HW.out HF.out hK H3.out.2.2.1 H3.out.2.2.2 ha0 h4 HIn.out HPre.out).mono ?_; rintro e w4 ⟨⟨x, rfl⟩, hD⟩; have HD : Hid _ := hD; clear hD))
    all_goals go_ret2
    all_goals
      obtain ⟨M4, nv4, ps4, D, q1, q2, q3, q4, q5, q6, q7, _, _⟩ := HD.out
      refine ⟨⟨_, rfl⟩, .inr ⟨M4, nv4, uv3, ps4, _, .forget ps.length, q1, (H2.out.2.1.moved H3.out.2.1).moved q2, q4, ⟨by simp [nodesOf]; omega, ?_⟩, (((Moved.refl _ M).below H1.out.2).below H2.out.2.2).trans (H3.out.2.1.trans q2), q7.mono (Nat.le_succ _)⟩⟩
      rw [← hln]
      exact q6.symm
  · have hr : decide (ps.length + all.length ≤ 400) = false := by simpa using h4
    go_enter Tryd.func30, Tryd.ntmps30
    go_wp2_with (first
      | (go_at_call 41; refine (has_any H.out _).mono ?_; rintro e w' ⟨rfl, rfl⟩; rw [hb])
      | (go_at_call 55; refine HU.out.mono ?_; rintro e w1 ⟨v1, rfl, ho1, hB1⟩
         obtain ⟨aa, ac, hv1⟩ := own_shape ho1
         subst hv1
         have d3 := (hB1.cell (p := ⟨3, 0, none⟩) l3).trans hc3
         have H1 : Hid _ := And.intro ho1 hB1
         clear ho1 hB1)
      | (go_at_call 37; refine (room_gen (H.out.below H1.out.2) hpl all.length hal).mono ?_; rintro e w' ⟨rfl, rfl⟩; rw [hr]))
    all_goals go_quiet (fail)
    all_goals go_wp2
    all_goals go_ret2
    all_goals exact ⟨⟨_, rfl⟩, .inl (below_drewN H1.out.2 _)⟩
end Go.Proofs.YtiikjflaonhfdaaDoor
