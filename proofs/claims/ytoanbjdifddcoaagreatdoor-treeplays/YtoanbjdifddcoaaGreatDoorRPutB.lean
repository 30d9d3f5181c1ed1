/- The document's answer: where Put is refused. -/
import Derived.Test.YtoanbjdifddcoaaGreatDoorM30
namespace Go.Proofs.YtoanbjdifddcoaaGreatDoor
open Go.RowKit

set_option maxHeartbeats 4000000 in
set_option maxRecDepth 100000 in
theorem rput_none {w : World} {M : Nat → Lab} {tb : Nat} {nv uv : Value} {ps : List Pn} {us : List Value} (h : RLies w M tb nv uv ps us) {a b : Int} (c : Int) (hb : ¬ (hasB ps.length a = true ∧ hasB ps.length b = true)) :
    Calls Tryz.prog 27 #[.pointer (some ⟨tb, 0, none⟩), .int .i64 a, .int .i64 b, .int .i64 c] w fun e w' => e = .returned (.int .i64 4) ∧ w' = w := by
  have H : Hid (RLies w M tb nv uv ps us) := h
  clear h
  cases h1 : hasB ps.length a
  · clear hb
    cases h2 : hasB ps.length b
    all_goals
      go_enter Tryz.func27, Tryz.ntmps27
      go_wp2_with (go_at_call 43; refine (rhas_any H.out _).mono ?_; rintro e w' ⟨rfl, hw'⟩; subst hw'; simp only [h1, h2])
    all_goals go_ret
    all_goals exact ⟨rfl, rfl⟩
  · have h2 : hasB ps.length b = false := by
      cases h2 : hasB ps.length b
      · rfl
      · exact absurd ⟨h1, h2⟩ hb
    clear hb
    go_enter Tryz.func27, Tryz.ntmps27
    go_wp2_with (go_at_call 43; refine (rhas_any H.out _).mono ?_; rintro e w' ⟨rfl, hw'⟩; subst hw'; simp only [h1, h2])
    all_goals go_ret
    all_goals exact ⟨rfl, rfl⟩

section
variable {w : World} {M : Nat → Lab} {tb : Nat} {nv uv : Value} {ps : List Pn} {us : List Value}
set_option maxHeartbeats 4000000 in
set_option maxRecDepth 100000 in
theorem rput_bad (h : RLies w M tb nv uv ps us) {a i : Nat} {p m : Pn} (hp : ps[i]? = some p) (hm : ps[a]? = some m) (c : Int) (hbad : i = 0 ∨ m.n.kind = 3 ∨ m.n.kind = 4) :
    Calls Tryz.prog 27 #[.pointer (some ⟨tb, 0, none⟩), .int .i64 a, .int .i64 i, .int .i64 c] w fun e w' => e = .returned (.int .i64 5) ∧ w' = w := by
  have hha : hasB ps.length a = true := hasB_of hm
  have hhb : hasB ps.length i = true := hasB_of hp
  obtain ⟨nb, nc, rfl, hcp, hmx, hnM, hnl, hal⟩ := h.form hm
  have c0 := h.cell0
  have k0 := (h.cellN rfl (f := 0) hm (by omega) rfl).1
  rw [Nat.add_zero] at k0
  have H : Hid (RLies w M tb (.slice (some ⟨nb, 0, none⟩) ps.length nc) uv ps us) := h
  have i1 : (0 : Int) ≤ (a : Int) := by omega
  have i2 : (a : Int) < (ps.length : Int) := by omega
  unfold maxLen at hmx
  clear h hp hm
  by_cases h0 : i = 0
  · subst h0
    have hh0 : hasB ps.length 0 = true := hhb
    clear hbad
    cases h3 : (m.n.kind == 3) <;> cases h4 : (m.n.kind == 4)
    all_goals
      go_enter Tryz.func27, Tryz.ntmps27
      go_wp2_with (go_at_call 43; refine (rhas_any H.out _).mono ?_; rintro e w' ⟨rfl, hw'⟩; subst hw'; first | rw [hha] | rw [hh0] | rw [hhb])
    all_goals go_ret
    all_goals exact ⟨rfl, rfl⟩
  · have b0 : ((i : Int) == 0) = false := by rw [beq_eq_false_iff_ne]; omega
    have b0' : ¬ ((i : Int) = 0) := by omega
    have h34 : m.n.kind = 3 ∨ m.n.kind = 4 := by omega
    clear hbad
    rcases h34 with e | e
    all_goals rw [e] at k0
    all_goals clear e
    all_goals
      go_enter Tryz.func27, Tryz.ntmps27
      go_wp2_with (go_at_call 43; refine (rhas_any H.out _).mono ?_; rintro e w' ⟨rfl, hw'⟩; subst hw'; first | rw [hha] | rw [hhb])
    all_goals go_ret
    all_goals exact ⟨rfl, rfl⟩

set_option maxHeartbeats 8000000 in
set_option maxRecDepth 100000 in
theorem rput_where (h : RLies w M tb nv uv ps us) {a i : Nat} {p m : Pn} (hp : ps[i]? = some p) (hm : ps[a]? = some m) (h0 : i ≠ 0) (h3 : m.n.kind ≠ 3) (h4 : m.n.kind ≠ 4) {la : List Nat} (hup : Up (nodesOf ps) a la) (c : Int) (hk : m.n.kids.length ≤ 1000000000)
    (hbad : i ∈ la ∨ c < 0 ∨ ((outOf m.n.kids i).length : Int) < c) :
    Calls Tryz.prog 27 #[.pointer (some ⟨tb, 0, none⟩), .int .i64 a, .int .i64 i, .int .i64 c] w fun e w' => e = .returned (.int .i64 5) ∧ Below w.heap.size w w' := by
  have hha : hasB ps.length a = true := hasB_of hm
  have hhb : hasB ps.length i = true := hasB_of hp
  obtain ⟨nb, nc, rfl, hcp, hmx, hnM, hnl, hal⟩ := h.form hm
  have c0 := h.cell0
  have k0 := (h.cellN rfl (f := 0) hm (by omega) rfl).1
  rw [Nat.add_zero] at k0
  have k5 := (h.cellN rfl (f := 5) hm (by omega) rfl).1
  obtain ⟨ka, kc, hkv, _, _⟩ := (h.node a m hm).2.shape
  rw [hkv] at k5
  have HRow : Hid (Row w M (.kids a) 3 1 (.slice ka m.n.kids.length kc) m.n.kids.length (m.n.kids.map intV)) := hkv ▸ (h.node a m hm).2
  have H : Hid (RLies w M tb (.slice (some ⟨nb, 0, none⟩) ps.length nc) uv ps us) := h
  have HU : Hid (Up (nodesOf ps) a la) := hup
  have i1 : (0 : Int) ≤ (a : Int) := by omega
  have i2 : (a : Int) < (ps.length : Int) := by omega
  have b0 : ((i : Int) == 0) = false := by rw [beq_eq_false_iff_ne]; omega
  have b0' : ¬ ((i : Int) = 0) := by omega
  have n3 : (m.n.kind == 3) = false := by rw [beq_eq_false_iff_ne]; exact h3
  have n4 : (m.n.kind == 4) = false := by rw [beq_eq_false_iff_ne]; exact h4
  have hol : (outOf m.n.kids i).length ≤ m.n.kids.length := List.length_filter_le _ _
  unfold maxLen at hmx
  clear h hm hp hup h3 h4
  by_cases hno : i ∈ la
  · have hwi : decide (i ∈ la) = true := by simpa using hno
    clear hbad
    go_enter Tryz.func27, Tryz.ntmps27
    go_wp2_with (first
      | (go_at_call 43; refine (rhas_any H.out _).mono ?_; rintro e w' ⟨rfl, hw'⟩; subst hw'; first | rw [hha] | rw [hhb])
      | (go_at_call 58; refine (in_any H.out HU.out i).mono ?_; rintro e w' ⟨rfl, hw'⟩; subst hw'; rw [hwi]))
    all_goals go_ret
    all_goals exact ⟨rfl, Below.refl _ _⟩
  · have hwi : decide (i ∈ la) = false := by simpa using hno
    obtain ⟨O, hO⟩ : ∃ O, outOf m.n.kids i = O := ⟨_, rfl⟩
    rw [hO] at hol hbad
    have HO : Hid (outOf m.n.kids i = O) := hO
    obtain ⟨nO, hnO⟩ : ∃ nO, O.length = nO := ⟨_, rfl⟩
    rw [hnO] at hol hbad
    have HnO : Hid (O.length = nO) := hnO
    have hcc : c < 0 ∨ (0 ≤ c ∧ (nO : Int) < c) := by
      rcases hbad with h | h | h
      · exact absurd h hno
      · exact .inl h
      · omega
    clear hbad hno hO hnO
    rcases hcc with hcc | ⟨hc1, hc2⟩
    all_goals
      go_enter Tryz.func27, Tryz.ntmps27
      go_wp2_with (first
        | (go_at_call 43; refine (rhas_any H.out _).mono ?_; rintro e w' ⟨rfl, hw'⟩; subst hw'; first | rw [hha] | rw [hhb])
        | (go_at_call 58; refine (in_any H.out HU.out i).mono ?_; rintro e w' ⟨rfl, hw'⟩; subst hw'; rw [hwi]))
      refine (without_any HRow.out i (by omega)).mono ?_
      rintro e w2 ⟨v13, rfl, ho, hBq⟩
      rw [HO.out, HnO.out] at ho
      obtain ⟨a13, c13, hv13⟩ := own_shape ho
      subst hv13
      have HB : Hid (Below w'.heap.size w' w2) := hBq
      clear ho hBq
      go_wp2_with fail
    all_goals go_ret
    all_goals exact ⟨rfl, HB.out⟩
end
end Go.Proofs.YtoanbjdifddcoaaGreatDoor
