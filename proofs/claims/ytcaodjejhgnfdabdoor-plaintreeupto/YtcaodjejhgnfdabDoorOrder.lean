/- Ways from roots down to nodes, and which of two stands first. -/
import Derived.Test.YtcaodjejhgnfdabDoorLook
import Derived.BigRegion
namespace Go.Proofs.YtcaodjejhgnfdabDoor
open Go.RowKit

set_option maxHeartbeats 2000000 in
set_option maxRecDepth 100000 in
theorem place_any {w : World} {M : Nat → Lab} {tb : Nat} {nv uv : Value} {ps : List Pn} {us : List Value} (h : Lies w M tb nv uv ps us) {i q : Nat} {p m : Pn} (hp : ps[i]? = some p) (hq : p.n.parent = q) (hm : ps[q]? = some m) (hk : (i : Int) ∈ m.n.kids) :
    Calls Tryd.prog 49 #[.pointer (some ⟨tb, 0, none⟩), .int .i64 i] w fun e w' => e = .returned (.int .i64 (idx m.n.kids i : Nat)) ∧ ∃ n, w' = w.drewN n := by
  obtain ⟨nb, cap, rfl, hc, hmx, _, _, hi⟩ := h.form hp
  have hqi : q < ps.length := (List.getElem?_eq_some_iff.1 hm).1
  have c0 := h.cell0
  have c4 := (h.cellN rfl (f := 4) hp (by omega) rfl).1
  rw [hq] at c4
  have c5 := (h.cellN rfl (f := 5) hm (by omega) rfl).1
  have hr := (h.node q m hm).2
  obtain ⟨ka, kc, hkv, _, _⟩ := hr.shape
  rw [hkv] at c5
  have HR : Hid (Row w M (.kids q) 3 1 (.slice ka m.n.kids.length kc) m.n.kids.length (m.n.kids.map intV)) := hkv ▸ hr
  unfold maxLen at hmx
  have i1 : (0 : Int) ≤ (i : Int) := by omega
  have i2 : (i : Int) < (ps.length : Int) := by omega
  have i3 : (0 : Int) ≤ (q : Int) := by omega
  have i4 : (q : Int) < (ps.length : Int) := by omega
  clear h hr hkv hp hm hq
  go_enter Tryd.func49, Tryd.ntmps49
  go_wp2
  go_quiet ((go_at_call 69; refine Calls.quiet_of_same (index_any (M := M) (l := .kids q) (n := m.n.kids.length) ?_ _ hk); exact HR.out.keep (fun _ _ _ => rfl) (fun _ _ => rfl)))
  go_wp2
  go_ret
  exact ⟨rfl, _, rfl⟩

theorem isNaN_any (x : Int) (w : World) : Calls Tryd.prog 70 #[.int .i64 x] w fun e w' => e = .returned (.bool false) ∧ w' = w := by
  go_enter Tryd.func70, Tryd.ntmps70
  go_wp2
  all_goals go_ret
  all_goals exact ⟨ret_bool (by simp), rfl⟩

def cmpI (x y : Int) : Int := if x < y then -1 else if y < x then 1 else 0
theorem cmp_any (x y : Int) (w : World) : Calls Tryd.prog 51 #[.int .i64 x, .int .i64 y] w fun e w' => e = .returned (.int .i64 (cmpI x y)) ∧ w' = w := by
  go_enter Tryd.func51, Tryd.ntmps51
  go_wp2_with (go_at_call 70; refine (isNaN_any _ _).mono ?_; rintro e w' ⟨rfl, rfl⟩)
  all_goals go_ret
  all_goals refine ⟨ret_int ?_, rfl⟩
  all_goals (unfold cmpI; repeat' split)
  all_goals first | rfl | omega

theorem own_cell {w : World} {B : Nat} {v : Value} {n : Nat} {xs : List Int} (h : w.ownsRow B 3 1 v n (xs.map intV)) : xs.length = n ∧ ∃ a c, v = .slice a n c ∧ n ≤ c ∧ c ≤ maxLen ∧ ∀ k y, xs[k]? = some y → ∃ g, a = some ⟨g, 0, none⟩ ∧ w.cell? ⟨g, k, none⟩ = some (.int .i64 y) ∧ w.frozen? ⟨g, k, none⟩ = false := by
  have hl : xs.length = n := by have := h.1; simpa using this
  refine ⟨hl, ?_⟩
  rcases h.2 with ⟨rfl, rfl⟩ | ⟨g, cap, cur, rfl, hb, hg, h1, h2, h3, h4⟩
  · refine ⟨none, 0, rfl, Nat.le_refl _, by unfold maxLen; omega, fun k y hk => ?_⟩
    rw [List.length_eq_zero_iff.1 hl] at hk
    simp at hk
  · refine ⟨_, cap, rfl, h1, h2, fun k y hk => ⟨g, rfl, ?_, ?_⟩⟩
    · rw [cell_of_row w g k cur 3 (0, 0) hg]
      have hk' : (xs.map intV)[k]? = some (.int .i64 y) := by simp [hk, intV]
      rw [← h4, List.getElem?_take] at hk'
      split at hk'
      · simpa using hk'
      · cases hk'
    · simp [World.frozen?, hg]

/-- the rest of two lists, behind so many that are alike -/
theorem cmpL_drop (s t : List Int) (k : Nat) (x y : Int) (hs : s[k]? = some x) (ht : t[k]? = some y) : cmpL (s.drop k) (t.drop k) = if x < y then -1 else if y < x then 1 else cmpL (s.drop (k + 1)) (t.drop (k + 1)) := by
  obtain ⟨hks, rfl⟩ := List.getElem?_eq_some_iff.1 hs
  obtain ⟨hkt, rfl⟩ := List.getElem?_eq_some_iff.1 ht
  rw [List.drop_eq_getElem_cons hks, List.drop_eq_getElem_cons hkt]
  rfl

set_option maxHeartbeats 4000000 in
set_option maxRecDepth 100000 in
theorem compare_any {w : World} {A B : Nat} {v u : Value} {n m : Nat} {s t : List Int} (hv : w.ownsRow A 3 1 v n (s.map intV)) (hu : w.ownsRow B 3 1 u m (t.map intV)) :
    Calls Tryd.prog 22 #[v, u] w fun e w' => e = .returned (.int .i64 (cmpL s t)) ∧ w' = w := by
  obtain ⟨rfl, a, ca, rfl, h1, h2, hcv⟩ := own_cell hv
  obtain ⟨rfl, b, cb, rfl, h3, h4, hcu⟩ := own_cell hu
  have HV : Hid (∀ k y, s[k]? = some y → ∃ g, a = some ⟨g, 0, none⟩ ∧ w.cell? ⟨g, k, none⟩ = some (.int .i64 y) ∧ w.frozen? ⟨g, k, none⟩ = false) := hcv
  have HU : Hid (∀ k y, t[k]? = some y → ∃ g, b = some ⟨g, 0, none⟩ ∧ w.cell? ⟨g, k, none⟩ = some (.int .i64 y) ∧ w.frozen? ⟨g, k, none⟩ = false) := hcu
  unfold maxLen at h2 h4
  clear hcv hcu hv hu
  go_enter Tryd.func22, Tryd.ntmps22
  go_wp2
  go_loop [11] (fun i => ∃ k : Nat, k ≤ s.length ∧ k ≤ t.length ∧ i = .int .i64 k ∧ Hid (cmpL (s.drop k) (t.drop k) = cmpL s t)) (fun i => s.length - (intOf i).toNat)
  case atStart => exact ⟨0, by omega, by omega, rfl, (rfl : cmpL (s.drop 0) (t.drop 0) = cmpL s t)⟩
  case round =>
    obtain ⟨k, hk, hkt, rfl, hrest⟩ := hrel
    by_cases hks : k < s.length
    · have hx : s[k]? = some s[k] := List.getElem?_eq_getElem hks
      obtain ⟨g, rfl, cg, _⟩ := HV.out k _ hx
      by_cases hkt2 : k < t.length
      · have hy : t[k]? = some t[k] := List.getElem?_eq_getElem hkt2
        obtain ⟨g2, rfl, cg2, _⟩ := HU.out k _ hy
        have hst : Hid _ := cmpL_drop s t k _ _ hx hy
        clear hx hy
        generalize s[k] = x at *
        generalize t[k] = y at *
        by_cases hxy : cmpI x y = 0
        · have HC : Hid (cmpL (s.drop (k + 1)) (t.drop (k + 1)) = cmpL s t) := by
            have e1 := hst.out
            have e2 := hrest.out
            rw [e1] at e2
            unfold cmpI at hxy
            split at hxy
            · omega
            · split at hxy
              · omega
              · rw [if_neg (by assumption), if_neg (by assumption)] at e2
                exact e2
          go_wp2_with (go_at_call 51; refine (cmp_any _ _ _).mono ?_; rintro e w' ⟨rfl, rfl⟩; rw [hxy])
          go_round
          case rel => exact ⟨k + 1, by omega, by omega, by go_num, HC⟩
          case measure => simp [intOf]; omega
        · have HC : Hid (cmpI x y = cmpL s t) := by
            have e1 := hst.out
            have e2 := hrest.out
            rw [e1] at e2
            show cmpI x y = cmpL s t
            rw [← e2]
            unfold cmpI at hxy ⊢
            split
            · rfl
            · split
              · rfl
              · rename_i q1 q2
                rw [if_neg q1, if_neg q2] at hxy
                omega
          have hb : (cmpI x y == 0) = false := by simpa using hxy
          go_wp2_with (go_at_call 51; refine (cmp_any _ _ _).mono ?_; rintro e w' ⟨rfl, rfl⟩)
          all_goals go_ret
          all_goals exact ⟨ret_int HC.out, rfl⟩
      · have HC : Hid (1 = cmpL s t) := by
          have e2 := hrest.out
          rw [List.drop_eq_getElem_cons hks, List.drop_of_length_le (l := t) (by omega)] at e2
          exact e2
        go_wp2
        all_goals go_ret
        all_goals exact ⟨ret_int HC.out, rfl⟩
    · by_cases hkt2 : k < t.length
      · have HC : Hid (-1 = cmpL s t) := by
          have e2 := hrest.out
          rw [List.drop_eq_getElem_cons hkt2, List.drop_of_length_le (l := s) (by omega)] at e2
          exact e2
        have hlt : s.length < t.length := by omega
        go_wp2
        all_goals go_ret
        all_goals exact ⟨ret_int HC.out, rfl⟩
      · have HC : Hid (0 = cmpL s t) := by
          have e2 := hrest.out
          rw [List.drop_of_length_le (l := t) (by omega), List.drop_of_length_le (l := s) (by omega)] at e2
          exact e2
        have hlt : ¬ s.length < t.length := by omega
        go_wp2
        all_goals go_ret
        all_goals exact ⟨ret_int HC.out, rfl⟩

/-- a list whose two ends have been exchanged, so many times -/
def revTo (xs : List Int) (k : Nat) : List Int := (List.range xs.length).map fun i => if i < k ∨ xs.length ≤ i + k then xs.getD (xs.length - 1 - i) 0 else xs.getD i 0
theorem revTo_length (xs : List Int) (k : Nat) : (revTo xs k).length = xs.length := by simp [revTo]
theorem revTo_get (xs : List Int) (k i : Nat) (h : i < xs.length) : (revTo xs k)[i]? = some (if i < k ∨ xs.length ≤ i + k then xs.getD (xs.length - 1 - i) 0 else xs.getD i 0) := by
  simp [revTo, List.getElem?_range h]
theorem revTo_zero (xs : List Int) : revTo xs 0 = xs := by
  apply List.ext_getElem?
  intro i
  by_cases h : i < xs.length
  · rw [revTo_get xs 0 i h, if_neg (by omega), List.getD_eq_getElem?_getD, List.getElem?_eq_getElem h]
    rfl
  · rw [List.getElem?_eq_none (by rw [revTo_length]; omega), List.getElem?_eq_none (by omega)]
theorem revTo_done (xs : List Int) (k : Nat) (hk : xs.length ≤ 2 * k + 1) : revTo xs k = xs.reverse := by
  apply List.ext_getElem?
  intro i
  by_cases h : i < xs.length
  · rw [revTo_get xs k i h, List.getElem?_reverse h, List.getElem?_eq_getElem (by omega)]
    split
    · rw [List.getD_eq_getElem?_getD, List.getElem?_eq_getElem (by omega)]
      rfl
    · rw [List.getD_eq_getElem?_getD, List.getElem?_eq_getElem h]
      have e : i = xs.length - 1 - i := by omega
      simp only [Option.getD_some]
      congr 2
  · rw [List.getElem?_eq_none (by rw [revTo_length]; omega), List.getElem?_eq_none (by simp; omega)]
theorem revTo_step (xs : List Int) (k : Nat) (hk : 2 * k + 1 < xs.length) : ((revTo xs k).set k (xs.getD (xs.length - 1 - k) 0)).set (xs.length - 1 - k) (xs.getD k 0) = revTo xs (k + 1) := by
  apply List.ext_getElem?
  intro i
  by_cases h : i < xs.length
  · rw [revTo_get xs (k + 1) i h]
    by_cases h1 : i = xs.length - 1 - k
    · subst h1
      rw [List.getElem?_set_self (by rw [List.length_set, revTo_length]; omega), if_pos (by omega)]
      congr 2
      omega
    · rw [List.getElem?_set_ne (by omega)]
      by_cases h2 : i = k
      · subst h2
        rw [List.getElem?_set_self (by rw [revTo_length]; omega), if_pos (by omega)]
      · rw [List.getElem?_set_ne (by omega), revTo_get xs k i h]
        by_cases h3 : i < k ∨ xs.length ≤ i + k
        · rw [if_pos h3, if_pos (by omega)]
        · rw [if_neg h3, if_neg (by omega)]
  · rw [List.getElem?_eq_none (by rw [List.length_set, List.length_set, revTo_length]; omega), List.getElem?_eq_none (by rw [revTo_length]; omega)]

/-- a store into a row of one's own -/
theorem own_set {w : World} {B : Nat} {g n c : Nat} {xs : List Int} (h : w.ownsRow B 3 1 (.slice (some ⟨g, 0, none⟩) n c) n (xs.map intV)) (j : Nat) (x : Int) :
    (w.setCell ⟨g, j, none⟩ (.int .i64 x)).ownsRow B 3 1 (.slice (some ⟨g, 0, none⟩) n c) n ((xs.set j x).map intV) := by
  refine ⟨by have := h.1; simpa using this, ?_⟩
  rcases h.2 with ⟨h0, _⟩ | ⟨g', cap, cur, hv, hb, hg, h1, h2, h3, h4⟩
  · cases h0
  · cases hv
    refine .inr ⟨g, _, _, rfl, hb, setCell_heap w g j _ cur 3 (0, 0) hg, h1, h2, by rw [Array.size_setIfInBounds]; exact h3, ?_⟩
    rw [Array.toList_setIfInBounds, List.take_set, h4, List.map_set]
    rfl

set_option maxHeartbeats 4000000 in
set_option maxRecDepth 100000 in
theorem reverse_any {w : World} {B : Nat} {v : Value} {n : Nat} {xs : List Int} (h : w.ownsRow B 3 1 v n (xs.map intV)) (hn : n ≤ 1099511627776) :
    Calls Tryd.prog 50 #[v] w fun e w' => e = .returned (.tuple #[]) ∧ w'.ownsRow B 3 1 v n (xs.reverse.map intV) ∧ Below B w w' := by
  obtain ⟨rfl, a, ca, rfl, h1, h2, hcv⟩ := own_cell h
  have hbg : ∀ g, a = some ⟨g, 0, none⟩ → B ≤ g := fun g hg => (h.lt g (by subst hg; rfl)).1
  unfold maxLen at h2
  have H : Hid (w.ownsRow B 3 1 (.slice a xs.length ca) xs.length (xs.map intV)) := h
  clear hcv h
  go_enter Tryd.func50, Tryd.ntmps50
  go_wp2
  go_loopw [2, 3] (fun i j wr => ∃ k : Nat, 2 * k ≤ xs.length + 1 ∧ i = .int .i64 k ∧ j = .int .i64 ((xs.length : Int) - 1 - k) ∧ Hid (wr.ownsRow B 3 1 (.slice a xs.length ca) xs.length ((revTo xs k).map intV)) ∧ Hid (Below B w wr)) (fun i _ _ => xs.length - (intOf i).toNat)
  case atStart => exact ⟨0, by omega, rfl, by simp, (by rw [revTo_zero]; exact H.out : w.ownsRow B 3 1 (.slice a xs.length ca) xs.length ((revTo xs 0).map intV)), Below.refl _ _⟩
  case round =>
    obtain ⟨k, hk, rfl, rfl, hown, hbel⟩ := hrel
    by_cases hlt : 2 * k + 1 < xs.length
    · obtain ⟨_, a', c', hv', _, _, hcell⟩ := own_cell hown.out
      cases hv'
      obtain ⟨g, rfl, ck, fk⟩ := hcell k _ (revTo_get xs k k (by omega))
      obtain ⟨g', hg', cm, fm⟩ := hcell (xs.length - 1 - k) _ (revTo_get xs k (xs.length - 1 - k) (by omega))
      cases hg'
      rw [if_neg (by omega)] at ck cm
      have hj : ((xs.length : Int) - 1 - k) = ((xs.length - 1 - k : Nat) : Int) := by omega
      have hne : k ≠ xs.length - 1 - k := by omega
      have hkx : xs.length - 1 - k < xs.length := by omega
      have s1 := own_set hown.out k (xs.getD (xs.length - 1 - k) 0)
      have s2 := own_set s1 (xs.length - 1 - k) (xs.getD k 0)
      have hx2 : (wr.setCell ⟨g, k, none⟩ (.int .i64 (xs.getD (xs.length - 1 - k) 0))).cell? ⟨g, xs.length - 1 - k, none⟩ = some (.int .i64 (xs.getD (xs.length - 1 - k) 0)) ∧ (wr.setCell ⟨g, k, none⟩ (.int .i64 (xs.getD (xs.length - 1 - k) 0))).frozen? ⟨g, xs.length - 1 - k, none⟩ = false := by
        obtain ⟨_, a2, c2, hv2, _, _, hcell2⟩ := own_cell s1
        cases hv2
        obtain ⟨g2, hg2, q1, q2⟩ := hcell2 (xs.length - 1 - k) (xs.getD (xs.length - 1 - k) 0) (by rw [List.getElem?_set_ne hne, revTo_get xs k _ (by omega), if_neg (by omega)])
        cases hg2
        exact ⟨q1, q2⟩
      obtain ⟨hx2, hx3⟩ := hx2
      have hkr : k < xs.length - 1 - k := by omega
      rw [revTo_step xs k hlt] at s2
      have S2 : Hid _ := s2
      rw [hj]
      have HJ : Hid ((xs.length : Int) - 1 - (k + 1 : Nat) = ((xs.length - 1 - k : Nat) : Int) - 1) := by show _ = _; omega
      clear s1 s2 hj hcell
      generalize xs.length - 1 - k = r at *
      generalize xs.getD k 0 = x at *
      generalize xs.getD r 0 = y at *
      have i1 : (k : Int) < (r : Int) := by omega
      have i2 : (r : Int) < (xs.length : Int) := by omega
      have i3 : (k : Int) < (xs.length : Int) := by omega
      have i4 : (0 : Int) ≤ (k : Int) := by omega
      have i5 : (0 : Int) ≤ (r : Int) := by omega
      go_wp2
      go_region
      go_wp2
      go_roundw
      case rel => go_light; exact ⟨k + 1, by omega, by go_num, congrArg (Value.int .i64) HJ.out.symm, S2.out, ((hbel.out.setCell (hbg g rfl) _).setCell (hbg g rfl) _).drew⟩
      case measure => go_light; simp [intOf]; omega
    · go_wp2
      go_end0
      exact ⟨rfl, by rw [← revTo_done xs k (by omega)]; exact hown.out, hbel.out⟩
end Go.Proofs.YtcaodjejhgnfdabDoor
