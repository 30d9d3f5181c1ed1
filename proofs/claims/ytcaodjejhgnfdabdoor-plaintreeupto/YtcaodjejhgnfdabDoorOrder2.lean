/- What Order answers. -/
import Derived.Test.YtcaodjejhgnfdabDoorOrder
namespace Go.Proofs.YtcaodjejhgnfdabDoor
open Go.RowKit

def nodesOf (ps : List Pn) : List Nd := ps.map Pn.n
theorem nodesOf_get {ps : List Pn} {i : Nat} {n : Nd} (h : (nodesOf ps)[i]? = some n) : ∃ p, ps[i]? = some p ∧ p.n = n := by
  simpa [nodesOf] using h

theorem below_size {B : Nat} {w w' : World} (h : Below B w w') : w.heap.size ≤ w'.heap.size := h.size

set_option maxHeartbeats 4000000 in
set_option maxRecDepth 100000 in
theorem way_any {w : World} {M : Nat → Lab} {tb : Nat} {nv uv : Value} {ps : List Pn} {us : List Value} (h : Lies w M tb nv uv ps us) {i r : Nat} {s : List Int} (hw : Way (nodesOf ps) i s r) (hs : s.length ≤ 1099511627776) :
    Calls Tryd.prog 21 #[.pointer (some ⟨tb, 0, none⟩), .int .i64 i] w fun e w' => ∃ v, e = .returned (.tuple #[.int .i64 r, v]) ∧ w'.ownsRow w.heap.size 3 1 v s.length (s.map intV) ∧ Below w.heap.size w w' := by
  obtain ⟨i0, hi, hz0, hz1, hz2⟩ := info_parts Tryd.infoInt
  have H : Hid (Lies w M tb nv uv ps us) := h
  have HW : Hid (Way (nodesOf ps) i s r) := hw
  clear h hw
  go_enter Tryd.func21, Tryd.ntmps21
  go_wp2
  go_loopg [1, 5] s.length (fun k id st wr => ∃ (j : Nat) (s' t : List Int), id = .int .i64 j ∧ s'.length = k ∧ Hid (Way (nodesOf ps) j s' r) ∧ Hid (s = s' ++ t.reverse) ∧ Hid (wr.ownsRow w.heap.size 3 1 st t.length (t.map intV)) ∧ Hid (Below w.heap.size w wr))
  case atStart => exact ⟨i, s, [], rfl, rfl, HW, (by simp : s = s ++ ([] : List Int).reverse), World.ownsRow_nil _ _ _ _, Below.refl _ _⟩
  case round =>
    obtain ⟨j, s', t, rfl, hk, hway, hsp, hown, hbel⟩ := hrel
    have hL := H.out.below hbel.out
    have hlen : s.length = s'.length + t.length := by rw [hsp.out]; simp
    have hwo := hway.out
    cases hwo with
    | root hn hp =>
      obtain ⟨p, hp1, rfl⟩ := nodesOf_get hn
      obtain ⟨nb, cap, rfl, hc, hm, _, _, hjl⟩ := hL.form hp1
      have c0 := hL.cell0
      have c4 := (hL.cellN rfl (f := 4) hp1 (by omega) rfl).1
      rw [hp] at c4
      unfold maxLen at hm
      have e : s = t.reverse := by have := hsp.out; simpa using this
      have E : Hid (s = t.reverse) := e
      have hlen2 : t.length = s.length := by rw [e]; simp
      clear hL hn hp hp1 e hlen
      go_wp2_with (go_at_call 50; refine (reverse_any hown.out (by omega)).mono ?_; rintro e w1 ⟨rfl, ho, hB⟩)
      go_ret2
      refine ⟨_, rfl, ?_, hbel.out.trans hB⟩
      rw [E.out, List.length_reverse]
      exact ho
    | @down _ q _ s2 n m hn hpq hmq hmem hw2 =>
      obtain ⟨p, hp1, rfl⟩ := nodesOf_get hn
      obtain ⟨mp, hmp, rfl⟩ := nodesOf_get hmq
      obtain ⟨nb, cap, hnv, hc, hm, _, _, hjl⟩ := hL.form hp1
      have hL2 := hL
      rw [hnv] at hL2
      have c0 := hL2.cell0
      have c4 := (hL2.cellN rfl (f := 4) hp1 (by omega) rfl).1
      rw [hpq] at c4
      have hne : ¬ ((q : Int) = -1) := by omega
      have hneb : ((q : Int) == -1) = false := by simp
      unfold maxLen at hm
      have HL : Hid (Lies wr M tb nv uv ps us) := hL
      have HP : Hid _ := And.intro hp1 (And.intro hpq (And.intro hmp hmem))
      have hw2' : Hid (Way (nodesOf ps) q s2 r) := hw2
      have hlen2 : t.length + 1 + s2.length = s.length := by rw [hlen]; simp; omega
      have hk2 : s2.length < gk := by rw [← hk]; simp
      have HS : Hid (s = s2 ++ (t ++ [(idx mp.n.kids j : Int)]).reverse) := by
        show s = _
        rw [hsp.out]
        simp
      clear hL hL2 hn hpq hmq hmem hp1 hmp hw2 hlen hk
      go_wp2_with (first
        | (go_at_call 49; refine (place_any HL.out HP.out.1 HP.out.2.1 HP.out.2.2.1 HP.out.2.2.2).mono ?_; rintro e w1 ⟨rfl, nd, hw1⟩; have c0' : w1.cell? ⟨tb, 0, none⟩ = some (.slice (some ⟨nb, 0, none⟩) ps.length cap) := by (rw [hw1]; exact c0)
           have c4' : w1.cell? ⟨nb, j * 6 + 4, none⟩ = some (.int .i64 q) := by (rw [hw1]; exact c4)
           have hown1 : Hid (w1.ownsRow w.heap.size 3 1 u5 t.length (t.map intV)) := by (rw [hw1]; exact hown.out)
           have hbel1 : Hid (Below w.heap.size w w1) := by (rw [hw1]; exact below_drewN hbel.out nd)
           have HL1 : Hid (Lies w1 M tb nv uv ps us) := H.out.below hbel1.out
           clear hw1 c0 c4)
        | (at_builtin; refine wpList_append_own_at _ (by rfl) (.tmp 15) (.tmp 19) 37 (by rfl) w.heap.size 3 i0 (.int .i64 0) 1 8 Tryd.underlying37 hi hz0 hz1 hz2 rfl (by decide) u5 t.length (t.map intV) (by rfl) (hown1.out.alloc _) ⟨w1.heap.size, 0, none⟩ 1 1 [.int .i64 (idx mp.n.kids j : Nat)] (by rfl) rfl (cell_one_new _ _ _) (by simp [Value.oneCell']) (by unfold maxLen; omega) (by omega) (by have := below_size hbel1.out; simp; omega) ?_; intro v2 w2 hv2 hg2 _ _; have hbel2 : Hid (Below w.heap.size w w2) := (hbel1.out.alloc (below_size hbel1.out) _).grown hg2 (by have := below_size hbel1.out; simp; omega) (fun k hk => ((hown1.out.lt k hk).1))
           have HL2 := H.out.below hbel2.out
           rw [hnv] at HL2
           have c0'' := HL2.cell0
           have c4'' := (HL2.cellN rfl (f := 4) HP.out.1 (by omega) rfl).1
           rw [HP.out.2.1] at c4''
           have hown2 : Hid _ := hv2
           clear HL2 hv2 hg2 c0' c4'))
      go_roundg s2.length
      case measure => exact hk2
      case rel =>
        go_light
        refine ⟨q, s2, t ++ [(idx mp.n.kids j : Int)], rfl, rfl, hw2', HS, ?_, hbel2⟩
        rw [List.length_append, List.map_append]
        exact hown2

/-- what Order answers of two nodes -/
def ordV (r q : Nat) (s t : List Int) : Value := .tuple #[.int .i64 (if r = q then cmpL s t else 0), .bool (decide (r = q))]

set_option maxHeartbeats 4000000 in
set_option maxRecDepth 100000 in
theorem order_none {w : World} {M : Nat → Lab} {tb : Nat} {nv uv : Value} {ps : List Pn} {us : List Value} (h : Lies w M tb nv uv ps us) (a b : Int) (hab : hasB ps.length a = false ∨ hasB ps.length b = false) :
    Calls Tryd.prog 7 #[.pointer (some ⟨tb, 0, none⟩), .int .i64 a, .int .i64 b] w fun e w' => e = .returned (.tuple #[.int .i64 0, .bool false]) ∧ Below w.heap.size w w' := by
  have H : Hid (Lies w M tb nv uv ps us) := h
  clear h
  cases ha : hasB ps.length a
  · go_enter Tryd.func7, Tryd.ntmps7
    go_wp2_with (go_at_call 20; refine (has_any H.out _).mono ?_; rintro e w' ⟨rfl, rfl⟩; rw [ha])
    go_ret2
    exact ⟨rfl, Below.refl _ _⟩
  · have hb : hasB ps.length b = false := by
      rcases hab with h | h
      · rw [ha] at h; cases h
      · exact h
    go_enter Tryd.func7, Tryd.ntmps7
    go_wp2_with (first | (go_at_call_of 20 a; refine (has_any H.out _).mono ?_; rintro e w' ⟨rfl, rfl⟩; rw [ha]) | (go_at_call_of 20 b; refine (has_any H.out _).mono ?_; rintro e w' ⟨rfl, rfl⟩; rw [hb]))
    go_ret2
    exact ⟨rfl, Below.refl _ _⟩

theorem own_keep {w w' : World} {A B : Nat} {v : Value} {n : Nat} {xs : List Value} (h : w.ownsRow A 3 1 v n xs) (hb : Below B w w') (hB : ∀ k, v.ownBlock = some k → k < B) : w'.ownsRow A 3 1 v n xs := by
  refine ⟨h.1, ?_⟩
  rcases h.2 with h0 | ⟨g, cap, cur, rfl, h1, h2, h3⟩
  · exact .inl h0
  · exact .inr ⟨g, cap, cur, rfl, h1, (hb.block g (hB g rfl)).trans h2, h3⟩

theorem hasB_lt {n i : Nat} (h : i < n) : hasB n i = true := by unfold hasB; simp; omega

set_option maxHeartbeats 4000000 in
set_option maxRecDepth 100000 in
theorem order_two {w : World} {M : Nat → Lab} {tb : Nat} {nv uv : Value} {ps : List Pn} {us : List Value} (h : Lies w M tb nv uv ps us) {i j r q : Nat} {s t : List Int} (hi : Way (nodesOf ps) i s r) (hj : Way (nodesOf ps) j t q) (hs : s.length ≤ 1099511627776) (ht : t.length ≤ 1099511627776) :
    Calls Tryd.prog 7 #[.pointer (some ⟨tb, 0, none⟩), .int .i64 i, .int .i64 j] w fun e w' => e = .returned (ordV r q s t) ∧ Below w.heap.size w w' := by
  have li := hi.lt.1
  have lj := hj.lt.1
  simp only [nodesOf, List.length_map] at li lj
  have ha := hasB_lt li
  have hb := hasB_lt lj
  have H : Hid (Lies w M tb nv uv ps us) := h
  have HI : Hid (Way (nodesOf ps) i s r) := hi
  have HJ : Hid (Way (nodesOf ps) j t q) := hj
  clear h hi hj
  by_cases hrq : r = q
  · subst hrq
    have E : Hid (ordV r r s t = .tuple #[.int .i64 (cmpL s t), .bool true]) := by
      show ordV r r s t = _
      simp [ordV]
    go_enter Tryd.func7, Tryd.ntmps7
    go_wp2_with (first
      | (go_at_call_of 20 (i : Int); refine (has_any H.out _).mono ?_; rintro e w' ⟨rfl, rfl⟩; rw [ha])
      | (go_at_call_of 20 (j : Int); refine (has_any H.out _).mono ?_; rintro e w' ⟨rfl, rfl⟩; rw [hb])
      | (go_at_call_of 21 (i : Int); refine (way_any H.out HI.out hs).mono ?_; rintro e w1 ⟨v1, rfl, ho1, hB1⟩; have A1 : Hid _ := And.intro ho1 hB1; clear ho1 hB1)
      | (go_at_call_of 21 (j : Int); refine (way_any (H.out.below A1.out.2) HJ.out ht).mono ?_; rintro e w2 ⟨v2, rfl, ho2, hB2⟩; have A2 : Hid _ := And.intro ho2 hB2; clear ho2 hB2)
      | (go_at_call 22; refine (compare_any (own_keep A1.out.1 A2.out.2 (fun k hk => (A1.out.1.lt k hk).2)) A2.out.1).mono ?_; rintro e w3 ⟨rfl, rfl⟩))
    go_ret2
    exact ⟨by rw [E.out]; rfl, A1.out.2.trans (A2.out.2.mono (below_size A1.out.2))⟩
  · have E : Hid (ordV r q s t = .tuple #[.int .i64 0, .bool false]) := by
      show ordV r q s t = _
      simp [ordV, hrq]
    have hne : ¬ ((r : Int) = (q : Int)) := by omega
    have hneb : ((r : Int) == (q : Int)) = false := by simpa using hne
    go_enter Tryd.func7, Tryd.ntmps7
    go_wp2_with (first
      | (go_at_call_of 20 (i : Int); refine (has_any H.out _).mono ?_; rintro e w' ⟨rfl, rfl⟩; rw [ha])
      | (go_at_call_of 20 (j : Int); refine (has_any H.out _).mono ?_; rintro e w' ⟨rfl, rfl⟩; rw [hb])
      | (go_at_call_of 21 (i : Int); refine (way_any H.out HI.out hs).mono ?_; rintro e w1 ⟨v1, rfl, ho1, hB1⟩; have A1 : Hid _ := And.intro ho1 hB1; clear ho1 hB1)
      | (go_at_call_of 21 (j : Int); refine (way_any (H.out.below A1.out.2) HJ.out ht).mono ?_; rintro e w2 ⟨v2, rfl, ho2, hB2⟩; have A2 : Hid _ := And.intro ho2 hB2; clear ho2 hB2)
      | (go_at_call 22; refine (compare_any (own_keep A1.out.1 A2.out.2 (fun k hk => (A1.out.1.lt k hk).2)) A2.out.1).mono ?_; rintro e w3 ⟨rfl, rfl⟩))
    go_ret2
    exact ⟨by rw [E.out]; rfl, A1.out.2.trans (A2.out.2.mono (below_size A1.out.2))⟩
end Go.Proofs.YtcaodjejhgnfdabDoor
