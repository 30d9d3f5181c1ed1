/- What Order answers. -/
import Derived.Test.YtoanbjdifddcoaaGreatDoorM49
import Derived.Test.YtoanbjdifddcoaaGreatDoorTBoth
import Derived.Test.YtoanbjdifddcoaaGreatDoorM48
import Derived.Test.YtoanbjdifddcoaaGreatDoorM29
namespace Go.Proofs.YtoanbjdifddcoaaGreatDoor
open Go.RowKit




set_option maxHeartbeats 4000000 in
set_option maxRecDepth 100000 in
theorem way_any {w : World} {M : Nat → Lab} {tb : Nat} {nv uv : Value} {ps : List Pn} {us : List Value} (h : Lies w M tb nv uv ps us) {i r : Nat} {s : List Int} (hw : Way (nodesOf ps) i s r) (hs : s.length ≤ 1099511627776) :
    Calls Tryz.prog 71 #[.pointer (some ⟨tb, 0, none⟩), .int .i64 i] w fun e w' => ∃ v, e = .returned (.tuple #[.int .i64 r, v]) ∧ w'.ownsRow w.heap.size 3 1 v s.length (s.map intV) ∧ Below w.heap.size w w' := by
  obtain ⟨i0, hi, hz0, hz1, hz2⟩ := info_parts Tryz.infoInt
  have H : Hid (Lies w M tb nv uv ps us) := h
  have HW : Hid (Way (nodesOf ps) i s r) := hw
  clear h hw
  go_enter Tryz.func71, Tryz.ntmps71
  go_wp2
  go_loopg [1, 5] s.length (fun k id st wr => ∃ (j : Nat) (s' t : List Int), id = .int .i64 j ∧ s'.length = k ∧ Hid (Way (nodesOf ps) j s' r) ∧ Hid (s = s' ++ t.reverse) ∧ Hid (wr.ownsRow w.heap.size 3 1 st t.length (t.map intV)) ∧ Hid (Below w.heap.size w wr))
  case atStart => exact ⟨i, s, [], rfl, rfl, HW, (by simp : s = s ++ ([] : List Int).reverse), World.ownsRow_nil _ _ _ _, Below.refl _ _⟩
  case round =>
    obtain ⟨j, s', t, rfl, hk, hway, hsp, hown, hbel⟩ := hrel
    have hL := H.out.below hbel.out
    have hlen : s.length = s'.length + t.length := by rw [hsp.out]; simp
    have hwo := hway.out
    cases hwo with
    | root hn hp =>
      obtain ⟨p, hp1, rfl⟩ := nodesOf_get hn
      obtain ⟨nb, cap, rfl, hc, hm, _, _, hjl⟩ := hL.form hp1
      have c0 := hL.cell0
      have c4 := (hL.cellN rfl (f := 4) hp1 (by omega) rfl).1
      rw [hp] at c4
      unfold maxLen at hm
      have e : s = t.reverse := by have := hsp.out; simpa using this
      have E : Hid (s = t.reverse) := e
      have hlen2 : t.length = s.length := by rw [e]; simp
      clear hL hn hp hp1 e hlen
      go_wp2_with (go_at_call 89; refine (reverse_any hown.out (by omega)).mono ?_; rintro e w1 ⟨rfl, ho, hB⟩)
      go_ret2
      refine ⟨_, rfl, ?_, hbel.out.trans hB⟩
      rw [E.out, List.length_reverse]
      exact ho
    | @down _ q _ s2 n m hn hpq hmq hmem hw2 =>
      obtain ⟨p, hp1, rfl⟩ := nodesOf_get hn
      obtain ⟨mp, hmp, rfl⟩ := nodesOf_get hmq
      obtain ⟨nb, cap, hnv, hc, hm, _, _, hjl⟩ := hL.form hp1
      have hL2 := hL
      rw [hnv] at hL2
      have c0 := hL2.cell0
      have c4 := (hL2.cellN rfl (f := 4) hp1 (by omega) rfl).1
      rw [hpq] at c4
      have hne : ¬ ((q : Int) = -1) := by omega
      have hneb : ((q : Int) == -1) = false := by simp
      unfold maxLen at hm
      have HL : Hid (Lies wr M tb nv uv ps us) := hL
      have HP : Hid _ := And.intro hp1 (And.intro hpq (And.intro hmp hmem))
      have hw2' : Hid (Way (nodesOf ps) q s2 r) := hw2
      have hlen2 : t.length + 1 + s2.length = s.length := by rw [hlen]; simp; omega
      have hk2 : s2.length < gk := by rw [← hk]; simp
      have HS : Hid (s = s2 ++ (t ++ [(idx mp.n.kids j : Int)]).reverse) := by
        show s = _
        rw [hsp.out]
        simp
      clear hL hL2 hn hpq hmq hmem hp1 hmp hw2 hlen hk
      go_wp2_with (first
        | (go_at_call 88; refine (place_any HL.out HP.out.1 HP.out.2.1 HP.out.2.2.1 HP.out.2.2.2).mono ?_; rintro e w1 ⟨rfl, nd, hw1⟩; have c0' : w1.cell? ⟨tb, 0, none⟩ = some (.slice (some ⟨nb, 0, none⟩) ps.length cap) := by (rw [hw1]; exact c0)
           have c4' : w1.cell? ⟨nb, j * 6 + 4, none⟩ = some (.int .i64 q) := by (rw [hw1]; exact c4)
           have hown1 : Hid (w1.ownsRow w.heap.size 3 1 u5 t.length (t.map intV)) := by (rw [hw1]; exact hown.out)
           have hbel1 : Hid (Below w.heap.size w w1) := by (rw [hw1]; exact below_drewN hbel.out nd)
           have HL1 : Hid (Lies w1 M tb nv uv ps us) := H.out.below hbel1.out
           clear hw1 c0 c4)
        | (at_builtin; refine wpList_append_own_at _ (by rfl) (.tmp 15) (.tmp 19) 38 (by rfl) w.heap.size 3 i0 (.int .i64 0) 1 8 Tryz.underlying38 hi hz0 hz1 hz2 rfl (by decide) u5 t.length (t.map intV) (by rfl) (hown1.out.alloc _) ⟨w1.heap.size, 0, none⟩ 1 1 [.int .i64 (idx mp.n.kids j : Nat)] (by rfl) rfl (cell_one_new _ _ _) (by simp [Value.oneCell']) (by unfold maxLen; omega) (by omega) (by have := below_size hbel1.out; simp; omega) ?_; intro v2 w2 hv2 hg2 _ _; have hbel2 : Hid (Below w.heap.size w w2) := (hbel1.out.alloc (below_size hbel1.out) _).grown hg2 (by have := below_size hbel1.out; simp; omega) (fun k hk => ((hown1.out.lt k hk).1))
           have HL2 := H.out.below hbel2.out
           rw [hnv] at HL2
           have c0'' := HL2.cell0
           have c4'' := (HL2.cellN rfl (f := 4) HP.out.1 (by omega) rfl).1
           rw [HP.out.2.1] at c4''
           have hown2 : Hid _ := hv2
           clear HL2 hv2 hg2 c0' c4'))
      go_roundg s2.length
      case measure => exact hk2
      case rel =>
        go_light
        refine ⟨q, s2, t ++ [(idx mp.n.kids j : Int)], rfl, rfl, hw2', HS, ?_, hbel2⟩
        rw [List.length_append, List.map_append]
        exact hown2

/-- what Order answers of two nodes -/
def ordV (r q : Nat) (s t : List Int) : Value := .tuple #[.int .i64 (if r = q then cmpL s t else 0), .bool (decide (r = q))]

set_option maxHeartbeats 4000000 in
set_option maxRecDepth 100000 in
theorem order_none {w : World} {M : Nat → Lab} {tb : Nat} {nv uv : Value} {ps : List Pn} {us : List Value} (h : Lies w M tb nv uv ps us) (a b : Int) (hab : hasB ps.length a = false ∨ hasB ps.length b = false) :
    Calls Tryz.prog 40 #[.pointer (some ⟨tb, 0, none⟩), .int .i64 a, .int .i64 b] w fun e w' => e = .returned (.tuple #[.int .i64 0, .bool false]) ∧ Below w.heap.size w w' := by
  have H : Hid (Lies w M tb nv uv ps us) := h
  clear h
  cases ha : hasB ps.length a
  · go_enter Tryz.func40, Tryz.ntmps40
    go_wp2_with (go_at_call 45; refine (has_any H.out _).mono ?_; rintro e w' ⟨rfl, rfl⟩; rw [ha])
    go_ret2
    exact ⟨rfl, Below.refl _ _⟩
  · have hb : hasB ps.length b = false := by
      rcases hab with h | h
      · rw [ha] at h; cases h
      · exact h
    go_enter Tryz.func40, Tryz.ntmps40
    go_wp2_with (first | (go_at_call_of 45 a; refine (has_any H.out _).mono ?_; rintro e w' ⟨rfl, rfl⟩; rw [ha]) | (go_at_call_of 45 b; refine (has_any H.out _).mono ?_; rintro e w' ⟨rfl, rfl⟩; rw [hb]))
    go_ret2
    exact ⟨rfl, Below.refl _ _⟩



set_option maxHeartbeats 4000000 in
set_option maxRecDepth 100000 in
theorem order_two {w : World} {M : Nat → Lab} {tb : Nat} {nv uv : Value} {ps : List Pn} {us : List Value} (h : Lies w M tb nv uv ps us) {i j r q : Nat} {s t : List Int} (hi : Way (nodesOf ps) i s r) (hj : Way (nodesOf ps) j t q) (hs : s.length ≤ 1099511627776) (ht : t.length ≤ 1099511627776) :
    Calls Tryz.prog 40 #[.pointer (some ⟨tb, 0, none⟩), .int .i64 i, .int .i64 j] w fun e w' => e = .returned (ordV r q s t) ∧ Below w.heap.size w w' := by
  have li := hi.lt.1
  have lj := hj.lt.1
  simp only [nodesOf, List.length_map] at li lj
  have ha := hasB_lt li
  have hb := hasB_lt lj
  have H : Hid (Lies w M tb nv uv ps us) := h
  have HI : Hid (Way (nodesOf ps) i s r) := hi
  have HJ : Hid (Way (nodesOf ps) j t q) := hj
  clear h hi hj
  by_cases hrq : r = q
  · subst hrq
    have E : Hid (ordV r r s t = .tuple #[.int .i64 (cmpL s t), .bool true]) := by
      show ordV r r s t = _
      simp [ordV]
    go_enter Tryz.func40, Tryz.ntmps40
    go_wp2_with (first
      | (go_at_call_of 45 (i : Int); refine (has_any H.out _).mono ?_; rintro e w' ⟨rfl, rfl⟩; rw [ha])
      | (go_at_call_of 45 (j : Int); refine (has_any H.out _).mono ?_; rintro e w' ⟨rfl, rfl⟩; rw [hb])
      | (go_at_call_of 71 (i : Int); refine (way_any H.out HI.out hs).mono ?_; rintro e w1 ⟨v1, rfl, ho1, hB1⟩; have A1 : Hid _ := And.intro ho1 hB1; clear ho1 hB1)
      | (go_at_call_of 71 (j : Int); refine (way_any (H.out.below A1.out.2) HJ.out ht).mono ?_; rintro e w2 ⟨v2, rfl, ho2, hB2⟩; have A2 : Hid _ := And.intro ho2 hB2; clear ho2 hB2)
      | (go_at_call 72; refine (compare_any (own_keep A1.out.1 A2.out.2 (fun k hk => (A1.out.1.lt k hk).2)) A2.out.1).mono ?_; rintro e w3 ⟨rfl, rfl⟩))
    go_ret2
    exact ⟨by rw [E.out]; rfl, A1.out.2.trans (A2.out.2.mono (below_size A1.out.2))⟩
  · have E : Hid (ordV r q s t = .tuple #[.int .i64 0, .bool false]) := by
      show ordV r q s t = _
      simp [ordV, hrq]
    have hne : ¬ ((r : Int) = (q : Int)) := by omega
    have hneb : ((r : Int) == (q : Int)) = false := by simpa using hne
    go_enter Tryz.func40, Tryz.ntmps40
    go_wp2_with (first
      | (go_at_call_of 45 (i : Int); refine (has_any H.out _).mono ?_; rintro e w' ⟨rfl, rfl⟩; rw [ha])
      | (go_at_call_of 45 (j : Int); refine (has_any H.out _).mono ?_; rintro e w' ⟨rfl, rfl⟩; rw [hb])
      | (go_at_call_of 71 (i : Int); refine (way_any H.out HI.out hs).mono ?_; rintro e w1 ⟨v1, rfl, ho1, hB1⟩; have A1 : Hid _ := And.intro ho1 hB1; clear ho1 hB1)
      | (go_at_call_of 71 (j : Int); refine (way_any (H.out.below A1.out.2) HJ.out ht).mono ?_; rintro e w2 ⟨v2, rfl, ho2, hB2⟩; have A2 : Hid _ := And.intro ho2 hB2; clear ho2 hB2)
      | (go_at_call 72; refine (compare_any (own_keep A1.out.1 A2.out.2 (fun k hk => (A1.out.1.lt k hk).2)) A2.out.1).mono ?_; rintro e w3 ⟨rfl, rfl⟩))
    go_ret2
    exact ⟨by rw [E.out]; rfl, A1.out.2.trans (A2.out.2.mono (below_size A1.out.2))⟩
end Go.Proofs.YtoanbjdifddcoaaGreatDoor

/- The law's looks at both trees. -/
namespace Go.Proofs.YtoanbjdifddcoaaGreatDoor
open Go.RowKit

section
variable {W : World} {X : List (Nat × Obj)} {tb rb K : Nat} {ns : List Nd} {past : List (List Nd)} {w : World} {M N : Nat → Lab} {nv uv nv2 uv2 : Value} {ps qs : List Pn} {us vs : List Value}

theorem order_both (h : BothS W X tb rb K ns past ns past w M N nv uv nv2 uv2 ps qs us vs) (a b : Int) : ∃ (x : Int) (ok : Bool), (-1 ≤ x ∧ x ≤ 1) ∧
    (∀ w', Below w.heap.size w w' → Calls Tryz.prog 40 #[.pointer (some ⟨tb, 0, none⟩), .int .i64 a, .int .i64 b] w' fun e w'' => e = .returned (.tuple #[.int .i64 x, .bool ok]) ∧ Below w'.heap.size w' w'') ∧
    (∀ w', Below w.heap.size w w' → Calls Tryz.prog 41 #[.pointer (some ⟨rb, 0, none⟩), .int .i64 a, .int .i64 b] w' fun e w'' => e = .returned (.tuple #[.int .i64 x, .bool ok]) ∧ Below w'.heap.size w' w'') := by
  have hlp : ps.length = ns.length := by have := congrArg List.length h.eqp; simpa [nodesOf] using this
  have hlq : qs.length = ns.length := by have := congrArg List.length h.eqr; simpa [nodesOf] using this
  by_cases hab : hasB ns.length a = true ∧ hasB ns.length b = true
  case neg =>
    refine ⟨0, false, by omega, fun w' hb => ?_, fun w' hb => ?_⟩
    · refine order_none (h.lies.below hb) a b ?_
      rw [hlp]
      cases h1 : hasB ns.length a
      · exact .inl rfl
      · refine .inr ?_
        cases h2 : hasB ns.length b
        · rfl
        · exact absurd ⟨h1, h2⟩ hab
    · refine (rorder_none (h.rlies.below hb) (a := a) (b := b) (by rw [hlq]; exact hab)).mono ?_
      rintro e w'' ⟨rfl, rfl⟩
      exact ⟨rfl, Below.refl _ _⟩
  obtain ⟨i, p, rfl, hp⟩ := hasB_get (ps := ps) (by rw [hlp]; exact hab.1)
  obtain ⟨j, q, rfl, hq⟩ := hasB_get (ps := ps) (by rw [hlp]; exact hab.2)
  have hil := (List.getElem?_eq_some_iff.1 hp).1
  have hjl := (List.getElem?_eq_some_iff.1 hq).1
  have hpn : ns[i]? = some p.n := by rw [← h.eqp]; exact nodes_get hp
  have hqn : ns[j]? = some q.n := by rw [← h.eqp]; exact nodes_get hq
  obtain ⟨la, hla⟩ := h.wf.up i _ hpn
  obtain ⟨lb, hlb⟩ := h.wf.up j _ hqn
  obtain ⟨s, r, ws, es, ls⟩ := h.wf.way hla
  obtain ⟨t, r', wt, et, lt⟩ := h.wf.way hlb
  have hs1 := hla.short
  have hs2 := hlb.short
  have hl := h.wf.len
  have ord : ∀ w', Below w.heap.size w w' → Calls Tryz.prog 40 #[.pointer (some ⟨tb, 0, none⟩), .int .i64 i, .int .i64 j] w' fun e w'' => e = .returned (ordV r r' s t) ∧ Below w'.heap.size w' w'' := fun w' hb => order_two (h.lies.below hb) (h.eqp ▸ ws) (h.eqp ▸ wt) (by omega) (by omega)
  by_cases hrr : r = r'
  · subst hrr
    have hb1 := cmpL_bd s t
    refine ⟨cmpL s t, true, hb1, fun w' hb => ?_, fun w' hb => ?_⟩
    · have e : ordV r r s t = .tuple #[.int .i64 (cmpL s t), .bool true] := by simp [ordV]
      rw [← e]
      exact ord w' hb
    · have hr := rorder_good (h.rlies.below hb) (h.eqr ▸ h.wf) (a := i) (b := j) (r := r) (la := la) (lb := lb) (h.eqr ▸ hla) (h.eqr ▸ hlb) es et (by omega) (by omega) (by have := ws.lt.2; omega)
      rw [h.eqr, hlq, order_eq h.wf ws wt] at hr
      exact hr
  · refine ⟨0, false, by omega, fun w' hb => ?_, fun w' hb => ?_⟩
    · have e : ordV r r' s t = .tuple #[.int .i64 0, .bool false] := by simp [ordV, hrr]
      rw [← e]
      exact ord w' hb
    · refine (rorder_apart (h.rlies.below hb) (a := i) (b := j) (la := la) (lb := lb) (h.eqr ▸ hla) (h.eqr ▸ hlb) es et hrr (by omega) (by omega)).mono ?_
      rintro e w'' ⟨rfl, rfl⟩
      exact ⟨rfl, Below.refl _ _⟩

set_option maxHeartbeats 8000000 in
set_option maxRecDepth 100000 in
theorem looked_any (h : BothS W X tb rb K ns past ns past w M N nv uv nv2 uv2 ps qs us vs) (hK : K ≤ 1000) (a b : Int) (name : ByteArray) :
    Calls Tryz.prog 8 #[.pointer (some ⟨tb, 0, none⟩), .pointer (some ⟨rb, 0, none⟩), .int .i64 a, .int .i64 b, .string name] w fun e w' => e = .returned (.bool true) ∧ Below w.heap.size w w' := by
  obtain ⟨x, ok, hx, hO, hR⟩ := order_both h a b
  have HO : Hid _ := hO
  have HR : Hid _ := hR
  have H : Hid (∀ w', Below w.heap.size w w' → Lies w' M tb nv uv ps us ∧ RLies w' N rb nv2 uv2 qs vs) := fun w' hb => ⟨h.lies.below hb, h.rlies.below hb⟩
  have hlp : ps.length = ns.length := by have := congrArg List.length h.eqp; simpa [nodesOf] using this
  have hlq : qs.length = ns.length := by have := congrArg List.length h.eqr; simpa [nodesOf] using this
  clear hO hR
  cases hb : hasB ns.length a with
  | false =>
    have hbp : hasB ps.length a = false := by rw [hlp]; exact hb
    have hbq : hasB qs.length a = false := by rw [hlq]; exact hb
    clear h hb hlp hlq
    go_enter Tryz.func8, Tryz.ntmps8
    go_wp2_with (first
      | (go_at_call 40; refine (HO.out _ (Below.refl _ _)).mono ?_; rintro e w1 ⟨rfl, hB1⟩; have HB1 : Hid (Below w.heap.size w w1) := hB1; clear hB1 HO)
      | (go_at_call 41; refine (HR.out _ HB1.out).mono ?_; rintro e w2 ⟨rfl, hB2⟩; have HB2 : Hid (Below w.heap.size w w2) := HB1.out.trans (hB2.mono HB1.out.size); clear hB2 HR)
      | (go_at_call 42; refine (attr_none (H.out _ HB2.out).1 hbp name).mono ?_; rintro e w3 ⟨rfl, hB3⟩; have HB3 : Hid (Below w.heap.size w w3) := HB2.out.trans (hB3.mono HB2.out.size); clear hB3)
      | (go_at_call 43; refine (rhas_any (H.out _ HB3.out).2 _).mono ?_; rintro e w4 ⟨rfl, hw4⟩; subst hw4; rw [hbq])
      | (go_at_call 10; refine (kind_none (H.out _ HB3.out).1 hbp).mono ?_; rintro e w5 ⟨rfl, hw5⟩; subst hw5)
      | (go_at_call 11; refine (tag_none (H.out _ HB3.out).1 hbp).mono ?_; rintro e w5 ⟨rfl, hw5⟩; subst hw5)
      | (go_at_call 12; refine (words_none (H.out _ HB3.out).1 hbp).mono ?_; rintro e w5 ⟨rfl, hw5⟩; subst hw5)
      | (go_at_call 13; refine (parent_none (H.out _ HB3.out).1 hbp).mono ?_; rintro e w5 ⟨rfl, hw5⟩; subst hw5)
      | (go_at_call 17; refine (kids_none (H.out _ HB3.out).1 hbp).mono ?_; rintro e w5 ⟨rfl, hw5⟩; subst hw5)
      | (go_at_call 18; refine (under_none (H.out _ HB3.out).1 hbp).mono ?_; rintro e w5 ⟨rfl, hw5⟩; subst hw5)
      | (go_at_call 15; refine (attrs_none (H.out _ HB3.out).1 hbp).mono ?_; rintro e w5 ⟨rfl, hw5⟩; subst hw5))
    all_goals go_ret
    all_goals exact ⟨rfl, HB3.out⟩
  | true =>
    obtain ⟨i, p, rfl, hp⟩ := hasB_get (ps := ps) (by rw [hlp]; exact hb)
    have hpn : ns[i]? = some p.n := by rw [← h.eqp]; exact nodes_get hp
    obtain ⟨q, hq, hqn⟩ := nodesOf_get (ps := qs) (by rw [h.eqr]; exact hpn)
    have hbq : hasB qs.length i = true := hasB_of hq
    have hpa : p.n.attrs.length ≤ 1000000 := by have := h.few i _ hpn; omega
    obtain ⟨nb, cap, rfl, hc, hm, _, hnl, hil⟩ := h.rlies.form hq
    obtain ⟨xa, xc, hav, hx1, hx2⟩ := (h.rlies.node i q hq).1.shape
    have c0 := h.rlies.cell0
    have hlt : rb < w.heap.size := lt_of_heap h.rlies.head
    have c3 := (h.rlies.cellN rfl (f := 3) hq (by omega) rfl).1
    rw [hav, hqn] at c3
    have HRow : Hid (∀ w', Below w.heap.size w w' → Row w' N (.attrs i) 79 2 (.slice xa p.n.attrs.length xc) p.n.attrs.length (attrCells p.n.attrs)) := fun w' hb => by
      have := ((h.rlies.below hb).node i q hq).1
      rw [hav, hqn] at this
      exact this
    have HP : Hid (ps[i]? = some p) := hp
    have i1 : (0 : Int) ≤ (i : Int) := by omega
    have i2 : (i : Int) < (qs.length : Int) := by omega
    unfold maxLen at hm hx2
    rw [hqn] at hx1
    cases hf : findA p.n.attrs name with
    | none =>
      have hfi : findI p.n.attrs name = -1 := by simp only [findI, hf]
      have hv : attrV p.n.attrs name = .tuple #[.string ⟨#[]⟩, .bool false] := by unfold attrV; rw [hf]
      have HA : Hid (∀ w', Below w.heap.size w w' → Calls Tryz.prog 42 #[.pointer (some ⟨tb, 0, none⟩), .int .i64 i, .string name] w' fun e w'' => e = .returned (.tuple #[.string ⟨#[]⟩, .bool false]) ∧ Below w'.heap.size w' w'') := fun w' hb => hv ▸ attr_some (H.out _ hb).1 HP.out hpa name
      clear h hb hlp hlq hp hpn hq hqn hav hf hv
      go_enter Tryz.func8, Tryz.ntmps8
      go_wp2_with (first
        | (go_at_call 40; refine (HO.out _ (Below.refl _ _)).mono ?_; rintro e w1 ⟨rfl, hB1⟩; have HB1 : Hid (Below w.heap.size w w1) := hB1; clear hB1 HO)
        | (go_at_call 41; refine (HR.out _ HB1.out).mono ?_; rintro e w2 ⟨rfl, hB2⟩; have HB2 : Hid (Below w.heap.size w w2) := HB1.out.trans (hB2.mono HB1.out.size); clear hB2 HR)
        | (go_at_call 42; refine (HA.out _ HB2.out).mono ?_; rintro e w3 ⟨rfl, hB3⟩; have HB3 : Hid (Below w.heap.size w w3) := HB2.out.trans (hB3.mono HB2.out.size)
           have d0 := (HB3.out.cell (p := ⟨rb, 0, none⟩) hlt).trans c0
           have d3 := (HB3.out.cell (p := ⟨nb, i * 6 + 3, none⟩) hnl).trans c3
           clear hB3)
        | (go_at_call 43; refine (rhas_any (H.out _ HB3.out).2 _).mono ?_; rintro e w4 ⟨rfl, hw4⟩; subst hw4; rw [hbq])
        | (go_at_call 44; refine (at_any (HRow.out _ HB3.out) name).mono ?_; rintro e w5 ⟨rfl, hw5⟩; subst hw5; rw [hfi]))
      all_goals go_ret
      all_goals exact ⟨rfl, HB3.out⟩
    | some k =>
      have hfi : findI p.n.attrs name = k := by simp only [findI, hf]
      have hkl : k < p.n.attrs.length := by
        unfold findA at hf
        rw [List.findIdx?_eq_some_iff_getElem] at hf
        exact hf.1
      obtain ⟨y, hy⟩ : ∃ y, p.n.attrs[k]? = some y := ⟨_, List.getElem?_eq_getElem hkl⟩
      have hv : attrV p.n.attrs name = .tuple #[.string y.2, .bool true] := by
        unfold attrV
        rw [hf]
        simp only [List.getD_eq_getElem?_getD, hy, Option.getD_some]
      have HA : Hid (∀ w', Below w.heap.size w w' → Calls Tryz.prog 42 #[.pointer (some ⟨tb, 0, none⟩), .int .i64 i, .string name] w' fun e w'' => e = .returned (.tuple #[.string y.2, .bool true]) ∧ Below w'.heap.size w' w'') := fun w' hb => hv ▸ attr_some (H.out _ hb).1 HP.out hpa name
      obtain ⟨ag, ac', hav', _, _, _, hagl⟩ := (HRow.out w (Below.refl _ _)).form (by omega)
      cases hav'
      have cx := ((HRow.out w (Below.refl _ _)).cell rfl (attrCells_get p.n.attrs k y hy).2).1
      have i3 : (0 : Int) ≤ (k : Int) := by omega
      have i4 : (k : Int) < (p.n.attrs.length : Int) := by omega
      clear h hb hlp hlq hp hpn hq hqn hav hf hv hy
      go_enter Tryz.func8, Tryz.ntmps8
      go_wp2_with (first
        | (go_at_call 40; refine (HO.out _ (Below.refl _ _)).mono ?_; rintro e w1 ⟨rfl, hB1⟩; have HB1 : Hid (Below w.heap.size w w1) := hB1; clear hB1 HO)
        | (go_at_call 41; refine (HR.out _ HB1.out).mono ?_; rintro e w2 ⟨rfl, hB2⟩; have HB2 : Hid (Below w.heap.size w w2) := HB1.out.trans (hB2.mono HB1.out.size); clear hB2 HR)
        | (go_at_call 42; refine (HA.out _ HB2.out).mono ?_; rintro e w3 ⟨rfl, hB3⟩; have HB3 : Hid (Below w.heap.size w w3) := HB2.out.trans (hB3.mono HB2.out.size)
           have d0 := (HB3.out.cell (p := ⟨rb, 0, none⟩) hlt).trans c0
           have d3 := (HB3.out.cell (p := ⟨nb, i * 6 + 3, none⟩) hnl).trans c3
           have dx := (HB3.out.cell (p := ⟨ag, k * 2 + 1, none⟩) hagl).trans cx
           clear hB3)
        | (go_at_call 43; refine (rhas_any (H.out _ HB3.out).2 _).mono ?_; rintro e w4 ⟨rfl, hw4⟩; subst hw4; rw [hbq])
        | (go_at_call 44; refine (at_any (HRow.out _ HB3.out) name).mono ?_; rintro e w5 ⟨rfl, hw5⟩; subst hw5; rw [hfi]))
      all_goals first
        | (go_ret; exact ⟨by first | rfl | simp, HB3.out⟩)
        | (go_quiet (fail); go_wp2; go_ret; exact ⟨by first | rfl | simp, below_drewN HB3.out _⟩)
end
end Go.Proofs.YtoanbjdifddcoaaGreatDoor
