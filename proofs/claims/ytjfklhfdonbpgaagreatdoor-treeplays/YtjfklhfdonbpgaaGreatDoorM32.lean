/- Copy, of any tree: exactly. -/
import Derived.Test.YtjfklhfdonbpgaaGreatDoorDblX
import Derived.Test.YtjfklhfdonbpgaaGreatDoorPutX
import Derived.Test.YtjfklhfdonbpgaaGreatDoorM26
import Derived.Test.YtjfklhfdonbpgaaGreatDoorM30
import Derived.Test.YtjfklhfdonbpgaaGreatDoorRMakeE
import Derived.Test.YtjfklhfdonbpgaaGreatDoorRCopyG
import Derived.Test.YtjfklhfdonbpgaaGreatDoorM18
import Derived.Test.YtjfklhfdonbpgaaGreatDoorM05
namespace Go.Proofs.YtjfklhfdonbpgaaGreatDoor
open Go.RowKit

set_option maxHeartbeats 1000000 in
theorem room_gen {w : World} {M : Nat → Lab} {tb : Nat} {nv uv : Value} {ps : List Pn} {us : List Value} (h : Lies w M tb nv uv ps us) (h4 : ps.length ≤ 400) (more : Nat) (hm : more ≤ 400) :
    Calls Tryz.prog 68 #[.pointer (some ⟨tb, 0, none⟩), .int .i64 more] w fun e w' => e = .returned (.bool (decide (ps.length + more ≤ 400))) ∧ w' = w := by
  obtain ⟨a, cap, rfl, hc, hm⟩ := h.nodes.shape
  have c0 := h.cell0
  unfold maxLen at hm
  clear h
  go_enter Tryz.func68, Tryz.ntmps68
  go_wp2
  all_goals go_ret
  all_goals refine ⟨ret_bool ?_, rfl⟩
  all_goals (simp; try omega)

theorem own_movedD {w w' : World} {M M' : Nat → Lab} {B : Nat} {v : Value} {n : Nat} {xs : List Value} (h : w.ownsRow B 3 1 v n xs) (m : Moved w M w' M') (hl : ∀ k, v.ownBlock = some k → M k = .other) : w'.ownsRow B 3 1 v n xs ∧ ∀ k, v.ownBlock = some k → M' k = .other := by
  refine ⟨⟨h.1, ?_⟩, fun k hk => (m.lab k (h.lt k hk).2).trans (hl k hk)⟩
  rcases h.2 with h0 | ⟨g, cap, cur, rfl, h1, h2, h3⟩
  · exact .inl h0
  · exact .inr ⟨g, cap, cur, rfl, h1, (m.far g (lt_of_heap h2) (hl g rfl)).trans h2, h3⟩

/-- nothing was made, and the error of that variable is told -/
def Told7P (w : World) (g : Nat) (e : Ending) (w' : World) : Prop := (∃ v, e = .returned (.tuple #[.int .i64 0, v]) ∧ isErr v ∧ w.cell? ⟨g, 0, none⟩ = some v) ∧ Below w.heap.size w w'
/-- what Copy answers -/
def CopyX (w : World) (M : Nat → Lab) (tb : Nat) (ps : List Pn) (us : List Value) (K : Nat) (a : Int) (e : Ending) (w' : World) : Prop :=
  (hasB ps.length a = false ∧ Told7P w 1 e w') ∨ ∃ (i : Nat), a = i ∧ i < ps.length ∧
    ((i = 0 ∧ Told7P w 2 e w') ∨ (i ≠ 0 ∧ ((400 < ps.length + (und (nodesOf ps) (ps.length + 1) i).length ∧ Told7P w 3 e w') ∨
      (ps.length + (und (nodesOf ps) (ps.length + 1) i).length ≤ 400 ∧ e = .returned (.tuple #[.int .i64 ps.length, .nilIface]) ∧ ∃ ns', DblN (nodesOf ps) (und (nodesOf ps) (ps.length + 1) i) (und (nodesOf ps) (ps.length + 1) i).length ns' ∧ WF ns' ∧ Few ns' K ∧ DoneX w M tb us (nodesOf ps) ns' w'))))

set_option maxHeartbeats 4000000 in
set_option maxRecDepth 100000 in
theorem copyX_any {w : World} {M : Nat → Lab} {tb : Nat} {nv uv : Value} {ps : List Pn} {us : List Value} (h : Lies w M tb nv uv ps us) (hE : Errs w M) (hW : WF (nodesOf ps)) {K : Nat} (hF : Few (nodesOf ps) K) (hK : K ≤ 1000000) (hu : us.length ≤ 1000000) (a : Int) :
    Calls Tryz.prog 35 #[.pointer (some ⟨tb, 0, none⟩), .int .i64 a] w (CopyX w M tb ps us K a) := by
  obtain ⟨t1, a1, hc1⟩ := hE.cell 1 (by decide)
  obtain ⟨t2, a2, hc2⟩ := hE.cell 2 (by decide)
  obtain ⟨t3, a3, hc3⟩ := hE.cell 3 (by decide)
  have l3 : 3 < w.heap.size := World.block_lt_of_cell? w _ hc3
  have H : Hid (Lies w M tb nv uv ps us) := h
  have hln : (nodesOf ps).length = ps.length := by simp [nodesOf]
  have hpl : ps.length ≤ 400 := by have := hW.len; omega
  have HW : Hid (WF (nodesOf ps)) := hW
  have HF : Hid (Few (nodesOf ps) K) := hF
  clear h hE hW hF
  cases hb : hasB ps.length a
  · go_enter Tryz.func35, Tryz.ntmps35
    go_wp2_with (go_at_call 45; refine (has_any H.out _).mono ?_; rintro e w' ⟨rfl, rfl⟩; rw [hb])
    all_goals go_quiet (fail)
    all_goals go_wp2
    all_goals go_ret2
    all_goals exact .inl ⟨hb, ⟨_, rfl, ⟨t1, a1, rfl⟩, hc1⟩, below_drewN (Below.refl _ _) _⟩
  obtain ⟨i, p, rfl, hp⟩ := hasB_get hb
  by_cases h0 : i = 0
  · subst h0
    have hb3 : hasB ps.length 0 = true := hb
    have hil0 := (List.getElem?_eq_some_iff.1 hp).1
    clear hp
    go_enter Tryz.func35, Tryz.ntmps35
    go_wp2_with (go_at_call 45; refine (has_any H.out _).mono ?_; rintro e w' ⟨rfl, rfl⟩; first | rw [hb] | rw [hb3])
    all_goals go_quiet (fail)
    all_goals go_wp2
    all_goals go_ret2
    all_goals exact .inr ⟨0, rfl, hil0, .inl ⟨rfl, ⟨_, rfl, ⟨t2, a2, rfl⟩, hc2⟩, below_drewN (Below.refl _ _) _⟩⟩
  have hil := (List.getElem?_eq_some_iff.1 hp).1
  have hi0 : ((i : Int) == 0) = false := by simp; omega
  have hi0' : ¬ ((i : Int) = 0) := by omega
  obtain ⟨all, hall⟩ : ∃ all, und (nodesOf ps) (ps.length + 1) i = all := ⟨_, rfl⟩
  have hU : Calls Tryz.prog 18 #[.pointer (some ⟨tb, 0, none⟩), .int .i64 i] w (UndPost w all) := hall ▸ Under_any H.out HW.out (ps.length + 1) i hil (by have := rkU_le (nodesOf ps) i; omega)
  have HU : Hid (Calls Tryz.prog 18 #[.pointer (some ⟨tb, 0, none⟩), .int .i64 i] w (UndPost w all)) := hU
  have hal : all.length ≤ 400 := by
    have := und_short HW.out (ps.length + 1) i (by omega)
    rw [hall] at this
    omega
  have ha0 : 0 < all.length := by rw [← hall]; simp [und]
  have HIn : Hid (∀ x ∈ all, ∃ c : Nat, x = c ∧ c < ps.length) := by
    intro x hx
    rw [← hall] at hx
    obtain ⟨b, e1, e2, _⟩ := und_anc HW.out _ i (by omega) x hx
    exact ⟨b, e1, by omega⟩
  have HPre : Hid (∀ (k : Nat) (x : Int), all[k]? = some x → 0 < k → ∃ (c : Nat) (n : Nd), x = c ∧ (nodesOf ps)[c]? = some n ∧ n.parent ∈ all.take k) := by
    intro k x hx hk
    rw [← hall] at hx ⊢
    exact und_pre HW.out _ i (by omega) k x hx hk
  have HND : Hid all.Nodup := by
    show all.Nodup
    rw [← hall]
    exact und_nodup HW.out _ i (by omega)
  have HALL : Hid (und (nodesOf ps) (ps.length + 1) i = all) := hall
  clear hp hU hall
  by_cases h4 : ps.length + all.length ≤ 400
  · have hr : decide (ps.length + all.length ≤ 400) = true := by simpa using h4
    go_enter Tryz.func35, Tryz.ntmps35
    go_wp2_with (first
      | (go_at_call 45; refine (has_any H.out _).mono ?_; rintro e w' ⟨rfl, rfl⟩; rw [hb])
      | (go_at_call 18; refine HU.out.mono ?_; rintro e w1 ⟨v1, rfl, ho1, hB1⟩
         obtain ⟨aa, ac, hv1⟩ := own_shape ho1
         subst hv1
         have H1 : Hid _ := And.intro ho1 hB1
         clear ho1 hB1)
      | (go_at_call 68; refine (room_gen (H.out.below H1.out.2) hpl all.length hal).mono ?_; rintro e w' ⟨rfl, rfl⟩; rw [hr])
      | (go_at_call 69; refine (forgetN_any (H.out.below H1.out.2)).mono ?_; rintro e w2 ⟨ca, rfl, hF2, hB2, hN2⟩; have HN2 : Hid _ := hN2; have H2 : Hid _ := And.intro ((H.out.below H1.out.2).below hB2) (And.intro hF2 hB2); clear hF2 hB2 hN2)
      | (go_at_call 55; refine (keep_any H2.out.1 _ _ ca (by omega)).mono ?_; rintro e w3 ⟨rfl, M3, uv3, hL3, hm3⟩
         have hfr1 : ∀ q, (Value.slice aa all.length ac).ownBlock = some q → M q = .other := fun q hq => H.out.fresh q (H1.out.1.lt q hq).1
         have om := own_movedD (own_below H1.out.1 H2.out.2.2 (Nat.le_refl _)) hm3 hfr1
         have H3 : Hid _ := And.intro hL3 (And.intro hm3 om)
         clear hL3 hm3 om hfr1)
      | (go_at_call 70; refine (doubleX_any H3.out.1 HW.out HF.out hK H3.out.2.2.1 H3.out.2.2.2 HND.out ha0 h4 HIn.out HPre.out).mono ?_; rintro e w4 ⟨rfl, hD⟩; have HD : Hid _ := hD; clear hD))
    all_goals go_ret2
    all_goals
      obtain ⟨M4, nv4, ps4, D, q1, q2, q3, q4, q5, ⟨q6, q6n⟩, q7, _, _⟩ := HD.out
      refine .inr ⟨i, rfl, hil, .inr ⟨h0, .inr ?_⟩⟩
      rw [HALL.out]
      refine ⟨h4, rfl, _, q6n, q4, q7, M4, nv4, uv3, ps4, _, .forget ps.length, q1, rfl, (H2.out.2.1.moved H3.out.2.1).moved q2, ⟨by simp [nodesOf]; omega, ?_⟩, (((Moved.refl _ M).below H1.out.2).below H2.out.2.2).trans (H3.out.2.1.trans q2), NewF.mono HN2.out H1.out.2.size⟩
      rw [← hln]
      exact q6.symm
  · have hr : decide (ps.length + all.length ≤ 400) = false := by simpa using h4
    go_enter Tryz.func35, Tryz.ntmps35
    go_wp2_with (first
      | (go_at_call 45; refine (has_any H.out _).mono ?_; rintro e w' ⟨rfl, rfl⟩; rw [hb])
      | (go_at_call 18; refine HU.out.mono ?_; rintro e w1 ⟨v1, rfl, ho1, hB1⟩
         obtain ⟨aa, ac, hv1⟩ := own_shape ho1
         subst hv1
         have d3 := (hB1.cell (p := ⟨3, 0, none⟩) l3).trans hc3
         have H1 : Hid _ := And.intro ho1 hB1
         clear ho1 hB1)
      | (go_at_call 68; refine (room_gen (H.out.below H1.out.2) hpl all.length hal).mono ?_; rintro e w' ⟨rfl, rfl⟩; rw [hr]))
    all_goals go_quiet (fail)
    all_goals go_wp2
    all_goals go_ret2
    all_goals
      refine .inr ⟨i, rfl, hil, .inr ⟨h0, .inl ?_⟩⟩
      rw [HALL.out]
      exact ⟨by omega, ⟨_, rfl, ⟨t3, a3, rfl⟩, hc3⟩, below_drewN H1.out.2 _⟩
end Go.Proofs.YtjfklhfdonbpgaaGreatDoor

/- Makings, Copy and Undo, in both trees. -/
namespace Go.Proofs.YtjfklhfdonbpgaaGreatDoor
open Go.RowKit

theorem MadeN.doneX {w w' : World} {M : Nat → Lab} {tb : Nat} {ps : List Pn} {us : List Value} {p : Pn} {e : Ending} (h : MadeN w M tb ps us p e w') : DoneX w M tb us (nodesOf ps) (nodesOf ps ++ [p.n]) w' := by
  obtain ⟨_, M', nv', uv', f, h1, h2, h3, h4⟩ := h
  exact ⟨M', nv', uv', ps ++ [p], f, .forget ps.length, h1, by simp [nodesOf], h2, ⟨by simp [nodesOf], by simp [nodesOf]⟩, h3, h4⟩
theorem few_snoc {ns : List Nd} {K : Nat} (h : Few ns K) {n : Nd} (hn : n.attrs = []) : Few (ns ++ [n]) (K + 1) := by
  intro j x hx
  by_cases hj : j < ns.length
  · rw [List.getElem?_append_left hj] at hx; exact Nat.le_succ_of_le (h j x hx)
  · rw [List.getElem?_append_right (by omega)] at hx
    rcases Nat.eq_zero_or_pos (j - ns.length) with e | e
    · rw [e] at hx; cases hx; rw [hn]; exact Nat.zero_le _
    · rw [List.getElem?_eq_none (by simp; omega)] at hx; cases hx
theorem DblN.kinds {ns : List Nd} {all : List Int} (hK : Kinds ns) : ∀ {k : Nat} {s : List Nd}, DblN ns all k s → Kinds s
  | 0, _, .zero => hK
  | _ + 1, _, .succ h h1 => by
    have ih := h.kinds hK
    cases h1 with
    | @first c n hk hc hn =>
      refine Kinds.snoc ih ?_
      exact hK c n hn
    | @next c j n m hk hc hn hj hjk hm =>
      refine Kinds.snoc (ih.set hm (n' := { m with kids := m.kids ++ [_] }) rfl) ?_
      exact hK c n hn

section
variable {W : World} {X : List (Nat × Obj)} {tb rb K : Nat} {ns : List Nd} {past : List (List Nd)} {w w' : World} {A : Nat → Addr} {e : Ending}

theorem told_shM {n k : Nat} (ht : Told7P w (gl k) e w') : (∃ v, e = .returned ((shM n).pf v) ∧ w.cell? ⟨gl k, 0, none⟩ = some v) ∧ Below w.heap.size w w' := by
  obtain ⟨⟨v, rfl, _, hc⟩, hb⟩ := ht
  exact ⟨⟨v, rfl, hc⟩, hb⟩

/-- Element -/
theorem both_element (h : Both W X tb rb K ns past ns past w) (hE : Errs7 W A) (hK : K ≤ 900) (s : ByteArray) :
    Calls Tryz.prog 20 #[.pointer (some ⟨tb, 0, none⟩), .string s] w (Twice W X tb rb K ns past A (shM ns.length) 21 #[.pointer (some ⟨rb, 0, none⟩), .int .i64 2, .string s]) := by
  obtain ⟨M, N, nv, uv, nv2, uv2, ps, qs, us, vs, hs⟩ := id h
  have hlen := hs.wf.len
  have hpl := lenN hs.eqp
  have hlu := hs.lu
  by_cases hn : nameB s = true
  case neg =>
    have hn' : nameB s = false := by simpa using hn
    refine (elementX_name (hE.errs hs.below hs.labM) s hn').mono ?_
    rintro e w' ⟨v, rfl, _, hc, hb⟩
    refine twice_fail (k := 2) h hK hE (by omega) ⟨v, rfl, hc⟩ hb fun hR hq _ _ => ?_
    refine (rmake_name hR s hn').mono ?_
    rintro e w3 ⟨rfl, rfl⟩
    exact ⟨rfl, Below.refl _ _⟩
  by_cases hf : ps.length < 400
  case neg =>
    refine (elementX_full hs.lies (hE.errs hs.below hs.labM) (by omega) s hn (by omega)).mono ?_
    rintro e w' ⟨v, rfl, _, hc, hb⟩
    refine twice_fail (k := 1) h hK hE (by omega) ⟨v, rfl, hc⟩ hb fun hR hq _ _ => ?_
    refine (rmake_full hR s hn (by have := lenN hq; omega)).mono ?_
    rintro e w3 ⟨rfl, rfl⟩
    exact ⟨rfl, Below.refl _ _⟩
  refine (elementN_good hs.lies hf (by omega) s hn).mono fun e w' hm => ?_
  have hd := hm.doneX
  rw [hs.eqp] at hd
  refine twice_ok hs hK (by rw [hm.1, hpl]; rfl) hd (hs.wf.snoc (by omega) _ rfl rfl) (hs.kin.snoc (.inr (.inl rfl))) (few_snoc hs.few rfl) (@fun w2 N2 nv3 uv3 qs2 vs2 hR hq hSm hlv => ?_)
  have hql := lenN hq
  refine (rmakeE_elem hR hSm (by omega) (by omega) s hn).mono ?_
  rintro e w3 ⟨rfl, hd3⟩
  rw [hq] at hd3
  exact ⟨by rw [hql]; rfl, hd3⟩

/-- Text -/
theorem both_text (h : Both W X tb rb K ns past ns past w) (hE : Errs7 W A) (hK : K ≤ 900) (s : ByteArray) (hz : s.size ≤ 9223372036854775807) :
    Calls Tryz.prog 23 #[.pointer (some ⟨tb, 0, none⟩), .string s] w (Twice W X tb rb K ns past A (shM ns.length) 21 #[.pointer (some ⟨rb, 0, none⟩), .int .i64 3, .string s]) := by
  obtain ⟨M, N, nv, uv, nv2, uv2, ps, qs, us, vs, hs⟩ := id h
  have hlen := hs.wf.len
  have hpl := lenN hs.eqp
  have hlu := hs.lu
  by_cases hf : s.size ≤ 20000 ∧ ps.length < 400
  case neg =>
    refine (textX_bad hs.lies (hE.errs hs.below hs.labM) (by omega) s (by omega)).mono ?_
    rintro e w' ⟨v, rfl, _, hc, hb⟩
    refine twice_fail (k := 1) h hK hE (by omega) ⟨v, rfl, hc⟩ hb fun hR hq _ _ => ?_
    refine (rmake_bound hR s hz (by omega) (by have := lenN hq; omega) (by have := lenN hq; omega)).mono ?_
    rintro e w3 ⟨rfl, rfl⟩
    exact ⟨rfl, Below.refl _ _⟩
  refine (textN_good hs.lies hf.2 (by omega) s hf.1).mono fun e w' hm => ?_
  have hd := hm.doneX
  rw [hs.eqp] at hd
  refine twice_ok hs hK (by rw [hm.1, hpl]; rfl) hd (hs.wf.snoc (by omega) _ rfl rfl) (hs.kin.snoc (.inr (.inr (.inl rfl)))) (few_snoc hs.few rfl) (@fun w2 N2 nv3 uv3 qs2 vs2 hR hq hSm hlv => ?_)
  have hql := lenN hq
  refine (rmakeE_other hR hSm (by omega) (by omega) s 3 (by omega) hf.1).mono ?_
  rintro e w3 ⟨rfl, hd3⟩
  rw [hq] at hd3
  exact ⟨by rw [hql]; rfl, hd3⟩
/-- Comment -/
theorem both_comment (h : Both W X tb rb K ns past ns past w) (hE : Errs7 W A) (hK : K ≤ 900) (s : ByteArray) (hz : s.size ≤ 9223372036854775807) :
    Calls Tryz.prog 24 #[.pointer (some ⟨tb, 0, none⟩), .string s] w (Twice W X tb rb K ns past A (shM ns.length) 21 #[.pointer (some ⟨rb, 0, none⟩), .int .i64 4, .string s]) := by
  obtain ⟨M, N, nv, uv, nv2, uv2, ps, qs, us, vs, hs⟩ := id h
  have hlen := hs.wf.len
  have hpl := lenN hs.eqp
  have hlu := hs.lu
  by_cases hf : s.size ≤ 20000 ∧ ps.length < 400
  case neg =>
    refine (commentX_bad hs.lies (hE.errs hs.below hs.labM) (by omega) s (by omega)).mono ?_
    rintro e w' ⟨v, rfl, _, hc, hb⟩
    refine twice_fail (k := 1) h hK hE (by omega) ⟨v, rfl, hc⟩ hb fun hR hq _ _ => ?_
    refine (rmake_bound hR s hz (by omega) (by have := lenN hq; omega) (by have := lenN hq; omega)).mono ?_
    rintro e w3 ⟨rfl, rfl⟩
    exact ⟨rfl, Below.refl _ _⟩
  refine (commentN_good hs.lies hf.2 (by omega) s hf.1).mono fun e w' hm => ?_
  have hd := hm.doneX
  rw [hs.eqp] at hd
  refine twice_ok hs hK (by rw [hm.1, hpl]; rfl) hd (hs.wf.snoc (by omega) _ rfl rfl) (hs.kin.snoc (.inr (.inr (.inr rfl)))) (few_snoc hs.few rfl) (@fun w2 N2 nv3 uv3 qs2 vs2 hR hq hSm hlv => ?_)
  have hql := lenN hq
  refine (rmakeE_other hR hSm (by omega) (by omega) s 4 (by omega) hf.1).mono ?_
  rintro e w3 ⟨rfl, hd3⟩
  rw [hq] at hd3
  exact ⟨by rw [hql]; rfl, hd3⟩

/-- Copy -/
theorem both_copy (h : Both W X tb rb K ns past ns past w) (hE : Errs7 W A) (hK : K ≤ 900) (a : Int) :
    Calls Tryz.prog 35 #[.pointer (some ⟨tb, 0, none⟩), .int .i64 a] w (Twice W X tb rb K ns past A (shM ns.length) 36 #[.pointer (some ⟨rb, 0, none⟩), .int .i64 a]) := by
  obtain ⟨M, N, nv, uv, nv2, uv2, ps, qs, us, vs, hs⟩ := id h
  have hlen := hs.wf.len
  have hpl := lenN hs.eqp
  have hlu := hs.lu
  refine (copyX_any hs.lies (hE.errs hs.below hs.labM) (hs.eqp ▸ hs.wf) (K := K) (hs.eqp ▸ hs.few) (by omega) (by omega) a).mono ?_
  rintro e w' (⟨hb, ht⟩ | ⟨i, rfl, hil, ⟨h0, ht⟩ | ⟨h0, ⟨hfull, ht⟩ | ⟨hfit, he, ns', hN, hW, hF, hd⟩⟩⟩)
  · obtain ⟨t1, t2⟩ := told_shM (n := ns.length) (k := 3) ht
    refine twice_fail h hK hE (by omega) t1 t2 fun hR hq _ _ => ?_
    refine (rcopy_none hR (a := a) (by rw [← lenEq hs.eqp hq]; exact hb)).mono ?_
    rintro e w3 ⟨rfl, rfl⟩
    exact ⟨rfl, Below.refl _ _⟩
  · subst h0
    obtain ⟨t1, t2⟩ := told_shM (n := ns.length) (k := 4) ht
    refine twice_fail h hK hE (by omega) t1 t2 fun hR hq _ _ => ?_
    refine (rcopy_zero hR (by have := lenN hq; omega)).mono ?_
    rintro e w3 ⟨rfl, rfl⟩
    exact ⟨rfl, Below.refl _ _⟩
  · obtain ⟨t1, t2⟩ := told_shM (n := ns.length) (k := 1) ht
    refine twice_fail h hK hE (by omega) t1 t2 fun hR hq _ _ => ?_
    have hql := lenN hq
    rw [hs.eqp] at hfull
    refine (rcopy_full hR (hq ▸ hs.wf) h0 (by omega) (by rw [hq, hql, ← hpl]; exact hfull)).mono ?_
    rintro e w3 ⟨rfl, hb3⟩
    exact ⟨rfl, hb3⟩
  · rw [hs.eqp] at hfit hN hd
    refine twice_ok hs hK (by rw [he, hpl]; rfl) hd hW (hN.kinds hs.kin) (hF.mono (Nat.le_succ _)) (@fun w2 N2 nv3 uv3 qs2 vs2 hR hq hSm hlv => ?_)
    have hql := lenN hq
    have hpq : ps.length = qs2.length := by omega
    refine (rcopy_good hR hSm (by omega) (hq ▸ hs.wf) (K := K) (hq ▸ hs.few) (by omega) h0 (by omega) (by rw [hq, ← hpq]; exact hfit) (ns' := ns') (by rw [hq, ← hpq]; exact hN)).mono ?_
    rintro e w3 ⟨rfl, hd3⟩
    rw [hq] at hd3
    exact ⟨by rw [hql]; rfl, hd3⟩

/-- Undo -/
theorem both_undo (h : Both W X tb rb K ns past ns past w) (hK : K ≤ 900) :
    Calls Tryz.prog 38 #[.pointer (some ⟨tb, 0, none⟩)] w fun e w' => ∃ r : Bool, e = .returned (.bool r) ∧ ∀ w'', Below w'.heap.size w' w'' → Calls Tryz.prog 39 #[.pointer (some ⟨rb, 0, none⟩)] w'' fun e w3 => e = .returned (.bool r) ∧ ∃ ns' past', Both W X tb rb K ns' past' ns' past' w3 := by
  obtain ⟨M, N, nv, uv, nv2, uv2, ps, qs, us, vs, hs⟩ := id h
  cases past with
  | nil =>
    have hul := hs.stk.len
    obtain rfl : us = [] := by simpa using hul
    refine (undo_none hs.lies).mono ?_
    rintro e w' ⟨rfl, rfl⟩
    refine ⟨false, rfl, fun w'' hb => ?_⟩
    have h2 := h.below hb
    obtain ⟨M, N, nv, uv, nv2, uv2, ps, qs, us, vs, hs⟩ := id h2
    have hvl := hs.cop.len
    obtain rfl : vs = [] := by simpa using hvl
    refine (rundo_none hs.rlies).mono ?_
    rintro e w3 ⟨rfl, rfl⟩
    exact ⟨rfl, _, _, h2⟩
  | cons p1 rest =>
    have hul := hs.stk.len
    obtain ⟨us', f, rfl⟩ : ∃ us' f, us = us' ++ [f] := ⟨us.dropLast, us.getLast (by intro e; subst e; simp at hul), (List.dropLast_concat_getLast _).symm⟩
    have hst := hs.stk
    rw [List.reverse_append] at hst
    obtain ⟨r, k1, k2, ⟨k3, k3k⟩, k4, k5⟩ := hst
    refine (undo_any hs.lies k1.left (hs.eqp ▸ hs.wf) (K := K) (hs.eqp ▸ hs.few) (by omega) (hs.eqp ▸ k2)).mono ?_
    rintro e w' ⟨rfl, M', nv', uv', ps', g1, g2, g3⟩
    have hlu := hs.lu
    have half := hs.turned g1 g2 g3 k3 k3k k4 (fun f hf => List.mem_append_left _ hf) (by simp at hlu; omega) k5
    refine ⟨true, rfl, fun w'' hb => ?_⟩
    obtain ⟨M, N, nv, uv, nv2, uv2, ps, qs, us, vs, hs⟩ := half.below hb
    have hvl := hs.cop.len
    obtain ⟨vs', v, rfl⟩ : ∃ vs' v, vs = vs' ++ [v] := ⟨vs.dropLast, vs.getLast (by intro e; subst e; simp at hvl), (List.dropLast_concat_getLast _).symm⟩
    have hcp := hs.cop
    rw [List.reverse_append] at hcp
    obtain ⟨L, c1, c2, c3⟩ := hcp
    have hlv := hs.lv
    refine (rundo_some hs.rlies c1 (fun b hb => (c2 b hb).1.1)).mono ?_
    rintro e w3 ⟨rfl, hB⟩
    exact ⟨rfl, p1, rest, hs.back hB c2 k3 k4 (by simp at hlv; omega) c3⟩
end
end Go.Proofs.YtjfklhfdonbpgaaGreatDoor
