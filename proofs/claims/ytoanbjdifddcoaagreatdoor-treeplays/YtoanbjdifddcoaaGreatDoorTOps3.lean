/- Makings, Copy and Undo, in both trees. -/
import Derived.Test.YtoanbjdifddcoaaGreatDoorM33
import Derived.Test.YtoanbjdifddcoaaGreatDoorM38
import Derived.Test.YtoanbjdifddcoaaGreatDoorM09
import Derived.Test.YtoanbjdifddcoaaGreatDoorM42
import Derived.Test.YtoanbjdifddcoaaGreatDoorRCopyG
import Derived.Test.YtoanbjdifddcoaaGreatDoorM25
namespace Go.Proofs.YtoanbjdifddcoaaGreatDoor
open Go.RowKit

theorem MadeN.doneX {w w' : World} {M : Nat → Lab} {tb : Nat} {ps : List Pn} {us : List Value} {p : Pn} {e : Ending} (h : MadeN w M tb ps us p e w') : DoneX w M tb us (nodesOf ps) (nodesOf ps ++ [p.n]) w' := by
  obtain ⟨_, M', nv', uv', f, h1, h2, h3, h4⟩ := h
  exact ⟨M', nv', uv', ps ++ [p], f, .forget ps.length, h1, by simp [nodesOf], h2, ⟨by simp [nodesOf], by simp [nodesOf]⟩, h3, h4⟩
theorem few_snoc {ns : List Nd} {K : Nat} (h : Few ns K) {n : Nd} (hn : n.attrs = []) : Few (ns ++ [n]) (K + 1) := by
  intro j x hx
  by_cases hj : j < ns.length
  · rw [List.getElem?_append_left hj] at hx; exact Nat.le_succ_of_le (h j x hx)
  · rw [List.getElem?_append_right (by omega)] at hx
    rcases Nat.eq_zero_or_pos (j - ns.length) with e | e
    · rw [e] at hx; cases hx; rw [hn]; exact Nat.zero_le _
    · rw [List.getElem?_eq_none (by simp; omega)] at hx; cases hx
theorem DblN.kinds {ns : List Nd} {all : List Int} (hK : Kinds ns) : ∀ {k : Nat} {s : List Nd}, DblN ns all k s → Kinds s
  | 0, _, .zero => hK
  | _ + 1, _, .succ h h1 => by
    have ih := h.kinds hK
    cases h1 with
    | @first c n hk hc hn =>
      refine Kinds.snoc ih ?_
      exact hK c n hn
    | @next c j n m hk hc hn hj hjk hm =>
      refine Kinds.snoc (ih.set hm (n' := { m with kids := m.kids ++ [_] }) rfl) ?_
      exact hK c n hn

section
variable {W : World} {X : List (Nat × Obj)} {tb rb K : Nat} {ns : List Nd} {past : List (List Nd)} {w w' : World} {A : Nat → Addr} {e : Ending}

theorem told_shM {n k : Nat} (ht : Told7P w (gl k) e w') : (∃ v, e = .returned ((shM n).pf v) ∧ w.cell? ⟨gl k, 0, none⟩ = some v) ∧ Below w.heap.size w w' := by
  obtain ⟨⟨v, rfl, _, hc⟩, hb⟩ := ht
  exact ⟨⟨v, rfl, hc⟩, hb⟩

/-- Element -/
theorem both_element (h : Both W X tb rb K ns past ns past w) (hE : Errs7 W A) (hK : K ≤ 900) (s : ByteArray) :
    Calls Tryz.prog 20 #[.pointer (some ⟨tb, 0, none⟩), .string s] w (Twice W X tb rb K ns past A (shM ns.length) 21 #[.pointer (some ⟨rb, 0, none⟩), .int .i64 2, .string s]) := by
  obtain ⟨M, N, nv, uv, nv2, uv2, ps, qs, us, vs, hs⟩ := id h
  have hlen := hs.wf.len
  have hpl := lenN hs.eqp
  have hlu := hs.lu
  by_cases hn : nameB s = true
  case neg =>
    have hn' : nameB s = false := by simpa using hn
    refine (elementX_name (hE.errs hs.below hs.labM) s hn').mono ?_
    rintro e w' ⟨v, rfl, _, hc, hb⟩
    refine twice_fail (k := 2) h hK hE (by omega) ⟨v, rfl, hc⟩ hb fun hR hq _ _ => ?_
    refine (rmake_name hR s hn').mono ?_
    rintro e w3 ⟨rfl, rfl⟩
    exact ⟨rfl, Below.refl _ _⟩
  by_cases hf : ps.length < 400
  case neg =>
    refine (elementX_full hs.lies (hE.errs hs.below hs.labM) (by omega) s hn (by omega)).mono ?_
    rintro e w' ⟨v, rfl, _, hc, hb⟩
    refine twice_fail (k := 1) h hK hE (by omega) ⟨v, rfl, hc⟩ hb fun hR hq _ _ => ?_
    refine (rmake_full hR s hn (by have := lenN hq; omega)).mono ?_
    rintro e w3 ⟨rfl, rfl⟩
    exact ⟨rfl, Below.refl _ _⟩
  refine (elementN_good hs.lies hf (by omega) s hn).mono fun e w' hm => ?_
  have hd := hm.doneX
  rw [hs.eqp] at hd
  refine twice_ok hs hK (by rw [hm.1, hpl]; rfl) hd (hs.wf.snoc (by omega) _ rfl rfl) (hs.kin.snoc (.inr (.inl rfl))) (few_snoc hs.few rfl) (@fun w2 N2 nv3 uv3 qs2 vs2 hR hq hSm hlv => ?_)
  have hql := lenN hq
  refine (rmakeE_elem hR hSm (by omega) (by omega) s hn).mono ?_
  rintro e w3 ⟨rfl, hd3⟩
  rw [hq] at hd3
  exact ⟨by rw [hql]; rfl, hd3⟩

/-- Text -/
theorem both_text (h : Both W X tb rb K ns past ns past w) (hE : Errs7 W A) (hK : K ≤ 900) (s : ByteArray) (hz : s.size ≤ 9223372036854775807) :
    Calls Tryz.prog 23 #[.pointer (some ⟨tb, 0, none⟩), .string s] w (Twice W X tb rb K ns past A (shM ns.length) 21 #[.pointer (some ⟨rb, 0, none⟩), .int .i64 3, .string s]) := by
  obtain ⟨M, N, nv, uv, nv2, uv2, ps, qs, us, vs, hs⟩ := id h
  have hlen := hs.wf.len
  have hpl := lenN hs.eqp
  have hlu := hs.lu
  by_cases hf : s.size ≤ 20000 ∧ ps.length < 400
  case neg =>
    refine (textX_bad hs.lies (hE.errs hs.below hs.labM) (by omega) s (by omega)).mono ?_
    rintro e w' ⟨v, rfl, _, hc, hb⟩
    refine twice_fail (k := 1) h hK hE (by omega) ⟨v, rfl, hc⟩ hb fun hR hq _ _ => ?_
    refine (rmake_bound hR s hz (by omega) (by have := lenN hq; omega) (by have := lenN hq; omega)).mono ?_
    rintro e w3 ⟨rfl, rfl⟩
    exact ⟨rfl, Below.refl _ _⟩
  refine (textN_good hs.lies hf.2 (by omega) s hf.1).mono fun e w' hm => ?_
  have hd := hm.doneX
  rw [hs.eqp] at hd
  refine twice_ok hs hK (by rw [hm.1, hpl]; rfl) hd (hs.wf.snoc (by omega) _ rfl rfl) (hs.kin.snoc (.inr (.inr (.inl rfl)))) (few_snoc hs.few rfl) (@fun w2 N2 nv3 uv3 qs2 vs2 hR hq hSm hlv => ?_)
  have hql := lenN hq
  refine (rmakeE_other hR hSm (by omega) (by omega) s 3 (by omega) hf.1).mono ?_
  rintro e w3 ⟨rfl, hd3⟩
  rw [hq] at hd3
  exact ⟨by rw [hql]; rfl, hd3⟩
/-- Comment -/
theorem both_comment (h : Both W X tb rb K ns past ns past w) (hE : Errs7 W A) (hK : K ≤ 900) (s : ByteArray) (hz : s.size ≤ 9223372036854775807) :
    Calls Tryz.prog 24 #[.pointer (some ⟨tb, 0, none⟩), .string s] w (Twice W X tb rb K ns past A (shM ns.length) 21 #[.pointer (some ⟨rb, 0, none⟩), .int .i64 4, .string s]) := by
  obtain ⟨M, N, nv, uv, nv2, uv2, ps, qs, us, vs, hs⟩ := id h
  have hlen := hs.wf.len
  have hpl := lenN hs.eqp
  have hlu := hs.lu
  by_cases hf : s.size ≤ 20000 ∧ ps.length < 400
  case neg =>
    refine (commentX_bad hs.lies (hE.errs hs.below hs.labM) (by omega) s (by omega)).mono ?_
    rintro e w' ⟨v, rfl, _, hc, hb⟩
    refine twice_fail (k := 1) h hK hE (by omega) ⟨v, rfl, hc⟩ hb fun hR hq _ _ => ?_
    refine (rmake_bound hR s hz (by omega) (by have := lenN hq; omega) (by have := lenN hq; omega)).mono ?_
    rintro e w3 ⟨rfl, rfl⟩
    exact ⟨rfl, Below.refl _ _⟩
  refine (commentN_good hs.lies hf.2 (by omega) s hf.1).mono fun e w' hm => ?_
  have hd := hm.doneX
  rw [hs.eqp] at hd
  refine twice_ok hs hK (by rw [hm.1, hpl]; rfl) hd (hs.wf.snoc (by omega) _ rfl rfl) (hs.kin.snoc (.inr (.inr (.inr rfl)))) (few_snoc hs.few rfl) (@fun w2 N2 nv3 uv3 qs2 vs2 hR hq hSm hlv => ?_)
  have hql := lenN hq
  refine (rmakeE_other hR hSm (by omega) (by omega) s 4 (by omega) hf.1).mono ?_
  rintro e w3 ⟨rfl, hd3⟩
  rw [hq] at hd3
  exact ⟨by rw [hql]; rfl, hd3⟩

/-- Copy -/
theorem both_copy (h : Both W X tb rb K ns past ns past w) (hE : Errs7 W A) (hK : K ≤ 900) (a : Int) :
    Calls Tryz.prog 35 #[.pointer (some ⟨tb, 0, none⟩), .int .i64 a] w (Twice W X tb rb K ns past A (shM ns.length) 36 #[.pointer (some ⟨rb, 0, none⟩), .int .i64 a]) := by
  obtain ⟨M, N, nv, uv, nv2, uv2, ps, qs, us, vs, hs⟩ := id h
  have hlen := hs.wf.len
  have hpl := lenN hs.eqp
  have hlu := hs.lu
  refine (copyX_any hs.lies (hE.errs hs.below hs.labM) (hs.eqp ▸ hs.wf) (K := K) (hs.eqp ▸ hs.few) (by omega) (by omega) a).mono ?_
  rintro e w' (⟨hb, ht⟩ | ⟨i, rfl, hil, ⟨h0, ht⟩ | ⟨h0, ⟨hfull, ht⟩ | ⟨hfit, he, ns', hN, hW, hF, hd⟩⟩⟩)
  · obtain ⟨t1, t2⟩ := told_shM (n := ns.length) (k := 3) ht
    refine twice_fail h hK hE (by omega) t1 t2 fun hR hq _ _ => ?_
    refine (rcopy_none hR (a := a) (by rw [← lenEq hs.eqp hq]; exact hb)).mono ?_
    rintro e w3 ⟨rfl, rfl⟩
    exact ⟨rfl, Below.refl _ _⟩
  · subst h0
    obtain ⟨t1, t2⟩ := told_shM (n := ns.length) (k := 4) ht
    refine twice_fail h hK hE (by omega) t1 t2 fun hR hq _ _ => ?_
    refine (rcopy_zero hR (by have := lenN hq; omega)).mono ?_
    rintro e w3 ⟨rfl, rfl⟩
    exact ⟨rfl, Below.refl _ _⟩
  · obtain ⟨t1, t2⟩ := told_shM (n := ns.length) (k := 1) ht
    refine twice_fail h hK hE (by omega) t1 t2 fun hR hq _ _ => ?_
    have hql := lenN hq
    rw [hs.eqp] at hfull
    refine (rcopy_full hR (hq ▸ hs.wf) h0 (by omega) (by rw [hq, hql, ← hpl]; exact hfull)).mono ?_
    rintro e w3 ⟨rfl, hb3⟩
    exact ⟨rfl, hb3⟩
  · rw [hs.eqp] at hfit hN hd
    refine twice_ok hs hK (by rw [he, hpl]; rfl) hd hW (hN.kinds hs.kin) (hF.mono (Nat.le_succ _)) (@fun w2 N2 nv3 uv3 qs2 vs2 hR hq hSm hlv => ?_)
    have hql := lenN hq
    have hpq : ps.length = qs2.length := by omega
    refine (rcopy_good hR hSm (by omega) (hq ▸ hs.wf) (K := K) (hq ▸ hs.few) (by omega) h0 (by omega) (by rw [hq, ← hpq]; exact hfit) (ns' := ns') (by rw [hq, ← hpq]; exact hN)).mono ?_
    rintro e w3 ⟨rfl, hd3⟩
    rw [hq] at hd3
    exact ⟨by rw [hql]; rfl, hd3⟩

/-- Undo -/
theorem both_undo (h : Both W X tb rb K ns past ns past w) (hK : K ≤ 900) :
    Calls Tryz.prog 38 #[.pointer (some ⟨tb, 0, none⟩)] w fun e w' => ∃ r : Bool, e = .returned (.bool r) ∧ ∀ w'', Below w'.heap.size w' w'' → Calls Tryz.prog 39 #[.pointer (some ⟨rb, 0, none⟩)] w'' fun e w3 => e = .returned (.bool r) ∧ ∃ ns' past', Both W X tb rb K ns' past' ns' past' w3 := by
  obtain ⟨M, N, nv, uv, nv2, uv2, ps, qs, us, vs, hs⟩ := id h
  cases past with
  | nil =>
    have hul := hs.stk.len
    obtain rfl : us = [] := by simpa using hul
    refine (undo_none hs.lies).mono ?_
    rintro e w' ⟨rfl, rfl⟩
    refine ⟨false, rfl, fun w'' hb => ?_⟩
    have h2 := h.below hb
    obtain ⟨M, N, nv, uv, nv2, uv2, ps, qs, us, vs, hs⟩ := id h2
    have hvl := hs.cop.len
    obtain rfl : vs = [] := by simpa using hvl
    refine (rundo_none hs.rlies).mono ?_
    rintro e w3 ⟨rfl, rfl⟩
    exact ⟨rfl, _, _, h2⟩
  | cons p1 rest =>
    have hul := hs.stk.len
    obtain ⟨us', f, rfl⟩ : ∃ us' f, us = us' ++ [f] := ⟨us.dropLast, us.getLast (by intro e; subst e; simp at hul), (List.dropLast_concat_getLast _).symm⟩
    have hst := hs.stk
    rw [List.reverse_append] at hst
    obtain ⟨r, k1, k2, ⟨k3, k3k⟩, k4, k5⟩ := hst
    refine (undo_any hs.lies k1.left (hs.eqp ▸ hs.wf) (K := K) (hs.eqp ▸ hs.few) (by omega) (hs.eqp ▸ k2)).mono ?_
    rintro e w' ⟨rfl, M', nv', uv', ps', g1, g2, g3⟩
    have hlu := hs.lu
    have half := hs.turned g1 g2 g3 k3 k3k k4 (fun f hf => List.mem_append_left _ hf) (by simp at hlu; omega) k5
    refine ⟨true, rfl, fun w'' hb => ?_⟩
    obtain ⟨M, N, nv, uv, nv2, uv2, ps, qs, us, vs, hs⟩ := half.below hb
    have hvl := hs.cop.len
    obtain ⟨vs', v, rfl⟩ : ∃ vs' v, vs = vs' ++ [v] := ⟨vs.dropLast, vs.getLast (by intro e; subst e; simp at hvl), (List.dropLast_concat_getLast _).symm⟩
    have hcp := hs.cop
    rw [List.reverse_append] at hcp
    obtain ⟨L, c1, c2, c3⟩ := hcp
    have hlv := hs.lv
    refine (rundo_some hs.rlies c1 (fun b hb => (c2 b hb).1.1)).mono ?_
    rintro e w3 ⟨rfl, hB⟩
    exact ⟨rfl, p1, rest, hs.back hB c2 k3 k4 (by simp at hlv; omega) c3⟩
end
end Go.Proofs.YtoanbjdifddcoaaGreatDoor
