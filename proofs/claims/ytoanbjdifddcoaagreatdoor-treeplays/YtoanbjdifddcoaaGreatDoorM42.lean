/- Copy, of any tree: exactly. -/
import Derived.Test.YtoanbjdifddcoaaGreatDoorDblX
import Derived.Test.YtoanbjdifddcoaaGreatDoorPutX
import Derived.Test.YtoanbjdifddcoaaGreatDoorM40
import Derived.Test.YtoanbjdifddcoaaGreatDoorM06
import Derived.Test.YtoanbjdifddcoaaGreatDoorM29
import Derived.Test.YtoanbjdifddcoaaGreatDoorM09
namespace Go.Proofs.YtoanbjdifddcoaaGreatDoor
open Go.RowKit

set_option maxHeartbeats 1000000 in
theorem room_gen {w : World} {M : Nat → Lab} {tb : Nat} {nv uv : Value} {ps : List Pn} {us : List Value} (h : Lies w M tb nv uv ps us) (h4 : ps.length ≤ 400) (more : Nat) (hm : more ≤ 400) :
    Calls Tryz.prog 68 #[.pointer (some ⟨tb, 0, none⟩), .int .i64 more] w fun e w' => e = .returned (.bool (decide (ps.length + more ≤ 400))) ∧ w' = w := by
  obtain ⟨a, cap, rfl, hc, hm⟩ := h.nodes.shape
  have c0 := h.cell0
  unfold maxLen at hm
  clear h
  go_enter Tryz.func68, Tryz.ntmps68
  go_wp2
  all_goals go_ret
  all_goals refine ⟨ret_bool ?_, rfl⟩
  all_goals (simp; try omega)

theorem own_movedD {w w' : World} {M M' : Nat → Lab} {B : Nat} {v : Value} {n : Nat} {xs : List Value} (h : w.ownsRow B 3 1 v n xs) (m : Moved w M w' M') (hl : ∀ k, v.ownBlock = some k → M k = .other) : w'.ownsRow B 3 1 v n xs ∧ ∀ k, v.ownBlock = some k → M' k = .other := by
  refine ⟨⟨h.1, ?_⟩, fun k hk => (m.lab k (h.lt k hk).2).trans (hl k hk)⟩
  rcases h.2 with h0 | ⟨g, cap, cur, rfl, h1, h2, h3⟩
  · exact .inl h0
  · exact .inr ⟨g, cap, cur, rfl, h1, (m.far g (lt_of_heap h2) (hl g rfl)).trans h2, h3⟩

/-- nothing was made, and the error of that variable is told -/
def Told7P (w : World) (g : Nat) (e : Ending) (w' : World) : Prop := (∃ v, e = .returned (.tuple #[.int .i64 0, v]) ∧ isErr v ∧ w.cell? ⟨g, 0, none⟩ = some v) ∧ Below w.heap.size w w'
/-- what Copy answers -/
def CopyX (w : World) (M : Nat → Lab) (tb : Nat) (ps : List Pn) (us : List Value) (K : Nat) (a : Int) (e : Ending) (w' : World) : Prop :=
  (hasB ps.length a = false ∧ Told7P w 1 e w') ∨ ∃ (i : Nat), a = i ∧ i < ps.length ∧
    ((i = 0 ∧ Told7P w 2 e w') ∨ (i ≠ 0 ∧ ((400 < ps.length + (und (nodesOf ps) (ps.length + 1) i).length ∧ Told7P w 3 e w') ∨
      (ps.length + (und (nodesOf ps) (ps.length + 1) i).length ≤ 400 ∧ e = .returned (.tuple #[.int .i64 ps.length, .nilIface]) ∧ ∃ ns', DblN (nodesOf ps) (und (nodesOf ps) (ps.length + 1) i) (und (nodesOf ps) (ps.length + 1) i).length ns' ∧ WF ns' ∧ Few ns' K ∧ DoneX w M tb us (nodesOf ps) ns' w'))))

set_option maxHeartbeats 4000000 in
set_option maxRecDepth 100000 in
theorem copyX_any {w : World} {M : Nat → Lab} {tb : Nat} {nv uv : Value} {ps : List Pn} {us : List Value} (h : Lies w M tb nv uv ps us) (hE : Errs w M) (hW : WF (nodesOf ps)) {K : Nat} (hF : Few (nodesOf ps) K) (hK : K ≤ 1000000) (hu : us.length ≤ 1000000) (a : Int) :
    Calls Tryz.prog 35 #[.pointer (some ⟨tb, 0, none⟩), .int .i64 a] w (CopyX w M tb ps us K a) := by
  obtain ⟨t1, a1, hc1⟩ := hE.cell 1 (by decide)
  obtain ⟨t2, a2, hc2⟩ := hE.cell 2 (by decide)
  obtain ⟨t3, a3, hc3⟩ := hE.cell 3 (by decide)
  have l3 : 3 < w.heap.size := World.block_lt_of_cell? w _ hc3
  have H : Hid (Lies w M tb nv uv ps us) := h
  have hln : (nodesOf ps).length = ps.length := by simp [nodesOf]
  have hpl : ps.length ≤ 400 := by have := hW.len; omega
  have HW : Hid (WF (nodesOf ps)) := hW
  have HF : Hid (Few (nodesOf ps) K) := hF
  clear h hE hW hF
  cases hb : hasB ps.length a
  · go_enter Tryz.func35, Tryz.ntmps35
    go_wp2_with (go_at_call 45; refine (has_any H.out _).mono ?_; rintro e w' ⟨rfl, rfl⟩; rw [hb])
    all_goals go_quiet (fail)
    all_goals go_wp2
    all_goals go_ret2
    all_goals exact .inl ⟨hb, ⟨_, rfl, ⟨t1, a1, rfl⟩, hc1⟩, below_drewN (Below.refl _ _) _⟩
  obtain ⟨i, p, rfl, hp⟩ := hasB_get hb
  by_cases h0 : i = 0
  · subst h0
    have hb3 : hasB ps.length 0 = true := hb
    have hil0 := (List.getElem?_eq_some_iff.1 hp).1
    clear hp
    go_enter Tryz.func35, Tryz.ntmps35
    go_wp2_with (go_at_call 45; refine (has_any H.out _).mono ?_; rintro e w' ⟨rfl, rfl⟩; first | rw [hb] | rw [hb3])
    all_goals go_quiet (fail)
    all_goals go_wp2
    all_goals go_ret2
    all_goals exact .inr ⟨0, rfl, hil0, .inl ⟨rfl, ⟨_, rfl, ⟨t2, a2, rfl⟩, hc2⟩, below_drewN (Below.refl _ _) _⟩⟩
  have hil := (List.getElem?_eq_some_iff.1 hp).1
  have hi0 : ((i : Int) == 0) = false := by simp; omega
  have hi0' : ¬ ((i : Int) = 0) := by omega
  obtain ⟨all, hall⟩ : ∃ all, und (nodesOf ps) (ps.length + 1) i = all := ⟨_, rfl⟩
  have hU : Calls Tryz.prog 18 #[.pointer (some ⟨tb, 0, none⟩), .int .i64 i] w (UndPost w all) := hall ▸ Under_any H.out HW.out (ps.length + 1) i hil (by have := rkU_le (nodesOf ps) i; omega)
  have HU : Hid (Calls Tryz.prog 18 #[.pointer (some ⟨tb, 0, none⟩), .int .i64 i] w (UndPost w all)) := hU
  have hal : all.length ≤ 400 := by
    have := und_short HW.out (ps.length + 1) i (by omega)
    rw [hall] at this
    omega
  have ha0 : 0 < all.length := by rw [← hall]; simp [und]
  have HIn : Hid (∀ x ∈ all, ∃ c : Nat, x = c ∧ c < ps.length) := by
    intro x hx
    rw [← hall] at hx
    obtain ⟨b, e1, e2, _⟩ := und_anc HW.out _ i (by omega) x hx
    exact ⟨b, e1, by omega⟩
  have HPre : Hid (∀ (k : Nat) (x : Int), all[k]? = some x → 0 < k → ∃ (c : Nat) (n : Nd), x = c ∧ (nodesOf ps)[c]? = some n ∧ n.parent ∈ all.take k) := by
    intro k x hx hk
    rw [← hall] at hx ⊢
    exact und_pre HW.out _ i (by omega) k x hx hk
  have HND : Hid all.Nodup := by
    show all.Nodup
    rw [← hall]
    exact und_nodup HW.out _ i (by omega)
  have HALL : Hid (und (nodesOf ps) (ps.length + 1) i = all) := hall
  clear hp hU hall
  by_cases h4 : ps.length + all.length ≤ 400
  · have hr : decide (ps.length + all.length ≤ 400) = true := by simpa using h4
    go_enter Tryz.func35, Tryz.ntmps35
    go_wp2_with (first
      | (go_at_call 45; refine (has_any H.out _).mono ?_; rintro e w' ⟨rfl, rfl⟩; rw [hb])
      | (go_at_call 18; refine HU.out.mono ?_; rintro e w1 ⟨v1, rfl, ho1, hB1⟩
         obtain ⟨aa, ac, hv1⟩ := own_shape ho1
         subst hv1
         have H1 : Hid _ := And.intro ho1 hB1
         clear ho1 hB1)
      | (go_at_call 68; refine (room_gen (H.out.below H1.out.2) hpl all.length hal).mono ?_; rintro e w' ⟨rfl, rfl⟩; rw [hr])
      | (go_at_call 69; refine (forgetN_any (H.out.below H1.out.2)).mono ?_; rintro e w2 ⟨ca, rfl, hF2, hB2, hN2⟩; have HN2 : Hid _ := hN2; have H2 : Hid _ := And.intro ((H.out.below H1.out.2).below hB2) (And.intro hF2 hB2); clear hF2 hB2 hN2)
      | (go_at_call 55; refine (keep_any H2.out.1 _ _ ca (by omega)).mono ?_; rintro e w3 ⟨rfl, M3, uv3, hL3, hm3⟩
         have hfr1 : ∀ q, (Value.slice aa all.length ac).ownBlock = some q → M q = .other := fun q hq => H.out.fresh q (H1.out.1.lt q hq).1
         have om := own_movedD (own_below H1.out.1 H2.out.2.2 (Nat.le_refl _)) hm3 hfr1
         have H3 : Hid _ := And.intro hL3 (And.intro hm3 om)
         clear hL3 hm3 om hfr1)
      | (go_at_call 70; refine (doubleX_any H3.out.1 HW.out HF.out hK H3.out.2.2.1 H3.out.2.2.2 HND.out ha0 h4 HIn.out HPre.out).mono ?_; rintro e w4 ⟨rfl, hD⟩; have HD : Hid _ := hD; clear hD))
    all_goals go_ret2
    all_goals
      obtain ⟨M4, nv4, ps4, D, q1, q2, q3, q4, q5, ⟨q6, q6n⟩, q7, _, _⟩ := HD.out
      refine .inr ⟨i, rfl, hil, .inr ⟨h0, .inr ?_⟩⟩
      rw [HALL.out]
      refine ⟨h4, rfl, _, q6n, q4, q7, M4, nv4, uv3, ps4, _, .forget ps.length, q1, rfl, (H2.out.2.1.moved H3.out.2.1).moved q2, ⟨by simp [nodesOf]; omega, ?_⟩, (((Moved.refl _ M).below H1.out.2).below H2.out.2.2).trans (H3.out.2.1.trans q2), NewF.mono HN2.out H1.out.2.size⟩
      rw [← hln]
      exact q6.symm
  · have hr : decide (ps.length + all.length ≤ 400) = false := by simpa using h4
    go_enter Tryz.func35, Tryz.ntmps35
    go_wp2_with (first
      | (go_at_call 45; refine (has_any H.out _).mono ?_; rintro e w' ⟨rfl, rfl⟩; rw [hb])
      | (go_at_call 18; refine HU.out.mono ?_; rintro e w1 ⟨v1, rfl, ho1, hB1⟩
         obtain ⟨aa, ac, hv1⟩ := own_shape ho1
         subst hv1
         have d3 := (hB1.cell (p := ⟨3, 0, none⟩) l3).trans hc3
         have H1 : Hid _ := And.intro ho1 hB1
         clear ho1 hB1)
      | (go_at_call 68; refine (room_gen (H.out.below H1.out.2) hpl all.length hal).mono ?_; rintro e w' ⟨rfl, rfl⟩; rw [hr]))
    all_goals go_quiet (fail)
    all_goals go_wp2
    all_goals go_ret2
    all_goals
      refine .inr ⟨i, rfl, hil, .inr ⟨h0, .inl ?_⟩⟩
      rw [HALL.out]
      exact ⟨by omega, ⟨_, rfl, ⟨t3, a3, rfl⟩, hc3⟩, below_drewN H1.out.2 _⟩
end Go.Proofs.YtoanbjdifddcoaaGreatDoor

/- The document's answer: all that lies in a node of any tree; the order of two nodes. -/
namespace Go.Proofs.YtoanbjdifddcoaaGreatDoor
open Go.RowKit

set_option maxHeartbeats 4000000 in
set_option maxRecDepth 100000 in
theorem runder_any {w0 : World} {M : Nat → Lab} {tb : Nat} {nv uv : Value} {ps : List Pn} {us : List Value} (h : RLies w0 M tb nv uv ps us) (hs : WF (nodesOf ps)) : ∀ (f i : Nat), i < ps.length → rkU (nodesOf ps) i < f → ∀ (w : World) (x : Int), x = i → Below w0.heap.size w0 w → (und (nodesOf ps) f i).length ≤ 1000000000 →
    Calls Tryz.prog 19 #[.pointer (some ⟨tb, 0, none⟩), .int .i64 x] w (UndPost w (und (nodesOf ps) f i)) := by
  obtain ⟨i0, hi, hz0, hz1, hz2⟩ := info_parts Tryz.infoInt
  intro f
  induction f with
  | zero => intro i _ hr; omega
  | succ f ih =>
    intro i hil hr w x hx hB hlen
    subst hx
    obtain ⟨p, hp⟩ : ∃ p, ps[i]? = some p := ⟨_, List.getElem?_eq_getElem hil⟩
    have hb : hasB ps.length i = true := hasB_of hp
    have hpn := nodes_get hp
    rw [und_succ hpn] at hlen ⊢
    obtain ⟨nb, cap, rfl, hc, hm, _, hnl, _⟩ := h.form hp
    obtain ⟨ka, kc, hkv, hk1, hk2⟩ := (h.node i p hp).2.shape
    have hlt : tb < w0.heap.size := lt_of_heap h.head
    have HK : Hid (∀ (k : Nat) (y : Int), p.n.kids[k]? = some y → ∃ g b, ka = some ⟨g, 0, none⟩ ∧ g < w0.heap.size ∧ w0.cell? ⟨g, k, none⟩ = some (.int .i64 y) ∧ y = (b : Nat) ∧ b < ps.length ∧ rkU (nodesOf ps) b < f) := by
      intro k y hy
      have hkl : k < p.n.kids.length := (List.getElem?_eq_some_iff.1 hy).1
      obtain ⟨g, c, hv, _, _, _, hg⟩ := (h.node i p hp).2.form (by omega)
      rw [hkv] at hv
      cases hv
      obtain ⟨b, _, e1, e2, _, _, e3⟩ := hs.rank hpn (List.mem_of_getElem? hy)
      exact ⟨g, b, rfl, hg, ((h.node i p hp).2.cell hkv (j := k) (u := .int .i64 y) (by simp [hy, intV])).1, e1, by simpa [nodesOf] using e2, by omega⟩
    have k5 := (h.cellN rfl (f := 5) hp (by omega) rfl).1
    rw [hkv] at k5
    have HC : Hid (∀ wr, Below w0.heap.size w0 wr → wr.cell? ⟨tb, 0, none⟩ = some (.slice (some ⟨nb, 0, none⟩) ps.length cap) ∧ wr.cell? ⟨nb, i * 6 + 5, none⟩ = some (.slice ka p.n.kids.length kc)) := fun wr hb => ⟨(hb.cell (p := ⟨tb, 0, none⟩) hlt).trans h.cell0, (hb.cell (p := ⟨nb, i * 6 + 5, none⟩) hnl).trans k5⟩
    have IH : Hid _ := ih
    have H : Hid (RLies w M tb (.slice (some ⟨nb, 0, none⟩) ps.length cap) uv ps us) := h.below hB
    have HB : Hid (Below w0.heap.size w0 w) := hB
    have hsz := hB.size
    have i1 : (0 : Int) ≤ (i : Int) := by omega
    have i2 : (i : Int) < (ps.length : Int) := by omega
    have HL : Hid (∀ k, ((i : Int) :: (p.n.kids.take k).flatMap fun x => und (nodesOf ps) f x.toNat).length ≤ 1000000000) := by
      intro k
      have := flat_le p.n.kids (fun x => und (nodesOf ps) f x.toNat) k
      simp only [List.length_cons] at hlen ⊢
      omega
    have HO : Hid ((w.alloc (.cells #[.int .i64 i] 3)).ownsRow w.heap.size 3 1 (.slice (some ⟨w.heap.size, 0, none⟩) 1 1) 1 [.int .i64 i]) := ⟨rfl, .inr ⟨w.heap.size, 1, _, rfl, Nat.le_refl _, heap_alloc_new w _, Nat.le_refl _, by unfold maxLen; omega, rfl, rfl⟩⟩
    unfold maxLen at hm hk2
    clear h hs ih hp hpn hB hlen k5
    go_enter Tryz.func19, Tryz.ntmps19
    go_wp2_with (go_at_call 43; refine (rhas_any H.out _).mono ?_; rintro e w' ⟨rfl, rfl⟩; rw [hb])
    go_loopw [6, 7] (fun lv iv wr => ∃ k : Nat, k ≤ p.n.kids.length ∧ iv = .int .i64 k ∧ Hid (wr.ownsRow w'.heap.size 3 1 lv ((i : Int) :: (p.n.kids.take k).flatMap fun x => und (nodesOf ps) f x.toNat).length (((i : Int) :: (p.n.kids.take k).flatMap fun x => und (nodesOf ps) f x.toNat).map intV)) ∧ Hid (Below w'.heap.size w' wr)) (fun _ iv _ => p.n.kids.length - (intOf iv).toNat)
    case atStart => exact ⟨0, by omega, rfl, HO.out, (Below.refl _ _).alloc (Nat.le_refl _) _⟩
    case round =>
      obtain ⟨k, hk, rfl, hO, hbel⟩ := hrel
      have hB0 : Hid (Below w0.heap.size w0 wr) := HB.out.trans (hbel.out.mono hsz)
      obtain ⟨d0, d5⟩ := HC.out wr hB0.out
      have hsz2 := hbel.out.size
      by_cases hkl : k < p.n.kids.length
      · obtain ⟨y, hy⟩ : ∃ y, p.n.kids[k]? = some y := ⟨_, List.getElem?_eq_getElem hkl⟩
        obtain ⟨g, b, rfl, hg, cy, rfl, hb1, hb2⟩ := HK.out k y hy
        have cy' := (hB0.out.cell (p := ⟨g, k, none⟩) hg).trans cy
        have hll := HL.out (k + 1)
        rw [flat_succ hy] at hll
        simp only [List.length_cons, List.length_append, Int.toNat_natCast] at hll
        have HY : Hid _ := flat_succ hy (fun x => und (nodesOf ps) f x.toNat)
        clear hy cy
        go_wp2_with (first
          | (go_at_call 19; refine (IH.out b hb1 hb2 _ _ rfl hB0.out (by omega)).mono ?_; rintro e w2 ⟨v2, rfl, ho2, hB2⟩
             obtain ⟨a2, e2, hv2⟩ := own_shape ho2
             subst hv2
             have H2 : Hid _ := And.intro ho2 hB2
             have hsz3 := hB2.size
             clear ho2 hB2)
          | (at_builtin; refine wpList_app_own _ (by rfl) _ _ 38 (by rfl) w'.heap.size 3 i0 (.int .i64 0) 1 8 Tryz.underlying38 hi hz0 hz1 hz2 rfl (by decide) u6 _ _ (by rfl) (own_below hO.out H2.out.2 (Nat.le_refl _)) _ _ ((und (nodesOf ps) f b).map intV) (by rfl) (own_src H2.out.1 (one_int _)) (by unfold maxLen; simp only [List.length_cons]; omega) (by simp only [List.length_cons]; omega) (by omega) ?_
             intro v3 w3 hv3 hg3 _
             have H3 : Hid _ := And.intro hv3 ((hbel.out.trans (H2.out.2.mono hsz2)).grown hg3 (by omega) (fun q hq => (hO.out.lt q hq).1))
             clear hv3 hg3))
        go_roundw
        case rel =>
          go_light
          refine ⟨k + 1, by omega, by go_num, ?_, H3.out.2⟩
          show World.ownsRow _ _ _ _ _ _ _
          rw [HY.out]
          have := H3.out.1
          simpa [Nat.add_assoc, Nat.add_comm, Nat.add_left_comm] using this
        case measure => go_light; simp [intOf]; omega
      · obtain rfl : k = p.n.kids.length := by omega
        rw [List.take_length] at hO
        obtain ⟨a5, e5, hv5⟩ := own_shape hO.out
        subst hv5
        go_wp2
        go_ret
        exact ⟨_, rfl, hO.out, hbel.out⟩

end Go.Proofs.YtoanbjdifddcoaaGreatDoor

/- The document's answer: Copy that is refused, and how. -/
namespace Go.Proofs.YtoanbjdifddcoaaGreatDoor
open Go.RowKit

set_option maxHeartbeats 4000000 in
set_option maxRecDepth 100000 in
theorem rcopy_none {w : World} {M : Nat → Lab} {tb : Nat} {nv uv : Value} {ps : List Pn} {us : List Value} (h : RLies w M tb nv uv ps us) {a : Int} (hb : hasB ps.length a = false) :
    Calls Tryz.prog 36 #[.pointer (some ⟨tb, 0, none⟩), .int .i64 a] w fun e w' => e = .returned (.tuple #[.int .i64 0, .int .i64 4]) ∧ w' = w := by
  have H : Hid (RLies w M tb nv uv ps us) := h
  clear h
  go_enter Tryz.func36, Tryz.ntmps36
  go_wp2_with (go_at_call 43; refine (rhas_any H.out _).mono ?_; rintro e w' ⟨rfl, hw'⟩; subst hw'; rw [hb])
  all_goals go_ret2
  all_goals exact ⟨rfl, rfl⟩

set_option maxHeartbeats 4000000 in
set_option maxRecDepth 100000 in
theorem rcopy_zero {w : World} {M : Nat → Lab} {tb : Nat} {nv uv : Value} {ps : List Pn} {us : List Value} (h : RLies w M tb nv uv ps us) (hl : 0 < ps.length) :
    Calls Tryz.prog 36 #[.pointer (some ⟨tb, 0, none⟩), .int .i64 0] w fun e w' => e = .returned (.tuple #[.int .i64 0, .int .i64 5]) ∧ w' = w := by
  have H : Hid (RLies w M tb nv uv ps us) := h
  have hb : hasB ps.length 0 = true := hasB_lt hl
  clear h
  go_enter Tryz.func36, Tryz.ntmps36
  go_wp2_with (go_at_call 43; refine (rhas_any H.out _).mono ?_; rintro e w' ⟨rfl, hw'⟩; subst hw'; rw [hb])
  all_goals go_ret2
  all_goals exact ⟨rfl, rfl⟩

set_option maxHeartbeats 4000000 in
set_option maxRecDepth 100000 in
theorem rcopy_full {w : World} {M : Nat → Lab} {tb : Nat} {nv uv : Value} {ps : List Pn} {us : List Value} (h : RLies w M tb nv uv ps us) (hW : WF (nodesOf ps)) {i : Nat} (hi0 : i ≠ 0) (hil : i < ps.length) (hf : 400 < ps.length + (und (nodesOf ps) (ps.length + 1) i).length) :
    Calls Tryz.prog 36 #[.pointer (some ⟨tb, 0, none⟩), .int .i64 i] w fun e w' => e = .returned (.tuple #[.int .i64 0, .int .i64 2]) ∧ Below w.heap.size w w' := by
  have hb : hasB ps.length i = true := hasB_lt hil
  have hun : (und (nodesOf ps) (ps.length + 1) i).length ≤ 400 := Nat.le_trans (und_short hW _ i (by simpa [nodesOf] using hil)) hW.len
  have hps : ps.length ≤ 400 := by have := hW.len; simpa [nodesOf] using this
  have HU : Hid (∀ w', Below w.heap.size w w' → Calls Tryz.prog 19 #[.pointer (some ⟨tb, 0, none⟩), .int .i64 i] w' (UndPost w' (und (nodesOf ps) (ps.length + 1) i))) := fun w' hB => runder_any h hW (ps.length + 1) i hil (by have := rkU_le (nodesOf ps) i; simp [nodesOf] at this; simp [nodesOf]; omega) w' i rfl hB (by omega)
  generalize und (nodesOf ps) (ps.length + 1) i = l at *
  obtain ⟨na, nc, rfl, _, hm⟩ := h.nodes.shape
  have c0 := h.cell0
  have hlt : tb < w.heap.size := lt_of_heap h.head
  have H : Hid (RLies w M tb (.slice na ps.length nc) uv ps us) := h
  have b0 : ((i : Int) == 0) = false := by rw [beq_eq_false_iff_ne]; omega
  have b0' : ¬ ((i : Int) = 0) := by omega
  unfold maxLen at hm
  clear h hW
  go_enter Tryz.func36, Tryz.ntmps36
  go_wp2_with (first
    | (go_at_call 43; refine (rhas_any H.out _).mono ?_; rintro e w' ⟨rfl, hw'⟩; subst hw'; rw [hb])
    | (go_at_call 19; refine (HU.out _ (Below.refl _ _)).mono ?_; rintro e w2 ⟨v2, rfl, ho2, hB2⟩
       obtain ⟨a2, e2, hv2⟩ := own_shape ho2
       subst hv2
       have d0 := (hB2.cell (p := ⟨tb, 0, none⟩) hlt).trans c0
       have H2 : Hid _ := hB2
       clear ho2 hB2))
  all_goals go_ret2
  all_goals exact ⟨rfl, H2.out⟩
end Go.Proofs.YtoanbjdifddcoaaGreatDoor
