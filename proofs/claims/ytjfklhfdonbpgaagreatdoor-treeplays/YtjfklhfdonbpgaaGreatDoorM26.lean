/- What plain.Code answers of each of package api's errors: its number, and no place. Condition: package api's errors and the type handle of package errors lie as the program's text lays them. -/
import Derived.Test.YtjfklhfdonbpgaaGreatDoorIs
import Derived.WalkSmall
import Derived.Deep.Light
import Derived.Test.YtjfklhfdonbpgaaGreatDoorM11
import Derived.Test.YtjfklhfdonbpgaaGreatDoorRPutR
import Derived.Test.YtjfklhfdonbpgaaGreatDoorM20
import Derived.Test.YtjfklhfdonbpgaaGreatDoorRPutK
import Derived.Test.YtjfklhfdonbpgaaGreatDoorPutX
import Derived.Test.YtjfklhfdonbpgaaGreatDoorM14
import Derived.Test.YtjfklhfdonbpgaaGreatDoorUnset
namespace Go.Proofs.YtjfklhfdonbpgaaGreatDoor
open Go.RowKit

/-- which of the program's variables is the i-th error -/
def gl : Nat → Nat
  | 0 => 4 | 1 => 3 | 2 => 0 | 3 => 1 | 4 => 2 | 5 => 5 | _ => 6

/-- package api's errors lie in memory, each apart -/
structure Errs7 (w : World) (A : Nat → Addr) : Prop where
  cell : ∀ i, i < 7 → w.cell? ⟨gl i, 0, none⟩ = some (.iface 149 (.pointer (some (A i))))
  row : ∀ i, i < 7 → ∃ c t, w.heap[(A i).block]? = some (.cells c t (0, 0))
  ne : ∀ i j, i < 7 → j < 7 → i ≠ j → A i ≠ A j
  typ : w.cell? ⟨7, 0, none⟩ = some (.iface 134 (.agg #[.pointer (some ⟨8, 55, none⟩)]))

theorem lt_of_cell {w : World} {a : Addr} {v : Value} (h : w.cell? a = some v) : a.block < w.heap.size := World.block_lt_of_cell? w a h

theorem Errs7.below {w w' : World} {A : Nat → Addr} (h : Errs7 w A) (hb : Below w.heap.size w w') : Errs7 w' A where
  cell i hi := (hb.cell (lt_of_cell (h.cell i hi))).trans (h.cell i hi)
  row i hi := by
    obtain ⟨c, t, hr⟩ := h.row i hi
    exact ⟨c, t, (hb.block _ (Array.getElem?_eq_some_iff.1 hr).1).trans hr⟩
  ne := h.ne
  typ := (hb.cell (lt_of_cell h.typ)).trans h.typ

/-- errors.Is of the k-th and the j-th -/
theorem is_any {w : World} {A : Nat → Addr} (h : Errs7 w A) (k j : Nat) (hk : k < 7) (hj : j < 7) :
    Calls Tryz.prog 81 #[.iface 149 (.pointer (some (A k))), .iface 149 (.pointer (some (A j)))] w fun e w' => e = .returned (.bool (k == j)) ∧ w' = w := by
  by_cases e : k = j
  · subst e
    rw [show (k == k) = true by simp]
    exact is_same _ w
  · rw [show (k == j) = false by simp [e]]
    obtain ⟨ca, ta, ha⟩ := h.row k hk
    obtain ⟨cb, tb, hb⟩ := h.row j hj
    exact is_other _ _ ca cb ta tb w (h.ne k j hk hj e) ha hb

set_option maxHeartbeats 4000000 in
set_option maxRecDepth 100000 in
theorem code_any {w : World} {A : Nat → Addr} (h : Errs7 w A) (k : Nat) (hk : k < 7) :
    Calls Tryz.prog 57 #[.iface 149 (.pointer (some (A k)))] w fun e w' => e = .returned (.tuple #[.int .i64 ((k + 1 : Nat) : Int), .int .i64 (-1)]) ∧ Below w.heap.size w w' := by
  have c0 := h.cell 0 (by decide)
  have c1 := h.cell 1 (by decide)
  have c2 := h.cell 2 (by decide)
  have c3 := h.cell 3 (by decide)
  have c4 := h.cell 4 (by decide)
  have c5 := h.cell 5 (by decide)
  have c6 := h.cell 6 (by decide)
  simp only [gl] at c0 c1 c2 c3 c4 c5 c6
  have H : Hid (Errs7 w A) := h
  clear h
  go_enter Tryz.func57, Tryz.ntmps57
  go_wp2
  have hW1 : Below w.heap.size w (w.alloc (.cells #[.iface 149 (.pointer (some (A 0))), .iface 149 (.pointer (some (A 1))), .iface 149 (.pointer (some (A 2))), .iface 149 (.pointer (some (A 3))), .iface 149 (.pointer (some (A 4))), .iface 149 (.pointer (some (A 5))), .iface 149 (.pointer (some (A 6)))] 55)) := (Below.refl _ _).alloc (Nat.le_refl _) _
  have hc : ∀ j, j < 7 → (w.alloc (.cells #[.iface 149 (.pointer (some (A 0))), .iface 149 (.pointer (some (A 1))), .iface 149 (.pointer (some (A 2))), .iface 149 (.pointer (some (A 3))), .iface 149 (.pointer (some (A 4))), .iface 149 (.pointer (some (A 5))), .iface 149 (.pointer (some (A 6)))] 55)).cell? ⟨w.heap.size, j, none⟩ = some (.iface 149 (.pointer (some (A j)))) := by
    intro j hj
    rw [cell_of_row _ w.heap.size j _ 55 (0, 0) (heap_alloc_new w _)]
    match j, hj with
    | 0, _ => rfl
    | 1, _ => rfl
    | 2, _ => rfl
    | 3, _ => rfl
    | 4, _ => rfl
    | 5, _ => rfl
    | 6, _ => rfl
  generalize (w.alloc (.cells #[.iface 149 (.pointer (some (A 0))), .iface 149 (.pointer (some (A 1))), .iface 149 (.pointer (some (A 2))), .iface 149 (.pointer (some (A 3))), .iface 149 (.pointer (some (A 4))), .iface 149 (.pointer (some (A 5))), .iface 149 (.pointer (some (A 6)))] 55)) = W1 at *
  have h1 : Hid (Errs7 W1 A) := H.out.below hW1
  have HC : Hid (∀ j, j < 7 → W1.cell? ⟨w.heap.size, j, none⟩ = some (.iface 149 (.pointer (some (A j))))) := hc
  clear H c0 c1 c2 c3 c4 c5 c6 hc
  go_loop [4, 19] (fun n i => ∃ j : Nat, j ≤ 7 ∧ i = .int .i64 j ∧ n = .int .i64 ((if k < j then k + 1 else 0 : Nat) : Int)) (fun _ i => 7 - (intOf i).toNat)
  case atStart => exact ⟨0, by omega, rfl, rfl⟩
  case round =>
    obtain ⟨j, hj, rfl, rfl⟩ := hrel
    by_cases hlt : j < 7
    · have hcj := HC.out j hlt
      have hi := is_any h1.out k j hk hlt
      by_cases hjk : k = j
      · subst hjk
        rw [show (k == k) = true by simp] at hi
        rw [if_neg (Nat.lt_irrefl k)]
        have HI : Hid (Calls Tryz.prog 81 #[.iface 149 (.pointer (some (A k))), .iface 149 (.pointer (some (A k)))] W1 fun e w' => e = .returned (.bool true) ∧ w' = W1) := hi
        clear hi
        go_wp2_with (go_at_call 81; refine HI.out.mono ?_; rintro e w' ⟨rfl, hw'⟩; subst hw')
        go_round
        case rel => go_light; exact ⟨k + 1, by omega, by go_num, by rw [if_pos (Nat.lt_succ_self k)]; go_num⟩
        case measure => go_light; simp [intOf]; omega
      · rw [show (k == j) = false by simp [hjk]] at hi
        have HI : Hid (Calls Tryz.prog 81 #[.iface 149 (.pointer (some (A k))), .iface 149 (.pointer (some (A j)))] W1 fun e w' => e = .returned (.bool false) ∧ w' = W1) := hi
        have HN : Hid ((if k < j then k + 1 else 0 : Nat) = (if k < j + 1 then k + 1 else 0 : Nat)) := by
          show _ = _
          by_cases h1 : k < j
          · rw [if_pos h1, if_pos (by omega)]
          · rw [if_neg h1, if_neg (by omega)]
        clear hi
        generalize (if k < j then k + 1 else 0 : Nat) = q at *
        go_wp2_with (go_at_call 81; refine HI.out.mono ?_; rintro e w' ⟨rfl, hw'⟩; subst hw')
        go_round
        case rel => go_light; exact ⟨j + 1, by omega, by go_num, by rw [HN.out]⟩
        case measure => go_light; simp [intOf]; omega
    · obtain rfl : j = 7 := by omega
      rw [if_pos hk]
      have hty : ∀ o, (W1.alloc o).cell? ⟨7, 0, none⟩ = some (.iface 134 (.agg #[.pointer (some ⟨8, 55, none⟩)])) := fun o => (World.cell?_alloc_lt _ _ ⟨7, 0, none⟩ (lt_of_cell h1.out.typ)).trans h1.out.typ
      have HT := hty
      clear hty
      go_wp2_with fail
      refine (as_miss _ _ _ (HT _)).mono ?_
      rintro e W2 ⟨rfl, hb2⟩
      clear HT
      have hb : Below w.heap.size w W2 := hW1.trans (((Below.refl _ _).alloc hW1.size _).trans (hb2.mono (by have := hW1.size; simp; omega)))
      clear hb2
      go_wp2_with fail
      go_ret2
      exact ⟨rfl, hb⟩

set_option maxHeartbeats 1000000 in
theorem coded_any {w : World} {A : Nat → Addr} (h : Errs7 w A) (k : Nat) (hk : k < 7) :
    Calls Tryz.prog 26 #[.iface 149 (.pointer (some (A k))), .int .i64 ((k + 1 : Nat) : Int)] w fun e w' => e = .returned (.bool true) ∧ Below w.heap.size w w' := by
  have H : Hid (Errs7 w A) := h
  clear h
  go_enter Tryz.func26, Tryz.ntmps26
  go_wp2_with fail
  refine (code_any H.out k hk).mono ?_
  rintro e W1 ⟨rfl, hb⟩
  go_wp2_with fail
  go_ret
  exact ⟨rfl, hb⟩

end Go.Proofs.YtjfklhfdonbpgaaGreatDoor

/- What the document's Take and Put make of a tree is what pulling and pushing make of it: plain mathematics. -/
namespace Go.Proofs.YtjfklhfdonbpgaaGreatDoor

theorem outOf_erase {l : List Int} (hn : l.Nodup) {x : Int} (hx : x ∈ l) : outOf l x = l.eraseIdx (idx l x) := by
  have hg := idx_get hx
  generalize idx l x = k at *
  have e : l = l.take k ++ x :: l.drop (k + 1) := by
    obtain ⟨h1, h2⟩ := List.getElem?_eq_some_iff.1 hg
    rw [← h2, ← List.drop_eq_getElem_cons h1, List.take_append_drop]
  have en := hn
  rw [e, List.nodup_append] at en
  obtain ⟨n1, n2, n3⟩ := en
  obtain ⟨n4, n5⟩ := List.nodup_cons.1 n2
  rw [List.eraseIdx_eq_take_drop_succ]
  have h1 : outOf (l.take k) x = l.take k := outOf_none fun hm => n3 x hm x (List.mem_cons_self ..) rfl
  have h2 : outOf (l.drop (k + 1)) x = l.drop (k + 1) := outOf_none n4
  conv => lhs; rw [e]
  unfold outOf at h1 h2 ⊢
  rw [List.filter_append, List.filter_cons, h1, h2]
  simp

theorem take_pulled {ns : List Nd} (h : WF ns) {i q : Nat} {n m : Nd} (hi : ns[i]? = some n) (hq : n.parent = q) (hm : ns[q]? = some m) :
    Pulled ns i ((ns.set q { m with kids := outOf m.kids i }).set i { n with parent := -1 }) q (idx m.kids i) := by
  have hk : (i : Int) ∈ m.kids := by
    rcases h.par i n hi with e | ⟨r, y, e1, e2, e3⟩
    · omega
    · have e := Int.ofNat.inj (hq.symm.trans e1)
      subst e
      obtain rfl := Option.some.inj (hm.symm.trans e2)
      exact e3
  rw [outOf_erase (h.nodup q m hm) hk]
  exact .kid hi hq hm hk (h.pne hi hq)

theorem put_root {ns : List Nd} (h : WF ns) {i a c : Nat} {n m : Nd} (hi : ns[i]? = some n) (hr : n.parent = -1) (hm : ns[a]? = some m) (hai : a ≠ i) (hc : c ≤ (outOf m.kids i).length) :
    Pulled ns i ns (-1) 0 ∧ Pushed ns i c a ((ns.set a { m with kids := insK (outOf m.kids i) c i }).set i { n with parent := a }) := by
  have e := outOf_none (h.rootNotKid hm hi hr)
  rw [e] at hc ⊢
  exact ⟨.root hi hr, .kid hm hi hai hc⟩

theorem put_kid {ns : List Nd} (h : WF ns) {i q a c : Nat} {n m mq : Nd} (hi : ns[i]? = some n) (hq : n.parent = q) (hmq : ns[q]? = some mq) (hm : ns[a]? = some m) (hai : a ≠ i) (hc : c ≤ (outOf m.kids i).length) :
    ∃ mid, Pulled ns i mid q (idx mq.kids i) ∧ Pushed mid i c a (((ns.set q { mq with kids := outOf mq.kids i }).set a { m with kids := insK (outOf m.kids i) c i }).set i { n with parent := a }) := by
  have hP := take_pulled h hi hq hmq
  have hqi := h.pne hi hq
  have hil := (List.getElem?_eq_some_iff.1 hi).1
  have hql := (List.getElem?_eq_some_iff.1 hmq).1
  have hal := (List.getElem?_eq_some_iff.1 hm).1
  refine ⟨_, hP, ?_⟩
  have G := get2 ns { mq with kids := outOf mq.kids i } { n with parent := -1 } hqi hql hil
  have Gi := G i
  rw [if_pos rfl] at Gi
  have Ga := G a
  rw [if_neg hai] at Ga
  generalize hM : (ns.set q { mq with kids := outOf mq.kids i }).set i { n with parent := -1 } = mid at *
  have hlen : mid.length = ns.length := by rw [← hM]; simp
  -- what stands at a
  have key : ∃ m', mid[a]? = some m' ∧ m'.kids = outOf m.kids i ∧ ({ m' with kids := insK (outOf m.kids i) c i } : Nd) = { m with kids := insK (outOf m.kids i) c i } := by
    by_cases haq : a = q
    · subst haq
      obtain rfl := Option.some.inj (hm.symm.trans hmq)
      rw [if_pos rfl] at Ga
      exact ⟨_, Ga, rfl, rfl⟩
    · rw [if_neg haq] at Ga
      refine ⟨m, Ga.trans hm, ?_, rfl⟩
      refine (outOf_none fun hx => ?_).symm
      obtain ⟨c', m', e1, e2, e3⟩ := h.kid a m hm _ hx
      have e := Int.ofNat.inj e1
      subst e
      obtain rfl := Option.some.inj (hi.symm.trans e2)
      have := Int.ofNat.inj (hq.symm.trans e3)
      exact haq this.symm
  obtain ⟨m', k1, k2, k3⟩ := key
  have P := Pushed.kid (k := c) k1 Gi hai (by rw [k2]; exact hc)
  have e : (mid.set a { m' with kids := m'.kids.take c ++ (i : Int) :: m'.kids.drop c }).set i { { n with parent := -1 } with parent := a } = ((ns.set q { mq with kids := outOf mq.kids i }).set a { m with kids := insK (outOf m.kids i) c i }).set i { n with parent := a } := by
    rw [k2]
    change (mid.set a { m' with kids := insK (outOf m.kids i) c i }).set i { n with parent := a } = _
    rw [k3]
    apply List.ext_getElem?
    intro j
    rw [get2 mid _ _ hai (by omega) (by omega) j, get2 (ns.set q _) _ _ hai (by simp; exact hal) (by simp; exact hil) j, G j]
    by_cases hj : j = i
    · simp [hj]
    · simp only [if_neg hj]
      by_cases hja : j = a
      · simp [hja]
      · simp only [if_neg hja]
        by_cases hjq : j = q
        · subst hjq
          rw [if_pos rfl, List.getElem?_set_self hql]
        · rw [if_neg hjq, List.getElem?_set_ne (Ne.symm hjq)]
  rw [← e]
  exact P
end Go.Proofs.YtjfklhfdonbpgaaGreatDoor

/- How many others a node has beside it, both ways; where an attribute is set. -/
namespace Go.Proofs.YtjfklhfdonbpgaaGreatDoor

theorem others_out {ps : List Pn} (h : WF (nodesOf ps)) {a i : Nat} {p m : Pn} (hp : ps[i]? = some p) (hm : ps[a]? = some m) : others a p m = ((outOf m.n.kids i).length : Int) := by
  unfold others
  by_cases e : p.n.parent = (a : Int)
  · rw [if_pos e]
    have hk : (i : Int) ∈ m.n.kids := by
      rcases h.par i _ (nodes_get hp) with e1 | ⟨r, y, e1, e2, e3⟩
      · omega
      · have e4 := Int.ofNat.inj (e.symm.trans e1)
        subst e4
        obtain rfl := Option.some.inj ((nodes_get hm).symm.trans e2)
        exact e3
    have hlt := idx_lt hk
    rw [outOf_erase (h.nodup a _ (nodes_get hm)) hk, List.length_eraseIdx, if_pos hlt]
    omega
  · rw [if_neg e, outOf_none]
    intro hx
    obtain ⟨c, y, e1, e2, e3⟩ := h.kid a _ (nodes_get hm) _ hx
    have e4 := Int.ofNat.inj e1
    subst e4
    obtain rfl := Option.some.inj ((nodes_get hp).symm.trans e2)
    exact e e3
end Go.Proofs.YtjfklhfdonbpgaaGreatDoor

/- The document's answer: where Put is refused. -/
namespace Go.Proofs.YtjfklhfdonbpgaaGreatDoor
open Go.RowKit

set_option maxHeartbeats 4000000 in
set_option maxRecDepth 100000 in
theorem rput_none {w : World} {M : Nat → Lab} {tb : Nat} {nv uv : Value} {ps : List Pn} {us : List Value} (h : RLies w M tb nv uv ps us) {a b : Int} (c : Int) (hb : ¬ (hasB ps.length a = true ∧ hasB ps.length b = true)) :
    Calls Tryz.prog 27 #[.pointer (some ⟨tb, 0, none⟩), .int .i64 a, .int .i64 b, .int .i64 c] w fun e w' => e = .returned (.int .i64 4) ∧ w' = w := by
  have H : Hid (RLies w M tb nv uv ps us) := h
  clear h
  cases h1 : hasB ps.length a
  · clear hb
    cases h2 : hasB ps.length b
    all_goals
      go_enter Tryz.func27, Tryz.ntmps27
      go_wp2_with (go_at_call 43; refine (rhas_any H.out _).mono ?_; rintro e w' ⟨rfl, hw'⟩; subst hw'; simp only [h1, h2])
    all_goals go_ret
    all_goals exact ⟨rfl, rfl⟩
  · have h2 : hasB ps.length b = false := by
      cases h2 : hasB ps.length b
      · rfl
      · exact absurd ⟨h1, h2⟩ hb
    clear hb
    go_enter Tryz.func27, Tryz.ntmps27
    go_wp2_with (go_at_call 43; refine (rhas_any H.out _).mono ?_; rintro e w' ⟨rfl, hw'⟩; subst hw'; simp only [h1, h2])
    all_goals go_ret
    all_goals exact ⟨rfl, rfl⟩

section
variable {w : World} {M : Nat → Lab} {tb : Nat} {nv uv : Value} {ps : List Pn} {us : List Value}
set_option maxHeartbeats 4000000 in
set_option maxRecDepth 100000 in
theorem rput_bad (h : RLies w M tb nv uv ps us) {a i : Nat} {p m : Pn} (hp : ps[i]? = some p) (hm : ps[a]? = some m) (c : Int) (hbad : i = 0 ∨ m.n.kind = 3 ∨ m.n.kind = 4) :
    Calls Tryz.prog 27 #[.pointer (some ⟨tb, 0, none⟩), .int .i64 a, .int .i64 i, .int .i64 c] w fun e w' => e = .returned (.int .i64 5) ∧ w' = w := by
  have hha : hasB ps.length a = true := hasB_of hm
  have hhb : hasB ps.length i = true := hasB_of hp
  obtain ⟨nb, nc, rfl, hcp, hmx, hnM, hnl, hal⟩ := h.form hm
  have c0 := h.cell0
  have k0 := (h.cellN rfl (f := 0) hm (by omega) rfl).1
  rw [Nat.add_zero] at k0
  have H : Hid (RLies w M tb (.slice (some ⟨nb, 0, none⟩) ps.length nc) uv ps us) := h
  have i1 : (0 : Int) ≤ (a : Int) := by omega
  have i2 : (a : Int) < (ps.length : Int) := by omega
  unfold maxLen at hmx
  clear h hp hm
  by_cases h0 : i = 0
  · subst h0
    have hh0 : hasB ps.length 0 = true := hhb
    clear hbad
    cases h3 : (m.n.kind == 3) <;> cases h4 : (m.n.kind == 4)
    all_goals
      go_enter Tryz.func27, Tryz.ntmps27
      go_wp2_with (go_at_call 43; refine (rhas_any H.out _).mono ?_; rintro e w' ⟨rfl, hw'⟩; subst hw'; first | rw [hha] | rw [hh0] | rw [hhb])
    all_goals go_ret
    all_goals exact ⟨rfl, rfl⟩
  · have b0 : ((i : Int) == 0) = false := by rw [beq_eq_false_iff_ne]; omega
    have b0' : ¬ ((i : Int) = 0) := by omega
    have h34 : m.n.kind = 3 ∨ m.n.kind = 4 := by omega
    clear hbad
    rcases h34 with e | e
    all_goals rw [e] at k0
    all_goals clear e
    all_goals
      go_enter Tryz.func27, Tryz.ntmps27
      go_wp2_with (go_at_call 43; refine (rhas_any H.out _).mono ?_; rintro e w' ⟨rfl, hw'⟩; subst hw'; first | rw [hha] | rw [hhb])
    all_goals go_ret
    all_goals exact ⟨rfl, rfl⟩

set_option maxHeartbeats 8000000 in
set_option maxRecDepth 100000 in
theorem rput_where (h : RLies w M tb nv uv ps us) {a i : Nat} {p m : Pn} (hp : ps[i]? = some p) (hm : ps[a]? = some m) (h0 : i ≠ 0) (h3 : m.n.kind ≠ 3) (h4 : m.n.kind ≠ 4) {la : List Nat} (hup : Up (nodesOf ps) a la) (c : Int) (hk : m.n.kids.length ≤ 1000000000)
    (hbad : i ∈ la ∨ c < 0 ∨ ((outOf m.n.kids i).length : Int) < c) :
    Calls Tryz.prog 27 #[.pointer (some ⟨tb, 0, none⟩), .int .i64 a, .int .i64 i, .int .i64 c] w fun e w' => e = .returned (.int .i64 5) ∧ Below w.heap.size w w' := by
  have hha : hasB ps.length a = true := hasB_of hm
  have hhb : hasB ps.length i = true := hasB_of hp
  obtain ⟨nb, nc, rfl, hcp, hmx, hnM, hnl, hal⟩ := h.form hm
  have c0 := h.cell0
  have k0 := (h.cellN rfl (f := 0) hm (by omega) rfl).1
  rw [Nat.add_zero] at k0
  have k5 := (h.cellN rfl (f := 5) hm (by omega) rfl).1
  obtain ⟨ka, kc, hkv, _, _⟩ := (h.node a m hm).2.shape
  rw [hkv] at k5
  have HRow : Hid (Row w M (.kids a) 3 1 (.slice ka m.n.kids.length kc) m.n.kids.length (m.n.kids.map intV)) := hkv ▸ (h.node a m hm).2
  have H : Hid (RLies w M tb (.slice (some ⟨nb, 0, none⟩) ps.length nc) uv ps us) := h
  have HU : Hid (Up (nodesOf ps) a la) := hup
  have i1 : (0 : Int) ≤ (a : Int) := by omega
  have i2 : (a : Int) < (ps.length : Int) := by omega
  have b0 : ((i : Int) == 0) = false := by rw [beq_eq_false_iff_ne]; omega
  have b0' : ¬ ((i : Int) = 0) := by omega
  have n3 : (m.n.kind == 3) = false := by rw [beq_eq_false_iff_ne]; exact h3
  have n4 : (m.n.kind == 4) = false := by rw [beq_eq_false_iff_ne]; exact h4
  have hol : (outOf m.n.kids i).length ≤ m.n.kids.length := List.length_filter_le _ _
  unfold maxLen at hmx
  clear h hm hp hup h3 h4
  by_cases hno : i ∈ la
  · have hwi : decide (i ∈ la) = true := by simpa using hno
    clear hbad
    go_enter Tryz.func27, Tryz.ntmps27
    go_wp2_with (first
      | (go_at_call 43; refine (rhas_any H.out _).mono ?_; rintro e w' ⟨rfl, hw'⟩; subst hw'; first | rw [hha] | rw [hhb])
      | (go_at_call 58; refine (in_any H.out HU.out i).mono ?_; rintro e w' ⟨rfl, hw'⟩; subst hw'; rw [hwi]))
    all_goals go_ret
    all_goals exact ⟨rfl, Below.refl _ _⟩
  · have hwi : decide (i ∈ la) = false := by simpa using hno
    obtain ⟨O, hO⟩ : ∃ O, outOf m.n.kids i = O := ⟨_, rfl⟩
    rw [hO] at hol hbad
    have HO : Hid (outOf m.n.kids i = O) := hO
    obtain ⟨nO, hnO⟩ : ∃ nO, O.length = nO := ⟨_, rfl⟩
    rw [hnO] at hol hbad
    have HnO : Hid (O.length = nO) := hnO
    have hcc : c < 0 ∨ (0 ≤ c ∧ (nO : Int) < c) := by
      rcases hbad with h | h | h
      · exact absurd h hno
      · exact .inl h
      · omega
    clear hbad hno hO hnO
    rcases hcc with hcc | ⟨hc1, hc2⟩
    all_goals
      go_enter Tryz.func27, Tryz.ntmps27
      go_wp2_with (first
        | (go_at_call 43; refine (rhas_any H.out _).mono ?_; rintro e w' ⟨rfl, hw'⟩; subst hw'; first | rw [hha] | rw [hhb])
        | (go_at_call 58; refine (in_any H.out HU.out i).mono ?_; rintro e w' ⟨rfl, hw'⟩; subst hw'; rw [hwi]))
      refine (without_any HRow.out i (by omega)).mono ?_
      rintro e w2 ⟨v13, rfl, ho, hBq⟩
      rw [HO.out, HnO.out] at ho
      obtain ⟨a13, c13, hv13⟩ := own_shape ho
      subst hv13
      have HB : Hid (Below w'.heap.size w' w2) := hBq
      clear ho hBq
      go_wp2_with fail
    all_goals go_ret
    all_goals exact ⟨rfl, HB.out⟩
end
end Go.Proofs.YtjfklhfdonbpgaaGreatDoor

/- A change in the program's tree, and then the same one in the document's: refused by both, or made by both. -/
namespace Go.Proofs.YtjfklhfdonbpgaaGreatDoor
open Go.RowKit

/-- how a change ends -/
inductive Out where
  | fail (k : Nat)
  | ok (ns' : List Nd)
/-- what the two calls answer -/
structure Shape where
  pf : Value → Value
  pv : Value
  rf : Int → Value
  rv : Value
def sh1 : Shape := ⟨fun v => v, .nilIface, fun c => .int .i64 c, .int .i64 0⟩
def shM (n : Nat) : Shape := ⟨fun v => .tuple #[.int .i64 0, v], .tuple #[.int .i64 n, .nilIface], fun c => .tuple #[.int .i64 0, .int .i64 c], .tuple #[.int .i64 n, .int .i64 0]⟩
def errV (A : Nat → Addr) (k : Nat) : Value := .iface 149 (.pointer (some (A k)))
def PS (W : World) (X : List (Nat × Obj)) (tb rb K : Nat) (ns : List Nd) (past : List (List Nd)) (A : Nat → Addr) (sh : Shape) : Out → Ending → World → Prop
  | .fail k, e, w' => k < 7 ∧ e = .returned (sh.pf (errV A k)) ∧ Both W X tb rb K ns past ns past w'
  | .ok ns', e, w' => e = .returned sh.pv ∧ Both W X tb rb (K + 1) ns' (ns :: past) ns past w'
def RS (W : World) (X : List (Nat × Obj)) (tb rb K : Nat) (ns : List Nd) (past : List (List Nd)) (sh : Shape) : Out → Ending → World → Prop
  | .fail k, e, w' => e = .returned (sh.rf ((k + 1 : Nat) : Int)) ∧ Both W X tb rb K ns past ns past w'
  | .ok ns', e, w' => e = .returned sh.rv ∧ Both W X tb rb (K + 2) ns' (ns :: past) ns' (ns :: past) w'
def Twice (W : World) (X : List (Nat × Obj)) (tb rb K : Nat) (ns : List Nd) (past : List (List Nd)) (A : Nat → Addr) (sh : Shape) (g : FuncId) (args : Array Value) (e : Ending) (w' : World) : Prop :=
  ∃ o, PS W X tb rb K ns past A sh o e w' ∧ ∀ w'', Below w'.heap.size w' w'' → Calls Tryz.prog g args w'' (RS W X tb rb K ns past sh o)

theorem Errs7.errs {W w : World} {A : Nat → Addr} (h : Errs7 W A) {M : Nat → Lab} (hb : Below W.heap.size W w) (hM : ∀ b, b < W.heap.size → M b = .other) : Errs w M := by
  have c : ∀ g, errG g = true → ∃ k, k < 7 ∧ gl k = g := by
    intro g hg
    unfold errG at hg
    simp only [Bool.or_eq_true, beq_iff_eq] at hg
    rcases hg with ((rfl | rfl) | rfl) | rfl
    · exact ⟨2, by omega, rfl⟩
    · exact ⟨1, by omega, rfl⟩
    · exact ⟨3, by omega, rfl⟩
    · exact ⟨4, by omega, rfl⟩
  refine ⟨fun g hg => ?_, fun g hg => ?_⟩
  · obtain ⟨k, hk, rfl⟩ := c g hg
    exact hM _ (lt_of_cell (h.cell k hk))
  · obtain ⟨k, hk, rfl⟩ := c g hg
    exact ⟨_, _, (h.below hb).cell k hk⟩

section
variable {W : World} {X : List (Nat × Obj)} {tb rb K : Nat} {ns : List Nd} {past : List (List Nd)} {w w' : World} {A : Nat → Addr} {sh : Shape} {g : FuncId} {args : Array Value} {e : Ending}

theorem twice_fail (h : Both W X tb rb K ns past ns past w) (hK : K ≤ 900) (hE : Errs7 W A) {k : Nat} (hk : k < 7) (ht : ∃ v, e = .returned (sh.pf v) ∧ w.cell? ⟨gl k, 0, none⟩ = some v) (hb : Below w.heap.size w w')
    (hr : ∀ {w2 : World} {N : Nat → Lab} {nv2 uv2 : Value} {qs : List Pn} {vs : List Value}, RLies w2 N rb nv2 uv2 qs vs → nodesOf qs = ns → Small qs → vs.length ≤ 1000000 → Calls Tryz.prog g args w2 fun e w3 => e = .returned (sh.rf ((k + 1 : Nat) : Int)) ∧ Below w2.heap.size w2 w3) : Twice W X tb rb K ns past A sh g args e w' := by
  obtain ⟨v, rfl, hc⟩ := ht
  have hv := (hE.below h.toW).cell k hk
  have hv2 : v = errV A k := Option.some.inj (hc.symm.trans hv)
  subst hv2
  refine ⟨.fail k, ⟨hk, rfl, h.below hb⟩, fun w'' hb2 => ?_⟩
  have h2 := (h.below hb).below hb2
  obtain ⟨M, N, nv, uv, nv2, uv2, ps, qs, us, vs, hs⟩ := id h2
  refine (hr hs.rlies hs.eqr (hs.small (by omega)) (by have := hs.lv; omega)).mono ?_
  rintro e w3 ⟨rfl, hb3⟩
  exact ⟨rfl, h2.below hb3⟩

theorem twice_ok {M N : Nat → Lab} {nv uv nv2 uv2 : Value} {ps qs : List Pn} {us vs : List Value} (h : BothS W X tb rb K ns past ns past w M N nv uv nv2 uv2 ps qs us vs) (hK : K ≤ 900) {ns' : List Nd} (he : e = .returned sh.pv) (hd : DoneX w M tb us ns ns' w') (hW : WF ns') (hKi : Kinds ns') (hF : Few ns' (K + 1))
    (hr : ∀ {w2 : World} {N : Nat → Lab} {nv2 uv2 : Value} {qs : List Pn} {vs : List Value}, RLies w2 N rb nv2 uv2 qs vs → nodesOf qs = ns → Small qs → vs.length ≤ 1000000 → Calls Tryz.prog g args w2 fun e w3 => e = .returned sh.rv ∧ RDone w2 N rb vs ns ns' w3) : Twice W X tb rb K ns past A sh g args e w' := by
  have half := h.prog hd hW hKi hF
  refine ⟨.ok ns', ⟨he, half⟩, fun w'' hb => ?_⟩
  obtain ⟨M, N, nv, uv, nv2, uv2, ps, qs, us, vs, hs⟩ := half.below hb
  refine (hr hs.rlies hs.eqr (hs.small (by omega)) (by have := hs.lv; omega)).mono ?_
  rintro e w3 ⟨rfl, hd2⟩
  exact ⟨rfl, hs.doc hd2 hW (hF.mono (by omega))⟩

theorem told_sh1 {k : Nat} (ht : Told7 w (gl k) e w') : (∃ v, e = .returned (sh1.pf v) ∧ w.cell? ⟨gl k, 0, none⟩ = some v) ∧ Below w.heap.size w w' := by
  obtain ⟨⟨v, rfl, _, hc⟩, hb⟩ := ht
  exact ⟨⟨v, rfl, hc⟩, hb⟩

theorem lenEq {ps qs : List Pn} (h1 : nodesOf ps = ns) (h2 : nodesOf qs = ns) : ps.length = qs.length := by
  have := congrArg List.length (h1.trans h2.symm)
  simpa [nodesOf] using this
theorem lenN {qs : List Pn} (h2 : nodesOf qs = ns) : qs.length = ns.length := by
  have := congrArg List.length h2
  simpa [nodesOf] using this
theorem getR {ps qs : List Pn} (h1 : nodesOf ps = ns) (h2 : nodesOf qs = ns) {i : Nat} {p : Pn} (hp : ps[i]? = some p) : ∃ q, qs[i]? = some q ∧ q.n = p.n := by
  have := nodes_get hp
  rw [h1, ← h2] at this
  exact nodesOf_get this

theorem Kinds.set (h : Kinds ns) {i : Nat} {n n' : Nd} (hn : ns[i]? = some n) (hk : n'.kind = n.kind) : Kinds (ns.set i n') := by
  intro j x hx
  by_cases e : i = j
  · subst e
    rw [List.getElem?_set_self (List.getElem?_eq_some_iff.1 hn).1] at hx
    cases hx
    rw [hk]
    exact h i n hn
  · rw [List.getElem?_set_ne e] at hx
    exact h j x hx
theorem Kinds.pulled (h : Kinds ns) {i wz : Nat} {f : Int} {mid : List Nd} (hp : Pulled ns i mid f wz) : Kinds mid := by
  cases hp with
  | root => exact h
  | @kid n m q hi hq hm hk hqi =>
    refine Kinds.set (h.set hm (n' := { m with kids := m.kids.eraseIdx (idx m.kids i) }) rfl) (n := n) ?_ rfl
    rw [List.getElem?_set_ne hqi]
    exact hi
theorem Kinds.pushed (h : Kinds ns) {i k : Nat} {a : Int} {ns' : List Nd} (hp : Pushed ns i k a ns') : Kinds ns' := by
  cases hp with
  | none => exact h
  | @kid n m a hm hi ha hk =>
    refine Kinds.set (h.set hm (n' := { m with kids := m.kids.take k ++ (i : Int) :: m.kids.drop k }) rfl) (n := n) ?_ rfl
    rw [List.getElem?_set_ne ha]
    exact hi
theorem Kinds.snoc (h : Kinds ns) {n : Nd} (hn : n.kind = 1 ∨ n.kind = 2 ∨ n.kind = 3 ∨ n.kind = 4) : Kinds (ns ++ [n]) := by
  intro j x hx
  by_cases hj : j < ns.length
  · rw [List.getElem?_append_left hj] at hx; exact h j x hx
  · rw [List.getElem?_append_right (by omega)] at hx
    rcases Nat.eq_zero_or_pos (j - ns.length) with e | e
    · rw [e] at hx; cases hx; exact hn
    · rw [List.getElem?_eq_none (by simp; omega)] at hx; cases hx

theorem Pulled.det {i : Nat} {m1 m2 : List Nd} {f1 f2 : Int} {w1 w2 : Nat} (h1 : Pulled ns i m1 f1 w1) (h2 : Pulled ns i m2 f2 w2) : m1 = m2 ∧ f1 = f2 := by
  cases h1 with
  | root a b =>
    cases h2 with
    | root => exact ⟨rfl, rfl⟩
    | kid c d => obtain rfl := Option.some.inj (a.symm.trans c); omega
  | kid a b c d e =>
    cases h2 with
    | root c' d' => obtain rfl := Option.some.inj (a.symm.trans c'); omega
    | kid a' b' c' d' e' =>
      obtain rfl := Option.some.inj (a.symm.trans a')
      have := Int.ofNat.inj (b.symm.trans b')
      subst this
      obtain rfl := Option.some.inj (c.symm.trans c')
      exact ⟨rfl, rfl⟩
theorem Pushed.det {i k : Nat} {a : Nat} {m1 m2 : List Nd} (h1 : Pushed ns i k a m1) (h2 : Pushed ns i k a m2) : m1 = m2 := by
  generalize ha : (a : Int) = z at h1 h2
  cases h1 with
  | none => omega
  | kid a1 b1 c1 d1 =>
    cases h2 with
    | kid a' b' c' d' =>
      obtain rfl := Option.some.inj (b1.symm.trans b')
      obtain rfl := Option.some.inj (a1.symm.trans a')
      rfl

/-- Take -/
theorem both_take (h : Both W X tb rb K ns past ns past w) (hE : Errs7 W A) (hK : K ≤ 900) (a : Int) :
    Calls Tryz.prog 28 #[.pointer (some ⟨tb, 0, none⟩), .int .i64 a] w (Twice W X tb rb K ns past A sh1 29 #[.pointer (some ⟨rb, 0, none⟩), .int .i64 a]) := by
  obtain ⟨M, N, nv, uv, nv2, uv2, ps, qs, us, vs, hs⟩ := id h
  refine (takeX_any hs.lies (hE.errs hs.below hs.labM) (hs.eqp ▸ hs.wf) (by have := hs.lu; omega) a).mono ?_
  rintro e w' (⟨hb, ht⟩ | ⟨i, p, rfl, hp, ⟨hr, ht⟩ | ⟨hr, he, mid, fr, wz, hP, hd⟩⟩)
  · obtain ⟨t1, t2⟩ := told_sh1 (k := 3) ht
    refine twice_fail h hK hE (by omega) t1 t2 fun hR hq _ _ => ?_
    refine (rtake_none hR (a := a) (by rw [← lenEq hs.eqp hq]; exact hb)).mono ?_
    rintro e w3 ⟨rfl, rfl⟩
    exact ⟨rfl, Below.refl _ _⟩
  · obtain ⟨t1, t2⟩ := told_sh1 (k := 4) ht
    refine twice_fail h hK hE (by omega) t1 t2 fun hR hq _ _ => ?_
    obtain ⟨q, hq1, hq2⟩ := getR hs.eqp hq hp
    refine (rtake_root hR hq1 (by rw [hq2]; exact hr)).mono ?_
    rintro e w3 ⟨rfl, rfl⟩
    exact ⟨rfl, Below.refl _ _⟩
  · rw [hs.eqp] at hP hd
    have hpn : ns[i]? = some p.n := by rw [← hs.eqp]; exact nodes_get hp
    rcases hs.wf.par i _ hpn with e0 | ⟨q, m, e1, e2, e3⟩
    · exact absurd e0 hr
    refine twice_ok hs hK he hd (hs.wf.pulled hP) (hs.kin.pulled hP) (few_of_attrs hs.few hP.attrs) (@fun w2 N2 nv3 uv3 qs2 vs2 hR hq hSm hlv => ?_)
    obtain ⟨pi, hp1, hp2⟩ := getR hs.eqp hq hp
    obtain ⟨pm, hm1, hm2⟩ := nodesOf_get (ps := qs2) (by rw [hq]; exact e2)
    have hl := hs.wf.len
    have hql := lenN hq
    refine (rtake_good hR hSm (by omega) (by omega) hp1 (by rw [hp2]; exact e1) hm1 (hs.wf.pne hpn e1) (by rw [hm2]; have := hs.wf.few e2; omega)).mono ?_
    rintro e w3 ⟨rfl, hd3⟩
    refine ⟨rfl, ?_⟩
    rw [hq, hp2, hm2] at hd3
    rw [(hP.det (take_pulled hs.wf hpn e1 e2)).1]
    exact hd3
theorem kidsB_false {k : Int} (h : kidsB k = false) (hk : k = 1 ∨ k = 2 ∨ k = 3 ∨ k = 4) : k = 3 ∨ k = 4 := by
  unfold kidsB at h
  simp at h
  omega
theorem kidsB_true {k : Int} (h : kidsB k = true) : k ≠ 3 ∧ k ≠ 4 := by
  unfold kidsB at h
  simp at h
  omega

/-- Put -/
theorem both_put (h : Both W X tb rb K ns past ns past w) (hE : Errs7 W A) (hK : K ≤ 900) (a b c : Int) :
    Calls Tryz.prog 25 #[.pointer (some ⟨tb, 0, none⟩), .int .i64 a, .int .i64 b, .int .i64 c] w (Twice W X tb rb K ns past A sh1 27 #[.pointer (some ⟨rb, 0, none⟩), .int .i64 a, .int .i64 b, .int .i64 c]) := by
  obtain ⟨M, N, nv, uv, nv2, uv2, ps, qs, us, vs, hs⟩ := id h
  refine (putX_any hs.lies (hE.errs hs.below hs.labM) (hs.eqp ▸ hs.wf) (by have := hs.lu; omega) a b c).mono ?_
  rintro e w' (⟨hb, ht⟩ | ⟨an, i, m, p, rfl, rfl, hm, hp, ⟨hbad, ht⟩ | ⟨h0, hkb, la, hup, ⟨hbad, ht⟩ | ⟨hno, he, cn, mid, fr, wz, ns', rfl, hc, hP, hQ, hW, hd⟩⟩⟩)
  · obtain ⟨t1, t2⟩ := told_sh1 (k := 3) ht
    refine twice_fail h hK hE (by omega) t1 t2 fun hR hq _ _ => ?_
    refine (rput_none hR (a := a) (b := b) c (by rw [← lenEq hs.eqp hq]; exact hb)).mono ?_
    rintro e w3 ⟨rfl, rfl⟩
    exact ⟨rfl, Below.refl _ _⟩
  · obtain ⟨t1, t2⟩ := told_sh1 (k := 4) ht
    refine twice_fail h hK hE (by omega) t1 t2 fun hR hq _ _ => ?_
    obtain ⟨pi, hp1, hp2⟩ := getR hs.eqp hq hp
    obtain ⟨pm, hm1, hm2⟩ := getR hs.eqp hq hm
    refine (rput_bad hR hp1 hm1 c ?_).mono ?_
    · rcases hbad with e0 | e0
      · exact .inl e0
      · rw [hm2]
        exact .inr (kidsB_false e0 (hs.kin an m.n (by rw [← hs.eqp]; exact nodes_get hm)))
    · rintro e w3 ⟨rfl, rfl⟩
      exact ⟨rfl, Below.refl _ _⟩
  · obtain ⟨t1, t2⟩ := told_sh1 (k := 4) ht
    refine twice_fail h hK hE (by omega) t1 t2 fun hR hq _ _ => ?_
    obtain ⟨pi, hp1, hp2⟩ := getR hs.eqp hq hp
    obtain ⟨pm, hm1, hm2⟩ := getR hs.eqp hq hm
    have hmn : ns[an]? = some m.n := by rw [← hs.eqp]; exact nodes_get hm
    have hk34 := kidsB_true hkb
    rw [← hm2] at hk34
    refine (rput_where hR hp1 hm1 h0 hk34.1 hk34.2 (la := la) (by rw [hq, ← hs.eqp]; exact hup) c (by rw [hm2]; have := hs.wf.few hmn; omega) ?_).mono ?_
    · rcases hbad with e0 | e0 | e0
      · exact .inl e0
      · exact .inr (.inl e0)
      · refine .inr (.inr ?_)
        rw [hm2]
        rw [others_out (hs.eqp ▸ hs.wf) hp hm] at e0
        exact e0
    · rintro e w3 ⟨rfl, hb3⟩
      exact ⟨rfl, hb3⟩
  · have hmn : ns[an]? = some m.n := by rw [← hs.eqp]; exact nodes_get hm
    have hpn : ns[i]? = some p.n := by rw [← hs.eqp]; exact nodes_get hp
    rw [others_out (hs.eqp ▸ hs.wf) hp hm] at hc
    rw [hs.eqp] at hP hd hup
    have hk34 := kidsB_true hkb
    have hai : an ≠ i := fun e => hno (e ▸ hup.head)
    have hl := hs.wf.len
    have hcn : cn ≤ (outOf m.n.kids i).length := by omega
    refine twice_ok hs hK he hd hW ((hs.kin.pulled hP).pushed hQ) (few_of_attrs hs.few (hQ.attrs.trans hP.attrs)) (@fun w2 N2 nv3 uv3 qs2 vs2 hR hq hSm hlv => ?_)
    obtain ⟨pi, hp1, hp2⟩ := getR hs.eqp hq hp
    obtain ⟨pm, hm1, hm2⟩ := getR hs.eqp hq hm
    have hql := lenN hq
    rcases hs.wf.par i _ hpn with e0 | ⟨q, mq, e1, e2, e3⟩
    · refine (rput_root hR hSm (by omega) (by omega) hp1 hm1 h0 (by rw [hm2]; exact hk34.1) (by rw [hm2]; exact hk34.2) (la := la) (by rw [hq]; exact hup) hno (c := cn) (by rw [hm2]; exact hcn) (by rw [hm2]; have := hs.wf.few hmn; omega) (by rw [hp2]; exact e0)).mono ?_
      rintro e w3 ⟨rfl, hd3⟩
      refine ⟨rfl, ?_⟩
      rw [hq, hp2, hm2] at hd3
      obtain ⟨k1, k2⟩ := put_root hs.wf hpn e0 hmn hai hcn
      have e4 := (hP.det k1).1
      subst e4
      rw [hQ.det k2]
      exact hd3
    · obtain ⟨pq, hq1, hq2⟩ := nodesOf_get (ps := qs2) (by rw [hq]; exact e2)
      refine (rput_kid hR hSm (by omega) (by omega) hp1 hm1 h0 (by rw [hm2]; exact hk34.1) (by rw [hm2]; exact hk34.2) (la := la) (by rw [hq]; exact hup) hno (c := cn) (by rw [hm2]; exact hcn) (by rw [hm2]; have := hs.wf.few hmn; omega) (q := q) (mq := pq) (by rw [hp2]; exact e1) hq1 (hs.wf.pne hpn e1) (by rw [hq2]; have := hs.wf.few e2; omega)).mono ?_
      rintro e w3 ⟨rfl, hd3⟩
      refine ⟨rfl, ?_⟩
      rw [hq, hp2, hm2, hq2] at hd3
      obtain ⟨mid', k1, k2⟩ := put_kid hs.wf hpn e1 e2 hmn hai hcn
      have e4 := (hP.det k1).1
      subst e4
      rw [hQ.det k2]
      exact hd3
end
end Go.Proofs.YtjfklhfdonbpgaaGreatDoor

/- What Say makes of any tree, exactly, and which error it tells. -/
namespace Go.Proofs.YtjfklhfdonbpgaaGreatDoor
open Go.RowKit

/-- what Say answers -/
def SayX (w : World) (M : Nat → Lab) (tb : Nat) (ps : List Pn) (us : List Value) (a : Int) (text : ByteArray) (e : Ending) (w' : World) : Prop :=
  (hasB ps.length a = false ∧ Told7 w 1 e w') ∨ ∃ (i : Nat) (p : Pn), a = i ∧ ps[i]? = some p ∧
    ((kidsB p.n.kind = true ∧ Told7 w 2 e w') ∨ (kidsB p.n.kind = false ∧ 20000 < text.size ∧ Told7 w 3 e w') ∨
      (kidsB p.n.kind = false ∧ text.size ≤ 20000 ∧ e = .returned .nilIface ∧ DoneX w M tb us (nodesOf ps) ((nodesOf ps).set i { p.n with words := text }) w'))

set_option maxHeartbeats 4000000 in
set_option maxRecDepth 100000 in
theorem sayX_any {w : World} {M : Nat → Lab} {tb : Nat} {nv uv : Value} {ps : List Pn} {us : List Value} (h : Lies w M tb nv uv ps us) (hE : Errs w M) (hu : us.length ≤ 1000000) (a : Int) (text : ByteArray) (ht : text.size ≤ 9223372036854775807) :
    Calls Tryz.prog 33 #[.pointer (some ⟨tb, 0, none⟩), .int .i64 a, .string text] w (SayX w M tb ps us a text) := by
  obtain ⟨t1, a1, hc1⟩ := hE.cell 1 (by decide)
  obtain ⟨t2, a2, hc2⟩ := hE.cell 2 (by decide)
  obtain ⟨t3, a3, hc3⟩ := hE.cell 3 (by decide)
  have l1 : 1 < w.heap.size := World.block_lt_of_cell? w _ hc1
  have l2 : 2 < w.heap.size := World.block_lt_of_cell? w _ hc2
  have l3 : 3 < w.heap.size := World.block_lt_of_cell? w _ hc3
  have l0 : ((w.alloc (.cells #[.pointer (some ⟨tb, 0, none⟩)] 23)).alloc (.cells #[.int .i64 a] 3)).cell? ⟨1, 0, none⟩ = some (Value.iface t1 (Value.pointer (some a1))) := (World.cell?_of_block (a := ⟨1, 0, none⟩) ((Below.heap_alloc _ _ 1 (by simp; omega)).trans (Below.heap_alloc _ _ 1 l1))).trans hc1
  have H : Hid (∀ o1 o2, Lies ((w.alloc o1).alloc o2) M tb nv uv ps us) := fun o1 o2 => (h.alloc o1).alloc o2
  have B0 : Hid (∀ o1 o2, Below w.heap.size w ((w.alloc o1).alloc o2)) := fun o1 o2 => ((Below.refl _ _).alloc (Nat.le_refl _) _).alloc (by simp) _
  cases hb : hasB ps.length a
  · clear h hE
    go_enter Tryz.func33, Tryz.ntmps33
    go_wp2_with (go_at_call 45; refine (has_any (H.out _ _) _).mono ?_; rintro e w' ⟨rfl, rfl⟩; rw [hb])
    all_goals go_ret
    all_goals exact .inl ⟨hb, ⟨⟨_, rfl, ⟨t1, a1, rfl⟩, hc1⟩, B0.out _ _⟩⟩
  obtain ⟨i, p, rfl, hp⟩ := hasB_get hb
  have HP : Hid (ps[i]? = some p) := hp
  cases hk : kidsB p.n.kind
  · by_cases hsz : text.size ≤ 20000
    · obtain ⟨nb, nc, rfl, hc, hm, hnM, hnl, hil⟩ := h.form hp
      have hlt : tb < w.heap.size := lt_of_heap h.head
      have c0 := h.cell0
      obtain ⟨c2, c2f⟩ := h.cellN rfl (f := 2) hp (by omega) rfl
      have hS : Hid (∀ o1 o2 o3, Lies ((((w.alloc o1).alloc o2).alloc o3).setCell ⟨nb, i * 6 + 2, none⟩ (.string text)) M tb (.slice (some ⟨nb, 0, none⟩) ps.length nc) uv (ps.set i ⟨{ p.n with words := text }, p.av, p.kv⟩) us ∧ Step (((w.alloc o1).alloc o2).alloc o3) M ((((w.alloc o1).alloc o2).alloc o3).setCell ⟨nb, i * 6 + 2, none⟩ (.string text)) M .nodes) := fun o1 o2 o3 =>
        (((h.alloc o1).alloc o2).alloc o3).setNode rfl (f := 2) (c := .string text) hp (by omega) (p' := ⟨{ p.n with words := text }, p.av, p.kv⟩) rfl ((((h.alloc o1).alloc o2).alloc o3).node i p hp).1 ((((h.alloc o1).alloc o2).alloc o3).node i p hp).2
      have c0' : ∀ o1 o2 o3, (((w.alloc o1).alloc o2).alloc o3).cell? ⟨tb, 0, none⟩ = some (.slice (some ⟨nb, 0, none⟩) ps.length nc) := fun o1 o2 o3 => (((h.alloc o1).alloc o2).alloc o3).cell0
      have c2' : ∀ o1 o2 o3, (((w.alloc o1).alloc o2).alloc o3).cell? ⟨nb, i * 6 + 2, none⟩ = some (.string p.n.words) := fun o1 o2 o3 => ((((h.alloc o1).alloc o2).alloc o3).cellN rfl (f := 2) hp (by omega) rfl).1
      have c2f' : ∀ o1 o2 o3, (((w.alloc o1).alloc o2).alloc o3).frozen? ⟨nb, i * 6 + 2, none⟩ = false := fun o1 o2 o3 => ((((h.alloc o1).alloc o2).alloc o3).cellN rfl (f := 2) hp (by omega) rfl).2
      have HFr : Hid (∀ b, w.heap.size ≤ b → M b = .other) := h.fresh
      have i1 : (0 : Int) ≤ (i : Int) := by omega
      have i2 : (i : Int) < (ps.length : Int) := by omega
      unfold maxLen at hm
      clear h hE hp
      go_enter Tryz.func33, Tryz.ntmps33
      go_wp2_with (first
        | (go_at_call 45; refine (has_any (H.out _ _) _).mono ?_; rintro e w' ⟨rfl, rfl⟩; rw [hb])
        | (go_at_call 53; refine (mayHaveKids_any (H.out _ _) HP.out).mono ?_; rintro e w' ⟨rfl, rfl⟩; rw [hk]))
      go_region
      all_goals go_wp2_with fail
      all_goals go_region
      all_goals go_wp2_with (go_at_call 55; refine (keep_any ((hS.out _ _ _).1.drew.drew) _ _ _ (by omega)).mono ?_; rintro e w3 ⟨rfl, M3, uv3, hL3, hm3⟩)
      all_goals go_ret
      all_goals
        have mv := ((hS.out (.cells #[.pointer (some ⟨tb, 0, none⟩)] 23) (.cells #[.int .i64 i] 3) (.cells #[.string p.n.words] 9)).2.moved (by intro e; cases e)).drew.drew.trans hm3
        refine .inr ⟨i, p, rfl, HP.out, .inr (.inr ⟨hk, hsz, rfl, M3, _, uv3, _, _, .say i p.n.words, hL3, (by rw [nodesOf, List.map_set]; rfl), ⟨_, _, _, rfl, Cap.moved ⟨HFr.out _ (by omega), ?_⟩ mv, Cap.moved ⟨HFr.out _ (Nat.le_refl _), ?_⟩ mv, Cap.moved ⟨HFr.out _ (by omega), ?_⟩ mv⟩, ?_, ((((Moved.refl w M).alloc _).alloc _).alloc _).trans mv, (by intro F xs cs e b hb; cases e; simp at hb; omega)⟩)⟩
        · exact (cell_three _ _ _ _ _ _ _).2.2
        · exact (cell_three _ _ _ _ _ _ _).1
        · exact (cell_three _ _ _ _ _ _ _).2.1
        · refine ⟨_, List.getElem?_set_self (by simpa [nodesOf] using hil), ?_⟩
          rw [List.set_set]
          exact (set_same (nodes_get HP.out)).symm
    · clear h hE hp
      go_enter Tryz.func33, Tryz.ntmps33
      go_wp2_with (first
        | (go_at_call 45; refine (has_any (H.out _ _) _).mono ?_; rintro e w' ⟨rfl, rfl⟩; rw [hb])
        | (go_at_call 53; refine (mayHaveKids_any (H.out _ _) HP.out).mono ?_; rintro e w' ⟨rfl, rfl⟩; rw [hk]))
      all_goals go_ret
      all_goals exact .inr ⟨i, p, rfl, HP.out, .inr (.inl ⟨hk, by omega, ⟨⟨_, rfl, ⟨t3, a3, rfl⟩, hc3⟩, B0.out _ _⟩⟩)⟩
  · clear h hE hp
    go_enter Tryz.func33, Tryz.ntmps33
    go_wp2_with (first
      | (go_at_call 45; refine (has_any (H.out _ _) _).mono ?_; rintro e w' ⟨rfl, rfl⟩; rw [hb])
      | (go_at_call 53; refine (mayHaveKids_any (H.out _ _) HP.out).mono ?_; rintro e w' ⟨rfl, rfl⟩; rw [hk]))
    all_goals go_ret
    all_goals exact .inr ⟨i, p, rfl, HP.out, .inl ⟨hk, ⟨⟨_, rfl, ⟨t2, a2, rfl⟩, hc2⟩, B0.out _ _⟩⟩⟩
end Go.Proofs.YtjfklhfdonbpgaaGreatDoor

/- What Set and Unset make of any tree, exactly. -/
namespace Go.Proofs.YtjfklhfdonbpgaaGreatDoor
open Go.RowKit

set_option maxHeartbeats 4000000 in
set_option maxRecDepth 100000 in
theorem setX_new {w : World} {M : Nat → Lab} {tb : Nat} {nv uv : Value} {ps : List Pn} {us : List Value} (h : Lies w M tb nv uv ps us) (hE : Errs w M) {i : Nat} {p : Pn} (hp : ps[i]? = some p) (name value : ByteArray) (hk : p.n.kind = 2) (hn : nameB name = true) (hv : value.size ≤ 20000) (hu : us.length ≤ 1099511627776) (ha : p.n.attrs.length ≤ 1099511627776) (hf : findA p.n.attrs name = none) :
    Calls Tryz.prog 30 #[.pointer (some ⟨tb, 0, none⟩), .int .i64 i, .string name, .string value] w fun e w' => e = .returned .nilIface ∧ DoneX w M tb us (nodesOf ps) ((nodesOf ps).set i { p.n with attrs := p.n.attrs ++ [(name, value)] }) w' := by
  obtain ⟨i0, hi, hz0, hz1, hz2⟩ := info_parts Tryz.infoAttr
  have hfi : findI p.n.attrs name = -1 := by simp only [findI, hf]
  have hsa : Hid (setAttr p.n.attrs name value = p.n.attrs ++ [(name, value)]) := by
    show setAttr _ _ _ = _
    simp only [setAttr, hf]
  obtain ⟨nb, nc, rfl, hc, hm, hnM, hnl, hil⟩ := h.form hp
  obtain ⟨aa, ac, hav, hac1, hac2⟩ := (h.node i p hp).1.shape
  have hlt : tb < w.heap.size := lt_of_heap h.head
  have c0 := h.cell0
  have W0 : Hid (∀ w', Below w.heap.size w w' → Lies w' M tb (.slice (some ⟨nb, 0, none⟩) ps.length nc) uv ps us ∧ Errs w' M) := fun w' hb => ⟨h.below hb, hE.below hb⟩
  have HP : Hid (ps[i]? = some p) := hp
  have HF : Hid (∀ b, w.heap.size ≤ b → M b = .other) := h.fresh
  have i1 : (0 : Int) ≤ (i : Int) := by omega
  have i2 : (i : Int) < (ps.length : Int) := by omega
  unfold maxLen at hm hac2
  clear h hE hp hf
  go_enter Tryz.func30, Tryz.ntmps30
  go_wp2_with (first
    | (go_at_call 60; refine (wantElement_any (W0.out _ (((Below.refl _ _).alloc (Nat.le_refl _) _).alloc (by simp) _)).1 (W0.out _ (((Below.refl _ _).alloc (Nat.le_refl _) _).alloc (by simp) _)).2 HP.out).mono ?_; rintro e w' ⟨⟨v, rfl, hv⟩, rfl⟩; rw [if_pos hk] at hv; subst hv)
    | (go_at_call 49; refine (name_any _ _).mono ?_; rintro e w' ⟨rfl, rfl⟩; rw [hn]))
  go_quiet (fail)
  go_wp2_with (first
    | (go_at_call 61; refine (find_any (W0.out _ (below_drewN (((Below.refl _ _).alloc (Nat.le_refl _) _).alloc (by simp) _) _)).1 HP.out name).mono ?_; rintro e w1 ⟨rfl, hB⟩; rw [hfi]
       have b0 : w1.cell? ⟨w.heap.size, 0, none⟩ = some (.pointer (some ⟨tb, 0, none⟩)) := (hB.cell (p := ⟨w.heap.size, 0, none⟩) (by simp; omega)).trans (by simp)
       have b1 : w1.cell? ⟨w.heap.size + 1, 0, none⟩ = some (.int .i64 i) := (hB.cell (p := ⟨w.heap.size + 1, 0, none⟩) (by simp)).trans (by simp)
       have hB1 : Hid (Below w.heap.size w w1) := (below_drewN (((Below.refl _ _).alloc (Nat.le_refl _) _).alloc (by simp) _) _).trans (hB.mono (by simp; omega))
       have c3 := ((W0.out w1 hB1.out).1.cellN rfl (f := 3) HP.out (by omega) rfl)
       rw [hav] at c3
       obtain ⟨c3, c3f⟩ := c3
       have l0 : w.heap.size + 1 < w1.heap.size := World.block_lt_of_cell? w1 _ b1
       have l1 : nb < w1.heap.size := World.block_lt_of_cell? w1 _ c3
       have HB2 : Hid (∀ o1 o2, Below w1.heap.size w1 ((w1.alloc o1).alloc o2)) := fun o1 o2 => ((Below.refl _ _).alloc (Nat.le_refl _) _).alloc (by simp) _
       have HLW : Hid (∀ o1 o2, Lies ((w1.alloc o1).alloc o2) M tb (.slice (some ⟨nb, 0, none⟩) ps.length nc) uv ps us) := fun o1 o2 => ((W0.out w1 hB1.out).1.alloc o1).alloc o2
       have HRW : Hid (∀ o1 o2, Row ((w1.alloc o1).alloc o2) M (.attrs i) 79 2 (.slice aa p.n.attrs.length ac) p.n.attrs.length (attrCells p.n.attrs)) := fun o1 o2 => hav ▸ ((HLW.out o1 o2).node i p HP.out).1
       clear hB)
    | (at_builtin; (refine wpList_app_row _ (by rfl) (.tmp 42) (.tmp 46) 37 (by rfl) M (.attrs i) 79 i0 _ 2 32 Tryz.underlying37 hi hz0 hz1 hz2 rfl (by decide) (.slice aa p.n.attrs.length ac) p.n.attrs.length (attrCells p.n.attrs) (by rfl) (HRW.out _ _) ⟨w1.heap.size + 1, 0, none⟩ 1 1 [.string name, .string value] (by rfl) rfl (news_new (w1.alloc _) #[.string name, .string value] 79 _ (by simp)) (by simp [Value.oneCell']) (by decide) (by unfold maxLen; omega) (by omega) (HLW.out _ _).fresh ?_); intro g cap1 w2 M2 hr st
       (obtain ⟨q1, q2, ⟨u3, q3⟩, q4⟩ := (HLW.out _ _).setAttrs rfl HP.out st (at' := p.n.attrs ++ [(name, value)]) (by rw [List.length_append, attrCells_append]; exact hr))
       (have b0' : (w2.setCell ⟨nb, i * 6 + 3, none⟩ (.slice (some ⟨g, 0, none⟩) (p.n.attrs.length + 1) cap1)).cell? ⟨w.heap.size, 0, none⟩ = some (.pointer (some ⟨tb, 0, none⟩)) := moved_cell q2 (HF.out _ (Nat.le_refl _)) (((HB2.out _ _).cell (p := ⟨w.heap.size, 0, none⟩) (by show w.heap.size < w1.heap.size; omega)).trans b0))
       (have HQ : Hid _ := And.intro q1 (((((Moved.refl w M).below hB1.out).alloc _).alloc _).trans q2))
       (have HQ2 : Hid (Moved w1 M _ M2) := (((Moved.refl w1 M).alloc _).alloc _).trans q2)
       clear q1 q2 hr st)
    | (go_at_call 55; refine (keep_any HQ.out.1 _ _ _ hu).mono ?_; rintro e w3 ⟨rfl, M3, uv3, hL3, hm3⟩))
  go_ret
  refine ⟨rfl, M3, _, uv3, _, _, .cut i, hL3, (by rw [nodesOf, List.map_set]; rfl), ⟨_, _, rfl, ((show Cap w1 M _ 0 (at0 tb) from ⟨HF.out _ (Nat.le_refl _), b0⟩).moved HQ2.out).moved hm3, ((show Cap w1 M _ 0 (.int .i64 i) from ⟨HF.out _ (by omega), b1⟩).moved HQ2.out).moved hm3⟩, ?_, HQ.out.2.trans hm3, (by intro F xs cs e b hb; cases e; simp at hb; omega)⟩
  refine ⟨_, p.n.attrs, (name, value), List.getElem?_set_self (by simpa [nodesOf] using hil), rfl, ?_⟩
  rw [List.set_set]
  exact (set_same (nodes_get HP.out)).symm

end Go.Proofs.YtjfklhfdonbpgaaGreatDoor

/- What Set and Unset make of any tree, exactly. -/
namespace Go.Proofs.YtjfklhfdonbpgaaGreatDoor
open Go.RowKit

set_option maxHeartbeats 4000000 in
set_option maxRecDepth 100000 in
theorem setX_old {w : World} {M : Nat → Lab} {tb : Nat} {nv uv : Value} {ps : List Pn} {us : List Value} (h : Lies w M tb nv uv ps us) (hE : Errs w M) {i : Nat} {p : Pn} (hp : ps[i]? = some p) (name value : ByteArray) (hk : p.n.kind = 2) (hn : nameB name = true) (hv : value.size ≤ 20000) (hu : us.length ≤ 1099511627776) {k : Nat} (hf : findA p.n.attrs name = some k) :
    Calls Tryz.prog 30 #[.pointer (some ⟨tb, 0, none⟩), .int .i64 i, .string name, .string value] w fun e w' => e = .returned .nilIface ∧ DoneX w M tb us (nodesOf ps) ((nodesOf ps).set i { p.n with attrs := p.n.attrs.set k ((p.n.attrs.getD k (⟨#[]⟩, ⟨#[]⟩)).1, value) }) w' := by
  have hfi : findI p.n.attrs name = k := by simp only [findI, hf]
  have hkl : k < p.n.attrs.length := by
    unfold findA at hf
    rw [List.findIdx?_eq_some_iff_getElem] at hf
    exact hf.1
  obtain ⟨x, hx⟩ : ∃ x, p.n.attrs[k]? = some x := ⟨_, List.getElem?_eq_getElem hkl⟩
  have hsa : Hid (setAttr p.n.attrs name value = p.n.attrs.set k (x.1, value)) := by
    show setAttr _ _ _ = _
    simp only [setAttr, hf]
    rw [List.getD_eq_getElem?_getD, hx]
    rfl
  obtain ⟨nb, nc, rfl, hc, hm, hnM, hnl, hil⟩ := h.form hp
  obtain ⟨ag, ac, hav, hac1, hac2, hagM, hagl⟩ := (h.node i p hp).1.form (by omega)
  have hlt : tb < w.heap.size := lt_of_heap h.head
  have c0 := h.cell0
  have W0 : Hid (∀ w', Below w.heap.size w w' → Lies w' M tb (.slice (some ⟨nb, 0, none⟩) ps.length nc) uv ps us ∧ Errs w' M) := fun w' hb => ⟨h.below hb, hE.below hb⟩
  have HP : Hid (ps[i]? = some p) := hp
  have HX : Hid (p.n.attrs[k]? = some x) := hx
  have HF : Hid (∀ b, w.heap.size ≤ b → M b = .other) := h.fresh
  have i1 : (0 : Int) ≤ (i : Int) := by omega
  have i2 : (i : Int) < (ps.length : Int) := by omega
  have i3 : (0 : Int) ≤ (k : Int) := by omega
  have i4 : (k : Int) < (p.n.attrs.length : Int) := by omega
  unfold maxLen at hm hac2
  clear h hE hp hf hx
  go_enter Tryz.func30, Tryz.ntmps30
  go_wp2_with (first
    | (go_at_call 60; refine (wantElement_any (W0.out _ (((Below.refl _ _).alloc (Nat.le_refl _) _).alloc (by simp) _)).1 (W0.out _ (((Below.refl _ _).alloc (Nat.le_refl _) _).alloc (by simp) _)).2 HP.out).mono ?_; rintro e w' ⟨⟨v, rfl, hv⟩, rfl⟩; rw [if_pos hk] at hv; subst hv)
    | (go_at_call 49; refine (name_any _ _).mono ?_; rintro e w' ⟨rfl, rfl⟩; rw [hn]))
  go_quiet (fail)
  go_wp2_with (first
    | (go_at_call 61; refine (find_any (W0.out _ (below_drewN (((Below.refl _ _).alloc (Nat.le_refl _) _).alloc (by simp) _) _)).1 HP.out name).mono ?_; rintro e w1 ⟨rfl, hB⟩; rw [hfi]
       have b0 : w1.cell? ⟨w.heap.size, 0, none⟩ = some (.pointer (some ⟨tb, 0, none⟩)) := (hB.cell (p := ⟨w.heap.size, 0, none⟩) (by simp; omega)).trans (by simp)
       have b1 : w1.cell? ⟨w.heap.size + 1, 0, none⟩ = some (.int .i64 i) := (hB.cell (p := ⟨w.heap.size + 1, 0, none⟩) (by simp)).trans (by simp)
       have hB1 : Hid (Below w.heap.size w w1) := (below_drewN (((Below.refl _ _).alloc (Nat.le_refl _) _).alloc (by simp) _) _).trans (hB.mono (by simp; omega))
       obtain ⟨c3, c3f⟩ := ((W0.out w1 hB1.out).1.cellN rfl (f := 3) HP.out (by omega) rfl)
       rw [hav] at c3
       have cx := ((W0.out w1 hB1.out).1.node i p HP.out).1.cell hav (attrCells_get p.n.attrs k x HX.out).2
       obtain ⟨cx, cxf⟩ := cx
       have l0 : w.heap.size + 1 < w1.heap.size := World.block_lt_of_cell? w1 _ b1
       have l1 : nb < w1.heap.size := World.block_lt_of_cell? w1 _ c3
       have l2 : ag < w1.heap.size := World.block_lt_of_cell? w1 _ cx
       have st : Step w1 M (w1.setCell ⟨ag, k * 2 + 1, none⟩ (.string value)) M (.attrs i) := step_setCell _ hagM (W0.out w1 hB1.out).1.fresh
       have hrs := ((W0.out w1 hB1.out).1.node i p HP.out).1.set hav (k * 2 + 1) (.string value) (by rw [attrCells_length]; omega)
       have HQ : Hid _ := (W0.out w1 hB1.out).1.turnAttrs HP.out st (at' := p.n.attrs.set k (x.1, value)) (by rw [List.length_set, attrCells_set p.n.attrs k x value HX.out]; exact hrs)
       have bx : (w1.setCell ⟨ag, k * 2 + 1, none⟩ (.string value)).cell? ⟨w.heap.size, 0, none⟩ = some (.pointer (some ⟨tb, 0, none⟩)) := moved_cell HQ.out.2 (HF.out _ (Nat.le_refl _)) b0
       have hbx : ∀ o1 o2, (((w1.setCell ⟨ag, k * 2 + 1, none⟩ (.string value)).alloc o1).alloc o2).cell? ⟨w.heap.size, 0, none⟩ = some (.pointer (some ⟨tb, 0, none⟩)) := fun o1 o2 => moved_cell (((Moved.refl _ M).alloc o1).alloc o2) (HF.out _ (Nat.le_refl _)) bx
       have hne1 : ¬ (w.heap.size = ag) := by omega
       have hne2 : ¬ (ag = w.heap.size) := by omega
       clear hB st hrs))
  go_region
  all_goals go_wp2_with fail
  all_goals go_region
  all_goals go_wp2_with (go_at_call 55; refine (keep_any ((HQ.out.1.alloc _).alloc _).drew.drew _ _ _ hu).mono ?_; rintro e w3 ⟨rfl, M3, uv3, hL3, hm3⟩)
  all_goals go_ret
  all_goals
    have hL := (W0.out w1 hB1.out).1
    have mv : Moved w1 M _ M := ((HQ.out.2.alloc (.cells #[.int .i64 k] 3)).alloc (.cells #[.string x.2] 9)).drew.drew
    have hgd : (p.n.attrs.getD k (⟨#[]⟩, ⟨#[]⟩)).1 = x.1 := by rw [List.getD_eq_getElem?_getD, HX.out]; rfl
    rw [hgd]
    refine ⟨rfl, M3, _, uv3, _, _, .back i k x.2, hL3, (by rw [nodesOf, List.map_set]; rfl), ⟨_, _, _, _, rfl, Cap.moved ⟨hL.fresh _ (by omega), ?_⟩ hm3, ((show Cap w1 M _ 0 (at0 tb) from ⟨HF.out _ (Nat.le_refl _), b0⟩).moved mv).moved hm3, ((show Cap w1 M _ 0 (.int .i64 i) from ⟨HF.out _ (by omega), b1⟩).moved mv).moved hm3, Cap.moved ⟨hL.fresh _ (Nat.le_refl _), ?_⟩ hm3⟩, ?_, ((Moved.refl w M).below hB1.out).trans (mv.trans hm3), (by have hz1 := hB1.out.size; have hz2 := mv.size; intro F xs cs e b hb; cases e; simp at hb hz2; omega)⟩
    · exact cell_new2 _ _ (by simp [World.setCell]) _ _ _
    · exact cell_new1 _ _ (by simp [World.setCell]) _ _ _
    · refine ⟨_, (x.1, value), List.getElem?_set_self (by simpa [nodesOf] using hil), List.getElem?_set_self hkl, ?_⟩
      rw [List.set_set]
      simp only [List.set_set]
      rw [set_attr_same HX.out]
      exact (set_same (nodes_get HP.out)).symm

end Go.Proofs.YtjfklhfdonbpgaaGreatDoor

/- Which error Set and Unset tell. -/
namespace Go.Proofs.YtjfklhfdonbpgaaGreatDoor
open Go.RowKit

set_option maxHeartbeats 2000000 in
theorem wantX_none {w : World} {M : Nat → Lab} {tb : Nat} {nv uv : Value} {ps : List Pn} {us : List Value} (h : Lies w M tb nv uv ps us) (hE : Errs w M) {a : Int} (hb : hasB ps.length a = false) :
    Calls Tryz.prog 60 #[.pointer (some ⟨tb, 0, none⟩), .int .i64 a] w fun e w' => (∃ v, e = .returned v ∧ isErr v ∧ w.cell? ⟨1, 0, none⟩ = some v) ∧ w' = w := by
  obtain ⟨t, a1, hc3⟩ := hE.cell 1 (by decide)
  have H : Hid (Lies w M tb nv uv ps us) := h
  clear h hE
  go_enter Tryz.func60, Tryz.ntmps60
  go_wp2_with (go_at_call 45; refine (has_any H.out _).mono ?_; rintro e w' ⟨rfl, rfl⟩; rw [hb])
  go_ret
  exact ⟨⟨_, rfl, ⟨t, a1, rfl⟩, hc3⟩, rfl⟩
set_option maxHeartbeats 2000000 in
theorem wantX_bad {w : World} {M : Nat → Lab} {tb : Nat} {nv uv : Value} {ps : List Pn} {us : List Value} (h : Lies w M tb nv uv ps us) (hE : Errs w M) {i : Nat} {p : Pn} (hp : ps[i]? = some p) (hk : p.n.kind ≠ 2) :
    Calls Tryz.prog 60 #[.pointer (some ⟨tb, 0, none⟩), .int .i64 i] w fun e w' => (∃ v, e = .returned v ∧ isErr v ∧ w.cell? ⟨2, 0, none⟩ = some v) ∧ w' = w := by
  have hb := hasB_of hp
  obtain ⟨nb, cap, rfl, hc, hm, _, _, hi⟩ := h.form hp
  obtain ⟨t, a, hc3⟩ := hE.cell 2 (by decide)
  have c0 := h.cell0
  have c4 := (h.cellN rfl (f := 0) hp (by omega) rfl).1
  rw [Nat.add_zero] at c4
  have H : Hid (Lies w M tb (.slice (some ⟨nb, 0, none⟩) ps.length cap) uv ps us) := h
  unfold maxLen at hm
  clear h hE
  have hkb : (p.n.kind == 2) = false := by simpa using hk
  go_enter Tryz.func60, Tryz.ntmps60
  go_wp2_with (go_at_call 45; refine (has_any H.out _).mono ?_; rintro e w' ⟨rfl, rfl⟩; rw [hb])
  go_ret
  exact ⟨⟨_, rfl, ⟨t, a, rfl⟩, hc3⟩, rfl⟩

/-- a cell of an old block behind two allocations -/
theorem cell_old2 {w : World} {g : Nat} (hg : g < w.heap.size) (o1 o2 : Obj) : ((w.alloc o1).alloc o2).cell? ⟨g, 0, none⟩ = w.cell? ⟨g, 0, none⟩ :=
  World.cell?_of_block (a := ⟨g, 0, none⟩) ((Below.heap_alloc _ _ g (by simp; omega)).trans (Below.heap_alloc _ _ g hg))

section
variable {w : World} {M : Nat → Lab} {tb : Nat} {nv uv : Value} {ps : List Pn} {us : List Value}
set_option maxHeartbeats 4000000 in
set_option maxRecDepth 100000 in
theorem setX_none (h : Lies w M tb nv uv ps us) (hE : Errs w M) {a : Int} (hb : hasB ps.length a = false) (name value : ByteArray) :
    Calls Tryz.prog 30 #[.pointer (some ⟨tb, 0, none⟩), .int .i64 a, .string name, .string value] w (Told7 w 1) := by
  obtain ⟨t1, a1, hc1⟩ := hE.cell 1 (by decide)
  have l1 : 1 < w.heap.size := World.block_lt_of_cell? w _ hc1
  have W0 : Hid (∀ o1 o2, Lies ((w.alloc o1).alloc o2) M tb nv uv ps us ∧ Errs ((w.alloc o1).alloc o2) M) := fun o1 o2 => ⟨(h.alloc o1).alloc o2, hE.below (((Below.refl _ _).alloc (Nat.le_refl _) _).alloc (by simp) _)⟩
  clear h hE
  go_enter Tryz.func30, Tryz.ntmps30
  go_wp2_with (go_at_call 60; refine (wantX_none (W0.out _ _).1 (W0.out _ _).2 hb).mono ?_; rintro e w' ⟨⟨v, rfl, ⟨t3, a3, rfl⟩, hcv⟩, rfl⟩; rw [cell_old2 l1] at hcv; have HV : Hid _ := hcv; clear hcv)
  all_goals go_ret
  all_goals exact ⟨⟨_, rfl, ⟨t3, a3, rfl⟩, HV.out⟩, ((Below.refl _ _).alloc (Nat.le_refl _) _).alloc (by simp) _⟩
set_option maxHeartbeats 4000000 in
set_option maxRecDepth 100000 in
theorem setX_kind (h : Lies w M tb nv uv ps us) (hE : Errs w M) {i : Nat} {p : Pn} (hp : ps[i]? = some p) (hk : p.n.kind ≠ 2) (name value : ByteArray) :
    Calls Tryz.prog 30 #[.pointer (some ⟨tb, 0, none⟩), .int .i64 i, .string name, .string value] w (Told7 w 2) := by
  obtain ⟨t1, a1, hc1⟩ := hE.cell 2 (by decide)
  have l1 : 2 < w.heap.size := World.block_lt_of_cell? w _ hc1
  have W0 : Hid (∀ o1 o2, Lies ((w.alloc o1).alloc o2) M tb nv uv ps us ∧ Errs ((w.alloc o1).alloc o2) M) := fun o1 o2 => ⟨(h.alloc o1).alloc o2, hE.below (((Below.refl _ _).alloc (Nat.le_refl _) _).alloc (by simp) _)⟩
  clear h hE
  go_enter Tryz.func30, Tryz.ntmps30
  go_wp2_with (go_at_call 60; refine (wantX_bad (W0.out _ _).1 (W0.out _ _).2 hp hk).mono ?_; rintro e w' ⟨⟨v, rfl, ⟨t3, a3, rfl⟩, hcv⟩, rfl⟩; rw [cell_old2 l1] at hcv; have HV : Hid _ := hcv; clear hcv)
  all_goals go_ret
  all_goals exact ⟨⟨_, rfl, ⟨t3, a3, rfl⟩, HV.out⟩, ((Below.refl _ _).alloc (Nat.le_refl _) _).alloc (by simp) _⟩
set_option maxHeartbeats 4000000 in
set_option maxRecDepth 100000 in
theorem setX_name (h : Lies w M tb nv uv ps us) (hE : Errs w M) {i : Nat} {p : Pn} (hp : ps[i]? = some p) (hk : p.n.kind = 2) (name value : ByteArray) (hn : nameB name = false) :
    Calls Tryz.prog 30 #[.pointer (some ⟨tb, 0, none⟩), .int .i64 i, .string name, .string value] w (Told7 w 0) := by
  obtain ⟨t1, a1, hc1⟩ := hE.cell 0 (by decide)
  have l1 : 0 < w.heap.size := World.block_lt_of_cell? w _ hc1
  have W0 : Hid (∀ o1 o2, Lies ((w.alloc o1).alloc o2) M tb nv uv ps us ∧ Errs ((w.alloc o1).alloc o2) M) := fun o1 o2 => ⟨(h.alloc o1).alloc o2, hE.below (((Below.refl _ _).alloc (Nat.le_refl _) _).alloc (by simp) _)⟩
  clear h hE
  go_enter Tryz.func30, Tryz.ntmps30
  go_wp2_with (first
    | (go_at_call 60; refine (wantElement_any (W0.out _ _).1 (W0.out _ _).2 hp).mono ?_; rintro e w' ⟨⟨v, rfl, hv⟩, rfl⟩; rw [if_pos hk] at hv; subst hv)
    | (go_at_call 49; refine (name_any _ _).mono ?_; rintro e w' ⟨rfl, rfl⟩; rw [hn]))
  all_goals go_ret
  all_goals exact ⟨⟨_, rfl, ⟨t1, a1, rfl⟩, hc1⟩, ((Below.refl _ _).alloc (Nat.le_refl _) _).alloc (by simp) _⟩
set_option maxHeartbeats 4000000 in
set_option maxRecDepth 100000 in
theorem setX_long (h : Lies w M tb nv uv ps us) (hE : Errs w M) {i : Nat} {p : Pn} (hp : ps[i]? = some p) (hk : p.n.kind = 2) (name value : ByteArray) (hn : nameB name = true) (hvs : 20000 < value.size) (hv : value.size ≤ 9223372036854775807) :
    Calls Tryz.prog 30 #[.pointer (some ⟨tb, 0, none⟩), .int .i64 i, .string name, .string value] w (Told7 w 3) := by
  obtain ⟨t1, a1, hc1⟩ := hE.cell 3 (by decide)
  have l1 : 3 < w.heap.size := World.block_lt_of_cell? w _ hc1
  have W0 : Hid (∀ o1 o2, Lies ((w.alloc o1).alloc o2) M tb nv uv ps us ∧ Errs ((w.alloc o1).alloc o2) M) := fun o1 o2 => ⟨(h.alloc o1).alloc o2, hE.below (((Below.refl _ _).alloc (Nat.le_refl _) _).alloc (by simp) _)⟩
  clear h hE
  go_enter Tryz.func30, Tryz.ntmps30
  go_wp2_with (first
    | (go_at_call 60; refine (wantElement_any (W0.out _ _).1 (W0.out _ _).2 hp).mono ?_; rintro e w' ⟨⟨v, rfl, hv⟩, rfl⟩; rw [if_pos hk] at hv; subst hv)
    | (go_at_call 49; refine (name_any _ _).mono ?_; rintro e w' ⟨rfl, rfl⟩; rw [hn]))
  all_goals go_ret
  all_goals exact ⟨⟨_, rfl, ⟨t1, a1, rfl⟩, hc1⟩, ((Below.refl _ _).alloc (Nat.le_refl _) _).alloc (by simp) _⟩
end
end Go.Proofs.YtjfklhfdonbpgaaGreatDoor
