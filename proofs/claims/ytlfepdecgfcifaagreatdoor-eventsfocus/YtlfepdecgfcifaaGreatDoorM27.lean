/- The document's FocusOrder, walked. -/
import Derived.Test.YtlfepdecgfcifaaGreatDoorM26
import Derived.Test.YtlfepdecgfcifaaGreatDoorM23
import Derived.Deep.RegionHeld3
namespace Go.Proofs.YtlfepdecgfcifaaGreatDoor
open Go.RowKit
set_option linter.unusedVariables false
attribute [local go_sem] Oper.semAt_some

theorem RLies.reheadE {w : World} {M : Nat → Lab} {tb tb2 : Nat} {nv uv : Value} {ps : List Pn} {us : List Value} (h : RLies w M tb nv uv ps us) (hh : w.heap[tb2]? = some (.cells #[nv, uv] 29 (0, 0))) (hM : M tb2 = .other) : ∃ M', RLies w M' tb2 nv uv ps us := by
  have r := h.relabel hM (lt_of_heap hh) .tree
  exact ⟨_, r.fresh, by simp, hh, r.nodes, r.undos, r.node⟩
theorem runderNone_any {w : World} {M : Nat → Lab} {tb : Nat} {nv uv : Value} {ps : List Pn} {us : List Value} (h : RLies w M tb nv uv ps us) {a : Int} (hb : hasB ps.length a = false) : Calls Tryz.prog 36 #[.pointer (some ⟨tb, 0, none⟩), .int .i64 a] w fun e w' => e = .returned (.slice none 0 0) ∧ w' = w := by
  have H := hidF (rhas_any h a)
  rw [hb] at H
  clear h
  go_enter Tryz.func36, Tryz.ntmps36
  go_wp2_with fail
  refine H.out.mono ?_
  rintro e w' ⟨rfl, hw⟩
  rw [hw]
  go_wp2_with fail
  go_returns
  exact ⟨rfl, rfl⟩
theorem rundZ_any {w : World} {M : Nat → Lab} {tb : Nat} {nv uv : Value} {ps : List Pn} {us : List Value} (h : RLies w M tb nv uv ps us) (hs : Sound (nodesOf ps)) (hn : Neat (nodesOf ps)) (hl : ps.length ≤ 1000000) (z : Int) :
    Calls Tryz.prog 36 #[.pointer (some ⟨tb, 0, none⟩), .int .i64 z] w (UndPost w (undZ (nodesOf ps) z)) := by
  have hln : (nodesOf ps).length = ps.length := by simp [nodesOf]
  have hlen := undZ_len hs hn z
  unfold undZ at hlen ⊢
  rw [hln] at hlen ⊢
  cases hb : hasB ps.length z
  · refine (runderNone_any h hb).mono ?_
    rintro e w' ⟨rfl, rfl⟩
    exact ⟨_, rfl, World.ownsRow_nil _ _ _ _, Below.refl _ _⟩
  · have hz : 0 ≤ z ∧ z < (ps.length : Int) := by unfold hasB at hb; simpa using hb
    obtain ⟨i, rfl⟩ : ∃ i : Nat, z = i := ⟨z.toNat, by omega⟩
    rw [hb, if_pos rfl, Int.toNat_natCast] at hlen
    rw [if_pos rfl, Int.toNat_natCast]
    have := rank_le (nodesOf ps) i (by omega)
    exact runder_any h hs (ps.length + 1) i (by omega) (by omega) w i rfl (Below.refl _ _) (by omega)

/-- the document's lists in memory -/
structure DoI (w wr : World) (tb : Nat) (nv tuv uv ov rv : Value) (ns : List Nd) (L : List Int) (k : Nat) (o r : List Int) : Prop where
  below : Below w.heap.size w wr
  tree : wr.heap[tb]? = some (.cells #[nv, tuv] 29 (0, 0))
  lo : w.heap.size ≤ tb
  und : wr.ownsRow w.heap.size 3 1 uv L.length (L.map intV)
  oo : wr.ownsRow w.heap.size 3 1 ov o.length (o.map intV)
  rr : wr.ownsRow w.heap.size 3 1 rv r.length (r.map intV)
  doc : DocI ns o r (fltT ns (L.take k))
  len : o.length + r.length ≤ k
  t1 : uv.ownBlock ≠ some tb ∧ ov.ownBlock ≠ some tb ∧ rv.ownBlock ≠ some tb
  t2 : ∀ b, uv.ownBlock = some b → ov.ownBlock ≠ some b ∧ rv.ownBlock ≠ some b
  t3 : ∀ b, ov.ownBlock = some b → rv.ownBlock ≠ some b
section
variable {w wr w' : World} {tb : Nat} {nv tuv uv ov rv : Value} {ns : List Nd} {L : List Int} {k : Nat} {o r : List Int}
theorem DoI.held (h : DoI w wr tb nv tuv uv ov rv ns L k o r) (hb : Below wr.heap.size wr w') : DoI w w' tb nv tuv uv ov rv ns L k o r :=
  ⟨h.below.trans (hb.mono h.below.size), (hb.block _ (ltH h.tree)).trans h.tree, h.lo, own_same h.und (fun b hq => hb.block b (h.und.lt b hq).2), own_same h.oo (fun b hq => hb.block b (h.oo.lt b hq).2), own_same h.rr (fun b hq => hb.block b (h.rr.lt b hq).2), h.doc, h.len, h.t1, h.t2, h.t3⟩
theorem DoI.skip (h : DoI w wr tb nv tuv uv ov rv ns L k o r) {x : Int} (hx : L[k]? = some x) (ht : turnJ ns x < 0 ∧ turnI ns x ≤ 0) : DoI w wr tb nv tuv uv ov rv ns L (k + 1) o r := by
  have e := fltT_succ (ns := ns) hx
  rw [if_neg (by omega)] at e
  exact ⟨h.below, h.tree, h.lo, h.und, h.oo, h.rr, by rw [e]; exact h.doc, by have := h.len; omega, h.t1, h.t2, h.t3⟩
theorem DoI.rest (h : DoI w wr tb nv tuv uv ov rv ns L k o r) {x : Int} (hx : L[k]? = some x) (ht : turnJ ns x = 0 ∧ turnI ns x = 1000000000) {ob : Obj} {v1 : Value} (hv : w'.ownsRow w.heap.size 3 1 v1 (r.length + 1) (r.map intV ++ [.int .i64 x])) (hg : (wr.alloc ob).grownBy w' rv.ownBlock) (hn : v1.ownBlock = rv.ownBlock ∨ v1.ownBlock = some (wr.alloc ob).heap.size) : DoI w w' tb nv tuv uv ov v1 ns L (k + 1) o (r ++ [x]) := by
  have e := fltT_succ (ns := ns) hx
  rw [if_pos (by omega)] at e
  have hsz : (wr.alloc ob).heap.size = wr.heap.size + 1 := by simp
  rw [hsz] at hn
  have low : ∀ b, b < wr.heap.size → rv.ownBlock ≠ some b → w'.heap[b]? = wr.heap[b]? := fun b hb hne => (hg.block b (by omega) (fun q => hne q.symm)).trans (Below.heap_alloc _ _ _ hb)
  have htb := ltH h.tree
  have nw : ∀ b, v1.ownBlock = some b → b < wr.heap.size → rv.ownBlock = some b := fun b hq hb => by
    rcases hn with q | q
    · exact q.symm.trans hq
    · rw [q] at hq; injection hq with hq; omega
  refine ⟨(h.below.alloc h.below.size ob).grown hg (by have := h.below.size; omega) (fun q hq => (h.rr.lt q hq).1), (low tb htb h.t1.2.2).trans h.tree, h.lo, own_same h.und (fun b hq => low b (h.und.lt b hq).2 (h.t2 b hq).2), own_same h.oo (fun b hq => low b (h.oo.lt b hq).2 (h.t3 b hq)), by rw [List.length_append, List.map_append]; exact hv, by rw [e]; exact h.doc.rest ht.2, by have := h.len; simp; omega, ⟨h.t1.1, h.t1.2.1, fun q => h.t1.2.2 (nw tb q htb)⟩, fun b hq => ⟨(h.t2 b hq).1, fun q => (h.t2 b hq).2 (nw b q (h.und.lt b hq).2)⟩, fun b hq q => h.t3 b hq (nw b q (h.oo.lt b hq).2)⟩
/-- another list, of a block of its own, stands in the place of the first -/
theorem DoI.out (h : DoI w wr tb nv tuv uv ov rv ns L k o r) {x : Int} (hx : L[k]? = some x) (ht : 0 < turnJ ns x ∧ turnI ns x = turnJ ns x ∧ turnI ns x < 1000000000) (hb : Below wr.heap.size wr w') {v1 : Value} {o1 : List Int} (ho : o1 = o.take (cutJ (turnJ ns) (turnJ ns x) o o.length) ++ [x] ++ o.drop (cutJ (turnJ ns) (turnJ ns x) o o.length)) (hv : w'.ownsRow wr.heap.size 3 1 v1 o1.length (o1.map intV)) : DoI w w' tb nv tuv uv v1 rv ns L (k + 1) o1 r := by
  have e := fltT_succ (ns := ns) hx
  rw [if_pos (by omega)] at e
  have g := h.held hb
  have nw : ∀ b, v1.ownBlock = some b → wr.heap.size ≤ b := fun b hq => (hv.lt b hq).1
  have hlo := h.below.size
  refine ⟨g.below, g.tree, g.lo, g.und, own_monoF hv hlo, g.rr, by rw [e, ho]; exact h.doc.put ht, ?_, ⟨h.t1.1, fun q => ?_, h.t1.2.2⟩, fun b hq => ⟨fun q => ?_, (h.t2 b hq).2⟩, fun b hq q => ?_⟩
  · have := h.len
    have hc := cutJ_le (turnJ ns) (turnJ ns x) o o.length
    rw [ho]
    simp
    omega
  · have := nw tb q; have := ltH h.tree; omega
  · have := nw b q; have := (h.und.lt b hq).2; omega
  · have := nw b hq; have := (h.rr.lt b q).2; omega
end
end Go.Proofs.YtlfepdecgfcifaaGreatDoor

/- The document's Hover, walked. -/
namespace Go.Proofs.YtlfepdecgfcifaaGreatDoor
open Go.RowKit
set_option linter.unusedVariables false
attribute [local go_sem] Oper.semAt_some

/-- the elements of a way -/
def elemB (ns : List Nd) (z : Int) : Bool := kindI ns z == 2
/-- over which elements something points -/
def hovP (ns : List Nd) (z : Int) : List Int := if kindI ns z = 2 ∨ kindI ns z = 3 then (upA ns z).filter (elemB ns) else []
theorem kindI_at {ns : List Nd} {j : Nat} {n : Nd} (h : ns[j]? = some n) : kindI ns (j : Int) = n.kind := by
  have hl := (List.getElem?_eq_some_iff.1 h).1
  unfold kindI
  rw [show hasB ns.length (j : Int) = true by unfold hasB; simp; omega, if_pos rfl, Int.toNat_natCast, h]
theorem parOf_at {ns : List Nd} {j : Nat} {n : Nd} (h : ns[j]? = some n) : parOf ns (j : Int) = n.parent := by
  unfold parOf; rw [Int.toNat_natCast, h]

/-- the way gone so far -/
structure HvI (ns : List Nd) (all : List Int) (w1 wr : World) (ov : Value) (q : Int) (pre : List Int) : Prop where
  eq : all = pre ++ upA ns q
  below : Below w1.heap.size w1 wr
  oo : wr.ownsRow w1.heap.size 3 1 ov (pre.filter (elemB ns)).length ((pre.filter (elemB ns)).map intV)
theorem HvI.len {ns : List Nd} {all : List Int} {w1 wr : World} {ov : Value} {q : Int} {pre : List Int} (h : HvI ns all w1 wr ov q pre) : pre.length ≤ all.length := by rw [h.eq]; simp
theorem HvI.skip {ns : List Nd} {all : List Int} {w1 wr : World} {ov : Value} {q pa : Int} {pre : List Int} (h : HvI ns all w1 wr ov q pre) (hu : upA ns q = q :: upA ns (parOf ns q)) (hp : parOf ns q = pa) (he : elemB ns q = false) : HvI ns all w1 wr ov pa (pre ++ [q]) := by
  have e : (pre ++ [q]).filter (elemB ns) = pre.filter (elemB ns) := by simp [he]
  exact ⟨by rw [h.eq, hu, hp]; simp, h.below, by rw [e]; exact h.oo⟩
theorem HvI.add {ns : List Nd} {all : List Int} {w1 wr w' : World} {ov v1 : Value} {q pa : Int} {pre : List Int} {ob : Obj} (h : HvI ns all w1 wr ov q pre) (hu : upA ns q = q :: upA ns (parOf ns q)) (hp : parOf ns q = pa) (he : elemB ns q = true) (hv : w'.ownsRow w1.heap.size 3 1 v1 ((pre.filter (elemB ns)).length + 1) ((pre.filter (elemB ns)).map intV ++ [.int .i64 q])) (hg : (wr.alloc ob).grownBy w' ov.ownBlock) : HvI ns all w1 w' v1 pa (pre ++ [q]) := by
  have e : (pre ++ [q]).filter (elemB ns) = pre.filter (elemB ns) ++ [q] := by simp [he]
  refine ⟨by rw [h.eq, hu, hp]; simp, (h.below.alloc h.below.size ob).grown hg (by have := h.below.size; simp; omega) (fun b hb => (h.oo.lt b hb).1), ?_⟩
  rw [e, List.length_append, List.map_append]
  exact hv
theorem HvI.fin {ns : List Nd} {all : List Int} {w w1 wr : World} {ov : Value} {q : Int} {pre : List Int} (h : HvI ns all w1 wr ov q pre) (hq : q < 0) (hs : w1.heap.size = w.heap.size + 1) (hb : Below w.heap.size w w1) : wr.ownsRow w.heap.size 3 1 ov (all.filter (elemB ns)).length ((all.filter (elemB ns)).map intV) ∧ Below w.heap.size w wr := by
  have e : all = pre := by rw [h.eq, upA_neg hq, List.append_nil]
  rw [e]
  exact ⟨own_monoF h.oo (by omega), hb.trans (h.below.mono (by omega))⟩
theorem RLies.par4 {w : World} {M : Nat → Lab} {tb nb nc : Nat} {uv : Value} {ps : List Pn} {us : List Value} {ns : List Nd} (h : RLies w M tb (.slice (some ⟨nb, 0, none⟩) ps.length nc) uv ps us) (hn : ∀ (j : Nat) (p : Pn), ps[j]? = some p → ns[j]? = some p.n) {j : Nat} {pa : Int} (hpa : parOf ns (j : Int) = pa) (hj : j < ps.length) : w.cell? ⟨nb, j * 6 + 4, none⟩ = some (.int .i64 pa) := by
  obtain ⟨p, hp⟩ : ∃ p, ps[j]? = some p := ⟨_, List.getElem?_eq_getElem hj⟩
  have := (h.cellN rfl (f := 4) hp (by omega) rfl).1
  rw [this, ← hpa, parOf_at (hn _ _ hp)]

set_option maxHeartbeats 8000000 in
set_option maxRecDepth 100000 in
theorem hoverQ_any {w : World} {M : Nat → Lab} {B : Nat} {nv uv : Value} {ps : List Pn} {us : List Value} (h : RLies w M B nv uv ps us) (hA : Asc (nodesOf ps)) (hl : ps.length ≤ 1000) (z : Int) :
    Calls Tryz.prog 14 #[.agg #[nv, uv], .int .i64 z] w (UndPost w (hovP (nodesOf ps) z)) := by
  obtain ⟨i0, hi, hz0, hz1, hz2⟩ := info_parts Tryz.infoInt
  have hln : (nodesOf ps).length = ps.length := by simp [nodesOf]
  obtain ⟨na, nc, hnv, _, _⟩ := h.nodes.shape
  obtain ⟨ta, tc, htv, _, _⟩ := h.undos.shape
  have hb1 : Below w.heap.size w (w.alloc (.cells #[nv, uv] 29)) := (Below.refl _ w).alloc (Nat.le_refl _) _
  have hbox : (w.alloc (.cells #[nv, uv] 29)).heap[w.heap.size]? = some (.cells #[nv, uv] 29 (0, 0)) := heap_alloc_new _ _
  obtain ⟨M1, hR1⟩ := (h.below hb1).reheadE hbox (h.fresh _ (Nat.le_refl _))
  have HAS := hidF (rhas_any hR1 z)
  have HR := hidF hR1
  have HB1 := hidF hb1
  have HA := hidF hA
  obtain ⟨ns, hns⟩ : ∃ ns, nodesOf ps = ns := ⟨_, rfl⟩
  have HNS := hidF hns
  rw [hns] at HA hln ⊢
  have HPN : Hid (∀ (j : Nat) (p : Pn), ps[j]? = some p → ns[j]? = some p.n) := fun j p hp => by rw [← HNS.out]; unfold nodesOf; rw [List.getElem?_map, hp]; rfl
  subst hnv htv
  clear h hb1 hbox hR1 hA hns
  cases hb : hasB ps.length z
  · have e0 : hovP ns z = [] := by
      unfold hovP kindI
      rw [hln, hb]; rfl
    rw [hb] at HAS
    rw [e0]
    go_enter Tryz.func14, Tryz.ntmps14
    go_wp2_with fail
    refine HAS.out.mono ?_
    rintro e w' ⟨rfl, hw'⟩
    rw [hw']
    go_wp2_with fail
    go_returns
    exact ⟨_, rfl, World.ownsRow_nil _ _ _ _, HB1.out⟩
  · have hz : 0 ≤ z ∧ z < (ps.length : Int) := by unfold hasB at hb; simpa using hb
    obtain ⟨i, rfl⟩ : ∃ i : Nat, z = i := ⟨z.toNat, by omega⟩
    obtain ⟨p, hp⟩ : ∃ p, ps[i]? = some p := ⟨_, List.getElem?_eq_getElem (by omega)⟩
    obtain ⟨nb, nc', hnv, _, _, _, _, _⟩ := HR.out.form hp
    injection hnv with q1 q2 q3
    subst q1 q3
    have c0 := (HR.out.cellN rfl (f := 0) hp (by omega) rfl).1
    rw [Nat.add_zero] at c0
    have ek : kindI ns (i : Int) = p.n.kind := kindI_at (HPN.out _ _ hp)
    have ct := HR.out.cell0
    rw [hb] at HAS
    have hi' : (i : Int) < (ps.length : Int) := by omega
    by_cases hk : p.n.kind = 2 ∨ p.n.kind = 3
    · have e0 : hovP ns i = (upA ns i).filter (elemB ns) := by unfold hovP; rw [if_pos (by rw [ek]; exact hk)]
      rw [e0]
      have HI0 : Hid (HvI ns (upA ns (i : Int)) (w.alloc (.cells #[.slice (some ⟨nb, 0, none⟩) ps.length nc, .slice ta us.length tc] 29)) (w.alloc (.cells #[.slice (some ⟨nb, 0, none⟩) ps.length nc, .slice ta us.length tc] 29)) (.slice none 0 0) (i : Int) []) := ⟨rfl, Below.refl _ _, World.ownsRow_nil _ _ _ _⟩
      have hus : (upA ns (i : Int)).length ≤ ns.length + 1 := upA_len ns _
      have hsz : (w.alloc (.cells #[.slice (some ⟨nb, 0, none⟩) ps.length nc, .slice ta us.length tc] 29)).heap.size = w.heap.size + 1 := by simp
      have HS := hidF hsz
      have k2b : (p.n.kind != 2) = !(p.n.kind == 2) := rfl
      clear e0 ek hsz
      have hkk : Hid (p.n.kind = 2 ∨ p.n.kind = 3) := hk
      clear hk k2b
      obtain ⟨pk, hpk⟩ : ∃ k, p.n.kind = k := ⟨_, rfl⟩
      rw [hpk] at c0 hkk
      have tail : ∀ (kk : Int), kk = pk → True := fun _ _ => trivial
      clear tail
      have hcase := hkk.out
      go_enter Tryz.func14, Tryz.ntmps14
      go_wp2_with fail
      refine HAS.out.mono ?_
      rintro e w' ⟨rfl, hw'⟩
      rw [hw']
      clear hw'
      rcases hcase with rfl | rfl
      all_goals
        go_wp2_with fail
        go_loopw [1, 6] (fun idv ov wr => ∃ (q : Int) (pre : List Int), -1 ≤ q ∧ q < (ps.length : Int) ∧ idv = .int .i64 q ∧ Hid (HvI ns (upA ns (i : Int)) (w.alloc (.cells #[.slice (some ⟨nb, 0, none⟩) ps.length nc, .slice ta us.length tc] 29)) wr ov q pre)) (fun idv _ _ => rkI ns (intOf idv))
        case atStart => exact ⟨i, [], by omega, hi', rfl, HI0⟩
        case round =>
          obtain ⟨q, pre, hq1, hq2, rfl, HI⟩ := hrel
          by_cases hn0 : 0 ≤ q
          · obtain ⟨j, rfl⟩ : ∃ j : Nat, q = j := ⟨q.toNat, by omega⟩
            obtain ⟨p2, hp2⟩ : ∃ p, ps[j]? = some p := ⟨_, List.getElem?_eq_getElem (by omega)⟩
            have hns2 := HPN.out _ _ hp2
            have hR2 := HR.out.below HI.out.below
            have d0 := (hR2.cellN rfl (f := 0) hp2 (by omega) rfl).1
            have d4 := (hR2.cellN rfl (f := 4) hp2 (by omega) rfl).1
            rw [Nat.add_zero] at d0
            have dt := hR2.cell0
            obtain ⟨r1, r2, r3, _⟩ := HA.out.parI hn0 (by omega)
            rw [parOf_at hns2] at r1 r2 r3
            have HM := hidF r1
            have ek2 := kindI_at hns2
            obtain ⟨kd, hkd⟩ : ∃ k, p2.n.kind = k := ⟨_, rfl⟩
            obtain ⟨pa, hpa⟩ : ∃ k, p2.n.parent = k := ⟨_, rfl⟩
            rw [hkd] at ek2 d0
            have HPA : Hid (parOf ns (j : Int) = pa) := (parOf_at hns2).trans hpa
            rw [hpa] at r2 r3 HM d4
            have hpl := HI.out.len
            have HUC := hidF (upA_cons HA.out hn0 (by omega : (j : Int) < ns.length))
            have hbs := HI.out.below.size
            have HS2 := HS.out
            clear hns2 hR2 r1 hkd hpa hp2
            by_cases hk2 : kd = 2
            · have HE : Hid (elemB ns (j : Int) = true) := by show _ = true; unfold elemB; rw [ek2, hk2]; rfl
              subst hk2
              obtain ⟨oa, oc, hov, _, _, _⟩ := own_shapeG HI.out.oo
              subst hov
              have hfl : (pre.filter (elemB ns)).length ≤ pre.length := List.length_filter_le _ _
              clear ek2
              go_wp2_with (at_builtin; refine wpList_app_own _ (by rfl) _ _ 32 (by rfl) (w.alloc (.cells #[.slice (some ⟨nb, 0, none⟩) ps.length nc, .slice ta us.length tc] 29)).heap.size 3 i0 (.int .i64 0) 1 8 Tryz.underlying32 hi hz0 hz1 hz2 rfl (by decide) (.slice oa (pre.filter (elemB ns)).length oc) (pre.filter (elemB ns)).length ((pre.filter (elemB ns)).map intV) (by rfl) (HI.out.oo.alloc _) _ 1 [.int .i64 (j : Int)] (by rfl) ⟨rfl, by simp [Value.oneCell'], _, _, rfl, .inr ⟨_, rfl, cell_one_new _ _ _⟩⟩ (by unfold maxLen; omega) (by omega) (by simp; omega) ?_
                           intro v1 w8 hv1 hg1 hx1
                           have HJ := hidF (HI.out.add HUC.out HPA.out HE.out hv1 hg1)
                           have hR3 := HR.out.below HJ.out.below
                           have d4' := hR3.par4 HPN.out HPA.out (by omega)
                           have dt' := hR3.cell0
                           clear hv1 hg1 hx1 hR3)
              go_roundw
              case rel => exact ⟨pa, _, by omega, by omega, by go_num, HJ.out⟩
              case measure => simpa [intOf] using HM.out
            · have HE : Hid (elemB ns (j : Int) = false) := by show _ = false; unfold elemB; rw [ek2]; simpa using hk2
              have hk2b : (kd == 2) = false := by simpa using hk2
              clear ek2
              go_wp2_with fail
              go_roundw
              case rel => exact ⟨pa, _, by omega, by omega, by go_num, HI.out.skip HUC.out HPA.out HE.out⟩
              case measure => simpa [intOf] using HM.out
          · have HF := hidF (HI.out.fin (by omega) HS.out HB1.out)
            obtain rfl : q = -1 := by omega
            obtain ⟨oa, oc, hov, _, _, _⟩ := own_shapeG HI.out.oo
            subst hov
            clear hn0
            go_wp2_with fail
            go_returns
            exact ⟨_, rfl, HF.out.1, HF.out.2⟩
    · have e0 : hovP ns i = [] := by unfold hovP; rw [if_neg (by rw [ek]; exact hk)]
      have k2 : ¬ p.n.kind = 2 := fun e => hk (.inl e)
      have k3 : ¬ p.n.kind = 3 := fun e => hk (.inr e)
      have k2b : (p.n.kind != 2) = true := by simp [k2]
      have k3b : (p.n.kind != 3) = true := by simp [k3]
      rw [e0]
      clear e0 hk ek hz
      go_enter Tryz.func14, Tryz.ntmps14
      go_wp2_with fail
      refine HAS.out.mono ?_
      rintro e w' ⟨rfl, hw'⟩
      rw [hw']
      go_wp2_with fail
      go_returns
      exact ⟨_, rfl, World.ownsRow_nil _ _ _ _, HB1.out⟩
end Go.Proofs.YtlfepdecgfcifaaGreatDoor
