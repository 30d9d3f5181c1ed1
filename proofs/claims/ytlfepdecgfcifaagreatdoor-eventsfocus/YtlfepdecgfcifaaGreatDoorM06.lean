/- Ways from roots down to nodes, and which of two stands first. -/
import Derived.Test.YtlfepdecgfcifaaGreatDoorM03
import Derived.BigRegion
namespace Go.Proofs.YtlfepdecgfcifaaGreatDoor
open Go.RowKit


theorem isNaN_any (x : Int) (w : World) : Calls Tryz.prog 69 #[.int .i64 x] w fun e w' => e = .returned (.bool false) ∧ w' = w := by
  go_enter Tryz.func69, Tryz.ntmps69
  go_wp2
  all_goals go_ret
  all_goals exact ⟨ret_bool (by simp), rfl⟩

def cmpI (x y : Int) : Int := if x < y then -1 else if y < x then 1 else 0
theorem cmp_any (x y : Int) (w : World) : Calls Tryz.prog 35 #[.int .i64 x, .int .i64 y] w fun e w' => e = .returned (.int .i64 (cmpI x y)) ∧ w' = w := by
  go_enter Tryz.func35, Tryz.ntmps35
  go_wp2_with (go_at_call 69; refine (isNaN_any _ _).mono ?_; rintro e w' ⟨rfl, rfl⟩)
  all_goals go_ret
  all_goals refine ⟨ret_int ?_, rfl⟩
  all_goals (unfold cmpI; repeat' split)
  all_goals first | rfl | omega


/-- the rest of two lists, behind so many that are alike -/
theorem cmpL_drop (s t : List Int) (k : Nat) (x y : Int) (hs : s[k]? = some x) (ht : t[k]? = some y) : cmpL (s.drop k) (t.drop k) = if x < y then -1 else if y < x then 1 else cmpL (s.drop (k + 1)) (t.drop (k + 1)) := by
  obtain ⟨hks, rfl⟩ := List.getElem?_eq_some_iff.1 hs
  obtain ⟨hkt, rfl⟩ := List.getElem?_eq_some_iff.1 ht
  rw [List.drop_eq_getElem_cons hks, List.drop_eq_getElem_cons hkt]
  rfl

/-- a list whose two ends have been exchanged, so many times -/
def revTo (xs : List Int) (k : Nat) : List Int := (List.range xs.length).map fun i => if i < k ∨ xs.length ≤ i + k then xs.getD (xs.length - 1 - i) 0 else xs.getD i 0
theorem revTo_length (xs : List Int) (k : Nat) : (revTo xs k).length = xs.length := by simp [revTo]
theorem revTo_get (xs : List Int) (k i : Nat) (h : i < xs.length) : (revTo xs k)[i]? = some (if i < k ∨ xs.length ≤ i + k then xs.getD (xs.length - 1 - i) 0 else xs.getD i 0) := by
  simp [revTo, List.getElem?_range h]
theorem revTo_zero (xs : List Int) : revTo xs 0 = xs := by
  apply List.ext_getElem?
  intro i
  by_cases h : i < xs.length
  · rw [revTo_get xs 0 i h, if_neg (by omega), List.getD_eq_getElem?_getD, List.getElem?_eq_getElem h]
    rfl
  · rw [List.getElem?_eq_none (by rw [revTo_length]; omega), List.getElem?_eq_none (by omega)]
theorem revTo_done (xs : List Int) (k : Nat) (hk : xs.length ≤ 2 * k + 1) : revTo xs k = xs.reverse := by
  apply List.ext_getElem?
  intro i
  by_cases h : i < xs.length
  · rw [revTo_get xs k i h, List.getElem?_reverse h, List.getElem?_eq_getElem (by omega)]
    split
    · rw [List.getD_eq_getElem?_getD, List.getElem?_eq_getElem (by omega)]
      rfl
    · rw [List.getD_eq_getElem?_getD, List.getElem?_eq_getElem h]
      have e : i = xs.length - 1 - i := by omega
      simp only [Option.getD_some]
      congr 2
  · rw [List.getElem?_eq_none (by rw [revTo_length]; omega), List.getElem?_eq_none (by simp; omega)]
theorem revTo_step (xs : List Int) (k : Nat) (hk : 2 * k + 1 < xs.length) : ((revTo xs k).set k (xs.getD (xs.length - 1 - k) 0)).set (xs.length - 1 - k) (xs.getD k 0) = revTo xs (k + 1) := by
  apply List.ext_getElem?
  intro i
  by_cases h : i < xs.length
  · rw [revTo_get xs (k + 1) i h]
    by_cases h1 : i = xs.length - 1 - k
    · subst h1
      rw [List.getElem?_set_self (by rw [List.length_set, revTo_length]; omega), if_pos (by omega)]
      congr 2
      omega
    · rw [List.getElem?_set_ne (by omega)]
      by_cases h2 : i = k
      · subst h2
        rw [List.getElem?_set_self (by rw [revTo_length]; omega), if_pos (by omega)]
      · rw [List.getElem?_set_ne (by omega), revTo_get xs k i h]
        by_cases h3 : i < k ∨ xs.length ≤ i + k
        · rw [if_pos h3, if_pos (by omega)]
        · rw [if_neg h3, if_neg (by omega)]
  · rw [List.getElem?_eq_none (by rw [List.length_set, List.length_set, revTo_length]; omega), List.getElem?_eq_none (by rw [revTo_length]; omega)]

/-- a store into a row of one's own -/
theorem own_set {w : World} {B : Nat} {g n c : Nat} {xs : List Int} (h : w.ownsRow B 3 1 (.slice (some ⟨g, 0, none⟩) n c) n (xs.map intV)) (j : Nat) (x : Int) :
    (w.setCell ⟨g, j, none⟩ (.int .i64 x)).ownsRow B 3 1 (.slice (some ⟨g, 0, none⟩) n c) n ((xs.set j x).map intV) := by
  refine ⟨by have := h.1; simpa using this, ?_⟩
  rcases h.2 with ⟨h0, _⟩ | ⟨g', cap, cur, hv, hb, hg, h1, h2, h3, h4⟩
  · cases h0
  · cases hv
    refine .inr ⟨g, _, _, rfl, hb, setCell_heap w g j _ cur 3 (0, 0) hg, h1, h2, by rw [Array.size_setIfInBounds]; exact h3, ?_⟩
    rw [Array.toList_setIfInBounds, List.take_set, h4, List.map_set]
    rfl

set_option maxHeartbeats 4000000 in
set_option maxRecDepth 100000 in
theorem reverse_any {w : World} {B : Nat} {v : Value} {n : Nat} {xs : List Int} (h : w.ownsRow B 3 1 v n (xs.map intV)) (hn : n ≤ 1099511627776) :
    Calls Tryz.prog 38 #[v] w fun e w' => e = .returned (.tuple #[]) ∧ w'.ownsRow B 3 1 v n (xs.reverse.map intV) ∧ Below B w w' := by
  obtain ⟨rfl, a, ca, rfl, h1, h2, hcv⟩ := own_cell h
  have hbg : ∀ g, a = some ⟨g, 0, none⟩ → B ≤ g := fun g hg => (h.lt g (by subst hg; rfl)).1
  unfold maxLen at h2
  have H : Hid (w.ownsRow B 3 1 (.slice a xs.length ca) xs.length (xs.map intV)) := h
  clear hcv h
  go_enter Tryz.func38, Tryz.ntmps38
  go_wp2
  go_loopw [2, 3] (fun i j wr => ∃ k : Nat, 2 * k ≤ xs.length + 1 ∧ i = .int .i64 k ∧ j = .int .i64 ((xs.length : Int) - 1 - k) ∧ Hid (wr.ownsRow B 3 1 (.slice a xs.length ca) xs.length ((revTo xs k).map intV)) ∧ Hid (Below B w wr)) (fun i _ _ => xs.length - (intOf i).toNat)
  case atStart => exact ⟨0, by omega, rfl, by simp, (by rw [revTo_zero]; exact H.out : w.ownsRow B 3 1 (.slice a xs.length ca) xs.length ((revTo xs 0).map intV)), Below.refl _ _⟩
  case round =>
    obtain ⟨k, hk, rfl, rfl, hown, hbel⟩ := hrel
    by_cases hlt : 2 * k + 1 < xs.length
    · obtain ⟨_, a', c', hv', _, _, hcell⟩ := own_cell hown.out
      cases hv'
      obtain ⟨g, rfl, ck, fk⟩ := hcell k _ (revTo_get xs k k (by omega))
      obtain ⟨g', hg', cm, fm⟩ := hcell (xs.length - 1 - k) _ (revTo_get xs k (xs.length - 1 - k) (by omega))
      cases hg'
      rw [if_neg (by omega)] at ck cm
      have hj : ((xs.length : Int) - 1 - k) = ((xs.length - 1 - k : Nat) : Int) := by omega
      have hne : k ≠ xs.length - 1 - k := by omega
      have hkx : xs.length - 1 - k < xs.length := by omega
      have s1 := own_set hown.out k (xs.getD (xs.length - 1 - k) 0)
      have s2 := own_set s1 (xs.length - 1 - k) (xs.getD k 0)
      have hx2 : (wr.setCell ⟨g, k, none⟩ (.int .i64 (xs.getD (xs.length - 1 - k) 0))).cell? ⟨g, xs.length - 1 - k, none⟩ = some (.int .i64 (xs.getD (xs.length - 1 - k) 0)) ∧ (wr.setCell ⟨g, k, none⟩ (.int .i64 (xs.getD (xs.length - 1 - k) 0))).frozen? ⟨g, xs.length - 1 - k, none⟩ = false := by
        obtain ⟨_, a2, c2, hv2, _, _, hcell2⟩ := own_cell s1
        cases hv2
        obtain ⟨g2, hg2, q1, q2⟩ := hcell2 (xs.length - 1 - k) (xs.getD (xs.length - 1 - k) 0) (by rw [List.getElem?_set_ne hne, revTo_get xs k _ (by omega), if_neg (by omega)])
        cases hg2
        exact ⟨q1, q2⟩
      obtain ⟨hx2, hx3⟩ := hx2
      have hkr : k < xs.length - 1 - k := by omega
      rw [revTo_step xs k hlt] at s2
      have S2 : Hid _ := s2
      rw [hj]
      have HJ : Hid ((xs.length : Int) - 1 - (k + 1 : Nat) = ((xs.length - 1 - k : Nat) : Int) - 1) := by show _ = _; omega
      clear s1 s2 hj hcell
      generalize xs.length - 1 - k = r at *
      generalize xs.getD k 0 = x at *
      generalize xs.getD r 0 = y at *
      have i1 : (k : Int) < (r : Int) := by omega
      have i2 : (r : Int) < (xs.length : Int) := by omega
      have i3 : (k : Int) < (xs.length : Int) := by omega
      have i4 : (0 : Int) ≤ (k : Int) := by omega
      have i5 : (0 : Int) ≤ (r : Int) := by omega
      go_wp2
      go_region
      go_wp2
      go_roundw
      case rel => go_light; exact ⟨k + 1, by omega, by go_num, congrArg (Value.int .i64) HJ.out.symm, S2.out, ((hbel.out.setCell (hbg g rfl) _).setCell (hbg g rfl) _).drew⟩
      case measure => go_light; simp [intOf]; omega
    · go_wp2
      go_end0
      exact ⟨rfl, by rw [← revTo_done xs k (by omega)]; exact hown.out, hbel.out⟩
end Go.Proofs.YtlfepdecgfcifaaGreatDoor

/- What Order answers. -/
namespace Go.Proofs.YtlfepdecgfcifaaGreatDoor
open Go.RowKit




/-- what Order answers of two nodes -/
def ordV (r q : Nat) (s t : List Int) : Value := .tuple #[.int .i64 (if r = q then cmpL s t else 0), .bool (decide (r = q))]

end Go.Proofs.YtlfepdecgfcifaaGreatDoor

/- What Set makes of a tree, where it sets. -/
namespace Go.Proofs.YtlfepdecgfcifaaGreatDoor
open Go.RowKit

theorem moved_cell {w w' : World} {M M' : Nat → Lab} (m : Moved w M w' M') {b o : Nat} {v : Value} (hM : M b = .other) (hc : w.cell? ⟨b, o, none⟩ = some v) : w'.cell? ⟨b, o, none⟩ = some v :=
  (World.cell?_of_block (a := ⟨b, o, none⟩) (m.far b (World.block_lt_of_cell? w _ hc) hM)).trans hc

/-- an attribute was set -/
def WasSet (w : World) (M : Nat → Lab) (tb : Nat) (nv : Value) (ps : List Pn) (us : List Value) (i : Nat) (p : Pn) (name value : ByteArray) (e : Ending) (w' : World) : Prop :=
  e = .returned .nilIface ∧ ∃ M' uv' av' f, Lies w' M' tb nv uv' (ps.set i ⟨{ p.n with attrs := setAttr p.n.attrs name value }, av', p.kv⟩) (us ++ [f]) ∧ Moved w M w' M'

set_option maxHeartbeats 4000000 in
set_option maxRecDepth 100000 in
theorem set_new {w : World} {M : Nat → Lab} {tb : Nat} {nv uv : Value} {ps : List Pn} {us : List Value} (h : Lies w M tb nv uv ps us) (hE : Errs w M) {i : Nat} {p : Pn} (hp : ps[i]? = some p) (name value : ByteArray) (hk : p.n.kind = 2) (hn : nameB name = true) (hv : value.size ≤ 20000) (hu : us.length ≤ 1099511627776) (ha : p.n.attrs.length ≤ 1099511627776) (hf : findA p.n.attrs name = none) :
    Calls Tryz.prog 21 #[.pointer (some ⟨tb, 0, none⟩), .int .i64 i, .string name, .string value] w (WasSet w M tb nv ps us i p name value) := by
  obtain ⟨i0, hi, hz0, hz1, hz2⟩ := info_parts Tryz.infoAttr
  have hfi : findI p.n.attrs name = -1 := by simp only [findI, hf]
  have hsa : Hid (setAttr p.n.attrs name value = p.n.attrs ++ [(name, value)]) := by
    show setAttr _ _ _ = _
    simp only [setAttr, hf]
  obtain ⟨nb, nc, rfl, hc, hm, hnM, hnl, hil⟩ := h.form hp
  obtain ⟨aa, ac, hav, hac1, hac2⟩ := (h.node i p hp).1.shape
  have hlt : tb < w.heap.size := lt_of_heap h.head
  have c0 := h.cell0
  have W0 : Hid (∀ w', Below w.heap.size w w' → Lies w' M tb (.slice (some ⟨nb, 0, none⟩) ps.length nc) uv ps us ∧ Errs w' M) := fun w' hb => ⟨h.below hb, hE.below hb⟩
  have HP : Hid (ps[i]? = some p) := hp
  have HF : Hid (∀ b, w.heap.size ≤ b → M b = .other) := h.fresh
  have i1 : (0 : Int) ≤ (i : Int) := by omega
  have i2 : (i : Int) < (ps.length : Int) := by omega
  unfold maxLen at hm hac2
  clear h hE hp hf
  go_enter Tryz.func21, Tryz.ntmps21
  go_wp2_with (first
    | (go_at_call 48; refine (wantElement_any (W0.out _ (((Below.refl _ _).alloc (Nat.le_refl _) _).alloc (by simp) _)).1 (W0.out _ (((Below.refl _ _).alloc (Nat.le_refl _) _).alloc (by simp) _)).2 HP.out).mono ?_; rintro e w' ⟨⟨v, rfl, hv⟩, rfl⟩; rw [if_pos hk] at hv; subst hv)
    | (go_at_call 46; refine (name_any _ _).mono ?_; rintro e w' ⟨rfl, rfl⟩; rw [hn]))
  go_quiet (fail)
  go_wp2_with (first
    | (go_at_call 49; refine (find_any (W0.out _ (below_drewN (((Below.refl _ _).alloc (Nat.le_refl _) _).alloc (by simp) _) _)).1 HP.out name).mono ?_; rintro e w1 ⟨rfl, hB⟩; rw [hfi]
       have b0 : w1.cell? ⟨w.heap.size, 0, none⟩ = some (.pointer (some ⟨tb, 0, none⟩)) := (hB.cell (p := ⟨w.heap.size, 0, none⟩) (by simp; omega)).trans (by simp)
       have b1 : w1.cell? ⟨w.heap.size + 1, 0, none⟩ = some (.int .i64 i) := (hB.cell (p := ⟨w.heap.size + 1, 0, none⟩) (by simp)).trans (by simp)
       have hB1 : Hid (Below w.heap.size w w1) := (below_drewN (((Below.refl _ _).alloc (Nat.le_refl _) _).alloc (by simp) _) _).trans (hB.mono (by simp; omega))
       have c3 := ((W0.out w1 hB1.out).1.cellN rfl (f := 3) HP.out (by omega) rfl)
       rw [hav] at c3
       obtain ⟨c3, c3f⟩ := c3
       have l0 : w.heap.size + 1 < w1.heap.size := World.block_lt_of_cell? w1 _ b1
       have l1 : nb < w1.heap.size := World.block_lt_of_cell? w1 _ c3
       have HB2 : Hid (∀ o1 o2, Below w1.heap.size w1 ((w1.alloc o1).alloc o2)) := fun o1 o2 => ((Below.refl _ _).alloc (Nat.le_refl _) _).alloc (by simp) _
       have HLW : Hid (∀ o1 o2, Lies ((w1.alloc o1).alloc o2) M tb (.slice (some ⟨nb, 0, none⟩) ps.length nc) uv ps us) := fun o1 o2 => ((W0.out w1 hB1.out).1.alloc o1).alloc o2
       have HRW : Hid (∀ o1 o2, Row ((w1.alloc o1).alloc o2) M (.attrs i) 51 2 (.slice aa p.n.attrs.length ac) p.n.attrs.length (attrCells p.n.attrs)) := fun o1 o2 => hav ▸ ((HLW.out o1 o2).node i p HP.out).1
       clear hB)
    | (at_builtin; (refine wpList_app_row _ (by rfl) (.tmp 42) (.tmp 46) 43 (by rfl) M (.attrs i) 51 i0 _ 2 32 Tryz.underlying43 hi hz0 hz1 hz2 rfl (by decide) (.slice aa p.n.attrs.length ac) p.n.attrs.length (attrCells p.n.attrs) (by rfl) (HRW.out _ _) ⟨w1.heap.size + 1, 0, none⟩ 1 1 [.string name, .string value] (by rfl) rfl (news_new (w1.alloc _) #[.string name, .string value] 51 _ (by simp)) (by simp [Value.oneCell']) (by decide) (by unfold maxLen; omega) (by omega) (HLW.out _ _).fresh ?_); intro g cap1 w2 M2 hr st
       (obtain ⟨q1, q2, ⟨u3, q3⟩, q4⟩ := (HLW.out _ _).setAttrs rfl HP.out st (at' := p.n.attrs ++ [(name, value)]) (by rw [List.length_append, attrCells_append]; exact hr))
       (have b0' : (w2.setCell ⟨nb, i * 6 + 3, none⟩ (.slice (some ⟨g, 0, none⟩) (p.n.attrs.length + 1) cap1)).cell? ⟨w.heap.size, 0, none⟩ = some (.pointer (some ⟨tb, 0, none⟩)) := moved_cell q2 (HF.out _ (Nat.le_refl _)) (((HB2.out _ _).cell (p := ⟨w.heap.size, 0, none⟩) (by show w.heap.size < w1.heap.size; omega)).trans b0))
       (have HQ : Hid _ := And.intro q1 (((((Moved.refl w M).below hB1.out).alloc _).alloc _).trans q2))
       clear q1 q2 hr st)
    | (go_at_call 50; refine (keep_any HQ.out.1 _ _ _ hu).mono ?_; rintro e w3 ⟨rfl, M3, uv3, hL3, hm3⟩))
  go_ret
  exact ⟨rfl, M3, uv3, _, _, hsa.out ▸ hL3, HQ.out.2.trans hm3⟩

set_option maxHeartbeats 4000000 in
set_option maxRecDepth 100000 in
theorem set_old {w : World} {M : Nat → Lab} {tb : Nat} {nv uv : Value} {ps : List Pn} {us : List Value} (h : Lies w M tb nv uv ps us) (hE : Errs w M) {i : Nat} {p : Pn} (hp : ps[i]? = some p) (name value : ByteArray) (hk : p.n.kind = 2) (hn : nameB name = true) (hv : value.size ≤ 20000) (hu : us.length ≤ 1099511627776) {k : Nat} (hf : findA p.n.attrs name = some k) :
    Calls Tryz.prog 21 #[.pointer (some ⟨tb, 0, none⟩), .int .i64 i, .string name, .string value] w (WasSet w M tb nv ps us i p name value) := by
  have hfi : findI p.n.attrs name = k := by simp only [findI, hf]
  have hkl : k < p.n.attrs.length := by
    unfold findA at hf
    rw [List.findIdx?_eq_some_iff_getElem] at hf
    exact hf.1
  obtain ⟨x, hx⟩ : ∃ x, p.n.attrs[k]? = some x := ⟨_, List.getElem?_eq_getElem hkl⟩
  have hsa : Hid (setAttr p.n.attrs name value = p.n.attrs.set k (x.1, value)) := by
    show setAttr _ _ _ = _
    simp only [setAttr, hf]
    rw [List.getD_eq_getElem?_getD, hx]
    rfl
  obtain ⟨nb, nc, rfl, hc, hm, hnM, hnl, hil⟩ := h.form hp
  obtain ⟨ag, ac, hav, hac1, hac2, hagM, hagl⟩ := (h.node i p hp).1.form (by omega)
  have hlt : tb < w.heap.size := lt_of_heap h.head
  have c0 := h.cell0
  have W0 : Hid (∀ w', Below w.heap.size w w' → Lies w' M tb (.slice (some ⟨nb, 0, none⟩) ps.length nc) uv ps us ∧ Errs w' M) := fun w' hb => ⟨h.below hb, hE.below hb⟩
  have HP : Hid (ps[i]? = some p) := hp
  have HX : Hid (p.n.attrs[k]? = some x) := hx
  have HF : Hid (∀ b, w.heap.size ≤ b → M b = .other) := h.fresh
  have i1 : (0 : Int) ≤ (i : Int) := by omega
  have i2 : (i : Int) < (ps.length : Int) := by omega
  have i3 : (0 : Int) ≤ (k : Int) := by omega
  have i4 : (k : Int) < (p.n.attrs.length : Int) := by omega
  unfold maxLen at hm hac2
  clear h hE hp hf hx
  go_enter Tryz.func21, Tryz.ntmps21
  go_wp2_with (first
    | (go_at_call 48; refine (wantElement_any (W0.out _ (((Below.refl _ _).alloc (Nat.le_refl _) _).alloc (by simp) _)).1 (W0.out _ (((Below.refl _ _).alloc (Nat.le_refl _) _).alloc (by simp) _)).2 HP.out).mono ?_; rintro e w' ⟨⟨v, rfl, hv⟩, rfl⟩; rw [if_pos hk] at hv; subst hv)
    | (go_at_call 46; refine (name_any _ _).mono ?_; rintro e w' ⟨rfl, rfl⟩; rw [hn]))
  go_quiet (fail)
  go_wp2_with (first
    | (go_at_call 49; refine (find_any (W0.out _ (below_drewN (((Below.refl _ _).alloc (Nat.le_refl _) _).alloc (by simp) _) _)).1 HP.out name).mono ?_; rintro e w1 ⟨rfl, hB⟩; rw [hfi]
       have b0 : w1.cell? ⟨w.heap.size, 0, none⟩ = some (.pointer (some ⟨tb, 0, none⟩)) := (hB.cell (p := ⟨w.heap.size, 0, none⟩) (by simp; omega)).trans (by simp)
       have b1 : w1.cell? ⟨w.heap.size + 1, 0, none⟩ = some (.int .i64 i) := (hB.cell (p := ⟨w.heap.size + 1, 0, none⟩) (by simp)).trans (by simp)
       have hB1 : Hid (Below w.heap.size w w1) := (below_drewN (((Below.refl _ _).alloc (Nat.le_refl _) _).alloc (by simp) _) _).trans (hB.mono (by simp; omega))
       obtain ⟨c3, c3f⟩ := ((W0.out w1 hB1.out).1.cellN rfl (f := 3) HP.out (by omega) rfl)
       rw [hav] at c3
       have cx := ((W0.out w1 hB1.out).1.node i p HP.out).1.cell hav (attrCells_get p.n.attrs k x HX.out).2
       obtain ⟨cx, cxf⟩ := cx
       have l0 : w.heap.size + 1 < w1.heap.size := World.block_lt_of_cell? w1 _ b1
       have l1 : nb < w1.heap.size := World.block_lt_of_cell? w1 _ c3
       have l2 : ag < w1.heap.size := World.block_lt_of_cell? w1 _ cx
       have st : Step w1 M (w1.setCell ⟨ag, k * 2 + 1, none⟩ (.string value)) M (.attrs i) := step_setCell _ hagM (W0.out w1 hB1.out).1.fresh
       have hrs := ((W0.out w1 hB1.out).1.node i p HP.out).1.set hav (k * 2 + 1) (.string value) (by rw [attrCells_length]; omega)
       have HQ : Hid _ := (W0.out w1 hB1.out).1.turnAttrs HP.out st (at' := p.n.attrs.set k (x.1, value)) (by rw [List.length_set, attrCells_set p.n.attrs k x value HX.out]; exact hrs)
       have bx : (w1.setCell ⟨ag, k * 2 + 1, none⟩ (.string value)).cell? ⟨w.heap.size, 0, none⟩ = some (.pointer (some ⟨tb, 0, none⟩)) := moved_cell HQ.out.2 (HF.out _ (Nat.le_refl _)) b0
       have hbx : ∀ o1 o2, (((w1.setCell ⟨ag, k * 2 + 1, none⟩ (.string value)).alloc o1).alloc o2).cell? ⟨w.heap.size, 0, none⟩ = some (.pointer (some ⟨tb, 0, none⟩)) := fun o1 o2 => moved_cell (((Moved.refl _ M).alloc o1).alloc o2) (HF.out _ (Nat.le_refl _)) bx
       have hne1 : ¬ (w.heap.size = ag) := by omega
       have hne2 : ¬ (ag = w.heap.size) := by omega
       clear hB st hrs))
  go_region
  all_goals go_wp2_with fail
  all_goals go_region
  all_goals go_wp2_with (go_at_call 50; refine (keep_any ((HQ.out.1.alloc _).alloc _).drew.drew _ _ _ hu).mono ?_; rintro e w3 ⟨rfl, M3, uv3, hL3, hm3⟩)
  all_goals go_ret
  all_goals exact ⟨rfl, M3, uv3, _, _, hsa.out ▸ hL3, (((((Moved.refl w M).below hB1.out).trans HQ.out.2).alloc _).alloc _).drew.drew.trans hm3⟩
end Go.Proofs.YtlfepdecgfcifaaGreatDoor
