/- Tracks: how wide each is, by the program. -/
import Derived.Test.YtjdndaeobiagcaaTrAllP
namespace Go.Proofs.Ytjdndaeobiagcaa
open Go.RowKit
set_option linter.unusedVariables false      -- bounds that are for the walk

theorem own_tkL {e : TypeId} {w : World} {B : Nat} {v : Value} {xs : List Tr2} (h : w.ownsRow B e 2 v xs.length (trsC xs)) : TkL w v xs := by
  obtain ⟨hl, h | ⟨g, cap, cur, rfl, hg, hh, h1, h2, h3, h4⟩⟩ := h
  · obtain ⟨rfl, hn⟩ := h
    refine ⟨none, 0, by rw [hn], by omega, by omega, fun j x hj => ?_⟩
    have := (List.getElem?_eq_some_iff.1 hj).1
    omega
  · unfold maxLen at h2
    refine ⟨_, cap, rfl, h1, by omega, fun j x hj => ⟨g, 0, rfl, ltH hh, ?_⟩⟩
    have hget : ∀ (l : List Tr2) (j f : Nat) (x : Tr2), l[j]? = some x → f < 2 → (trsC l)[j * 2 + f]? = (trC x)[f]? := by
      intro l
      induction l with
      | nil => intro j f x h _; simp at h
      | cons a r ih =>
        intro j f x h hf
        cases j with
        | zero =>
          obtain rfl : a = x := by simpa using h
          unfold trsC
          rw [List.flatMap_cons, Nat.zero_mul, Nat.zero_add, List.getElem?_append_left (by simp [trC]; omega)]
        | succ j =>
          have ih := ih j f x (by simpa using h) hf
          unfold trsC at ih ⊢
          rw [List.flatMap_cons, List.getElem?_append_right (by simp [trC]; omega), show (j + 1) * 2 + f - (trC a).length = j * 2 + f by simp [trC]; omega, ih]
    have hc : ∀ (i : Nat) u, i < 2 → (trC x)[i]? = some u → w.cell? ⟨g, 0 + j * 2 + i, none⟩ = some u := fun i u hi hu => by
      have e := hget xs j i x hj hi
      rw [hu, ← h4, List.getElem?_take] at e
      rw [cell_of_row w g _ _ _ _ hh, Nat.zero_add]
      split at e
      · simpa using e
      · cases e
    exact ⟨hc 0 _ (by omega) rfl, hc 1 _ (by omega) rfl⟩
/-- what the program's Tracks works with -/
def trP (l : List Tr2) (ns : List Nd3) (room : Int) : List Tr2 := padT ((l.take 20).map (cntT room)) (reachN (byspan (needsP ns)))
noncomputable def szP (tr : Nat → Tr2) (room gap : Int) (nds : List Nd3) : Nat → Int := nds.foldl (fun sz x => widF tr gap x sz) (fun j => ownT room (tr j))
theorem szP_take {tr : Nat → Tr2} {room gap : Int} {nds : List Nd3} {k : Nat} {x : Nd3} (h : nds[k]? = some x) : szP tr room gap (nds.take (k + 1)) = widF tr gap x (szP tr room gap (nds.take k)) := by
  unfold szP
  rw [List.take_add_one, h]
  simp [List.foldl_append]
noncomputable def tracksP (l : List Tr2) (ns : List Nd3) (room gap : Int) : List Int := (List.range (trP l ns room).length).map (dealF (atT (trP l ns room)) (trP l ns room).length room gap (szP (atT (trP l ns room)) room gap (byspan (needsP ns))))
theorem SzAt.intL {w : World} {g n : Nat} {f : Nat → Int} (h : SzAt w g n f) (hn : n ≤ 9223372036854775807) : IntL w (.slice (some ⟨g, 0, none⟩) n n) ((List.range n).map f) := by
  refine ⟨_, n, by simp, by simp, hn, fun j x hj => ⟨g, 0, rfl, h.lt, ?_⟩⟩
  have hjl : j < n := by have := (List.getElem?_eq_some_iff.1 hj).1; simpa using this
  rw [Nat.zero_add, h.cell hjl]
  rw [List.getElem?_map, List.getElem?_range hjl] at hj
  cases hj; rfl

set_option maxHeartbeats 8000000 in
set_option maxRecDepth 100000 in
theorem tracks_any {w : World} {v nv : Value} {l : List Tr2} {ns : List Nd3} (h : TkL w v l) (hn : NsL w nv ns) (hns : ns.length ≤ 60) (room gap : Int) :
    Calls Try.prog 22 #[v, nv, .int .i64 room, .int .i64 gap] w fun e w' => ∃ v', e = .returned v' ∧ IntL w' v' (tracksP l ns (heldN room) (heldN gap)) ∧ Below w.heap.size w w' := by
  have HT := hidF h
  have HN := hidF hn
  obtain ⟨r1, r2⟩ := heldN_bd room
  obtain ⟨g1, g2⟩ := heldN_bd gap
  obtain ⟨rm, hrm⟩ : ∃ r, heldN room = r := ⟨_, rfl⟩
  obtain ⟨gp, hgp⟩ : ∃ r, heldN gap = r := ⟨_, rfl⟩
  have HRM := hidF (And.intro hrm hgp)
  rw [hrm] at r1 r2
  rw [hgp] at g1 g2
  rw [hrm, hgp]
  obtain ⟨out, hout⟩ : ∃ o, tracksP l ns rm gp = o := ⟨_, rfl⟩
  have HOUT := hidF hout
  rw [hout]
  obtain ⟨nds, hnds⟩ : ∃ d, byspan (needsP ns) = d := ⟨_, rfl⟩
  have HND := hidF hnds
  have HNO : Hid (∀ x ∈ nds, NdOk x) := fun x hx => by rw [← hnds] at hx; exact needs_ok hx
  have hnl : nds.length ≤ 60 := by
    rw [← hnds]
    exact Nat.le_trans (byspan_len _) (Nat.le_trans (needsP_le _) hns)
  clear h hn hrm hgp hout hnds
  go_enter Try.func22, Try.ntmps22
  have HA0 : Hid (Below w.heap.size w ((w.alloc (.cells #[.int .i64 room] 3)).alloc (.cells #[.int .i64 gap] 3)) ∧ ((w.alloc (.cells #[.int .i64 room] 3)).alloc (.cells #[.int .i64 gap] 3)).heap[w.heap.size]? = some (.cells #[.int .i64 room] 3 (0, 0)) ∧ ((w.alloc (.cells #[.int .i64 room] 3)).alloc (.cells #[.int .i64 gap] 3)).heap[w.heap.size + 1]? = some (.cells #[.int .i64 gap] 3 (0, 0))) := by
    refine ⟨by go_grown, (Below.heap_alloc (w.alloc _) _ _ (by simp)).trans (heap_alloc_new w _), ?_⟩
    have := heap_alloc_new (w.alloc (.cells #[.int .i64 room] 3)) (.cells #[.int .i64 gap] 3)
    simpa using this
  go_upto_region 0 with fail
  go_cut [6, 7] (fun p q wx => p = .pointer (some ⟨w.heap.size, 0, none⟩) ∧ q = .pointer (some ⟨w.heap.size + 1, 0, none⟩) ∧ Hid (Below w.heap.size w wx ∧ wx.heap[w.heap.size]? = some (.cells #[.int .i64 room] 3 (0, 0)) ∧ wx.heap[w.heap.size + 1]? = some (.cells #[.int .i64 gap] 3 (0, 0))))
  case first =>
    go_wp2_with fail
    go_meet
    case rel => go_light; exact ⟨rfl, rfl, HA0.out.1, HA0.out.2.1, HA0.out.2.2⟩
  case rest =>
  obtain ⟨rfl, rfl, HC⟩ := hcut
  have HCB := hidF HC.out.1
  obtain ⟨rb, hrb⟩ : ∃ r, w.heap.size = r := ⟨_, rfl⟩
  obtain ⟨gb, hgb⟩ : ∃ r, rb + 1 = r := ⟨_, rfl⟩
  have HRB := hidF hrb
  rw [hrb, hgb] at HC ⊢
  have ngr : rb ≠ gb := by omega
  have ngr2 : gb ≠ rb := by omega
  have rlo : w.heap.size ≤ rb ∧ w.heap.size ≤ gb := by omega
  have HLO := hidF rlo
  obtain ⟨w5, hw5⟩ : ∃ w5, w5 = wc := ⟨_, rfl⟩
  subst hw5
  clear HA0 hrb hgb rlo
  have a0 := ltH HC.out.2.1
  have b0 := ltH HC.out.2.2
  have HP : Hid (HoldPre (w5.alloc (.cells #[.pointer (some ⟨rb, 0, none⟩), .pointer (some ⟨gb, 0, none⟩)] 64)) w5.heap.size 0 [(⟨rb, 0, none⟩, room), (⟨gb, 0, none⟩, gap)]) := by
    show HoldPre _ _ _ _
    have k1 : (w5.alloc (.cells #[.pointer (some ⟨rb, 0, none⟩), .pointer (some ⟨gb, 0, none⟩)] 64)).heap[rb]? = some (.cells #[.int .i64 room] 3 (0, 0)) := (Below.heap_alloc w5 _ _ a0).trans HC.out.2.1
    have k2 : (w5.alloc (.cells #[.pointer (some ⟨rb, 0, none⟩), .pointer (some ⟨gb, 0, none⟩)] 64)).heap[gb]? = some (.cells #[.int .i64 gap] 3 (0, 0)) := (Below.heap_alloc w5 _ _ b0).trans HC.out.2.2
    have q1 : (w5.alloc (.cells #[.pointer (some ⟨rb, 0, none⟩), .pointer (some ⟨gb, 0, none⟩)] 64)).cell? ⟨rb, 0, none⟩ = some (.int .i64 room) := by rw [cell_of_row _ rb _ _ _ _ k1]; rfl
    have q2 : (w5.alloc (.cells #[.pointer (some ⟨rb, 0, none⟩), .pointer (some ⟨gb, 0, none⟩)] 64)).cell? ⟨gb, 0, none⟩ = some (.int .i64 gap) := by rw [cell_of_row _ gb _ _ _ _ k2]; rfl
    have q3 : (w5.alloc (.cells #[.pointer (some ⟨rb, 0, none⟩), .pointer (some ⟨gb, 0, none⟩)] 64)).frozen? ⟨rb, 0, none⟩ = false := by simp [World.frozen?, k1]
    have q4 : (w5.alloc (.cells #[.pointer (some ⟨rb, 0, none⟩), .pointer (some ⟨gb, 0, none⟩)] 64)).frozen? ⟨gb, 0, none⟩ = false := by simp [World.frozen?, k2]
    have n1 : ¬ rb = w5.heap.size := by omega
    have n2 : ¬ gb = w5.heap.size := by omega
    simp [HoldPre, go_sem, q1, q2, q3, q4, n1, n2, ngr2]
  have HW6 : Hid (∀ W, W = ((w5.alloc (.cells #[.pointer (some ⟨rb, 0, none⟩), .pointer (some ⟨gb, 0, none⟩)] 64)).setCell ⟨rb, 0, none⟩ (.int .i64 rm)).setCell ⟨gb, 0, none⟩ (.int .i64 gp) → Below w.heap.size w W ∧ W.heap[rb]? = some (.cells #[.int .i64 rm] 3 (0, 0)) ∧ W.heap[gb]? = some (.cells #[.int .i64 gp] 3 (0, 0))) := by
    intro W hW
    subst hW
    have k1 : (w5.alloc (.cells #[.pointer (some ⟨rb, 0, none⟩), .pointer (some ⟨gb, 0, none⟩)] 64)).heap[rb]? = some (.cells #[.int .i64 room] 3 (0, 0)) := (Below.heap_alloc w5 _ _ a0).trans HC.out.2.1
    have k2 : (w5.alloc (.cells #[.pointer (some ⟨rb, 0, none⟩), .pointer (some ⟨gb, 0, none⟩)] 64)).heap[gb]? = some (.cells #[.int .i64 gap] 3 (0, 0)) := (Below.heap_alloc w5 _ _ b0).trans HC.out.2.2
    refine ⟨(((HCB.out.alloc HCB.out.size _).setCell HLO.out.1 _).setCell HLO.out.2 _), ?_, ?_⟩
    · rw [heap_setCell_other _ ⟨gb, 0, none⟩ rb _ ngr, heap_setCell_same _ rb 0 _ 3 _ k1]; rfl
    · rw [heap_setCell_same _ gb 0 _ 3 _ ((heap_setCell_other _ ⟨rb, 0, none⟩ gb _ ngr2).trans k2)]; rfl
  go_wp2_with fail
  refine (hold_pre [(⟨rb, 0, none⟩, room), (⟨gb, 0, none⟩, gap)] _ _ _ _ rfl (by simp) HP.out).mono ?_
  rintro e W ⟨rfl, rfl⟩
  simp only [holdAll]
  rw [HRM.out.1, HRM.out.2]
  generalize hw6 : ((w5.alloc (.cells #[.pointer (some ⟨rb, 0, none⟩), .pointer (some ⟨gb, 0, none⟩)] 64)).setCell ⟨rb, 0, none⟩ (.int .i64 rm)).setCell ⟨gb, 0, none⟩ (.int .i64 gp) = w6
  have H6 := hidF (HW6.out w6 hw6.symm)
  clear hw6 HW6 HP HC HCB a0 b0
  have NO := hidF (needsOf_any (HN.out.below H6.out.1) hns)
  rw [HND.out] at NO
  go_wp2_with fail
  refine NO.out.mono ?_
  rintro e w7 ⟨nv7, rfl, hn7, hb7⟩
  have HN7 := hidF hn7
  have H7 : Hid (Below w.heap.size w w7 ∧ w7.heap[rb]? = some (.cells #[.int .i64 rm] 3 (0, 0)) ∧ w7.heap[gb]? = some (.cells #[.int .i64 gp] 3 (0, 0))) := ⟨H6.out.1.trans (hb7.mono H6.out.1.size), (hb7.block rb (ltH H6.out.2.1)).trans H6.out.2.1, (hb7.block gb (ltH H6.out.2.2)).trans H6.out.2.2⟩
  clear hn7 hb7 NO H6
  obtain ⟨tr, htr⟩ : ∃ tr, trP l ns rm = tr := ⟨_, rfl⟩
  have HTR := hidF htr
  have TO := hidF (fun (W : World) (hb : Below w7.heap.size w7 W) => tracksOf_any ((HT.out.below H7.out.1).below hb) (HN7.out.below hb) HNO.out hnl rm)
  have etr : padT ((l.take 20).map (cntT rm)) (reachN nds) = tr := by rw [← htr]; unfold trP; rw [HND.out]
  rw [etr] at TO
  have htl : tr.length ≤ 300 := by
    rw [← etr, padT_len, List.length_map, List.length_take]
    have := reachN_le HNO.out
    omega
  have HTO : Hid (∀ t ∈ tr, TrOk rm t) := fun t ht => by
    rw [← etr] at ht
    rcases padT_mem ht with e | e
    · obtain ⟨y, _, rfl⟩ := List.mem_map.1 e
      exact cntT_ok rm y
    · subst e
      exact ⟨Int.le_refl _, by show (0 : Int) ≤ _; omega, fun e => by have e : (0 : Int) = 2 := e; omega⟩
  have HSF : Hid ((shl (atT tr) tr.length).length ≤ 200) := by
    show _ ≤ _
    have := shl_few (tr := atT tr) (fun i hi => by
      rw [← etr, atT_pad _ _ _ (by rw [List.length_map, List.length_take]; omega)]
      omega) tr.length
    omega
  have HRC : Hid (∀ x ∈ nds, (x.f - 1).toNat + x.s.toNat ≤ tr.length) := fun x hx => by
    have h1 := reachN_ge nds x hx
    have h2 := HNO.out x hx
    have := h2.f1; have := h2.s1
    rw [← etr, padT_len]
    omega
  have HOE : Hid (out = (List.range tr.length).map (dealF (atT tr) tr.length rm gp (szP (atT tr) rm gp nds))) := by
    show _ = _
    rw [← HOUT.out]
    unfold tracksP
    rw [htr, HND.out]
  obtain ⟨na, nc, hnv, nc1, nc2, hnr⟩ := HN7.out
  subst hnv
  have HNR := hidF hnr
  clear hnr htr etr
  have HL7 := hidF (And.intro (ltH H7.out.2.1) (ltH H7.out.2.2))
  have c1 : w7.cell? ⟨rb, 0, none⟩ = some (.int .i64 rm) := by rw [cell_of_row w7 rb _ _ _ _ H7.out.2.1]; rfl
  have c2 : w7.cell? ⟨gb, 0, none⟩ = some (.int .i64 gp) := by rw [cell_of_row w7 gb _ _ _ _ H7.out.2.2]; rfl
  have l1 := ltH H7.out.2.1
  have l2 := ltH H7.out.2.2
  go_upto_region 3 with fail
  go_cut [9] (fun p wx => ∃ (bb sb : Nat) (tv : Value) (w8 : World), p = .pointer (some ⟨bb, 0, none⟩) ∧ Hid (Below w7.heap.size w7 w8 ∧ TkL w8 tv tr ∧ BdAt w8 wx bb sb tr.length tv gp (fun j => ownT rm (atT tr j))))
  case first =>
    go_region_held3 (fun wx => wx.cell? ⟨rb, 0, none⟩ = some (.int .i64 rm) ∧ wx.cell? ⟨gb, 0, none⟩ = some (.int .i64 gp)) (go_keep)
      (first
        | (go_at_call 53; refine (TO.out _ (Below.refl _ _).drew).mono ?_; rintro e w8 ⟨tv, rfl, ht8, hb8⟩; have HX := hidF (And.intro (own_tkL ht8) ((Below.refl w7.heap.size w7).drew.trans hb8)); have m1 := (HX.out.2.cell (p := ⟨rb, 0, none⟩) l1).trans c1; have m2 := (HX.out.2.cell (p := ⟨gb, 0, none⟩) l2).trans c2; clear ht8 hb8)
        | (go_at_call 52; refine (bandOf_any HX.out.1 htl HTO.out r1 r2).mono ?_; rintro e w9 ⟨bb, sb, rfl, hb9⟩; have HY := hidF hb9; have k1 := ((HX.out.2.trans (hb9.below.mono HX.out.2.size)).cell (p := ⟨rb, 0, none⟩) l1).trans c1; have k2 := ((HX.out.2.trans (hb9.below.mono HX.out.2.size)).cell (p := ⟨gb, 0, none⟩) l2).trans c2; clear hb9))
    all_goals
      go_wp2_with fail
      go_meet
      case rel => go_light; exact ⟨bb, sb, tv, w8, rfl, HX.out.2, HX.out.1, HY.out⟩
  case rest =>
  obtain ⟨bb, sb, tv, w8, rfl, HB⟩ := hcut
  have HBD : Hid (∀ k, k ≤ nds.length → ∀ j, j < tr.length → 0 ≤ szP (atT tr) rm gp (nds.take k) j ∧ szP (atT tr) rm gp (nds.take k) j ≤ 170000000000 + (k : Int) * 400000000) := by
    intro k
    induction k with
    | zero =>
      intro _ j hj
      have := ownT_bd (HTO.out (atT tr j) (by
        have : tr[j]? = some (atT tr j) := by simp [atT, hj]
        exact List.mem_of_getElem? this)) r2
      simp only [List.take_zero, szP, List.foldl_nil]
      omega
    | succ k ih =>
      intro hk j hj
      obtain ⟨x, hx⟩ : ∃ x, nds[k]? = some x := ⟨_, List.getElem?_eq_getElem (by omega)⟩
      rw [szP_take hx]
      have hmem := List.mem_of_getElem? hx
      have := widF_bd (tr := atT tr) (M := 170000000000 + (k : Int) * 400000000) (ih (by omega)) g1 g2 (HNO.out x hmem) (HRC.out x hmem) j hj
      rw [show ((k + 1 : Nat) : Int) = (k : Int) + 1 by omega, Int.add_mul]
      omega
  obtain ⟨N, hN⟩ : ∃ N, tr.length = N := ⟨_, rfl⟩
  obtain ⟨nn, hnn⟩ : ∃ nn, nds.length = nn := ⟨_, rfl⟩
  have HNN := hidF (And.intro hN hnn)
  rw [hN] at HB HBD HOE htl HSF HRC
  rw [hnn] at HBD nc1 hnl ⊢
  have HB7 : Hid (Below w7.heap.size w7 w8 ∧ TkL w8 tv tr) := ⟨HB.out.1, HB.out.2.1⟩
  obtain ⟨w9, hw9⟩ : ∃ w9, w9 = wc := ⟨_, rfl⟩
  subst hw9
  have HB9 : Hid (BdAt w8 w9 bb sb N tv gp (szP (atT tr) rm gp (nds.take 0))) := HB.out.2.2
  clear HB hN hnn TO
  go_wp2_with fail
  go_loopw [25] (fun iv wr => ∃ k : Nat, k ≤ nn ∧ iv = .int .i64 k ∧ Hid (BdAt w8 wr bb sb N tv gp (szP (atT tr) rm gp (nds.take k)))) (fun iv _ => nn - (intV iv).toNat)
  case atStart => exact ⟨0, Nat.zero_le _, rfl, HB9.out⟩
  case round =>
    obtain ⟨k, hk, rfl, HZ⟩ := hrel
    have hbw := HB7.out.1.trans (HZ.out.below.mono HB7.out.1.size)
    have HBW := hidF hbw
    by_cases hlt : k < nn
    · obtain ⟨x, hx⟩ : ∃ x, nds[k]? = some x := ⟨_, List.getElem?_eq_getElem (by rw [HNN.out.2]; exact hlt)⟩
      obtain ⟨b, o, rfl, e2, e3, e4, e5⟩ := HNR.out k x hx
      have x1 := Nat.lt_of_lt_of_le e2 hbw.size
      have x2 := (hbw.cell (p := ⟨b, o + k * 3, none⟩) e2).trans e3
      have x3 := (hbw.cell (p := ⟨b, o + k * 3 + 1, none⟩) e2).trans e4
      have x4 := (hbw.cell (p := ⟨b, o + k * 3 + 2, none⟩) e2).trans e5
      have i1 : (0 : Int) ≤ (k : Int) := by omega
      have i2 : (k : Int) < (nn : Int) := by omega
      have hmem := List.mem_of_getElem? hx
      have HST := hidF (szP_take (tr := atT tr) (room := rm) (gap := gp) hx)
      have WI := hidF (fun (W : World) (hb : Below wr.heap.size wr W) => widen_any (HZ.out.held hb) HB7.out.2 HNN.out.1 htl (M := 170000000000 + (k : Int) * 400000000) (HBD.out k (by omega)) (by omega) (by omega) g1 g2 (HNO.out x hmem) (HRC.out x hmem))
      rw [← HST.out] at WI
      clear hx e2 e3 e4 e5 hmem hbw
      obtain ⟨xf, xs, xz⟩ := x
      simp only at x2 x3 x4
      unfold ndV at WI
      simp only at WI
      go_wp2_with fail
      refine (WI.out _ ((Below.refl _ _).alloc (Nat.le_refl _) _)).mono ?_
      rintro e w10 ⟨rfl, hb10⟩
      have H10 := hidF hb10
      clear hb10 WI x2 x3 x4
      go_wp2_with fail
      go_roundw
      case rel => go_light; exact ⟨k + 1, by omega, by go_num, H10.out⟩
      case measure => simp [intV]; omega
    · obtain rfl : k = nn := by omega
      have hlt' : ¬ (k : Int) < (k : Int) := by omega
      have et : nds.take k = nds := List.take_of_length_le (by rw [HNN.out.2]; exact Nat.le_refl _)
      have HBD2 := hidF (HBD.out k (Nat.le_refl _))
      rw [et] at HZ HBD2
      have DC := hidF (deal_any HZ.out HB7.out.2 HNN.out.1 htl (M := 170000000000 + (k : Int) * 400000000) HBD2.out (by omega) (by omega) g1 g2 r1 r2 HTO.out HSF.out)
      have d1 := (hbw.cell (p := ⟨rb, 0, none⟩) l1).trans c1
      have d0 := Nat.lt_of_lt_of_le l1 hbw.size
      clear et hbw HBD HBD2
      go_wp2_with fail
      refine DC.out.mono ?_
      rintro e w10 ⟨rfl, hb10⟩
      have H10 := hidF hb10
      obtain ⟨p0, p1, p2, p3⟩ := hb10.cells
      clear hb10
      go_wp2_with fail
      go_returns
      refine ⟨_, rfl, ?_, H7.out.1.trans ((HB7.out.1.trans (H10.out.below.mono HB7.out.1.size)).mono H7.out.1.size)⟩
      rw [HOE.out]
      exact H10.out.siz.intL (by omega)
end Go.Proofs.Ytjdndaeobiagcaa
