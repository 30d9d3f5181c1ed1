/- The document's SizeTracks, as plain mathematics: the same as the program's. -/
import Derived.Test.YtjdndaeobiagcaaQtSpr
import Derived.Test.YtjdndaeobiagcaaGM00
namespace Go.Proofs.Ytjdndaeobiagcaa
open Go.RowKit
set_option linter.unusedVariables false      -- bounds that are for the walk

/-- a track whose kind is put right -/
def kfx (room : Int) (t : Tr2) : Tr2 := ⟨if t.k < 0 ∨ 3 < t.k ∨ (1 < t.k ∧ room < 0) then 0 else t.k, t.n⟩
theorem kfx_k (room : Int) (t : Tr2) : (kfx room t).k = (cntT room t).k := by
  unfold kfx cntT
  simp only
  by_cases h1 : t.k = 1
  · rw [if_pos h1, if_neg (by omega)]; exact h1
  · rw [if_neg h1]
    by_cases h2 : (t.k = 2 ∨ t.k = 3) ∧ 0 ≤ room
    · rw [if_pos h2, if_neg (by omega)]
    · rw [if_neg h2]
      split
      · rfl
      · show t.k = 0
        omega
theorem kfx_zero (room : Int) : kfx room ⟨0, 0⟩ = ⟨0, 0⟩ := by unfold kfx; simp
theorem cntT_zero (room : Int) : cntT room ⟨0, 0⟩ = ⟨0, 0⟩ := by unfold cntT; simp
theorem cntT_fac {room : Int} {t : Tr2} (h : (cntT room t).k = 3) : (cntT room t).n = facN t.n := by
  unfold cntT at h ⊢
  split at h
  · simp at h
  · rename_i h1
    rw [if_neg h1]
    split at h
    · rename_i h2; rw [if_pos h2]
    · simp at h
theorem cntT_own {room : Int} {t : Tr2} : ownT room (cntT room t) = if (cntT room t).k = 1 then max (heldN t.n) 0 else if (cntT room t).k = 2 then room * facN t.n / 100000 else 0 := by
  unfold ownT
  by_cases h1 : (cntT room t).k = 1
  · rw [if_pos h1, if_pos h1]
    unfold cntT at h1 ⊢
    split at h1
    · rename_i e; rw [if_pos e]
    · split at h1
      · rename_i e; simp only at h1; omega
      · simp at h1
  · rw [if_neg h1, if_neg h1]
    by_cases h2 : (cntT room t).k = 2
    · rw [if_pos h2, if_pos h2]
      congr 2
      unfold cntT at h2 ⊢
      split at h2
      · simp at h2
      · rename_i e
        rw [if_neg e]
        split at h2
        · rename_i e2; rw [if_pos e2]
        · simp at h2
    · rw [if_neg h2, if_neg h2]
theorem atT_map {f : Tr2 → Tr2} (hf : f ⟨0, 0⟩ = ⟨0, 0⟩) (l : List Tr2) (i : Nat) : atT (l.map f) i = f (atT l i) := by
  unfold atT
  rw [List.getElem?_map]
  cases l[i]? with
  | none => exact hf.symm
  | some x => rfl
theorem padT_map {f : Tr2 → Tr2} (hf : f ⟨0, 0⟩ = ⟨0, 0⟩) (l : List Tr2) (m : Nat) : padT (l.map f) m = (padT l m).map f := by
  unfold padT
  rw [List.map_append, List.map_replicate, hf, List.length_map]
theorem needsP_ok {l : List Nd3} {x : Nd3} (h : x ∈ needsP l) : NdOk x := by
  obtain ⟨y, hy, rfl⟩ := List.mem_map.1 h
  have ho := of_decide_eq_true (List.mem_filter.1 hy).2
  have hb := heldN_bd y.z
  exact ⟨ho.1, ho.2.1, ho.2.2.1, ho.2.2.2, hb.1, hb.2⟩
theorem reachN_sub {l l' : List Nd3} (h : ∀ x ∈ l, x ∈ l') : reachN l ≤ reachN l' := by
  have key : ∀ (l : List Nd3) (m M : Nat), m ≤ M → (∀ x ∈ l, (x.f + x.s - 1).toNat ≤ M) → l.foldl (fun m x => max m (x.f + x.s - 1).toNat) m ≤ M := by
    intro l
    induction l with
    | nil => intro m M hm _; simpa using hm
    | cons a r ih =>
      intro m M hm ha
      rw [List.foldl_cons]
      have := ha a (List.mem_cons_self ..)
      exact ih _ _ (by omega) (fun x hx => ha x (List.mem_cons_of_mem _ hx))
  exact key l 0 _ (Nat.zero_le _) (fun x hx => reachN_ge l' x (h x hx))
theorem byspan_mem {l : List Nd3} (hl : ∀ x ∈ l, NdOk x) (x : Nd3) : x ∈ byspan l ↔ x ∈ l := by
  unfold byspan
  rw [List.mem_flatMap]
  constructor
  · rintro ⟨s, _, hs⟩
    exact (List.mem_filter.1 hs).1
  · intro hx
    have := (hl x hx).s1; have := (hl x hx).s2
    exact ⟨(x.s - 1).toNat, List.mem_range.2 (by omega), List.mem_filter.2 ⟨hx, decide_eq_true (by omega)⟩⟩
theorem reachN_byspan {l : List Nd3} (hl : ∀ x ∈ l, NdOk x) : reachN (byspan l) = reachN l :=
  Nat.le_antisymm (reachN_sub (fun x hx => (byspan_mem hl x).1 hx)) (reachN_sub (fun x hx => (byspan_mem hl x).2 hx))
/-- the document's tracks as they are told -/
def rawT (l : List Tr2) (ns : List Nd3) : List Tr2 := padT (l.take 20) (reachN (needsP ns))
theorem trP_raw (l : List Tr2) (ns : List Nd3) (room : Int) : trP l ns room = (rawT l ns).map (cntT room) := by
  unfold trP rawT
  rw [reachN_byspan (fun x hx => needsP_ok hx), padT_map (cntT_zero room)]
/-- the greatest need of one track -/
def mxN (nds : List Nd3) (j : Nat) : Int := nds.foldl (fun m x => if x.f - 1 = (j : Int) ∧ x.s = 1 then max m x.z else m) 0
theorem mxN_take {nds : List Nd3} {k j : Nat} {x : Nd3} (h : nds[k]? = some x) : mxN (nds.take (k + 1)) j = if x.f - 1 = (j : Int) ∧ x.s = 1 then max (mxN (nds.take k) j) x.z else mxN (nds.take k) j := by
  unfold mxN
  rw [List.take_add_one, h]
  simp [List.foldl_append]
theorem mxN_bd (nds : List Nd3) (hl : ∀ x ∈ nds, NdOk x) (j : Nat) : 0 ≤ mxN nds j ∧ mxN nds j ≤ 16777216 := by
  have key : ∀ (l : List Nd3) (m : Int), 0 ≤ m → m ≤ 16777216 → (∀ x ∈ l, NdOk x) → 0 ≤ l.foldl (fun m x => if x.f - 1 = (j : Int) ∧ x.s = 1 then max m x.z else m) m ∧ l.foldl (fun m x => if x.f - 1 = (j : Int) ∧ x.s = 1 then max m x.z else m) m ≤ 16777216 := by
    intro l
    induction l with
    | nil => intro m h0 h1 _; exact ⟨h0, h1⟩
    | cons a r ih =>
      intro m h0 h1 ha
      rw [List.foldl_cons]
      have := (ha a (List.mem_cons_self ..)).z2
      refine ih _ ?_ ?_ (fun x hx => ha x (List.mem_cons_of_mem _ hx)) <;> split <;> omega
  exact key nds 0 (by omega) (by omega) hl
/-- how wide a track is ahead of needs of more than one track -/
def ownQ (room : Int) (tr : Nat → Tr2) (nds : List Nd3) (j : Nat) : Int := if (tr j).k = 0 then mxN nds j else ownT room (tr j)
theorem addQ_nil (ms : Int) (sz : Nat → Int) : addQ ms [] 0 sz = sz := rfl
theorem wid_one {tr : Nat → Tr2} {gap : Int} {x : Nd3} {sz : Nat → Int} (hx : NdOk x) (h1 : x.s = 1) : widF tr gap x sz = fun j => if (tr j).k = 0 ∧ x.f - 1 = (j : Int) then max (sz j) x.z else sz j := by
  have f1 := hx.f1
  obtain ⟨xf, xs, xz⟩ := x
  simp only at h1 f1
  subst h1
  obtain ⟨fr, hfr⟩ : ∃ fr : Nat, (xf - 1).toNat = fr := ⟨_, rfl⟩
  have hxf : xf - 1 = (fr : Int) := by omega
  have es : ((1 : Int)).toNat = 1 := rfl
  have em : missW gap ⟨xf, 1, xz⟩ sz fr 1 = xz - sz fr := by
    unfold missW smz
    simp
  unfold widF
  simp only [hfr, es, em]
  have eo : opn tr fr 1 = if (tr fr).k = 0 then [fr] else [] := by
    unfold opn
    simp
    by_cases h : (tr fr).k = 0 <;> simp [h]
  funext j
  rw [hxf]
  by_cases h3 : ∃ i, i < 1 ∧ (tr (fr + i)).k = 3
  · rw [if_pos h3]
    obtain ⟨i, i1, i2⟩ := h3
    obtain rfl : i = 0 := by omega
    rw [Nat.add_zero] at i2
    rw [if_neg]
    rintro ⟨e1, e2⟩
    have : fr = j := by omega
    rw [this] at i2
    omega
  · rw [if_neg h3, eo]
    by_cases hm : xz - sz fr ≤ 0
    · rw [if_pos hm]
      split
      · rename_i e
        have : fr = j := by omega
        rw [this] at hm
        omega
      · rfl
    · rw [if_neg hm]
      by_cases hk : (tr fr).k = 0
      · rw [if_pos hk]
        show (if j = [fr].getD 0 0 then _ else _) = _
        simp only [List.getD_cons_zero, List.length_cons, List.length_nil]
        by_cases e : j = fr
        · subst e
          rw [if_pos rfl, if_pos ⟨hk, rfl⟩]
          simp [addQ]
          omega
        · rw [if_neg e, if_neg (by rintro ⟨_, e2⟩; omega)]
          rfl
      · rw [if_neg hk, if_neg]
        · rfl
        · rintro ⟨e1, e2⟩
          have : fr = j := by omega
          rw [this] at hk
          exact hk e1
theorem wid_ones {tr : Nat → Tr2} {gap : Int} : ∀ (l : List Nd3) (sz : Nat → Int), (∀ x ∈ l, NdOk x) → l.foldl (fun sz x => widF tr gap x sz) sz = l.foldl (fun sz x => widF tr gap x sz) sz → (∀ x ∈ l, x.s = 1) → l.foldl (fun sz x => widF tr gap x sz) sz = fun j => if (tr j).k = 0 then l.foldl (fun m x => if x.f - 1 = (j : Int) then max m x.z else m) (sz j) else sz j
  | [], sz, _, _, _ => by funext j; simp
  | a :: r, sz, h1, _, h2 => by
    rw [List.foldl_cons, wid_ones r _ (fun x hx => h1 x (List.mem_cons_of_mem _ hx)) rfl (fun x hx => h2 x (List.mem_cons_of_mem _ hx)), wid_one (h1 a (List.mem_cons_self ..)) (h2 a (List.mem_cons_self ..))]
    funext j
    dsimp only
    by_cases hk : (tr j).k = 0
    · rw [if_pos hk, if_pos hk, List.foldl_cons]
      congr 1
      by_cases e : a.f - 1 = (j : Int)
      · rw [if_pos ⟨hk, e⟩, if_pos e]
      · rw [if_neg (fun h => e h.2), if_neg e]
    · rw [if_neg hk, if_neg hk, if_neg (fun h => hk h.1)]
/-- the needs of spans 2 to q + 1, and of the first k those of the next -/
def spl (nds : List Nd3) (q k : Nat) : List Nd3 := (List.range q).flatMap (fun (s : Nat) => nds.filter (fun x => decide (x.s = (s : Int) + 2))) ++ (nds.take k).filter (fun x => decide (x.s = (q : Int) + 2))
theorem spl_zero (nds : List Nd3) : spl nds 0 0 = [] := rfl
theorem spl_next (nds : List Nd3) (q : Nat) {n : Nat} (hn : nds.length = n) : spl nds q n = spl nds (q + 1) 0 := by
  unfold spl
  rw [List.take_of_length_le (by omega), List.range_succ, List.flatMap_append]
  simp
theorem spl_take {nds : List Nd3} {q k : Nat} {x : Nd3} (h : nds[k]? = some x) : spl nds q (k + 1) = if x.s = (q : Int) + 2 then spl nds q k ++ [x] else spl nds q k := by
  unfold spl
  rw [List.take_add_one, h]
  by_cases e : x.s = (q : Int) + 2
  · simp [List.filter_append, e]
  · simp [List.filter_append, e]
theorem spl_mem {nds : List Nd3} {q k : Nat} {x : Nd3} (h : x ∈ spl nds q k) : x ∈ nds := by
  unfold spl at h
  rcases List.mem_append.1 h with h | h
  · obtain ⟨s, _, hs⟩ := List.mem_flatMap.1 h
    exact (List.mem_filter.1 hs).1
  · exact List.mem_of_mem_take (List.mem_filter.1 h).1
theorem byspan_cut (nds : List Nd3) : byspan nds = nds.filter (fun x => decide (x.s = 1)) ++ spl nds 19 0 := by
  have e : ∀ (s : Nat) (x : Nd3), (x.s = ((s + 1 : Nat) : Int) + 1) = (x.s = (s : Int) + 2) := fun s x => propext ⟨fun h => by omega, fun h => by omega⟩
  unfold byspan spl
  rw [show (20 : Nat) = 19 + 1 from rfl, List.range_succ_eq_map, List.flatMap_cons, List.flatMap_map]
  simp only [List.take_zero, List.filter_nil, List.append_nil, Nat.succ_eq_add_one, e]
  rfl
/-- sizes on the way -/
noncomputable def szQ (room gap : Int) (tr : Nat → Tr2) (nds : List Nd3) (q k : Nat) : Nat → Int := (spl nds q k).foldl (fun sz x => widF tr gap x sz) (ownQ room tr nds)
theorem szQ_take {room gap : Int} {tr : Nat → Tr2} {nds : List Nd3} {q k : Nat} {x : Nd3} (h : nds[k]? = some x) : szQ room gap tr nds q (k + 1) = if x.s = (q : Int) + 2 then widF tr gap x (szQ room gap tr nds q k) else szQ room gap tr nds q k := by
  unfold szQ
  rw [spl_take h]
  split
  · rw [List.foldl_append]; rfl
  · rfl
theorem szQ_next (room gap : Int) (tr : Nat → Tr2) (nds : List Nd3) (q : Nat) {n : Nat} (hn : nds.length = n) : szQ room gap tr nds q n = szQ room gap tr nds (q + 1) 0 := by
  unfold szQ
  rw [spl_next nds q hn]
theorem szQ_zero (room gap : Int) (tr : Nat → Tr2) (nds : List Nd3) : szQ room gap tr nds 0 0 = ownQ room tr nds := rfl
theorem own_zero {room : Int} {t : Tr2} (h : t.k = 0) : ownT room t = 0 := by unfold ownT; rw [h]; simp
theorem szP_byspan {room gap : Int} {tr : Nat → Tr2} {nds : List Nd3} (hl : ∀ x ∈ nds, NdOk x) : szP tr room gap (byspan nds) = szQ room gap tr nds 19 0 := by
  unfold szP szQ
  rw [byspan_cut, List.foldl_append]
  congr 1
  rw [wid_ones _ _ (fun x hx => hl x (List.mem_filter.1 hx).1) rfl (fun x hx => of_decide_eq_true (List.mem_filter.1 hx).2)]
  funext j
  unfold ownQ
  by_cases hk : (tr j).k = 0
  · rw [if_pos hk, if_pos hk, own_zero hk]
    unfold mxN
    rw [List.foldl_filter]
    congr 1
    funext m x
    by_cases e1 : x.s = 1 <;> by_cases e2 : x.f - 1 = (j : Int) <;> simp [e1, e2]
  · rw [if_neg hk, if_neg hk]
theorem widF_kinds {t1 t2 : Nat → Tr2} (h : ∀ j, (t1 j).k = (t2 j).k) (gap : Int) (x : Nd3) (sz : Nat → Int) : widF t1 gap x sz = widF t2 gap x sz := by
  unfold widF opn
  simp only [h]
theorem szQ_bd {room gap : Int} {tr : Nat → Tr2} {nds : List Nd3} {n : Nat} (g1 : -16777216 ≤ gap) (g2 : gap ≤ 16777216) (r2 : room ≤ 16777216) (hl : ∀ x ∈ nds, NdOk x) (hr : ∀ x ∈ nds, (x.f - 1).toNat + x.s.toNat ≤ n) (hok : ∀ j, j < n → TrOk room (tr j)) (hlen : nds.length ≤ 60) (q : Nat) (hq : q ≤ 19) : ∀ k, k ≤ nds.length → (∀ j, j < n → 0 ≤ szQ room gap tr nds q k j ∧ szQ room gap tr nds q k j ≤ 170000000000 + ((q * 60 + k : Nat) : Int) * 400000000) := by
  induction q with
  | zero =>
    intro k
    induction k with
    | zero =>
      intro _ j hj
      rw [szQ_zero]
      unfold ownQ
      have h1 := mxN_bd nds hl j
      have h2 := ownT_bd (hok j hj) r2
      split <;> omega
    | succ k ih =>
      intro hk j hj
      obtain ⟨x, hx⟩ : ∃ x, nds[k]? = some x := ⟨_, List.getElem?_eq_getElem (by omega)⟩
      have hm := List.mem_of_getElem? hx
      have i0 := ih (by omega)
      rw [szQ_take hx]
      split
      · have := widF_bd (tr := tr) i0 g1 g2 (hl x hm) (hr x hm) j hj
        omega
      · have := i0 j hj
        omega
  | succ q ihq =>
    intro k
    induction k with
    | zero =>
      intro _ j hj
      have := ihq (by omega) nds.length (Nat.le_refl _) j hj
      rw [szQ_next _ _ _ _ q rfl] at this
      omega
    | succ k ih =>
      intro hk j hj
      obtain ⟨x, hx⟩ : ∃ x, nds[k]? = some x := ⟨_, List.getElem?_eq_getElem (by omega)⟩
      have hm := List.mem_of_getElem? hx
      have i0 := ih (by omega)
      rw [szQ_take hx]
      split
      · have := widF_bd (tr := tr) i0 g1 g2 (hl x hm) (hr x hm) j hj
        omega
      · have := i0 j hj
        omega
end Go.Proofs.Ytjdndaeobiagcaa

/- Of, Join, Size: margins that meet. -/
namespace Go.Proofs.Ytjdndaeobiagcaa
open Go.RowKit

theorem sum_bd {a b : Int} (ha : -16777216 ≤ a ∧ a ≤ 16777216) (hb : -16777216 ≤ b ∧ b ≤ 16777216) : -33554432 ≤ a + b ∧ a + b ≤ 33554432 := by omega

theorem heldN_cases (n : Int) : heldN n = if 16777216 < n then 16777216 else if n < -16777216 then -16777216 else n := by
  unfold heldN; repeat (first | omega | split)

set_option maxHeartbeats 400000 in
set_option maxRecDepth 100000 in
theorem held_any (n : Int) (w : World) :
    Calls Try.prog 31 #[.int .i64 n] w fun e w' => e = .returned (.int .i64 (heldN n)) ∧ w' = w := by
  by_cases h1 : 16777216 < n
  · go_enter Try.func31, Try.ntmps31
    go_wp2_with fail
    go_returns
    exact ⟨by rw [heldN_cases n]; congr 2; repeat (first | rfl | omega | split), rfl⟩
  · by_cases h2 : n < -16777216
    · go_enter Try.func31, Try.ntmps31
      go_wp2_with fail
      go_returns
      exact ⟨by rw [heldN_cases n]; congr 2; repeat (first | rfl | omega | split), rfl⟩
    · go_enter Try.func31, Try.ntmps31
      go_wp2_with fail
      go_returns
      exact ⟨by rw [heldN_cases n]; congr 2; repeat (first | rfl | omega | split), rfl⟩
end Go.Proofs.Ytjdndaeobiagcaa
