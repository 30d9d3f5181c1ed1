/- The document's SizeTracks: what is shared at its end, as plain mathematics; small functions. -/
import Derived.Test.YtjdndaeobiagcaaGM34
import Derived.Test.YtjdndaeobiagcaaGM35
import Derived.Deep.RegionLaw
import Derived.OwnWalk
import Derived.Deep.RegionHeld3
import Derived.Deep.DeepCutAuto
import Derived.BigRegion
import Derived.Test.YtjdndaeobiagcaaQPort
namespace Go.Proofs.Ytjdndaeobiagcaa
open Go.RowKit
set_option linter.unusedVariables false      -- bounds that are for the walk

/-- what follows so many statements -/
def restG : Nat → Code → Code
  | 0, c => c
  | n + 1, .seq _ c => restG n c
  | _, c => c
def bodyG (f : Func) : Code := match f.body with | some c => c | none => .skip
/-- how much those ahead of a track weigh -/
def smF (tr : Nat → Tr2) (j : Nat) : Int := ((shl tr j).map (fun i => facN (tr i).n)).sum
theorem smF_zero (tr : Nat → Tr2) : smF tr 0 = 0 := rfl
theorem smF_succ (tr : Nat → Tr2) (j : Nat) : smF tr (j + 1) = if (tr j).k = 3 then smF tr j + facN (tr j).n else smF tr j := by
  unfold smF
  rw [shl_succ]
  split
  · rw [List.map_append, List.sum_append]; simp
  · rfl
theorem smF_bd (tr : Nat → Tr2) : ∀ j : Nat, 0 ≤ smF tr j ∧ smF tr j ≤ (j : Int) * 1000000000
  | 0 => by rw [smF_zero]; omega
  | j + 1 => by
    have ih := smF_bd tr j
    have hf := facN_bd (tr j).n
    rw [smF_succ]
    split <;> omega
theorem smF_mono (tr : Nat → Tr2) {j k : Nat} (h : j ≤ k) : smF tr j ≤ smF tr k := by
  induction k with
  | zero =>
    obtain rfl : j = 0 := by omega
    exact Int.le_refl _
  | succ k ih =>
    by_cases e : j = k + 1
    · subst e; exact Int.le_refl _
    · have := ih (by omega)
      have hf := facN_bd (tr k).n
      rw [smF_succ]
      split <;> omega
/-- sizes where shares have been given up to a track -/
def dlE (tr : Nat → Tr2) (c rest : Int) (sz : Nat → Int) (k j : Nat) : Int := if j < k ∧ (tr j).k = 3 then rest * smF tr (j + 1) / c - rest * smF tr j / c else sz j
theorem shl_cut (tr : Nat → Tr2) {j : Nat} (hj : (tr j).k = 3) : ∀ n : Nat, j < n → ∃ r, shl tr n = shl tr j ++ j :: r
  | 0, h => by omega
  | n + 1, h => by
    rw [shl_succ]
    by_cases e : j = n
    · subst e
      rw [if_pos hj]
      exact ⟨[], rfl⟩
    · obtain ⟨r, hr⟩ := shl_cut tr hj n (by omega)
      split
      · exact ⟨r ++ [n], by rw [hr]; simp⟩
      · exact ⟨r, hr⟩
theorem setQ_in (vals : Nat → Int) (op : List Nat) (sz : Nat → Int) {j m : Nat} (hj : op[m]? = some j) (hn : op.Nodup) : ∀ q, m < q → q ≤ op.length → setQ vals op q sz j = vals m
  | 0, h, _ => by omega
  | q + 1, h, hl => by
    rw [setQ_succ]
    by_cases e : m = q
    · subst e
      rw [if_pos (by rw [List.getD_eq_getElem?_getD, hj]; rfl)]
    · have hq : q < op.length := by omega
      rw [if_neg, setQ_in vals op sz hj hn q (by omega) (by omega)]
      intro e2
      rw [List.getD_eq_getElem?_getD, List.getElem?_eq_getElem hq] at e2
      simp only [Option.getD_some] at e2
      obtain ⟨h1, h2⟩ := List.getElem?_eq_some_iff.1 hj
      have hd := List.pairwise_iff_getElem.1 hn
      rcases (by omega : m < q ∨ q < m) with h | h
      · exact hd m q h1 hq h (h2.trans e2)
      · omega
theorem setQ_out (vals : Nat → Int) (op : List Nat) (sz : Nat → Int) {j : Nat} (hj : j ∉ op) : ∀ q, q ≤ op.length → setQ vals op q sz j = sz j
  | 0, _ => rfl
  | q + 1, hl => by
    have hq : q < op.length := by omega
    rw [setQ_succ, if_neg, setQ_out vals op sz hj q (by omega)]
    intro e
    rw [List.getD_eq_getElem?_getD, List.getElem?_eq_getElem hq] at e
    simp only [Option.getD_some] at e
    exact hj (by rw [e]; exact List.getElem_mem hq)
theorem shl_nodup (tr : Nat → Tr2) (n : Nat) : (shl tr n).Nodup := by
  unfold shl
  exact List.Pairwise.filter _ List.nodup_range
theorem shl_iff {tr : Nat → Tr2} {n j : Nat} : j ∈ shl tr n ↔ j < n ∧ (tr j).k = 3 := by
  unfold shl
  rw [List.mem_filter, List.mem_range]
  simp
/-- the program's shares are the document's -/
theorem deal_same {t1 t2 : Nat → Tr2} {n : Nat} (hk : ∀ j, (t1 j).k = (t2 j).k) (hn : ∀ j, (t1 j).k = 3 → (t1 j).n = facN (t2 j).n) (room gap : Int) (sz : Nat → Int) {j : Nat} (hj : j < n) :
    dealF t1 n room gap sz j = dlE t2 (max (smF t2 n) 1000) (leftD n room gap sz) sz n j := by
  have es : ∀ q, shl t1 q = shl t2 q := fun q => by
    unfold shl
    simp only [hk]
  have ew : ∀ q, (shl t2 q).map (fun i => (t1 i).n) = (shl t2 q).map (fun i => facN (t2 i).n) := fun q => by
    apply List.map_congr_left
    intro i hi
    exact hn i (by rw [hk]; exact (shl_iff.1 hi).2)
  unfold dealF dlE
  rw [es, ew]
  by_cases h3 : (t2 j).k = 3
  · rw [if_pos ⟨hj, h3⟩]
    obtain ⟨r, hr⟩ := shl_cut t2 h3 n hj
    have hm : (shl t2 n)[(shl t2 j).length]? = some j := by rw [hr]; simp
    have hml : (shl t2 j).length < (shl t2 n).length := by rw [hr]; simp
    rw [setQ_in _ _ _ hm (shl_nodup t2 n) _ hml (Nat.le_refl _)]
    unfold shareG
    rw [show ((shl t2 n).map (fun i => facN (t2 i).n)).sum = smF t2 n from rfl]
    have e1 : (((shl t2 n).map (fun i => facN (t2 i).n)).take (shl t2 j).length).sum = smF t2 j := by
      rw [← List.map_take, hr, List.take_left']
      · rfl
      · rfl
    have e2 : ((shl t2 n).map (fun i => facN (t2 i).n)).getD (shl t2 j).length 0 = facN (t2 j).n := by
      rw [List.getD_eq_getElem?_getD, List.getElem?_map, hm]; rfl
    have e3 : smF t2 (j + 1) = smF t2 j + facN (t2 j).n := by rw [smF_succ, if_pos h3]
    rw [e1, e2]
    by_cases h0 : smF t2 n = 0
    · rw [if_pos h0]
      have b1 := smF_bd t2 j
      have b2 := smF_bd t2 (j + 1)
      have m1 := smF_mono t2 (show j ≤ n by omega)
      have m2 := smF_mono t2 (show j + 1 ≤ n by omega)
      have z1 : smF t2 j = 0 := by omega
      have z2 : smF t2 (j + 1) = 0 := by omega
      rw [z1, z2]
      simp
    · rw [if_neg h0, e3]
      unfold partN
      rw [if_neg (by omega)]
  · rw [if_neg (fun h => h3 h.2), setQ_out _ _ _ (fun h => h3 (shl_iff.1 h).2) _ (Nat.le_refl _)]

set_option maxHeartbeats 400000 in
set_option maxRecDepth 100000 in
theorem downH_any (a : Int) (h0 : 0 ≤ a) (h1 : a ≤ 20000000000000000) (w : World) : Calls Try.prog 41 #[.int .i64 a, .int .i64 100000] w fun e w' => e = .returned (.int .i64 (a / 100000)) ∧ w' = w := by
  have h2 : ¬ a / 100000 * 100000 > a := by omega
  go_enter Try.func41, Try.ntmps41
  go_wp2
  all_goals
    go_returns
    exact ⟨rfl, rfl⟩
end Go.Proofs.Ytjdndaeobiagcaa

/- The document's SizeTracks: what lies in memory. -/
namespace Go.Proofs.Ytjdndaeobiagcaa
open Go.RowKit
set_option linter.unusedVariables false      -- bounds that are for the walk

/-- what SizeTracks answers -/
def QzPost (w : World) (R : List Int) (e : Ending) (w' : World) : Prop := ∃ v', e = .returned v' ∧ IntL w' v' R ∧ Below w.heap.size w w'
theorem TkL.keepM {w w' : World} {a : Option Addr} {n cp ob : Nat} {ts : List Tr2} (h : TkL w (.slice a n cp) ts) (hk : KeepM w ob w') (hno : (Value.slice a n cp).ownBlock ≠ some ob) : TkL w' (.slice a n cp) ts := by
  obtain ⟨a', cap, hv, h1, h2, hc⟩ := h
  refine ⟨a', cap, hv, h1, h2, fun j x hj => ?_⟩
  obtain ⟨b, o, e1, e2, e3, e4⟩ := hc j x hj
  have hb : b ≠ ob := by
    intro e
    apply hno
    cases hv
    subst e1
    show some b = some ob
    rw [e]
  have hkk := hk.block b e2 hb
  exact ⟨b, o, e1, Nat.lt_of_lt_of_le e2 hk.size, (World.cell?_of_block (a := ⟨b, o + j * 2, none⟩) hkk).trans e3, (World.cell?_of_block (a := ⟨b, o + j * 2 + 1, none⟩) hkk).trans e4⟩
theorem NsL.keepM {w w' : World} {v : Value} {ob : Nat} {l : List Nd3} (h : NsL w v l) (hk : KeepM w ob w') (hno : v.ownBlock ≠ some ob) : NsL w' v l := by
  obtain ⟨a, cap, hv, h1, h2, hc⟩ := h
  refine ⟨a, cap, hv, h1, h2, fun j x hj => ?_⟩
  obtain ⟨b, o, e1, e2, e3, e4, e5⟩ := hc j x hj
  have hb : b ≠ ob := by
    intro e
    apply hno
    subst hv
    subst e1
    show some b = some ob
    rw [e]
  have hkk := hk.block b e2 hb
  exact ⟨b, o, e1, Nat.lt_of_lt_of_le e2 hk.size, (World.cell?_of_block (a := ⟨b, o + j * 3, none⟩) hkk).trans e3, (World.cell?_of_block (a := ⟨b, o + j * 3 + 1, none⟩) hkk).trans e4, (World.cell?_of_block (a := ⟨b, o + j * 3 + 2, none⟩) hkk).trans e5⟩
theorem atT_of {l : List Tr2} {k : Nat} {t : Tr2} (h : l[k]? = some t) : atT l k = t := by unfold atT; rw [h]; rfl

theorem qport_int (a z c : Int) (a1 : -200000000000 ≤ a) (a2 : a ≤ 200000000000) (z0 : 0 ≤ z) (zc : z ≤ c) (c0 : 0 < c) (c2 : c < 4000000000000000000) (w : World) :
    Calls Try.prog 36 #[.int .i64 a, .int .i64 z, .int .i64 c] w fun e w' => e = .returned (.int .i64 (a * z / c)) ∧ w' = w := by
  have h := qportion_any a z.toNat c.toNat a1 a2 (by omega) (by omega) (by omega) w
  rw [show (z.toNat : Int) = z by omega, show (c.toNat : Int) = c by omega] at h
  exact h
theorem port_bd {a z c : Int} (a0 : 0 ≤ a) (z0 : 0 ≤ z) (zc : z ≤ c) (c0 : 0 < c) : 0 ≤ a * z / c ∧ a * z / c ≤ a := by
  refine ⟨Int.ediv_nonneg (Int.mul_nonneg a0 z0) (by omega), ?_⟩
  exact Int.ediv_le_of_le_mul c0 (Int.mul_le_mul_of_nonneg_left zc a0)
theorem gpQ_bdn {gap : Int} (g1 : -16777216 ≤ gap) (g2 : gap ≤ 16777216) : ∀ q : Nat, -((q : Int) * 16777216) ≤ gpQ gap q ∧ gpQ gap q ≤ (q : Int) * 16777216
  | 0 => by unfold gpQ; simp
  | q + 1 => by
    have ih := gpQ_bdn g1 g2 q
    rw [gpQ_succ]
    split <;> omega
theorem gpQ_max (gap : Int) (n : Nat) : gpQ gap n = max ((n : Int) - 1) 0 * gap := by
  unfold gpQ
  split
  · rename_i h; subst h; rw [show max (((0 : Nat) : Int) - 1) 0 = 0 by omega, Int.zero_mul]
  · rw [show max ((n : Int) - 1) 0 = (n : Int) - 1 by omega]
end Go.Proofs.Ytjdndaeobiagcaa
