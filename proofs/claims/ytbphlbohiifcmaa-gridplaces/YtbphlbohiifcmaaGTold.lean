/- standTold: the items stand whose row and column are told; rows. -/
import Derived.Test.YtbphlbohiifcmaaGInv
namespace Go.Proofs.Ytbphlbohiifcmaa
open Go.RowKit
set_option linter.unusedVariables false      -- bounds that are for the walk

/-- those told ahead of place k stand -/
def PTold (l0 : List Gi) (k j : Nat) : Prop := j < k ∧ ∃ o, l0[j]? = some o ∧ o.told
theorem GInv.told_step {l0 its : List Gi} {F : Tk} {cols : Int} {k : Nat} {o : Gi} (h : GInv l0 its F cols 220 (PTold l0 k)) (hk : l0[k]? = some o) (ht : o.told) : GInv l0 its (takeF F o) cols 220 (PTold l0 (k + 1)) := by
  have hg := h.ok0 o (List.mem_of_getElem? hk)
  have hnP : ¬ PTold l0 k k := fun e => by have := e.1; omega
  have hik : its[k]? = some o := by rw [h.un k hnP]; exact hk
  have hset : its.set k o = its := by
    apply List.ext_getElem?
    intro j
    rw [List.getElem?_set]
    by_cases e : k = j
    · subst e
      rw [if_pos rfl, if_pos (List.getElem?_eq_some_iff.1 hik).1, hik]
    · rw [if_neg e]
  have hm := h.more (cols' := cols) (B' := 220) hk hnP (i := o) ⟨ht.1, by have := hg.c2; omega, hg.cs1, hg.cs2, ht.2, by have := hg.r2; omega, hg.rs1, hg.rs2⟩ ⟨rfl, rfl⟩ (.inr ⟨ht, rfl, fun j q hj hq => by
    obtain ⟨_, q', hq', ht'⟩ := hj
    rw [hq] at hq'
    cases hq'
    exact ht'⟩) (by unfold Gi.lc; have := hg.c2; have := hg.cs2; omega) (by unfold Gi.lr; have := hg.r2; have := hg.rs2; omega) (Int.le_refl _) (Int.le_refl _) (h.co3 o (List.mem_of_getElem? hk) ht.1)
  rw [hset] at hm
  refine hm.mono (fun j hj => ?_) (fun j hj => (List.getElem?_eq_some_iff.1 hj.2.choose_spec.1).1)
  unfold PTold
  constructor
  · rintro (⟨h1, h2⟩ | rfl)
    · exact ⟨by omega, h2⟩
    · exact ⟨by omega, o, hk, ht⟩
  · rintro ⟨h1, q, h2, h3⟩
    by_cases e : j = k
    · exact .inr e
    · exact .inl ⟨by omega, q, h2, h3⟩
theorem GInv.told_skip {l0 its : List Gi} {F : Tk} {cols B : Int} {k : Nat} {o : Gi} (h : GInv l0 its F cols B (PTold l0 k)) (hk : l0[k]? = some o) (ht : ¬ o.told) : GInv l0 its F cols B (PTold l0 (k + 1)) := by
  refine h.mono (fun j hj => ?_) (fun j hj => (List.getElem?_eq_some_iff.1 hj.2.choose_spec.1).1)
  unfold PTold
  constructor
  · rintro ⟨h1, h2⟩
    exact ⟨by omega, h2⟩
  · rintro ⟨h1, q, h2, h3⟩
    refine ⟨?_, q, h2, h3⟩
    by_cases e : j = k
    · subst e
      rw [hk] at h2
      cases h2
      exact absurd h3 ht
    · omega

set_option maxHeartbeats 4000000 in
set_option maxRecDepth 100000 in
theorem standTold_any {w wq : World} {tb mb : Nat} {sv : Value} {F : Tk} {cols : Int} {its l0 : List Gi} (h : TbAt w wq tb mb sv F cols its) (hi : GInv l0 its F cols 220 (PTold l0 0)) (hl : l0.length ≤ 200) :
    Calls Try.prog 43 #[.pointer (some ⟨tb, 0, none⟩)] wq fun e w' => ∃ F', e = .returned (.tuple #[]) ∧ TbAt w w' tb mb sv F' cols its ∧ GInv l0 its F' cols 220 (PTold l0 l0.length) := by
  obtain ⟨tl, t0, t1, t2⟩ := h.cells
  obtain ⟨sa, sc, rfl, g1, g2⟩ := h.shape
  have HT := hidF h
  have HG := hidF hi
  obtain ⟨n, hn⟩ : ∃ n, its.length = n := ⟨_, rfl⟩
  have HN := hidF hn
  have HL : Hid (l0.length = n) := by show _ = _; rw [← hi.len]; exact hn
  have hn2 : n ≤ 200 := by rw [← HL.out]; exact hl
  rw [hn] at t0 g1 HT
  clear h hi hn
  go_enter Try.func43, Try.ntmps43
  go_wp2_with fail
  go_loopw [9] (fun iv wr => ∃ (k : Nat) (F' : Tk), k ≤ n ∧ iv = .int .i64 k ∧ Hid (TbAt w wr tb mb (.slice sa n sc) F' cols its ∧ GInv l0 its F' cols 220 (PTold l0 k))) (fun iv _ => n - (intV iv).toNat)
  case atStart => exact ⟨0, F, Nat.zero_le _, rfl, HT.out, HG.out⟩
  case round =>
    obtain ⟨k, F', hk, rfl, HZ⟩ := hrel
    by_cases hlt : k < n
    · obtain ⟨o, ho⟩ : ∃ o, l0[k]? = some o := ⟨_, List.getElem?_eq_getElem (by rw [HL.out]; exact hlt)⟩
      have hik : its[k]? = some o := by rw [HZ.out.2.un k (fun e => by have := e.1; omega)]; exact ho
      have HO := hidF ho
      obtain ⟨g, c9, hsv, _, _, gl, x1, x2, x3, x4, _⟩ := HZ.out.1.at hik
      rw [HN.out] at hsv
      cases hsv
      obtain ⟨tl2, _, t12, _⟩ := HZ.out.1.cells
      have hgo := HG.out.ok0 o (List.mem_of_getElem? ho)
      have i1 : (0 : Int) ≤ (k : Int) := by omega
      have i2 : (k : Int) < (n : Int) := by omega
      have gl1 : g < wr.heap.size + 1 := by omega
      have tl3 : tb < wr.heap.size + 1 := by omega
      have HGO := hidF hgo
      clear ho hik hgo
      obtain ⟨oc, ocs, orr, ors⟩ := o
      simp only at x1 x2 x3 x4
      have TA : Hid (0 < oc → 0 < orr → Calls Try.prog 70 #[.map (some mb), .agg #[.int .i64 oc, .int .i64 ocs, .int .i64 orr, .int .i64 ors]] (wr.alloc (.cells #[.int .i64 oc, .int .i64 ocs, .int .i64 orr, .int .i64 ors] 47)).drew fun e w' => e = .returned (.tuple #[]) ∧ TbAt w w' tb mb (.slice (some ⟨g, 0, none⟩) n sc) (takeF F' ⟨oc, ocs, orr, ors⟩) cols its ∧ KeepM (wr.alloc (.cells #[.int .i64 oc, .int .i64 ocs, .int .i64 orr, .int .i64 ors] 47)).drew mb w') := by
        intro h1 h2
        have hb : Below wr.heap.size wr (wr.alloc (.cells #[.int .i64 oc, .int .i64 ocs, .int .i64 orr, .int .i64 ors] 47)).drew := ((Below.refl _ _).alloc (Nat.le_refl _) _).drew
        have hT := HZ.out.1.held hb
        refine (take_any hT.map (i := ⟨oc, ocs, orr, ors⟩) ⟨h1, by have := HGO.out.c2; simp only at this ⊢; omega, HGO.out.cs1, HGO.out.cs2, h2, by have := HGO.out.r2; simp only at this ⊢; omega, HGO.out.rs1, HGO.out.rs2⟩).mono ?_
        rintro e w' ⟨rfl, hm, hkm⟩
        exact ⟨rfl, hT.taken hm hkm, hkm⟩
      have hmw : wr.heap.size ≠ mb := by have := HZ.out.1.map.lt; omega
      by_cases ht : 0 < oc ∧ 0 < orr
      · obtain ⟨h1, h2⟩ := ht
        have TA2 := hidF (TA.out h1 h2)
        have HS := hidF (HZ.out.2.told_step HO.out ⟨h1, h2⟩)
        clear TA
        go_upto_region 4 with fail
        go_region_held3 (fun wx => wx.cell? ⟨tb, 1, none⟩ = some (.map (some mb)) ∧ wx.cell? ⟨wr.heap.size, 0, none⟩ = some (.int .i64 oc) ∧ wx.cell? ⟨wr.heap.size, 1, none⟩ = some (.int .i64 ocs) ∧ wx.cell? ⟨wr.heap.size, 2, none⟩ = some (.int .i64 orr) ∧ wx.cell? ⟨wr.heap.size, 3, none⟩ = some (.int .i64 ors)) (go_keep)
          ((go_at_call 70; refine TA2.out.mono ?_; rintro e w7 ⟨rfl, hT7, hk7⟩
            have m0 := hT7.cells.2.2.1
            have m1 := (hk7.cell (p := ⟨wr.heap.size, 0, none⟩) (by simp) hmw).trans (show _ = some (.int .i64 oc) by go_simp)
            have m2 := (hk7.cell (p := ⟨wr.heap.size, 1, none⟩) (by simp) hmw).trans (show _ = some (.int .i64 ocs) by go_simp)
            have m3 := (hk7.cell (p := ⟨wr.heap.size, 2, none⟩) (by simp) hmw).trans (show _ = some (.int .i64 orr) by go_simp)
            have m4 := (hk7.cell (p := ⟨wr.heap.size, 3, none⟩) (by simp) hmw).trans (show _ = some (.int .i64 ors) by go_simp)
            have H5 := hidF hT7
            clear hT7 hk7))
        go_wp2_with fail
        go_roundw
        case rel => go_light; exact ⟨k + 1, _, by omega, by go_num, H5.out, HS.out⟩
        case measure => simp [intV]; omega
      · have HS := hidF (HZ.out.2.told_skip HO.out ht)
        have HB := hidF (HZ.out.1.held (W := wr.alloc (.cells #[.int .i64 oc, .int .i64 ocs, .int .i64 orr, .int .i64 ors] 47)) ((Below.refl _ _).alloc (Nat.le_refl _) _))
        clear TA
        by_cases h2 : 0 < orr
        · have h1 : ¬ 0 < oc := fun e => ht ⟨e, h2⟩
          clear ht
          go_wp2_with fail
          go_roundw
          case rel => go_light; exact ⟨k + 1, _, by omega, by go_num, HB.out, HS.out⟩
          case measure => simp [intV]; omega
        · clear ht
          go_wp2_with fail
          go_roundw
          case rel => go_light; exact ⟨k + 1, _, by omega, by go_num, HB.out, HS.out⟩
          case measure => simp [intV]; omega
    · obtain rfl : k = n := by omega
      have hl2 : ¬ (k : Int) < (k : Int) := by omega
      go_wp2_with fail
      go_returns
      refine ⟨rfl, F', ?_, ?_⟩
      · first | exact HZ.out.1 | (rw [HN.out]; exact HZ.out.1)
      · rw [HL.out]; exact HZ.out.2
end Go.Proofs.Ytbphlbohiifcmaa
