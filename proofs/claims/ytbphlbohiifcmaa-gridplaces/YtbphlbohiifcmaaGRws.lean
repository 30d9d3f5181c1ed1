/- rows: as many as items reach to. -/
import Derived.Test.YtbphlbohiifcmaaGInv
namespace Go.Proofs.Ytbphlbohiifcmaa
open Go.RowKit
set_option linter.unusedVariables false      -- bounds that are for the walk

def rowsG (its : List Gi) : Int := its.foldl (fun m i => max m i.lr) 0
theorem rowsG_take {its : List Gi} {k : Nat} {i : Gi} (h : its[k]? = some i) : rowsG (its.take (k + 1)) = max (rowsG (its.take k)) i.lr := by
  unfold rowsG
  rw [List.take_add_one, h]
  simp [List.foldl_append]
theorem rowsG_ge (its : List Gi) : ∀ i ∈ its, i.lr ≤ rowsG its := by
  unfold rowsG
  have : ∀ (l : List Gi) (m : Int), m ≤ l.foldl (fun m i => max m i.lr) m ∧ ∀ i ∈ l, i.lr ≤ l.foldl (fun m i => max m i.lr) m := by
    intro l
    induction l with
    | nil => intro m; simp
    | cons a r ih =>
      intro m
      rw [List.foldl_cons]
      have h1 := ih (max m a.lr)
      refine ⟨by omega, fun i hi => ?_⟩
      rcases List.mem_cons.1 hi with rfl | hi
      · omega
      · exact h1.2 i hi
  exact (this its 0).2

set_option maxHeartbeats 4000000 in
set_option maxRecDepth 100000 in
theorem rows_anyG {w wq : World} {tb mb : Nat} {sv : Value} {F : Tk} {cols : Int} {its : List Gi} (h : TbAt w wq tb mb sv F cols its) (hb : ∀ i ∈ its, 1 ≤ i.r ∧ i.r ≤ 100000 ∧ 1 ≤ i.rs ∧ i.rs ≤ 20) (hl : its.length ≤ 200) :
    Calls Try.prog 46 #[.pointer (some ⟨tb, 0, none⟩)] wq fun e w' => e = .returned (.int .i64 (rowsG its)) ∧ Below wq.heap.size wq w' := by
  obtain ⟨tl, t0, t1, t2⟩ := h.cells
  obtain ⟨sa, sc, rfl, g1, g2⟩ := h.shape
  have HT := hidF h
  have HB := hidF hb
  obtain ⟨n, hn⟩ : ∃ n, its.length = n := ⟨_, rfl⟩
  have HN := hidF hn
  rw [hn] at t0 g1 HT hl
  have HF : Hid (∀ k, 0 ≤ rowsG (its.take k) ∧ rowsG (its.take k) ≤ 200000) := by
    intro k
    unfold rowsG
    have : ∀ (l : List Gi), (∀ i ∈ l, i ∈ its) → ∀ m : Int, 0 ≤ m → m ≤ 200000 → 0 ≤ l.foldl (fun m i => max m i.lr) m ∧ l.foldl (fun m i => max m i.lr) m ≤ 200000 := by
      intro l
      induction l with
      | nil => intro _ m h1 h2; exact ⟨h1, h2⟩
      | cons a r ih =>
        intro hs m h1 h2
        rw [List.foldl_cons]
        have := hb a (hs a (List.mem_cons_self ..))
        have e : a.lr = a.r + a.rs - 1 := rfl
        exact ih (fun i hi => hs i (List.mem_cons_of_mem _ hi)) _ (by omega) (by omega)
    exact this _ (fun i hi => List.mem_of_mem_take hi) 0 (by omega) (by omega)
  clear h hn hb
  go_enter Try.func46, Try.ntmps46
  go_wp2_with fail
  go_loopw [3, 11] (fun mv iv wr => ∃ (k : Nat) (m : Int), k ≤ n ∧ iv = .int .i64 k ∧ mv = .int .i64 m ∧ Hid (m = rowsG (its.take k) ∧ Below wq.heap.size wq wr)) (fun _ iv _ => n - (intV iv).toNat)
  case atStart => exact ⟨0, 0, Nat.zero_le _, rfl, rfl, by simp [rowsG], Below.refl _ _⟩
  case round =>
    obtain ⟨k, m, hk, rfl, rfl, HZ⟩ := hrel
    by_cases hlt : k < n
    · obtain ⟨o, ho⟩ : ∃ o, its[k]? = some o := ⟨_, List.getElem?_eq_getElem (by rw [HN.out]; exact hlt)⟩
      obtain ⟨g, c9, hsv, _, _, gl, x1, x2, x3, x4, _⟩ := (HT.out.held HZ.out.2).at ho
      rw [HN.out] at hsv
      cases hsv
      obtain ⟨q1, q2, q3, q4⟩ := HB.out o (List.mem_of_getElem? ho)
      have LR := hidF (fun W => lastRow_any (i := o) (by omega) (by omega) (by omega) (by omega) W)
      have HR := hidF (rowsG_take ho)
      obtain ⟨m1, m2⟩ := HF.out k
      rw [← HZ.out.1] at m1 m2
      have elr : o.lr = o.r + o.rs - 1 := rfl
      obtain ⟨lr, hlr⟩ : ∃ t, o.lr = t := ⟨_, rfl⟩
      rw [hlr] at LR HR
      have i1 : (0 : Int) ≤ (k : Int) := by omega
      have i2 : (k : Int) < (n : Int) := by omega
      have gl1 : g < wr.heap.size + 1 := by omega
      unfold gV at LR
      clear ho hlr elr
      obtain ⟨oc, ocs, orr, ors⟩ := o
      simp only at x1 x2 x3 x4 LR
      go_wp2_with fail
      refine (LR.out _).mono ?_
      rintro e w5 ⟨rfl, hb5⟩
      have H5 := hidF (HZ.out.2.trans (Below.mono (((Below.refl wr.heap.size wr).alloc (Nat.le_refl _) _).trans (hb5.mono (by simp))) HZ.out.2.size))
      clear hb5
      go_wp2_with fail
      all_goals
        go_roundw
        case rel => go_light; exact ⟨k + 1, _, by omega, by go_num, rfl, by rw [HR.out, ← HZ.out.1]; first | rfl | omega, H5.out⟩
        case measure => simp [intV]; omega
    · obtain rfl : k = n := by omega
      have hl2 : ¬ (k : Int) < (k : Int) := by omega
      have HE := hidF HZ.out.1
      rw [List.take_of_length_le (by rw [HN.out]; exact Nat.le_refl _)] at HE
      go_wp2_with fail
      go_returns
      exact ⟨ret_i HE.out, HZ.out.2⟩
end Go.Proofs.Ytbphlbohiifcmaa
