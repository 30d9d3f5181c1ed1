/- amount, shares. -/
import Derived.Test.YtjdndaeobiagcaaGM27
namespace Go.Proofs.Ytjdndaeobiagcaa
open Go.RowKit
set_option linter.unusedVariables false      -- bounds that are for the walk

/-- addresses that are read -/
def PtrL (w : World) (v : Value) (b : Nat) (is : List Nat) : Prop := ∃ a cap, v = .slice a is.length cap ∧ is.length ≤ cap ∧ cap ≤ 9223372036854775807 ∧ ∀ (j k : Nat), is[j]? = some k → ∃ g, a = some ⟨g, 0, none⟩ ∧ g < w.heap.size ∧ w.cell? ⟨g, j, none⟩ = some (.pointer (some ⟨b, k * 9, none⟩))
theorem PtrL.below {w w' : World} {v : Value} {b : Nat} {is : List Nat} (h : PtrL w v b is) (hb : Below w.heap.size w w') : PtrL w' v b is := by
  obtain ⟨a, cap, hv, h1, h2, hc⟩ := h
  refine ⟨a, cap, hv, h1, h2, fun j k hj => ?_⟩
  obtain ⟨g, e1, e2, e3⟩ := hc j k hj
  exact ⟨g, e1, Nat.lt_of_lt_of_le e2 hb.size, (hb.cell (p := ⟨g, j, none⟩) e2).trans e3⟩
theorem own_ptrs {w : World} {B b : Nat} {v : Value} {is : List Nat} (h : w.ownsRow B 106 1 v is.length (ptrs b is)) : PtrL w v b is ∧ ∀ g, v.ownBlock = some g → B ≤ g := by
  refine ⟨?_, fun g hg => (h.lt g hg).1⟩
  obtain ⟨hl, h | ⟨g, cap, cur, rfl, hg, hh, h1, h2, h3, h4⟩⟩ := h
  · obtain ⟨rfl, hn⟩ := h
    refine ⟨none, 0, by rw [hn], by omega, by omega, fun j x hj => ?_⟩
    have := (List.getElem?_eq_some_iff.1 hj).1
    omega
  · unfold maxLen at h2
    refine ⟨_, cap, rfl, h1, by omega, fun j k hj => ⟨g, rfl, ltH hh, ?_⟩⟩
    have e : (ptrs b is)[j]? = some (.pointer (some ⟨b, k * 9, none⟩)) := by unfold ptrs; rw [List.getElem?_map, hj]; rfl
    rw [← h4, List.getElem?_take] at e
    rw [cell_of_row w g _ _ _ _ hh]
    split at e
    · simpa using e
    · cases e

def atF (f : Pr → Int) (ps : List Pr) (k : Nat) : Int := match ps[k]? with | some p => f p | none => 0
theorem atF_at {f : Pr → Int} {ps : List Pr} {k : Nat} {p : Pr} (h : ps[k]? = some p) : atF f ps k = f p := by unfold atF; rw [h]
theorem openL_sumF {ps : List Pr} {m k : Nat} (f : Pr → Int) (h : (openL ps)[m]? = some k) : (((openL ps).take m).map (atF f ps)).sum = sumO f ps k := openL_sum f h
theorem openL_allF (f : Pr → Int) (ps : List Pr) : ((openL ps).map (atF f ps)).sum = sumO f ps ps.length := openL_all f ps
theorem sum_take_bd (f : Nat → Int) (B : Int) (is : List Nat) (h : ∀ k ∈ is, 0 ≤ f k ∧ f k ≤ B) (m : Nat) (hm : is.length ≤ 200) (hB : 0 ≤ B) : 0 ≤ ((is.take m).map f).sum ∧ ((is.take m).map f).sum ≤ 200 * B := by
  have := sum_map_bd f B (is.take m) (fun k hk => h k (List.mem_of_mem_take hk))
  have hl : ((is.take m).length : Int) ≤ 200 := by rw [List.length_take]; omega
  have h2 : ((is.take m).length : Int) * B ≤ 200 * B := Int.mul_le_mul_of_nonneg_right hl hB
  omega
theorem sum_take_next {f : Nat → Int} {is : List Nat} {m k : Nat} (h : is[m]? = some k) : ((is.take (m + 1)).map f).sum = ((is.take m).map f).sum + f k := by
  rw [List.take_add_one, h]; simp

set_option maxHeartbeats 2000000 in
set_option maxRecDepth 100000 in
theorem amountR_any {w : World} {B rb : Nat} {pv ov : Value} {ps : List Pr} {grow : Bool} {room start : Int} (h : RwAt w B rb pv ps grow room start) (hp : PtrL w ov (blkOf pv) (openL ps)) (ho : RowOk ps) (r1 : -9000000000 ≤ room) (r2 : room ≤ 9000000000) (t1 : -13000000000 ≤ start) (t2 : start ≤ 13000000000) :
    Calls Try.prog 65 #[.pointer (some ⟨rb, 0, none⟩), ov] w fun e w' => e = .returned (.int .i64 (amountP grow room start ps)) ∧ Below w.heap.size w w' := by
  have F := hidF (freeR_any h ho (by omega) (by omega))
  obtain ⟨f1, f2⟩ := ho.free room ps.length
  obtain ⟨fr, hfr⟩ : ∃ f, freeN room ps ps.length = f := ⟨_, rfl⟩
  unfold amountP
  rw [hfr] at F f1 f2 ⊢
  clear hfr
  obtain ⟨fa, hfa⟩ : ∃ f, sumO (facP grow) ps ps.length = f := ⟨_, rfl⟩
  obtain ⟨fa1, fa2⟩ := ho.fac grow ps.length (Nat.le_refl _)
  rw [hfa] at fa1 fa2 ⊢
  have HFA := hidF ((openL_allF (facP grow) ps).trans hfa)
  obtain ⟨am, ham⟩ : ∃ a, amountN fr start fa = a := ⟨_, rfl⟩
  have HAM := hidF ham
  rw [ham]
  clear hfa ham
  have hl9 := openL_le ps
  have hl8 := ho.len
  have OL := hidF (fun m k (e : (openL ps)[m]? = some k) => openL_at e)
  obtain ⟨is, his⟩ : ∃ is, openL ps = is := ⟨_, rfl⟩
  rw [his] at hp HFA hl9 OL
  have hil : is.length ≤ 200 := by omega
  have FB := hidF (fun m => sum_take_bd (atF (facP grow) ps) 1000000000 is (fun k hk => by
    obtain ⟨m, hm⟩ := List.getElem?_of_mem hk
    obtain ⟨p, hp, _⟩ := OL.out m k hm
    rw [atF_at hp]
    exact facG_bd grow (ho.ok p (List.mem_of_getElem? hp))) m hil (by omega))
  obtain ⟨oa, oc, rfl, o1, o2, hor⟩ := hp
  have HP := hidF hor
  have H := hidF h
  have hst := h.cells.2.2.2.2
  have hrl := h.cells.1
  clear his hor h hl9 hl8 ho
  obtain ⟨n, hn⟩ : ∃ n, is.length = n := ⟨_, rfl⟩
  have HN := hidF hn
  rw [hn] at o1 hil ⊢
  clear hn
  go_enter Try.func65, Try.ntmps65
  go_wp2_with fail
  refine F.out.mono ?_
  rintro e w1 ⟨rfl, hb1⟩
  have B1 := hidF hb1
  clear hb1 F
  go_wp2_with fail
  go_loopw [6, 14] (fun f i wr => ∃ (m : Nat) (z : Int), m ≤ n ∧ i = .int .i64 m ∧ f = .int .i64 z ∧ Hid (z = ((is.take m).map (atF (facP grow) ps)).sum ∧ Below w.heap.size w wr)) (fun _ i _ => n - (intV i).toNat)
  case atStart => exact ⟨0, 0, Nat.zero_le _, rfl, rfl, by simp, B1.out⟩
  case round =>
    obtain ⟨m, z, hm, rfl, rfl, HZ⟩ := hrel
    have zb := FB.out m
    rw [← HZ.out.1] at zb
    obtain ⟨z1, z2⟩ := zb
    by_cases hlt : m < n
    · obtain ⟨k, hk⟩ : ∃ k, is[m]? = some k := ⟨_, List.getElem?_eq_getElem (by rw [HN.out]; exact hlt)⟩
      obtain ⟨p, hp, _⟩ := OL.out m k hk
      obtain ⟨g, rfl, gl, gc⟩ := HP.out m k hk
      obtain ⟨b, c9, hv, _, _, _, bl, _, pa⟩ := (H.out.below HZ.out.2).at hp
      have hbk : blkOf pv = b := by rw [hv]; rfl
      rw [hbk] at gc
      have HSN := hidF (sum_take_next (f := atF (facP grow) ps) hk)
      rw [atF_at hp] at HSN
      have zn := FB.out (m + 1)
      rw [HSN.out, ← HZ.out.1] at zn
      have gc2 := (HZ.out.2.cell (p := ⟨g, m, none⟩) gl).trans gc
      obtain ⟨⟨p0, p1, p2, p3, p4, p5, p6⟩, _, _, _, _, _, _⟩ := pa
      have FC := hidF (factorR_any (H.out.below HZ.out.2) p.i)
      have i1 : (0 : Int) ≤ (m : Int) := by omega
      have i2 : (m : Int) < (n : Int) := by omega
      have bz := HZ.out.2.size
      rw [show facG grow p.i = facP grow p from rfl] at FC
      obtain ⟨fg, hfg⟩ : ∃ f, facP grow p = f := ⟨_, rfl⟩
      rw [hfg] at FC HSN zn
      obtain ⟨zn1, zn2⟩ := zn
      clear hk hp hv hbk gc hfg
      obtain ⟨⟨xb, xmn, xmx, xar, xgr, xsh⟩, sz, mv, st⟩ := p
      unfold itV at FC
      simp only at p1 p2 p3 p4 p5 p6 FC
      go_wp2_with fail
      refine FC.out.mono ?_
      rintro e w2 ⟨rfl, hb2⟩
      have B2 := hidF (HZ.out.2.trans (hb2.mono bz))
      clear hb2
      go_wp2_with fail
      go_roundw
      case rel => go_light; exact ⟨m + 1, _, by omega, by go_num, rfl, by rw [HSN.out, ← HZ.out.1], B2.out⟩
      case measure => simp [intV]; omega
    · obtain rfl : m = n := by omega
      have e : z = fa := by
        rw [HZ.out.1, List.take_of_length_le (by rw [HN.out]; exact Nat.le_refl _), HFA.out]
      subst e
      have hstw := (HZ.out.2.cell (p := ⟨rb, 3, none⟩) hrl).trans hst
      have hrw : rb < wr.heap.size := Nat.lt_of_lt_of_le hrl HZ.out.2.size
      by_cases hf : 1000 ≤ z
      · have e9 : am = fr := by rw [← HAM.out]; unfold amountN; rw [if_pos hf]
        have E9 := hidF e9
        clear e9
        go_wp2_with fail
        go_returns
        exact ⟨ret_i E9.out.symm, HZ.out.2⟩
      · have mb : (start * z).natAbs ≤ 13000000000 * 1000 := by
          rw [Int.natAbs_mul]; exact Nat.mul_le_mul (by omega) (by omega)
        have mt : ((start * z).tdiv 1000).natAbs ≤ (start * z).natAbs := Int.natAbs_tdiv_le_natAbs _ _
        have W9 : IntKind.i64.wrap (start * z) = start * z := wrapJ (by omega) (by omega)
        obtain ⟨sm, hsm⟩ : ∃ s, (start * z).tdiv 1000 = s := ⟨_, rfl⟩
        have sm1 : -13000000000000 ≤ sm := by omega
        have sm2 : sm ≤ 13000000000000 := by omega
        have W8 : IntKind.i64.wrap sm = sm := wrapJ (by omega) (by omega)
        have M1 := hidF (magnitude_any sm (by omega) (by omega))
        have M2 := hidF (magnitude_any fr (by omega) (by omega))
        have e9 : am = if sm.natAbs < fr.natAbs then sm else fr := by rw [← HAM.out]; unfold amountN; rw [if_neg hf, hsm]
        obtain ⟨n1, hn1⟩ : ∃ n, sm.natAbs = n := ⟨_, rfl⟩
        obtain ⟨n2, hn2⟩ : ∃ n, fr.natAbs = n := ⟨_, rfl⟩
        rw [hn1] at M1
        rw [hn2] at M2
        rw [hn1, hn2] at e9
        have E9 := hidF e9
        clear hn1 hn2 mb mt e9
        by_cases hc : n1 < n2
        · have hc' : (n1 : Int) < (n2 : Int) := by omega
          go_wp2_with fail
          refine (M1.out _).mono ?_
          rintro e w3 ⟨rfl, hw3⟩
          rw [hw3]
          clear hw3
          go_wp2_with fail
          refine (M2.out _).mono ?_
          rintro e w4 ⟨rfl, hw4⟩
          rw [hw4]
          clear hw4
          go_wp2_with fail
          go_returns
          exact ⟨ret_i (by rw [E9.out, if_pos hc]), HZ.out.2⟩
        · have hc' : ¬ (n1 : Int) < (n2 : Int) := by omega
          go_wp2_with fail
          refine (M1.out _).mono ?_
          rintro e w3 ⟨rfl, hw3⟩
          rw [hw3]
          clear hw3
          go_wp2_with fail
          refine (M2.out _).mono ?_
          rintro e w4 ⟨rfl, hw4⟩
          rw [hw4]
          clear hw4
          go_wp2_with fail
          go_returns
          exact ⟨ret_i (by rw [E9.out, if_neg hc]), HZ.out.2⟩
end Go.Proofs.Ytjdndaeobiagcaa
