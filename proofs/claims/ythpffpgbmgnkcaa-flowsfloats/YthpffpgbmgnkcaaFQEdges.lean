/- The document's Edges: what is left between the floats. -/
import Derived.Test.YthpffpgbmgnkcaaFQMem
namespace Go.Proofs.Ythpffpgbmgnkcaa
open Go.RowKit
set_option linter.unusedVariables false      -- bounds that are for the walk

theorem gapN_take {lo hi y h : Int} {fs : List Fl} {k : Nat} {o : Fl} (hk : fs[k]? = some o) : gapN lo hi (fs.take (k + 1)) y h = gapS y h (gapN lo hi (fs.take k) y h) o := by
  rw [List.take_add_one, hk]; exact gapN_snoc lo hi _ o y h

set_option maxHeartbeats 2000000 in
set_option maxRecDepth 100000 in
theorem qedges_any {w : World} {B rb : Nat} {lv : Value} {fs : List Fl} {lo hi : Int} (h : QfAt w B rb lv fs lo hi) (hl : fs.length ≤ 200) (hb : Bd fs) (y ht : Int) (y1 : -20000000000 ≤ y) (y2 : y ≤ 20000000000) (t1 : -16777216 ≤ ht) (t2 : ht ≤ 16777216) :
    Calls Try.prog 9 #[.pointer (some ⟨rb, 0, none⟩), .int .i64 y, .int .i64 ht] w fun e w' => e = .returned (.tuple #[.int .i64 (gapN lo hi fs y ht).l, .int .i64 (gapN lo hi fs y ht).r, .bool (!(gapN lo hi fs y ht).whole)]) ∧ Below w.heap.size w w' := by
  obtain ⟨rl, c0, c1, c2⟩ := h.cells
  obtain ⟨a, c, rfl, q1, q2⟩ := own_shapeQ h.row
  have H := hidF h
  have HB := hidF hb
  obtain ⟨n, hn⟩ : ∃ n, fs.length = n := ⟨_, rfl⟩
  have HN := hidF hn
  rw [hn] at q1 c2 H hl
  clear h hb hn
  obtain ⟨gf, hgf⟩ : ∃ g, gapN lo hi fs y ht = g := ⟨_, rfl⟩
  have HGF := hidF hgf
  rw [hgf]
  clear hgf
  go_enter Try.func9, Try.ntmps9
  go_wp2_with fail
  go_loopw [9, 10, 11, 12] (fun lv rv sv i wr => ∃ (k : Nat) (l r : Int) (s : Bool), k ≤ n ∧ i = .int .i64 k ∧ lv = .int .i64 l ∧ rv = .int .i64 r ∧ sv = .bool s ∧ Hid (gapN lo hi (fs.take k) y ht = ⟨l, r, !s⟩ ∧ Below w.heap.size w wr)) (fun _ _ _ i _ => n - (intV i).toNat)
  case atStart => exact ⟨0, lo, hi, false, Nat.zero_le _, rfl, rfl, rfl, rfl, rfl, Below.refl _ _⟩
  case round =>
    obtain ⟨k, l, r, s, hk, rfl, rfl, rfl, rfl, HZ⟩ := hrel
    have d2 := (HZ.out.2.cell (p := ⟨rb, 2, none⟩) rl).trans c2
    have d0 : rb < wr.heap.size := Nat.lt_of_lt_of_le rl HZ.out.2.size
    by_cases hlt : k < n
    · obtain ⟨o, ho⟩ : ∃ o, fs[k]? = some o := ⟨_, List.getElem?_eq_getElem (by rw [HN.out]; exact hlt)⟩
      obtain ⟨b, c9, hv, bl, e0, e1, e2, e3, e4⟩ := (H.out.below HZ.out.2).at ho
      have hvv : a = some ⟨b, 0, none⟩ := by cases hv; rfl
      subst hvv
      clear hv
      obtain ⟨ub1, ub2, ub3, ub4, ub5, ub6, ub7, ub8⟩ := HB.out.at (by rw [HN.out]; exact hl) (List.mem_of_getElem? ho)
      have ME := hidF (fun W => meets_any o y ht y1 y2 t1 t2 (by omega) (by omega) ub7 ub8 W)
      have HS := hidF (gapN_take (lo := lo) (hi := hi) (y := y) (h := ht) ho)
      rw [HZ.out.1] at HS
      unfold gapS at HS
      have i1 : (0 : Int) ≤ (k : Int) := by omega
      have i2 : (k : Int) < (n : Int) := by omega
      have bz := HZ.out.2.size
      obtain ⟨mt, hmt⟩ : ∃ m, meets o y ht = m := ⟨_, rfl⟩
      rw [hmt] at ME HS
      clear ho hmt
      obtain ⟨orr, ox, oy, ow, oh⟩ := o
      simp only at e0 e1 e2 e3 e4 ub1 ub2 ub3 ub4 ub5 ub6 ub7 ub8 ME HS
      have MS := hidF (fun W => most_any l (ox + ow) W)
      have LS := hidF (fun W => least_any r ox W)
      have W1 : IntKind.i64.wrap (ox + ow) = ox + ow := by rw [IntKind.wrap_i64]; omega
      go_wp2_with fail
      refine (ME.out _).mono ?_
      rintro e w2 ⟨rfl, hb2⟩
      have B2 := hidF (HZ.out.2.trans (hb2.mono bz))
      have f2 := (hb2.cell (p := ⟨rb, 2, none⟩) d0).trans d2
      have g0 := (hb2.cell (p := ⟨b, k * 5, none⟩) bl).trans e0
      have g1 := (hb2.cell (p := ⟨b, k * 5 + 1, none⟩) bl).trans e1
      have g3 := (hb2.cell (p := ⟨b, k * 5 + 3, none⟩) bl).trans e3
      have l2 : rb < w2.heap.size := Nat.lt_of_lt_of_le d0 hb2.size
      have l3 : b < w2.heap.size := Nat.lt_of_lt_of_le bl hb2.size
      clear hb2 e0 e1 e2 e3 e4 d2
      cases mt
      · simp only [Bool.false_eq_true, if_false] at HS
        go_wp2_with fail
        go_roundw
        case rel => go_light; exact ⟨k + 1, l, r, s, by omega, by go_num, rfl, rfl, rfl, HS.out, B2.out⟩
        case measure => simp [intV]; omega
      · cases orr
        · simp only [Bool.false_eq_true, if_true, if_false] at HS
          go_wp2_with fail
          go_quiet (exact Calls.quiet_of_same (MS.out _))
          go_wp2_with fail
          go_roundw
          case rel => go_light; exact ⟨k + 1, _, r, true, by omega, by go_num, rfl, rfl, rfl, HS.out, belD B2.out _⟩
          case measure => simp [intV]; omega
        · simp only [if_true] at HS
          go_wp2_with fail
          refine (LS.out _).mono ?_
          rintro e w3 ⟨rfl, hw3⟩
          rw [hw3]
          clear hw3
          go_wp2_with fail
          go_roundw
          case rel => go_light; exact ⟨k + 1, l, _, true, by omega, by go_num, rfl, rfl, rfl, HS.out, B2.out⟩
          case measure => simp [intV]; omega
    · obtain rfl : k = n := by omega
      have e9 : gf = ⟨l, r, !s⟩ := by
        rw [← HGF.out, ← HZ.out.1, List.take_of_length_le (by rw [HN.out]; exact Nat.le_refl _)]
      subst e9
      have BF := hidF HZ.out.2
      clear HZ HGF
      go_wp2_with fail
      refine bodyPost_ret (v := .tuple #[.int .i64 l, .int .i64 r, .bool s]) ?_ rfl ⟨by simp, BF.out⟩
      simp [results, Try.results9, go_sem]
end Go.Proofs.Ythpffpgbmgnkcaa
