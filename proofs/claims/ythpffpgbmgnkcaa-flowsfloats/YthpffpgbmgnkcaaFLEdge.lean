/- The program's Edges and Clear. -/
import Derived.Test.YthpffpgbmgnkcaaFLGap
import Derived.Test.YthpffpgbmgnkcaaXBase
import Derived.Deep.DeepCutAuto
namespace Go.Proofs.Ythpffpgbmgnkcaa
open Go.RowKit
set_option linter.unusedVariables false      -- bounds that are for the walk

set_option maxHeartbeats 1000000 in
set_option maxRecDepth 100000 in
theorem edges_any {w : World} {M : Nat → Lab} {lb fb : Nat} {sv : Value} {fs : List Fl} {lo hi : Int} (h : FlAt w M lb sv fs) (hr : RmAt w M fb lb lo hi) (hl : fs.length ≤ 200) (hb : Bd fs) (y ht : Int) :
    Calls Try.prog 7 #[.pointer (some ⟨fb, 0, none⟩), .int .i64 y, .int .i64 ht] w fun e w' => e = .returned (.tuple #[.int .i64 (gapN lo hi fs (heldN y) (heldN ht)).l, .int .i64 (gapN lo hi fs (heldN y) (heldN ht)).r]) ∧ Below w.heap.size w w' := by
  obtain ⟨y1, y2⟩ := heldN_bd y
  obtain ⟨t1, t2⟩ := heldN_bd ht
  obtain ⟨hy, ey⟩ : ∃ z, heldN y = z := ⟨_, rfl⟩
  obtain ⟨hh, eh⟩ : ∃ z, heldN ht = z := ⟨_, rfl⟩
  have HY := hidF ey
  have HH := hidF eh
  rw [ey] at y1 y2 ⊢
  rw [eh] at t1 t2 ⊢
  have GA := hidF (fun (W : World) (hbw : Below w.heap.size w W) => gap_any (h.below hbw) (hr.below hbw) hl hb hy hh (by omega) (by omega) t1 t2)
  obtain ⟨g, hg⟩ : ∃ g, gapN lo hi fs hy hh = g := ⟨_, rfl⟩
  rw [hg] at GA ⊢
  clear ey eh hg h hr hb
  obtain ⟨gl, gr, gw⟩ := g
  simp only at GA ⊢
  go_enter Try.func7, Try.ntmps7
  go_wp2_with fail
  refine (hold_pre [(⟨w.heap.size, 0, none⟩, y), (⟨w.heap.size + 1, 0, none⟩, ht)] _ _ _ _ rfl (by simp) (by simp [HoldPre, go_sem]; omega)).mono ?_
  rintro e w1 ⟨rfl, hw1⟩
  simp only [holdAll, HY.out, HH.out] at hw1
  have hb1 : Below w.heap.size w w1 := by rw [hw1]; go_grown
  have q1 : w1.cell? ⟨w.heap.size, 0, none⟩ = some (.int .i64 hy) := by rw [hw1]; go_simp
  have q2 : w1.cell? ⟨w.heap.size + 1, 0, none⟩ = some (.int .i64 hh) := by rw [hw1]; go_simp
  have B1 := hidF hb1
  clear hw1 hb1
  go_wp2_with fail
  refine (GA.out _ B1.out).mono ?_
  rintro e w2 ⟨rfl, hb2⟩
  have B2 := hidF (B1.out.trans (hb2.mono B1.out.size))
  clear hb2
  go_wp2_with fail
  go_quiet (fail)
  go_wp2_with fail
  refine bodyPost_ret (v := .tuple #[.int .i64 gl, .int .i64 gr]) ?_ rfl ⟨rfl, belD (B2.out.alloc B2.out.size _) _⟩
  simp [results, Try.results7, go_sem]

/-- does a side count? -/
def sideN (l r : Bool) (o : Fl) : Bool := (o.r && r) || (!o.r && l)
structure Cl where
  at_ : Int
  some : Bool
def clearS (l r : Bool) (c : Cl) (o : Fl) : Cl := if sideN l r o = true then ⟨if (!c.some || decide (c.at_ < o.y + o.h)) = true then o.y + o.h else c.at_, true⟩ else c
/-- where floats of some sides end -/
def clearN (l r : Bool) (fs : List Fl) : Cl := fs.foldl (clearS l r) ⟨0, false⟩
theorem clearN_take {l r : Bool} {fs : List Fl} {k : Nat} {o : Fl} (hk : fs[k]? = some o) : clearN l r (fs.take (k + 1)) = clearS l r (clearN l r (fs.take k)) o := by
  rw [List.take_add_one, hk]; simp [clearN, List.foldl_append]

set_option maxHeartbeats 2000000 in
set_option maxRecDepth 100000 in
theorem clear_any {w : World} {M : Nat → Lab} {lb fb : Nat} {sv : Value} {fs : List Fl} {lo hi : Int} (h : FlAt w M lb sv fs) (hr : RmAt w M fb lb lo hi) (hl : fs.length ≤ 200) (hb : Bd fs) (lf rt : Bool) :
    Calls Try.prog 13 #[.pointer (some ⟨fb, 0, none⟩), .bool lf, .bool rt] w fun e w' => e = .returned (.int .i64 (clearN lf rt fs).at_) ∧ Below w.heap.size w w' := by
  obtain ⟨f0, f1, f2, _, _, _⟩ := three_c hr.head
  obtain ⟨l0, _⟩ := one_c h.head
  have hfb := lt_of_heap hr.head
  have hlb := lt_of_heap h.head
  obtain ⟨a, cap, rfl, hc, hm⟩ := h.row.shape
  unfold maxLen at hm
  have H := hidF h
  have HB := hidF hb
  clear h hr hb
  obtain ⟨cf, hcf⟩ : ∃ g, clearN lf rt fs = g := ⟨_, rfl⟩
  have HCF := hidF hcf
  rw [hcf]
  clear hcf
  go_enter Try.func13, Try.ntmps13
  go_wp2_with fail
  go_loopw [7, 8, 19] (fun cv sv i wr => ∃ (k : Nat) (c : Int) (s : Bool), k ≤ fs.length ∧ i = .int .i64 k ∧ cv = .int .i64 c ∧ sv = .bool s ∧ Hid (clearN lf rt (fs.take k) = ⟨c, s⟩ ∧ Below w.heap.size w wr)) (fun _ _ i _ => fs.length - (intV i).toNat)
  case atStart => exact ⟨0, 0, false, Nat.zero_le _, rfl, rfl, rfl, rfl, Below.refl _ _⟩
  case round =>
    obtain ⟨k, c, s, hk, rfl, rfl, rfl, HZ⟩ := hrel
    have hsz := HZ.out.2.size
    by_cases hlt : k < fs.length
    · obtain ⟨gb, cap', hv, _, _, _, hgb⟩ := H.out.row.form (by omega)
      obtain ⟨rfl, rfl⟩ : a = some ⟨gb, 0, none⟩ ∧ cap = cap' := by cases hv; exact ⟨rfl, rfl⟩
      obtain ⟨o, ho⟩ : ∃ o, fs[k]? = some o := ⟨_, List.getElem?_eq_getElem hlt⟩
      have HS := hidF (clearN_take (l := lf) (r := rt) ho)
      rw [HZ.out.1] at HS
      unfold clearS at HS
      obtain ⟨ub1, ub2, ub3, ub4, ub5, ub6, ub7, ub8⟩ := HB.out.at hl (List.mem_of_getElem? ho)
      obtain ⟨r0, r1, r2, r3, r4⟩ := (H.out.below HZ.out.2).at ho
      have i1 : (0 : Int) ≤ (k : Int) := by omega
      have i2 : (k : Int) < (fs.length : Int) := by omega
      have B2 := hidF (fun ob => HZ.out.2.alloc (o := ob) hsz)
      obtain ⟨si, hsi⟩ : ∃ x, sideN lf rt o = x := ⟨_, rfl⟩
      rw [hsi] at HS
      unfold sideN at hsi
      have HSI := hidF hsi
      clear hv ho hsi
      obtain ⟨orr, ox, oy, ow, oh⟩ := o
      simp only at r0 r1 r2 r3 r4 HS HSI ub3 ub4 ub7 ub8
      cases s
      · simp only [Bool.not_false, Bool.true_or, if_true] at HS
        cases orr <;> cases lf <;> cases rt
        all_goals
          have e := HSI.out
          simp at e
          subst e
          simp only [Bool.false_eq_true, if_true, if_false] at HS
          go_wp2_with fail
          go_roundw
          case rel => go_light; exact ⟨k + 1, _, _, by omega, by go_num, rfl, rfl, HS.out, B2.out _⟩
          case measure => simp [intV]; omega
      · simp only [Bool.not_true, Bool.false_or] at HS
        by_cases hgt : c < oy + oh
        · have hgt' : decide (c < oy + oh) = true := by simpa using hgt
          rw [hgt'] at HS
          clear hgt'
          cases orr <;> cases lf <;> cases rt
          all_goals
            have e := HSI.out
            simp at e
            subst e
            simp only [Bool.false_eq_true, if_true, if_false] at HS
            go_wp2_with fail
            go_roundw
            case rel => go_light; exact ⟨k + 1, _, _, by omega, by go_num, rfl, rfl, HS.out, B2.out _⟩
            case measure => simp [intV]; omega
        · have hgt' : decide (c < oy + oh) = false := by simpa using hgt
          rw [hgt'] at HS
          clear hgt'
          cases orr <;> cases lf <;> cases rt
          all_goals
            have e := HSI.out
            simp at e
            subst e
            simp only [Bool.false_eq_true, if_true, if_false] at HS
            go_wp2_with fail
            go_roundw
            case rel => go_light; exact ⟨k + 1, _, _, by omega, by go_num, rfl, rfl, HS.out, B2.out _⟩
            case measure => simp [intV]; omega
    · obtain ⟨e9⟩ : Nonempty (cf = ⟨c, s⟩) := ⟨by rw [← HCF.out, ← HZ.out.1, List.take_of_length_le (by omega)]⟩
      subst e9
      have BF := hidF HZ.out.2
      clear HZ HCF
      go_wp2_with fail
      go_returns
      exact ⟨rfl, BF.out⟩
end Go.Proofs.Ythpffpgbmgnkcaa
