/- The program: a mark that stands at a scanner's place. -/
import Derived.Test.YtkaeenafejdkfaaGreatDoorM06
import Derived.Test.YtkaeenafejdkfaaGreatDoorM05
import Derived.Lib.Builder
import Derived.Lib.FrozenHead
import Derived.Lib.FrozenHead2
import Derived.Lib.AppendStr
import Derived.Laws.Externs
namespace Go.Proofs.YtkaeenafejdkfaaGreatDoor
open Go.RowKit

theorem ext_ext (s : ByteArray) (i m : Nat) (_h : i + m ≤ s.size) : (s.extract i s.size).extract 0 m = s.extract i (i + m) := by
  apply ByteArray.ext
  apply Array.toList_inj.mp
  rw [ext_list, ext_list, ext_list]
  simp [List.take_take]
  try omega
theorem prefix_at {s p : ByteArray} {i : Nat} (hi : i ≤ s.size) : (p.size ≤ (s.extract i s.size).size ∧ (s.extract i s.size).extract 0 p.size = p) ↔ standsAt p s i := by
  unfold standsAt
  rw [ByteArray.size_extract]
  constructor
  · rintro ⟨h1, h2⟩
    have : i + p.size ≤ s.size := by omega
    exact ⟨this, by rw [ext_ext s i p.size this] at h2; exact h2⟩
  · rintro ⟨h1, h2⟩
    exact ⟨by omega, by rw [ext_ext s i p.size h1]; exact h2⟩

set_option maxHeartbeats 4000000 in
set_option maxRecDepth 100000 in
theorem lite_any (s p : ByteArray) (r : Bool) (hr : decide (p.size ≤ s.size ∧ s.extract 0 p.size = p) = r) (w : World) :
    Calls Tryz.prog 173 #[.string s, .string p] w fun e w' => e = .returned (.bool r) ∧ w' = w := by
  have HR := hid hr
  clear hr
  go_enter Tryz.func173, Tryz.ntmps173
  go_wp2
  all_goals go_light
  all_goals go_ret
  all_goals (refine ⟨retb ?_, rfl⟩; rw [← HR.out])
  · rw [Bool.eq_iff_iff, decide_eq_true_eq]
    constructor
    · intro h; exact ⟨by omega, toList_inj' (eq_of_beq h)⟩
    · intro h; rw [h.2]; simp
  · symm
    rw [decide_eq_false_iff_not]
    rintro ⟨h, _⟩
    omega
theorem prefix_any (s p : ByteArray) (r : Bool) (hr : decide (p.size ≤ s.size ∧ s.extract 0 p.size = p) = r) (w : World) :
    Calls Tryz.prog 155 #[.string s, .string p] w fun e w' => e = .returned (.bool r) ∧ w' = w := by
  go_enter Tryz.func155, Tryz.ntmps155
  go_wp2_with (go_at_call 173; refine (lite_any s p r hr _).mono ?_; rintro e w' ⟨rfl, rfl⟩)
  go_ret
  exact ⟨rfl, rfl⟩

set_option maxHeartbeats 4000000 in
set_option maxRecDepth 100000 in
theorem skip_yes {w : World} {b : Nat} {s : ByteArray} {i : Nat} {raw : ByteArray} (h : Sc w b s i raw) (hs : s.size ≤ 100000) (p : ByteArray) (hp : standsAt p s i) :
    Calls Tryz.prog 157 #[.pointer (some ⟨b, 0, none⟩), .string p] w fun e w' => e = .returned (.bool true) ∧ Only b w w' ∧ Sc w' b s (i + p.size) raw := by
  have hi : i + p.size ≤ s.size := hp.1
  have hpre : decide (p.size ≤ (s.extract i s.size).size ∧ (s.extract i s.size).extract 0 p.size = p) = true := by
    rw [decide_eq_true_eq, prefix_at (by omega)]; exact hp
  have H := hid h
  obtain ⟨c0, c1, c2, cf⟩ := h.cells
  clear h hp
  go_enter Tryz.func157, Tryz.ntmps157
  go_wp2_with fail
  go_quiet ((go_at_call 155; exact Calls.quiet_of_same (prefix_any (s.extract i s.size) p true hpre _)))
  go_wp2_with fail
  go_ret
  exact ⟨rfl, ((Only.refl _ _).drew _).set _ _, (H.out.drew _).set _ _ (by omega)⟩
set_option maxHeartbeats 4000000 in
set_option maxRecDepth 100000 in
theorem skip_no {w : World} {b : Nat} {s : ByteArray} {i : Nat} {raw : ByteArray} (h : Sc w b s i raw) (hi : i ≤ s.size) (p : ByteArray) (hp : ¬ standsAt p s i) :
    Calls Tryz.prog 157 #[.pointer (some ⟨b, 0, none⟩), .string p] w fun e w' => e = .returned (.bool false) ∧ Only b w w' ∧ Sc w' b s i raw := by
  have hpre : decide (p.size ≤ (s.extract i s.size).size ∧ (s.extract i s.size).extract 0 p.size = p) = false := by
    rw [decide_eq_false_iff_not, prefix_at hi]; exact hp
  have H := hid h
  obtain ⟨c0, c1, c2, cf⟩ := h.cells
  clear h hp
  go_enter Tryz.func157, Tryz.ntmps157
  go_wp2_with fail
  go_quiet ((go_at_call 155; exact Calls.quiet_of_same (prefix_any (s.extract i s.size) p false hpre _)))
  go_wp2_with fail
  go_ret
  exact ⟨rfl, (Only.refl _ _).drew _, H.out.drew _⟩
end Go.Proofs.YtkaeenafejdkfaaGreatDoor

/- The program: what kind of piece a text begins with. -/
namespace Go.Proofs.YtkaeenafejdkfaaGreatDoor
open Go.RowKit

abbrev mCom : ByteArray := ⟨#[60, 33, 45, 45]⟩
abbrev mBang : ByteArray := ⟨#[60, 33]⟩
abbrev mAsk : ByteArray := ⟨#[60, 63]⟩
abbrev mEnd : ByteArray := ⟨#[60, 47]⟩
abbrev mLt : ByteArray := ⟨#[60]⟩
/-- 0 nothing, 1 words, 2 a comment, 3 a start tag, 4 an end tag -/
def kindT (t : ByteArray) : Int :=
  if standsAt mCom t 0 then 2 else if standsAt mBang t 0 ∨ standsAt mAsk t 0 then 0
  else if standsAt mEnd t 0 ∧ 2 < t.size ∧ alphaB (bt t 2) = true then 4
  else if standsAt mLt t 0 ∧ 1 < t.size ∧ alphaB (bt t 1) = true then 3 else 1
theorem prefix_dec (t p : ByteArray) (w : World) : Calls Tryz.prog 155 #[.string t, .string p] w fun e w' => e = .returned (.bool (decide (standsAt p t 0))) ∧ w' = w := by
  refine prefix_any t p _ ?_ w
  unfold standsAt
  simp only [Nat.zero_add]
theorem first_of {t p : ByteArray} {k : Nat} (h : standsAt p t 0) (hk : k < p.size) : bt t k = p[k].toNat := by
  have h1 : 0 + p.size ≤ t.size := h.1
  have h2 : t.extract 0 (0 + p.size) = p := h.2
  rw [bt_lt (by omega)]
  have e := congrArg (fun x : ByteArray => x.data.toList[k]?) h2
  simp only [ext_list] at e
  rw [List.drop_zero, List.getElem?_take, if_pos (by omega), bytes_get t k (by omega), bytes_get p k hk] at e
  rw [Option.some.inj e]
theorem end_slash {t : ByteArray} (h : standsAt mEnd t 0) : bt t 1 = 47 := first_of (k := 1) h (by decide)
theorem lt_of_end {t : ByteArray} (h : standsAt mEnd t 0) : standsAt mLt t 0 := by
  have h0 : bt t 0 = 60 := first_of (k := 0) h (by decide)
  have hs : 0 + mEnd.size ≤ t.size := h.1
  have hs2 : 0 < t.size := by have : mEnd.size = 2 := rfl; omega
  rw [bt_lt hs2] at h0
  have h1 : t[0] = 60 := UInt8.toNat_inj.mp h0
  exact stands_one.2 (by rw [bytes_get t 0 hs2, h1])

set_option maxHeartbeats 4000000 in
set_option maxRecDepth 100000 in
theorem pbegins_any (t : ByteArray) (r : Int) (hr : r = kindT t) (w : World) :
    Calls Tryz.prog 133 #[.string t] w fun e w' => e = .returned (.int .i64 r) ∧ w' = w := by
  unfold kindT at hr
  cases e1 : decide (standsAt mCom t 0)
  rotate_left
  · rw [if_pos (of_decide_eq_true e1)] at hr
    have HR := hid hr
    clear hr
    go_enter Tryz.func133, Tryz.ntmps133
    go_wp2_with (go_at_call 155; refine (prefix_dec t _ _).mono ?_; rintro e w' ⟨rfl, rfl⟩; rw [e1])
    go_ret
    exact ⟨retn HR.out.symm, rfl⟩
  rw [if_neg (of_decide_eq_false e1)] at hr
  cases e2 : decide (standsAt mBang t 0)
  rotate_left
  · rw [if_pos (.inl (of_decide_eq_true e2))] at hr
    have HR := hid hr
    clear hr
    go_enter Tryz.func133, Tryz.ntmps133
    go_wp2_with (go_at_call 155; refine (prefix_dec t _ _).mono ?_; rintro e w' ⟨rfl, rfl⟩; first | rw [e1] | rw [e2])
    go_ret
    exact ⟨retn HR.out.symm, rfl⟩
  cases e3 : decide (standsAt mAsk t 0)
  rotate_left
  · rw [if_pos (.inr (of_decide_eq_true e3))] at hr
    have HR := hid hr
    clear hr
    go_enter Tryz.func133, Tryz.ntmps133
    go_wp2_with ((go_at_call 155; refine (prefix_dec t _ _).mono ?_; rintro e w' ⟨rfl, rfl⟩; first | rw [e1] | rw [e2] | rw [e3]))
    all_goals go_light
    all_goals first
      | (go_ret; exact ⟨retn HR.out.symm, rfl⟩)
      | (exfalso; simp_all; done)
  rw [if_neg (fun h => h.elim (of_decide_eq_false e2) (of_decide_eq_false e3))] at hr
  cases e5 : decide (standsAt mLt t 0)
  · -- no < at all: no end tag either
    have e4 : decide (standsAt mEnd t 0) = false := by
      rw [decide_eq_false_iff_not]
      intro h
      exact of_decide_eq_false e5 (lt_of_end h)
    rw [if_neg (fun h => of_decide_eq_false e4 h.1), if_neg (fun h => of_decide_eq_false e5 h.1)] at hr
    have HR := hid hr
    clear hr
    go_enter Tryz.func133, Tryz.ntmps133
    go_wp2_with ((go_at_call 155; refine (prefix_dec t _ _).mono ?_; rintro e w' ⟨rfl, rfl⟩; first | rw [e1] | rw [e2] | rw [e3] | rw [e4] | rw [e5]))
    all_goals go_light
    all_goals first
      | (go_ret; exact ⟨retn HR.out.symm, rfl⟩)
      | (exfalso; simp_all; done)
  have h1 : 1 ≤ t.size := (of_decide_eq_true e5).1
  cases e4 : decide (standsAt mEnd t 0)
  · rw [if_neg (fun h => of_decide_eq_false e4 h.1)] at hr
    by_cases h2 : 1 < t.size
    · obtain ⟨c, hc⟩ : ∃ c, t[1].toNat = c := ⟨_, rfl⟩
      rw [bt_lt h2, hc] at hr
      cases ha : alphaB c
      · rw [if_neg (fun h => by rw [ha] at h; exact absurd h.2.2 (by simp))] at hr
        have HR := hid hr
        clear hr
        go_enter Tryz.func133, Tryz.ntmps133
        go_wp2_with (first | (go_at_call 155; refine (prefix_dec t _ _).mono ?_; rintro e w' ⟨rfl, rfl⟩; first | rw [e1] | rw [e2] | rw [e3] | rw [e4] | rw [e5]) | (go_at_call 156; refine (pletter_any _ _).mono ?_; rintro e w' ⟨rfl, rfl⟩; first | rw [ha]))
        all_goals go_light
        all_goals first
          | (go_ret; exact ⟨retn HR.out.symm, rfl⟩)
          | (exfalso; simp_all; done)
      · rw [if_pos ⟨of_decide_eq_true e5, h2, ha⟩] at hr
        have HR := hid hr
        clear hr
        go_enter Tryz.func133, Tryz.ntmps133
        go_wp2_with (first | (go_at_call 155; refine (prefix_dec t _ _).mono ?_; rintro e w' ⟨rfl, rfl⟩; first | rw [e1] | rw [e2] | rw [e3] | rw [e4] | rw [e5]) | (go_at_call 156; refine (pletter_any _ _).mono ?_; rintro e w' ⟨rfl, rfl⟩; first | rw [ha]))
        all_goals go_light
        all_goals first
          | (go_ret; exact ⟨retn HR.out.symm, rfl⟩)
          | (exfalso; simp_all; done)
    · rw [if_neg (fun h => h2 h.2.1)] at hr
      have HR := hid hr
      clear hr
      go_enter Tryz.func133, Tryz.ntmps133
      go_wp2_with ((go_at_call 155; refine (prefix_dec t _ _).mono ?_; rintro e w' ⟨rfl, rfl⟩; first | rw [e1] | rw [e2] | rw [e3] | rw [e4] | rw [e5]))
      all_goals go_light
      all_goals first
        | (go_ret; exact ⟨retn HR.out.symm, rfl⟩)
        | (exfalso; simp_all; done)
  · have h2 : 1 < t.size := (of_decide_eq_true e4).1
    have h47 : bt t 1 = 47 := end_slash (of_decide_eq_true e4)
    rw [show alphaB (bt t 1) = false by rw [h47]; rfl] at hr
    obtain ⟨d, hd⟩ : ∃ c, t[1].toNat = c := ⟨_, rfl⟩
    have hd2 : alphaB d = false := by rw [← hd, ← bt_lt h2, h47]; rfl
    by_cases h3 : 2 < t.size
    · obtain ⟨c, hc⟩ : ∃ c, t[2].toNat = c := ⟨_, rfl⟩
      rw [bt_lt h3, hc] at hr
      cases ha : alphaB c
      · rw [if_neg (fun h => by rw [ha] at h; exact absurd h.2.2 (by simp)), if_neg (fun h => absurd h.2.2 (by simp))] at hr
        have HR := hid hr
        clear hr h47
        go_enter Tryz.func133, Tryz.ntmps133
        go_wp2_with (first | (go_at_call 155; refine (prefix_dec t _ _).mono ?_; rintro e w' ⟨rfl, rfl⟩; first | rw [e1] | rw [e2] | rw [e3] | rw [e4] | rw [e5]) | (go_at_call 156; refine (pletter_any _ _).mono ?_; rintro e w' ⟨rfl, rfl⟩; first | rw [ha] | rw [hd2]))
        all_goals go_light
        all_goals first
          | (go_ret; exact ⟨retn HR.out.symm, rfl⟩)
          | (exfalso; simp_all; done)
      · rw [if_pos ⟨of_decide_eq_true e4, h3, ha⟩] at hr
        have HR := hid hr
        clear hr h47
        go_enter Tryz.func133, Tryz.ntmps133
        go_wp2_with (first | (go_at_call 155; refine (prefix_dec t _ _).mono ?_; rintro e w' ⟨rfl, rfl⟩; first | rw [e1] | rw [e2] | rw [e3] | rw [e4] | rw [e5]) | (go_at_call 156; refine (pletter_any _ _).mono ?_; rintro e w' ⟨rfl, rfl⟩; first | rw [ha]))
        all_goals go_light
        all_goals first
          | (go_ret; exact ⟨retn HR.out.symm, rfl⟩)
          | (exfalso; simp_all; done)
    · rw [if_neg (fun h => h3 h.2.1), if_neg (fun h => absurd h.2.2 (by simp))] at hr
      have HR := hid hr
      clear hr h47
      go_enter Tryz.func133, Tryz.ntmps133
      go_wp2_with (first | (go_at_call 155; refine (prefix_dec t _ _).mono ?_; rintro e w' ⟨rfl, rfl⟩; first | rw [e1] | rw [e2] | rw [e3] | rw [e4] | rw [e5]) | (go_at_call 156; refine (pletter_any _ _).mono ?_; rintro e w' ⟨rfl, rfl⟩; first | rw [hd2]))
      all_goals go_light
      all_goals first
        | (go_ret; exact ⟨retn HR.out.symm, rfl⟩)
        | (exfalso; simp_all; done)
end Go.Proofs.YtkaeenafejdkfaaGreatDoor

/- The program: the rune that a reference's body stands for. -/
namespace Go.Proofs.YtkaeenafejdkfaaGreatDoor
open Go.RowKit

set_option maxHeartbeats 4000000 in
set_option maxRecDepth 100000 in
theorem runeOf_amp (w : World) : Calls Tryz.prog 178 #[.string ⟨#[97, 109, 112]⟩] w fun e w' => e = .returned (twoV (38, true)) ∧ w' = w := by
  go_enter Tryz.func178, Tryz.ntmps178
  go_wp2_with fail
  go_ret2
  exact ⟨rfl, rfl⟩
set_option maxHeartbeats 4000000 in
set_option maxRecDepth 100000 in
theorem runeOf_lt (w : World) : Calls Tryz.prog 178 #[.string ⟨#[108, 116]⟩] w fun e w' => e = .returned (twoV (60, true)) ∧ w' = w := by
  go_enter Tryz.func178, Tryz.ntmps178
  go_wp2_with fail
  go_ret2
  exact ⟨rfl, rfl⟩
set_option maxHeartbeats 4000000 in
set_option maxRecDepth 100000 in
theorem runeOf_gt (w : World) : Calls Tryz.prog 178 #[.string ⟨#[103, 116]⟩] w fun e w' => e = .returned (twoV (62, true)) ∧ w' = w := by
  go_enter Tryz.func178, Tryz.ntmps178
  go_wp2_with fail
  go_ret2
  exact ⟨rfl, rfl⟩
set_option maxHeartbeats 4000000 in
set_option maxRecDepth 100000 in
theorem runeOf_quot (w : World) : Calls Tryz.prog 178 #[.string ⟨#[113, 117, 111, 116]⟩] w fun e w' => e = .returned (twoV (34, true)) ∧ w' = w := by
  go_enter Tryz.func178, Tryz.ntmps178
  go_wp2_with fail
  go_ret2
  exact ⟨rfl, rfl⟩
set_option maxHeartbeats 4000000 in
set_option maxRecDepth 100000 in
theorem runeOf_apos (w : World) : Calls Tryz.prog 178 #[.string ⟨#[97, 112, 111, 115]⟩] w fun e w' => e = .returned (twoV (39, true)) ∧ w' = w := by
  go_enter Tryz.func178, Tryz.ntmps178
  go_wp2_with fail
  go_ret2
  exact ⟨rfl, rfl⟩
set_option maxHeartbeats 4000000 in
set_option maxRecDepth 100000 in
theorem runeOf_nbsp (w : World) : Calls Tryz.prog 178 #[.string ⟨#[110, 98, 115, 112]⟩] w fun e w' => e = .returned (twoV (160, true)) ∧ w' = w := by
  go_enter Tryz.func178, Tryz.ntmps178
  go_wp2_with fail
  go_ret2
  exact ⟨rfl, rfl⟩
set_option maxHeartbeats 4000000 in
set_option maxRecDepth 100000 in
theorem runeOf_shy (w : World) : Calls Tryz.prog 178 #[.string ⟨#[115, 104, 121]⟩] w fun e w' => e = .returned (twoV (173, true)) ∧ w' = w := by
  go_enter Tryz.func178, Tryz.ntmps178
  go_wp2_with fail
  go_ret2
  exact ⟨rfl, rfl⟩
set_option maxHeartbeats 4000000 in
set_option maxRecDepth 100000 in
theorem runeOf_zwsp (w : World) : Calls Tryz.prog 178 #[.string ⟨#[122, 119, 115, 112]⟩] w fun e w' => e = .returned (twoV (8203, true)) ∧ w' = w := by
  go_enter Tryz.func178, Tryz.ntmps178
  go_wp2_with fail
  go_ret2
  exact ⟨rfl, rfl⟩
theorem pnum10_at (t : ByteArray) (ht : t.size ≤ 100000) (x : Int) (ok : Bool) (h : numP 10 t.data.toList = (x, ok)) (w : World) : Calls Tryz.prog 185 #[.string t, .int .i64 10] w fun e w' => e = .returned (.tuple #[.int .i32 x, .bool ok]) ∧ w' = w := by
  have := pnum_10 t ht w
  rw [h] at this
  exact this
theorem pnum16_at (t : ByteArray) (ht : t.size ≤ 100000) (x : Int) (ok : Bool) (h : numP 16 t.data.toList = (x, ok)) (w : World) : Calls Tryz.prog 185 #[.string t, .int .i64 16] w fun e w' => e = .returned (.tuple #[.int .i32 x, .bool ok]) ∧ w' = w := by
  have := pnum_16 t ht w
  rw [h] at this
  exact this
/-- an answer is that of the document -/
def Fits (p : Int × Bool) (q : Option Nat) : Prop := p.2 = q.isSome ∧ ∀ n, q = some n → p.1 = n
theorem fits_num (b : Nat) (l : List UInt8) : Fits (numP b l) (numRef b l) := by
  unfold numP numRef
  cases h : numL b l 0 with
  | none =>
    by_cases hl : l = []
    · rw [if_pos hl]; exact ⟨rfl, fun n hn => by cases hn⟩
    · rw [if_neg hl]; exact ⟨rfl, fun n hn => by cases hn⟩
  | some m =>
    by_cases hl : l = []
    · rw [if_pos hl]; exact ⟨by simp [hl], fun n hn => by cases hn⟩
    · rw [if_neg hl]
      exact ⟨by simp [hl], fun n hn => by obtain rfl := Option.some.inj hn; rfl⟩
theorem fits_no (x : Int) : Fits (x, false) none := ⟨rfl, fun n hn => by cases hn⟩
theorem two_stands {s : ByteArray} {a c : UInt8} : standsAt ⟨#[a, c]⟩ s 0 ↔ s.data.toList[0]? = some a ∧ s.data.toList[1]? = some c := by
  unfold standsAt
  show 0 + 2 ≤ s.size ∧ s.extract 0 (0 + 2) = _ ↔ _
  constructor
  · rintro ⟨h1, h2⟩
    have e0 := congrArg (fun x : ByteArray => x.data.toList) h2
    simp only [ext_list] at e0
    have f0 := congrArg (fun l : List UInt8 => l[0]?) e0
    have f1 := congrArg (fun l : List UInt8 => l[1]?) e0
    simpa using And.intro f0 f1
  · rintro ⟨h1, h2⟩
    have hl : 1 < s.size := by simpa using (List.getElem?_eq_some_iff.1 h2).1
    refine ⟨hl, ?_⟩
    apply ByteArray.ext
    apply Array.toList_inj.mp
    rw [ext_list, data_cons hl]
    rw [bytes_get s 0 (by omega)] at h1
    rw [bytes_get s 1 hl] at h2
    rw [Option.some.inj h1, Option.some.inj h2]
    rfl

set_option maxHeartbeats 8000000 in
set_option maxRecDepth 100000 in
theorem runeOf_rest (s : ByteArray) (hs : s.size ≤ 100000) (hno : ∀ j, j < 8 → nmA.getD j ⟨#[]⟩ ≠ s) (w : World) :
    Calls Tryz.prog 178 #[.string s] w fun e w' => (∃ p, e = .returned (twoV p) ∧ Fits p (bodyT s.data.toList)) ∧ w' = w := by
  have n0 : (s.toList == [97, 109, 112]) = false := by
    rw [beq_eq_false_iff_ne]
    exact fun e => hno 0 (by omega) (toList_inj' (by rw [e, Lib.toList_data]; rfl))
  have n1 : (s.toList == [108, 116]) = false := by
    rw [beq_eq_false_iff_ne]
    exact fun e => hno 1 (by omega) (toList_inj' (by rw [e, Lib.toList_data]; rfl))
  have n2 : (s.toList == [103, 116]) = false := by
    rw [beq_eq_false_iff_ne]
    exact fun e => hno 2 (by omega) (toList_inj' (by rw [e, Lib.toList_data]; rfl))
  have n3 : (s.toList == [113, 117, 111, 116]) = false := by
    rw [beq_eq_false_iff_ne]
    exact fun e => hno 3 (by omega) (toList_inj' (by rw [e, Lib.toList_data]; rfl))
  have n4 : (s.toList == [97, 112, 111, 115]) = false := by
    rw [beq_eq_false_iff_ne]
    exact fun e => hno 4 (by omega) (toList_inj' (by rw [e, Lib.toList_data]; rfl))
  have n5 : (s.toList == [110, 98, 115, 112]) = false := by
    rw [beq_eq_false_iff_ne]
    exact fun e => hno 5 (by omega) (toList_inj' (by rw [e, Lib.toList_data]; rfl))
  have n6 : (s.toList == [115, 104, 121]) = false := by
    rw [beq_eq_false_iff_ne]
    exact fun e => hno 6 (by omega) (toList_inj' (by rw [e, Lib.toList_data]; rfl))
  have n7 : (s.toList == [122, 119, 115, 112]) = false := by
    rw [beq_eq_false_iff_ne]
    exact fun e => hno 7 (by omega) (toList_inj' (by rw [e, Lib.toList_data]; rfl))
  clear hno
  cases e1 : decide (standsAt ⟨#[35]⟩ s 0)
  · have HF : Hid (Fits (0, false) (bodyT s.data.toList)) := by
      have : bodyT s.data.toList = none := by
        by_cases h2 : s.size < 2
        · exact bodyT_short h2
        · refine bodyT_no (by omega) (fun e => of_decide_eq_false e1 (stands_one.2 ?_))
          rw [bytes_get s 0 (by omega), UInt8.toNat_inj.mp (show s[0].toNat = (35 : UInt8).toNat from e)]
      show Fits _ _
      rw [this]; exact fits_no 0
    go_enter Tryz.func178, Tryz.ntmps178
    go_wp2_with (go_at_call 155; refine (prefix_dec s _ _).mono ?_; rintro e w' ⟨rfl, rfl⟩; rw [e1])
    all_goals go_light
    go_ret2
    exact ⟨⟨(0, false), rfl, HF.out⟩, rfl⟩
  · have h35 := stands_one.1 (of_decide_eq_true e1)
    have h1 : 0 < s.size := by simpa using (List.getElem?_eq_some_iff.1 h35).1
    have hc0 : s[0].toNat = 35 := by rw [bytes_get s 0 h1] at h35; rw [Option.some.inj h35]; rfl
    have hes1 : (s.extract 1 s.size).size ≤ 100000 := by rw [ByteArray.size_extract]; omega
    have hes2 : (s.extract 2 s.size).size ≤ 100000 := by rw [ByteArray.size_extract]; omega
    have hl1 : (s.extract 1 s.size).data.toList = s.data.toList.drop 1 := by rw [ext_list, List.take_of_length_le (by simp)]
    have hl2 : (s.extract 2 s.size).data.toList = s.data.toList.drop 2 := by rw [ext_list, List.take_of_length_le (by simp)]
    cases e2 : decide (standsAt ⟨#[35, 120]⟩ s 0)
    · cases e3 : decide (standsAt ⟨#[35, 88]⟩ s 0)
      · have HF : Hid (Fits (numP 10 (s.extract 1 s.size).data.toList) (bodyT s.data.toList)) := by
          show Fits _ _
          rw [hl1]
          by_cases h2 : s.size < 2
          · rw [bodyT_short h2, List.drop_of_length_le (by simp; omega)]
            exact fits_num 10 []
          · have g1 : s[1].toNat ≠ 120 := fun e => of_decide_eq_false e2 (two_stands.2 ⟨h35, by rw [bytes_get s 1 (by omega), UInt8.toNat_inj.mp (show s[1].toNat = (120 : UInt8).toNat from e)]⟩)
            have g2 : s[1].toNat ≠ 88 := fun e => of_decide_eq_false e3 (two_stands.2 ⟨h35, by rw [bytes_get s 1 (by omega), UInt8.toNat_inj.mp (show s[1].toNat = (88 : UInt8).toNat from e)]⟩)
            rw [bodyT_dec (by omega) hc0 g1 g2]
            exact fits_num 10 _
        obtain ⟨x, ok, hp⟩ : ∃ x ok, numP 10 (s.extract 1 s.size).data.toList = (x, ok) := ⟨_, _, rfl⟩
        rw [hp] at HF
        have HP := hid hp
        clear h35 hc0 hl1 hl2 hp
        go_enter Tryz.func178, Tryz.ntmps178
        go_wp2_with (first | (go_at_call 155; refine (prefix_dec s _ _).mono ?_; rintro e w' ⟨rfl, rfl⟩; first | rw [e1] | rw [e2] | rw [e3]) | (go_at_call 185; refine (pnum10_at (s.extract 1 s.size) hes1 x ok HP.out _).mono ?_; rintro e w' ⟨rfl, rfl⟩))
        all_goals go_light
        go_ret2
        exact ⟨⟨(x, ok), rfl, HF.out⟩, rfl⟩
      · have g := (two_stands.1 (of_decide_eq_true e3)).2
        have h2 : 1 < s.size := by simpa using (List.getElem?_eq_some_iff.1 g).1
        have HF : Hid (Fits (numP 16 (s.extract 2 s.size).data.toList) (bodyT s.data.toList)) := by
          show Fits _ _
          rw [hl2, bodyT_hex h2 hc0 (by rw [bytes_get s 1 h2] at g; rw [Option.some.inj g]; exact .inr rfl)]
          exact fits_num 16 _
        clear g
        obtain ⟨x, ok, hp⟩ : ∃ x ok, numP 16 (s.extract 2 s.size).data.toList = (x, ok) := ⟨_, _, rfl⟩
        rw [hp] at HF
        have HP := hid hp
        clear h35 hc0 hl1 hl2 hp
        go_enter Tryz.func178, Tryz.ntmps178
        go_wp2_with (first | (go_at_call 155; refine (prefix_dec s _ _).mono ?_; rintro e w' ⟨rfl, rfl⟩; first | rw [e1] | rw [e2] | rw [e3]) | (go_at_call 185; refine (pnum16_at (s.extract 2 s.size) hes2 x ok HP.out _).mono ?_; rintro e w' ⟨rfl, rfl⟩))
        all_goals go_light
        go_ret2
        exact ⟨⟨(x, ok), rfl, HF.out⟩, rfl⟩
    · have g := (two_stands.1 (of_decide_eq_true e2)).2
      have h2 : 1 < s.size := by simpa using (List.getElem?_eq_some_iff.1 g).1
      have HF : Hid (Fits (numP 16 (s.extract 2 s.size).data.toList) (bodyT s.data.toList)) := by
        show Fits _ _
        rw [hl2, bodyT_hex h2 hc0 (by rw [bytes_get s 1 h2] at g; rw [Option.some.inj g]; exact .inl rfl)]
        exact fits_num 16 _
      clear g
      obtain ⟨x, ok, hp⟩ : ∃ x ok, numP 16 (s.extract 2 s.size).data.toList = (x, ok) := ⟨_, _, rfl⟩
      rw [hp] at HF
      have HP := hid hp
      clear h35 hc0 hl1 hl2 hp
      go_enter Tryz.func178, Tryz.ntmps178
      go_wp2_with (first | (go_at_call 155; refine (prefix_dec s _ _).mono ?_; rintro e w' ⟨rfl, rfl⟩; first | rw [e1] | rw [e2]) | (go_at_call 185; refine (pnum16_at (s.extract 2 s.size) hes2 x ok HP.out _).mono ?_; rintro e w' ⟨rfl, rfl⟩))
      all_goals go_light
      go_ret2
      exact ⟨⟨(x, ok), rfl, HF.out⟩, rfl⟩
theorem runeOf_any (s : ByteArray) (hs : s.size ≤ 100000) (w : World) :
    Calls Tryz.prog 178 #[.string s] w fun e w' => (∃ p, e = .returned (twoV p) ∧ Fits p (bodyR s.data.toList)) ∧ w' = w := by
  by_cases h : ∀ j, j < 8 → nmA.getD j ⟨#[]⟩ ≠ s
  · rw [bodyR_rest h]
    exact runeOf_rest s hs h w
  · have h2 : ∃ j, j < 8 ∧ nmA.getD j ⟨#[]⟩ = s := by
      apply Classical.byContradiction
      intro hn
      exact h (fun j hj he => hn ⟨j, hj, he⟩)
    obtain ⟨j, hj, rfl⟩ := h2
    match j, hj with
    | 0, _ => exact (runeOf_amp w).mono (fun e w' ⟨h1, h2⟩ => ⟨⟨(38, true), h1, by decide, fun n hn => by obtain rfl := Option.some.inj hn; rfl⟩, h2⟩)
    | 1, _ => exact (runeOf_lt w).mono (fun e w' ⟨h1, h2⟩ => ⟨⟨(60, true), h1, by decide, fun n hn => by obtain rfl := Option.some.inj hn; rfl⟩, h2⟩)
    | 2, _ => exact (runeOf_gt w).mono (fun e w' ⟨h1, h2⟩ => ⟨⟨(62, true), h1, by decide, fun n hn => by obtain rfl := Option.some.inj hn; rfl⟩, h2⟩)
    | 3, _ => exact (runeOf_quot w).mono (fun e w' ⟨h1, h2⟩ => ⟨⟨(34, true), h1, by decide, fun n hn => by obtain rfl := Option.some.inj hn; rfl⟩, h2⟩)
    | 4, _ => exact (runeOf_apos w).mono (fun e w' ⟨h1, h2⟩ => ⟨⟨(39, true), h1, by decide, fun n hn => by obtain rfl := Option.some.inj hn; rfl⟩, h2⟩)
    | 5, _ => exact (runeOf_nbsp w).mono (fun e w' ⟨h1, h2⟩ => ⟨⟨(160, true), h1, by decide, fun n hn => by obtain rfl := Option.some.inj hn; rfl⟩, h2⟩)
    | 6, _ => exact (runeOf_shy w).mono (fun e w' ⟨h1, h2⟩ => ⟨⟨(173, true), h1, by decide, fun n hn => by obtain rfl := Option.some.inj hn; rfl⟩, h2⟩)
    | 7, _ => exact (runeOf_zwsp w).mono (fun e w' ⟨h1, h2⟩ => ⟨⟨(8203, true), h1, by decide, fun n hn => by obtain rfl := Option.some.inj hn; rfl⟩, h2⟩)
end Go.Proofs.YtkaeenafejdkfaaGreatDoor

/- The program: how long a reference's body is. -/
namespace Go.Proofs.YtkaeenafejdkfaaGreatDoor
open Go.RowKit

def bodyN (c : Nat) : Bool := alphaB c || decide (c = 35) || decide (48 ≤ c ∧ c ≤ 57)
theorem bodyN_eq (c : UInt8) : bodyN c.toNat = bodyB c := by
  unfold bodyN bodyB
  congr 1
  congr 1
  rw [Bool.eq_iff_iff, decide_eq_true_eq, beq_iff_eq]
  exact ⟨fun h => UInt8.toNat_inj.mp h, fun h => by rw [h]; rfl⟩
theorem span_take (s : ByteArray) (i : Nat) (hi : i ≤ s.size) : spanE bodyN s i = i + ((s.data.toList.drop i).takeWhile bodyB).length := by
  by_cases h : i < s.size
  · have e : s.data.toList.drop i = s[i] :: s.data.toList.drop (i + 1) := List.drop_eq_getElem_cons (by simpa using h)
    rw [e, List.takeWhile_cons]
    cases hb : bodyB s[i]
    · rw [spanE_stop h (by rw [bodyN_eq]; exact hb)]; simp
    · rw [spanE_step h (by rw [bodyN_eq]; exact hb), span_take s (i + 1) (by omega)]
      simp
      omega
  · rw [spanE_end (by omega), List.drop_of_length_le (by simp; omega)]
    simp
  termination_by s.size - i

theorem body_parts {c : Nat} : bodyN c = true ↔ alphaB c = true ∨ c = 35 ∨ (48 ≤ c ∧ c ≤ 57) := by
  unfold bodyN
  simp
  exact ⟨fun h => h.elim (fun h => h.elim .inl (fun h => .inr (.inl h))) (fun h => .inr (.inr h)), fun h => h.elim (fun h => .inl (.inl h)) (fun h => h.elim (fun h => .inl (.inr h)) (fun h => .inr h))⟩
theorem body_no {c : Nat} : bodyN c = false ↔ alphaB c = false ∧ c ≠ 35 ∧ (c < 48 ∨ 57 < c) := by
  have : bodyN c = false ↔ ¬ bodyN c = true := by simp
  rw [this, body_parts]
  cases alphaB c <;> simp <;> omega

set_option maxHeartbeats 4000000 in
set_option maxRecDepth 100000 in
theorem bodyLen_any (s : ByteArray) (hs : s.size ≤ 100000) (w : World) :
    Calls Tryz.prog 177 #[.string s] w fun e w' => e = .returned (.int .i64 (spanE bodyN s 0)) ∧ w' = w := by
  obtain ⟨e, E, a1, b1, g1, x1⟩ := spanE_is bodyN s 0 (by omega)
  rw [E]
  have G := hid g1
  have X := hid x1
  clear g1 x1 E
  go_enter Tryz.func177, Tryz.ntmps177
  go_wp2_with fail
  go_loop [6] (fun iv => ∃ k : Nat, k ≤ e ∧ iv = .int .i64 k) (fun iv => s.size - (intOf iv).toNat)
  case atStart => exact ⟨0, by omega, rfl⟩
  case round =>
    obtain ⟨k, hk, rfl⟩ := hrel
    by_cases hlt : k < e
    · obtain ⟨hsz, hp⟩ := G.out k (by omega) hlt
      obtain ⟨c, hc⟩ : ∃ c, s[k].toNat = c := ⟨_, rfl⟩
      rw [hc] at hp
      have HP := hid (body_parts.1 hp)
      clear G X hp
      cases ha : alphaB c
      all_goals go_wp2_with (go_at_call 156; refine (pletter_any c _).mono ?_; rintro e w' ⟨rfl, rfl⟩; rw [ha])
      all_goals go_light
      all_goals first
        | (refine ⟨⟨k + 1, by omega, by go_num⟩, ?_⟩; simp [intOf]; omega)
        | (exfalso; have hq := HP.out; simp_all; done)
        | (exfalso; have hq := HP.out; simp_all; omega)
    · obtain rfl : k = e := by omega
      by_cases hsz : k < s.size
      · have hp := X.out hsz
        obtain ⟨c, hc⟩ : ∃ c, s[k].toNat = c := ⟨_, rfl⟩
        rw [hc] at hp
        have HP := hid (body_no.1 hp)
        clear G X hp
        obtain ⟨ha, _⟩ := HP.out
        go_wp2_with (go_at_call 156; refine (pletter_any c _).mono ?_; rintro e w' ⟨rfl, rfl⟩; rw [ha])
        all_goals go_light
        all_goals first
          | (go_ret; exact ⟨rfl, rfl⟩)
          | (exfalso; have hq := HP.out; simp_all; done)
          | (exfalso; have hq := HP.out; simp_all; omega)
      · obtain rfl : k = s.size := by omega
        go_wp2_with fail
        go_ret
        exact ⟨rfl, rfl⟩
end Go.Proofs.YtkaeenafejdkfaaGreatDoor

/- The document's answer: an end tag; an attribute. -/
namespace Go.Proofs.YtkaeenafejdkfaaGreatDoor
open Go.RowKit

/-- a piece of the document's answer as a value -/
def rpv (kind : ByteArray) (fr to : Nat) (name text : ByteArray) (attrs : Value) : Value := .agg #[.string kind, .int .i64 fr, .int .i64 to, .string name, .string text, attrs]
def kNothing : ByteArray := ⟨#[110, 111, 116, 104, 105, 110, 103]⟩
def kEnd : ByteArray := ⟨#[101, 110, 100]⟩
def noS : ByteArray := ⟨#[]⟩
def endV (s : ByteArray) (i : Nat) : Value := match endP s i with
  | some (k, n) => rpv kEnd i k n noS (.slice none 0 0)
  | none => rpv kNothing i s.size noS noS (.slice none 0 0)

theorem six_cellsR {w : World} {b : Nat} {t : TypeId} {a0 a1 a2 a3 a4 a5 : Value} (h : w.heap[b]? = some (.cells #[a0, a1, a2, a3, a4, a5] t (0, 0))) : w.cell? ⟨b, 0, none⟩ = some a0 ∧ w.cell? ⟨b, 1, none⟩ = some a1 ∧ w.cell? ⟨b, 2, none⟩ = some a2 ∧ w.cell? ⟨b, 3, none⟩ = some a3 ∧ w.cell? ⟨b, 4, none⟩ = some a4 ∧ w.cell? ⟨b, 5, none⟩ = some a5 ∧ ∀ o, w.frozen? ⟨b, o, none⟩ = false := by
  refine ⟨?_, ?_, ?_, ?_, ?_, ?_, fun o => by simp [World.frozen?, h]⟩ <;> (rw [cell_of_row w b _ _ _ _ h]; rfl)

set_option maxHeartbeats 8000000 in
set_option maxRecDepth 100000 in
theorem rendTag_any (s : ByteArray) (i : Nat) (hs : s.size ≤ 100000) (hi : i + 2 ≤ s.size) (w : World) :
    Calls Tryz.prog 62 #[.string s, .int .i64 i] w fun e w' => e = .returned (endV s i) ∧ Below w.heap.size w w' := by
  obtain ⟨r, hr⟩ : ∃ r, r = endV s i := ⟨_, rfl⟩
  rw [← hr]
  have HR := hid hr
  clear hr
  obtain ⟨t, ht⟩ : ∃ t, spanE inTagB s (i + 2) = t := ⟨_, rfl⟩
  have ht1 : i + 2 ≤ t := by rw [← ht]; exact spanE_le _ _ _
  have ht2 : t ≤ s.size := by rw [← ht]; exact spanE_size _ _ _ hi
  have hne : ∀ w, Calls Tryz.prog 107 #[.string s, .int .i64 ((i : Int) + 2)] w fun e w' => e = .returned (.int .i64 t) ∧ w' = w := fun w => by
    have := nameEnd_any s (i + 2) hs hi w
    rw [ht] at this
    exact this
  cases hf : findE ⟨#[62]⟩ s t with
  | none =>
    have H : Hid (r = rpv kNothing i s.size noS noS (.slice none 0 0)) := by
      show r = _
      rw [HR.out]; unfold endV endP; simp only [ht, hf]
    clear HR
    go_enter Tryz.func62, Tryz.ntmps62
    go_wp2_with (first | (go_at_call 107; refine (hne _).mono ?_; rintro e w' ⟨rfl, rfl⟩) | (go_at_call 61; refine (find_miss s ⟨#[62]⟩ t hf hs (by decide) (by decide) ht2 _).mono ?_; rintro e w' ⟨rfl, rfl⟩))
    all_goals go_light
    refine bodyPost_ret (v := rpv kNothing i s.size noS noS (.slice none 0 0)) ?_ rfl ⟨by rw [H.out], (Below.refl _ _).alloc (Nat.le_refl _) _⟩
    simp [results, Tryz.results62, go_sem]
    rfl
  | some k =>
    obtain ⟨hk1, hk2, _⟩ := findE_some hf
    have hk3 : k < s.size := hk2.1
    have H : Hid (r = rpv kEnd i (k + 1) (smallS (s.extract (i + 2) t)) noS (.slice none 0 0)) := by
      show r = _
      rw [HR.out]; unfold endV endP; simp only [ht, hf]
    have hes : (s.extract (i + 2) t).size ≤ 100000 := by rw [ByteArray.size_extract]; omega
    clear HR
    go_enter Tryz.func62, Tryz.ntmps62
    go_wp2_with (first | (go_at_call 107; refine (hne _).mono ?_; rintro e w' ⟨rfl, rfl⟩) | (go_at_call 61; refine (find_hit s ⟨#[62]⟩ t k hf hs (by decide) (by decide) ht2 _).mono ?_; rintro e w' ⟨rfl, rfl⟩))
    refine (rsmall_any (s.extract (i + 2) t) hes _).mono ?_
    rintro e w1 ⟨rfl, hB⟩
    have hb0 := hB.block w.heap.size (by simp)
    rw [heap_alloc_new w] at hb0
    have HB : Hid (Below w.heap.size w w1) := ((Below.refl _ _).alloc (Nat.le_refl _) _).trans (hB.mono (by simp))
    obtain ⟨d0, d1, d2, d3, d4, d5, df⟩ := six_cellsR hb0
    clear hB hb0
    go_wp2_with fail
    all_goals go_light
    refine bodyPost_ret (v := rpv kEnd i (k + 1) (smallS (s.extract (i + 2) t)) noS (.slice none 0 0)) ?_ rfl ⟨by rw [H.out], ?_⟩
    · simp [results, Tryz.results62, go_sem, d0, d1, d2, d3, d4, d5]
      rfl
    · exact (((((HB.out.setCell (Nat.le_refl _) _).setCell (Nat.le_refl _) _).setCell (Nat.le_refl _) _).setCell (Nat.le_refl _) _).setCell (Nat.le_refl _) _).setCell (Nat.le_refl _) _
end Go.Proofs.YtkaeenafejdkfaaGreatDoor

/- Blocks of two cells; an attribute as a value. -/
namespace Go.Proofs.YtkaeenafejdkfaaGreatDoor
open Go.RowKit
theorem pair_cells {w : World} {b : Nat} {t : TypeId} {a0 a1 : Value} (h : w.heap[b]? = some (.cells #[a0, a1] t (0, 0))) : w.cell? ⟨b, 0, none⟩ = some a0 ∧ w.cell? ⟨b, 1, none⟩ = some a1 ∧ ∀ o, w.frozen? ⟨b, o, none⟩ = false := by
  refine ⟨?_, ?_, fun o => by simp [World.frozen?, h]⟩ <;> (rw [cell_of_row w b _ _ _ _ h]; rfl)
theorem size_of {w : World} {b : Nat} {o : Obj} (h : w.heap[b]? = some o) : b < w.heap.size := by
  rcases Nat.lt_or_ge b w.heap.size with h2 | h2
  · exact h2
  · rw [Array.getElem?_eq_none h2] at h; cases h
def attrV (p : ByteArray × ByteArray × Nat) : Value := .tuple #[.agg #[.string p.1, .string p.2.1], .int .i64 p.2.2]

end Go.Proofs.YtkaeenafejdkfaaGreatDoor

/- The program: a builder of texts. -/
namespace Go.Proofs.YtkaeenafejdkfaaGreatDoor
open Go.RowKit

set_option maxHeartbeats 4000000 in
set_option maxRecDepth 100000 in
theorem copyCheck_used (b : Nat) (w : World) (h0 : w.cell? ⟨b, 0, none⟩ = some (.pointer (some ⟨b, 0, none⟩))) :
    Calls Tryz.prog 169 #[.pointer (some ⟨b, 0, none⟩)] w fun e w' => e = .returned (.tuple #[]) ∧ w' = w := by
  have hj : ∃ j, Tryz.prog.info? 130 = some j := ⟨_, rfl⟩
  obtain ⟨j, hj⟩ := hj
  go_enter Tryz.func169, Tryz.ntmps169
  go_wp2
  rw [Lib.run_neq_ptr_same w _ Tryz.underlying127 hj]
  go_wp2
  go_end0
  exact ⟨rfl, rfl⟩

set_option maxHeartbeats 4000000 in
set_option maxRecDepth 100000 in
theorem copyCheck_fresh (b : Nat) (w : World) (h0 : w.cell? ⟨b, 0, none⟩ = some (.pointer none)) (hsh : w.shape? b = some (130, 2)) (hfz : w.frozen? ⟨b, 0, none⟩ = false) :
    Calls Tryz.prog 169 #[.pointer (some ⟨b, 0, none⟩)] w fun e w' => e = .returned (.tuple #[]) ∧ w' = w.setCell ⟨b, 0, none⟩ (.pointer (some ⟨b, 0, none⟩)) := by
  have hj : ∃ j, Tryz.prog.info? 130 = some j ∧ j.size ≠ 0 := ⟨_, rfl, by decide⟩
  obtain ⟨j, hj, hjs⟩ := hj
  go_enter Tryz.func169, Tryz.ntmps169
  go_wp2_with fail
  rw [Lib.run_to_unsafe w ⟨b, 0, none⟩ Tryz.underlying127 Tryz.underlying151 hj hjs hsh (Nat.zero_lt_succ 1)]
  simp only [Result.andThen]
  rw [Oper.upon_value]
  go_wp2_with fail
  rw [run_callFunc_extern Tryz.func182 (by kernel_rfl) (by kernel_rfl) (by kernel_rfl) (e := Extern.AbiNoEscape.same) (by kernel_rfl)]
  rw [Lib.run_noEscape]
  simp only [Result.andThen]
  rw [Oper.upon_value]
  go_wp2_with fail
  rw [Lib.run_from_unsafe w ⟨b, 0, none⟩ Tryz.underlying151 Tryz.underlying127 hj hsh (by kernel_rfl)]
  simp only [Result.andThen]
  rw [Oper.upon_value]
  go_wp2_with fail
  go_end0
  exact ⟨rfl, rfl⟩
theorem copyCheck_any (B b : Nat) (bs : List Value) (w : World) (h : Lib.IsBuilderF 130 5 B b bs w) :
    Calls Tryz.prog 169 #[.pointer (some ⟨b, 0, none⟩)] w fun e w' => e = .returned (.tuple #[]) ∧ (Lib.BuilderAtF 130 5 B b (.pointer (some ⟨b, 0, none⟩)) bs w' ∧ Below B w w') := by
  rcases h with h | h
  · refine (copyCheck_fresh b w h.cell0 h.shape h.frozen0).mono ?_
    rintro e w' ⟨rfl, rfl⟩
    exact ⟨rfl, h.used _, (Below.refl B w).setCell (p := ⟨b, 0, none⟩) h.1 _⟩
  · refine (copyCheck_used b w h.cell0).mono ?_
    rintro e w' ⟨rfl, rfl⟩
    exact ⟨rfl, h, Below.refl B _⟩
set_option maxRecDepth 100000 in
theorem byte_info : ∃ i : TypeInfo, Tryz.prog.info? 5 = some i ∧ i.zero = some (.int .u8 0) ∧ i.size = 1 ∧ i.bytes = 1 := ⟨_, rfl, rfl, rfl, rfl⟩

set_option maxHeartbeats 4000000 in
set_option maxRecDepth 100000 in
theorem writeString_any (B b : Nat) (bs : List Value) (s : ByteArray) (w : World) (h : Lib.IsBuilderF 130 5 B b bs w) (hlen : bs.length + s.size ≤ 1000000) (hBw : B ≤ w.heap.size) :
    Calls Tryz.prog 149 #[.pointer (some ⟨b, 0, none⟩), .string s] w fun e w' => e = .returned (.tuple #[.int .i64 s.size, .nilIface]) ∧ (Lib.BuilderAtF 130 5 B b (.pointer (some ⟨b, 0, none⟩)) (bs ++ Lib.strCells s) w' ∧ Below B w w') := by
  obtain ⟨i0, hi, hz0, hz1, hz2⟩ := byte_info
  go_enter Tryz.func149, Tryz.ntmps149
  go_wp2_with fail
  refine (copyCheck_any B b bs _ h).mono ?_
  rintro e w1 ⟨rfl, h1, hb1⟩
  obtain ⟨hB, v, hbk, hown, hne⟩ := h1
  have c0 : w1.cell? ⟨b, 0, none⟩ = some (.pointer (some ⟨b, 0, none⟩)) := by rw [Lib.cell_of_heap hbk]; rfl
  have c1 : w1.cell? ⟨b, 1, none⟩ = some v := by rw [Lib.cell_of_heap hbk]; rfl
  go_wp2_with (at_builtin; refine Lib.wpList_append_own_stringF _ rfl _ _ 128 9 rfl B 5 i0 Tryz.underlying128 Tryz.underlying9 hi hz0 hz1 hz2 _ _ _ rfl hown s rfl ?c3 ?c4 ?c5 ?_)
  case c3 => unfold maxLen; omega
  case c4 => omega
  case c5 => have := hb1.size; omega
  intro v' w2 hown' hgrow _
  have hlt : b < w1.heap.size := size_of hbk
  have hb2 : w2.heap[b]? = some (.cells #[.pointer (some ⟨b, 0, none⟩), v] 130 (0, 0)) := by
    rw [hgrow.block b hlt (fun e => hne e.symm)]
    exact hbk
  have d0 : w2.cell? ⟨b, 0, none⟩ = some (.pointer (some ⟨b, 0, none⟩)) := by rw [Lib.cell_of_heap hb2]; rfl
  have d1 : w2.cell? ⟨b, 1, none⟩ = some v := by rw [Lib.cell_of_heap hb2]; rfl
  have f1 : w2.frozen? ⟨b, 1, none⟩ = false := Lib.frozen_of_heap hb2 1
  obtain ⟨ao, n', cap, rfl⟩ : ∃ ao n' cap, v' = .slice ao n' cap := by
    rcases hown'.2 with ⟨hv, _⟩ | ⟨g, cap, cur, fz, hv, _⟩
    · exact ⟨_, _, _, hv⟩
    · exact ⟨_, _, _, hv⟩
  have HO := hid hown'
  have HG := hid hgrow
  have HW := hid hown
  clear hown' hgrow hown
  go_wp2_with fail
  go_ret2
  refine ⟨rfl, ?_, ?_⟩
  · exact Lib.BuilderAtF.put (T := 130) (e := 5) hB hb2 (bs' := bs ++ Lib.strCells s) (by simpa [Lib.strCells_length] using HO.out) (by decide)
  · exact (hb1.grown HG.out (by have := hb1.size; omega) (fun k hk => (HW.out.lt k hk).1)).setCell (p := ⟨b, 1, none⟩) hB _
end Go.Proofs.YtkaeenafejdkfaaGreatDoor
