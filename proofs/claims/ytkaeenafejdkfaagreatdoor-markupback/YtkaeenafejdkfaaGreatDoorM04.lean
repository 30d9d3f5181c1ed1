/- Bytes of texts: which are blank, letters, may stand in tags; how far bytes of a sort go. -/
import Derived.Test.YtkaeenafejdkfaaGreatDoorChecked
import Derived.WalkKit
import Derived.WalkSmall
import Derived.Deep.Light
import Derived.Deep.QuietTactic
import Derived.BigQuiet
import Derived.Laws.DeepStrings4
import Derived.Lib.Strings
import Derived.Laws.IdiomStrings
namespace Go.Proofs.YtkaeenafejdkfaaGreatDoor
open Go.RowKit

def blankB (c : Nat) : Bool := decide (c = 32 ∨ c = 9 ∨ c = 10 ∨ c = 12 ∨ c = 13)
def alphaB (c : Nat) : Bool := decide ((97 ≤ c ∧ c ≤ 122) ∨ (65 ≤ c ∧ c ≤ 90))
def betwB (c : Nat) : Bool := blankB c || decide (c = 47)
def inTagB (c : Nat) : Bool := !betwB c && decide (c ≠ 62)
def inAttrB (c : Nat) : Bool := inTagB c && decide (c ≠ 61)
def inValB (c : Nat) : Bool := !blankB c && decide (c ≠ 62)
def lowerB (c : UInt8) : UInt8 := if 65 ≤ c.toNat ∧ c.toNat ≤ 90 then c + 32 else c

theorem retb {a b : Bool} (h : a = b) : Ending.returned (.bool a) = .returned (.bool b) := by rw [h]
theorem retn {a b : Int} (h : a = b) : Ending.returned (.int .i64 a) = .returned (.int .i64 b) := by rw [h]
theorem rets {a b : ByteArray} (h : a = b) : Ending.returned (.string a) = .returned (.string b) := by rw [h]

/-- the byte at a place; 256: there is none -/
def bt (s : ByteArray) (i : Nat) : Nat := if h : i < s.size then s[i].toNat else 256
theorem bt_lt {s : ByteArray} {i : Nat} (h : i < s.size) : bt s i = s[i].toNat := by unfold bt; simp [h]
theorem bt_ge {s : ByteArray} {i : Nat} (h : s.size ≤ i) : bt s i = 256 := by unfold bt; simp [show ¬ i < s.size by omega]
/-- a piece that is no text begins there -/
def startB (s : ByteArray) (i : Nat) : Bool := bt s i == 60 && (bt s (i + 1) == 33 || bt s (i + 1) == 63 || (bt s (i + 1) == 47 && alphaB (bt s (i + 2))) || alphaB (bt s (i + 1)))

/-- how far bytes of a sort go from a place on -/
def spanE (p : Nat → Bool) (s : ByteArray) (i : Nat) : Nat := if h : i < s.size then (if p s[i].toNat then spanE p s (i + 1) else i) else i
  termination_by s.size - i

theorem spanE_step {p : Nat → Bool} {s : ByteArray} {i : Nat} (h : i < s.size) (hp : p s[i].toNat = true) : spanE p s i = spanE p s (i + 1) := by
  rw [spanE]; simp [h, hp]
theorem spanE_stop {p : Nat → Bool} {s : ByteArray} {i : Nat} (h : i < s.size) (hp : p s[i].toNat = false) : spanE p s i = i := by
  rw [spanE]; simp [h, hp]
theorem spanE_end {p : Nat → Bool} {s : ByteArray} {i : Nat} (h : s.size ≤ i) : spanE p s i = i := by
  rw [spanE]; simp [show ¬ i < s.size by omega]
theorem spanE_le (p : Nat → Bool) (s : ByteArray) (i : Nat) : i ≤ spanE p s i := by
  by_cases h : i < s.size
  · cases hp : p s[i].toNat
    · rw [spanE_stop h hp]; exact Nat.le_refl _
    · rw [spanE_step h hp]
      have := spanE_le p s (i + 1)
      omega
  · rw [spanE_end (by omega)]; exact Nat.le_refl _
  termination_by s.size - i
theorem spanE_size (p : Nat → Bool) (s : ByteArray) (i : Nat) (hi : i ≤ s.size) : spanE p s i ≤ s.size := by
  by_cases h : i < s.size
  · cases hp : p s[i].toNat
    · rw [spanE_stop h hp]; exact hi
    · rw [spanE_step h hp]
      exact spanE_size p s (i + 1) h
  · rw [spanE_end (by omega)]; exact hi
  termination_by s.size - i
/-- where it stops there is none -/
theorem spanE_none (p : Nat → Bool) (s : ByteArray) (i : Nat) (h : spanE p s i < s.size) : p s[spanE p s i].toNat = false := by
  by_cases hi : i < s.size
  · cases hp : p s[i].toNat
    · have e := spanE_stop hi hp
      simp only [e]
      exact hp
    · have e := spanE_step hi hp
      simp only [e]
      exact spanE_none p s (i + 1) (by rw [← e]; exact h)
  · have e : spanE p s i = i := spanE_end (by omega)
    omega
  termination_by s.size - i

/-- a text stands at a place -/
def standsAt (what s : ByteArray) (i : Nat) : Prop := i + what.size ≤ s.size ∧ s.extract i (i + what.size) = what
instance (what s : ByteArray) (i : Nat) : Decidable (standsAt what s i) := by unfold standsAt; infer_instance
/-- where a text is found, from a place on -/
def findE (what s : ByteArray) (i : Nat) : Option Nat := if i + what.size ≤ s.size then (if standsAt what s i then some i else if i < s.size then findE what s (i + 1) else none) else none
  termination_by s.size - i
theorem findE_none {what s : ByteArray} {i : Nat} (h : ¬ i + what.size ≤ s.size) : findE what s i = none := by rw [findE]; simp [h]
theorem findE_hit {what s : ByteArray} {i : Nat} (h : standsAt what s i) : findE what s i = some i := by rw [findE]; simp [h, h.1]
theorem findE_step {what s : ByteArray} {i : Nat} (h : i + what.size ≤ s.size) (hn : ¬ standsAt what s i) (hw : 0 < what.size) : findE what s i = findE what s (i + 1) := by
  rw [findE]; simp [h, hn, show i < s.size by omega]
theorem findE_some {what s : ByteArray} {i k : Nat} (h : findE what s i = some k) : i ≤ k ∧ standsAt what s k ∧ ∀ j, i ≤ j → j < k → ¬ standsAt what s j := by
  rw [findE] at h
  split at h
  · rename_i h1
    split at h
    · rename_i h2
      obtain rfl : i = k := by simpa using h
      exact ⟨Nat.le_refl _, h2, fun j a b => absurd b (by omega)⟩
    · rename_i h2
      split at h
      · obtain ⟨a, b, c⟩ := findE_some h
        refine ⟨by omega, b, fun j u v => ?_⟩
        by_cases hj : j = i
        · subst hj; exact h2
        · exact c j (by omega) v
      · cases h
  · cases h
  termination_by s.size - i
theorem findE_no {what s : ByteArray} {i : Nat} (hw : 0 < what.size) (h : findE what s i = none) : ∀ j, i ≤ j → ¬ standsAt what s j := by
  intro j hj hs
  by_cases hi : i + what.size ≤ s.size
  · by_cases h0 : standsAt what s i
    · rw [findE_hit h0] at h; cases h
    · rw [findE_step hi h0 hw] at h
      by_cases hij : j = i
      · subst hij; exact h0 hs
      · exact findE_no hw h j (by omega) hs
  · have := hs.1; omega
  termination_by s.size - i

/-- small letters -/
def smallL (l : List UInt8) : List UInt8 := l.map lowerB
def smallS (s : ByteArray) : ByteArray := ⟨(smallL s.data.toList).toArray⟩
end Go.Proofs.YtkaeenafejdkfaaGreatDoor

/- The document's answer: bytes of a sort; small letters; a text found in another one. -/
namespace Go.Proofs.YtkaeenafejdkfaaGreatDoor
open Go.RowKit

theorem rblank_any (c : Nat) (w : World) : Calls Tryz.prog 69 #[.int .u8 c] w fun e w' => e = .returned (.bool (blankB c)) ∧ w' = w := by
  go_enter Tryz.func69, Tryz.ntmps69
  go_wp2
  all_goals go_ret
  all_goals refine ⟨retb ?_, rfl⟩
  all_goals (rw [Bool.eq_iff_iff]; unfold blankB; simp; try omega)
theorem ralpha_any (c : Nat) (w : World) : Calls Tryz.prog 104 #[.int .u8 c] w fun e w' => e = .returned (.bool (alphaB c)) ∧ w' = w := by
  go_enter Tryz.func104, Tryz.ntmps104
  go_wp2
  all_goals go_ret
  all_goals refine ⟨retb ?_, rfl⟩
  all_goals (rw [Bool.eq_iff_iff]; unfold alphaB; simp; try omega)

theorem toList_inj' {a b : ByteArray} (h : a.toList = b.toList) : a = b := by
  rw [Lib.toList_data, Lib.toList_data] at h
  exact ByteArray.ext (Array.toList_inj.mp h)

set_option maxHeartbeats 4000000 in
set_option maxRecDepth 100000 in
theorem rfind_any (s what : ByteArray) (i0 : Nat) (hs : s.size ≤ 100000) (hw : 0 < what.size) (hw2 : what.size ≤ 100) (hi : i0 ≤ s.size) (w : World) :
    Calls Tryz.prog 61 #[.string s, .string what, .int .i64 i0] w fun e w' => e = .returned (.int .i64 (match findE what s i0 with | some k => (k : Int) | none => -1)) ∧ w' = w := by
  obtain ⟨r, hr⟩ : ∃ r : Int, r = (match findE what s i0 with | some k => (k : Int) | none => -1) := ⟨_, rfl⟩
  rw [← hr]
  have HR : Hid (r = (match findE what s i0 with | some k => (k : Int) | none => -1)) := hr
  clear hr
  go_enter Tryz.func61, Tryz.ntmps61
  go_wp2
  go_loop [7] (fun i => ∃ k : Nat, k ≤ s.size ∧ i = .int .i64 k ∧ Hid (findE what s i0 = findE what s k)) (fun i => s.size - (intOf i).toNat)
  case atStart => exact ⟨i0, hi, rfl, (rfl : findE what s i0 = findE what s i0)⟩
  case round =>
    obtain ⟨k, hk, rfl, ha⟩ := hrel
    by_cases hlt : k + what.size ≤ s.size
    · by_cases hst : s.extract k (k + what.size) = what
      · have H : Hid (r = k) := by
          show r = k
          rw [HR.out, ha.out, findE_hit ⟨hlt, hst⟩]
        go_wp2
        all_goals go_light
        go_ret
        exact ⟨retn H.out.symm, rfl⟩
      · have H : Hid (findE what s i0 = findE what s (k + 1)) := by
          show findE what s i0 = findE what s (k + 1)
          rw [ha.out, findE_step hlt (fun h => hst h.2) hw]
        go_wp2
        all_goals go_light
        · rename_i h0 _
          exact absurd (toList_inj' (eq_of_beq h0)) hst
        · refine ⟨⟨k + 1, by omega, by go_num, H⟩, ?_⟩
          simp [intOf]
          omega
    · have H : Hid (r = -1) := by
        show r = -1
        rw [HR.out, ha.out, findE_none hlt]
      go_wp2
      go_ret
      exact ⟨retn H.out.symm, rfl⟩

set_option maxHeartbeats 4000000 in
set_option maxRecDepth 100000 in
theorem nameEnd_any (s : ByteArray) (i0 : Nat) (hs : s.size ≤ 100000) (hi : i0 ≤ s.size) (w : World) :
    Calls Tryz.prog 107 #[.string s, .int .i64 i0] w fun e w' => e = .returned (.int .i64 (spanE inTagB s i0)) ∧ w' = w := by
  obtain ⟨r, hr⟩ : ∃ r : Nat, r = spanE inTagB s i0 := ⟨_, rfl⟩
  rw [← hr]
  have HR : Hid (r = spanE inTagB s i0) := hr
  clear hr
  go_enter Tryz.func107, Tryz.ntmps107
  go_wp2
  go_loop [1] (fun i => ∃ k : Nat, k ≤ s.size ∧ i = .int .i64 k ∧ Hid (r = spanE inTagB s k)) (fun i => s.size - (intOf i).toNat)
  case atStart => exact ⟨i0, hi, rfl, HR⟩
  case round =>
    obtain ⟨k, hk, rfl, ha⟩ := hrel
    by_cases hlt : k < s.size
    · obtain ⟨c, hc⟩ : ∃ c, s[k].toNat = c := ⟨_, rfl⟩
      cases hb : inTagB c
      · have H : Hid (r = k) := ha.out.trans (spanE_stop hlt (by rw [hc]; exact hb))
        have HB : Hid (inTagB c = false) := hb
        clear hb
        go_wp2_with (go_at_call 69; refine (rblank_any c _).mono ?_; rintro e w' ⟨rfl, rfl⟩; cases hq : blankB c)
        all_goals go_light
        all_goals first
          | (go_ret; exact ⟨retn (by rw [H.out]), rfl⟩)
          | (exfalso; have h2 := HB.out; unfold inTagB betwB at h2; simp_all; done)
          | (exfalso; have h2 := HB.out; unfold inTagB betwB at h2; simp_all; omega)
      · have H : Hid (r = spanE inTagB s (k + 1)) := ha.out.trans (spanE_step hlt (by rw [hc]; exact hb))
        have HB : Hid (inTagB c = true) := hb
        clear hb
        go_wp2_with (go_at_call 69; refine (rblank_any c _).mono ?_; rintro e w' ⟨rfl, rfl⟩; cases hq : blankB c)
        all_goals go_light
        all_goals first
          | (refine ⟨⟨k + 1, by omega, by go_num, H⟩, ?_⟩; simp [intOf]; omega)
          | (exfalso; have h2 := HB.out; unfold inTagB betwB at h2; simp_all; done)
          | (exfalso; have h2 := HB.out; unfold inTagB betwB at h2; simp_all; omega)
    · have H : Hid (r = k) := ha.out.trans (spanE_end (by omega))
      go_wp2
      go_ret
      exact ⟨retn (by rw [H.out]), rfl⟩
end Go.Proofs.YtkaeenafejdkfaaGreatDoor

/- The document's answer: small letters; where a piece begins that is no text. -/
namespace Go.Proofs.YtkaeenafejdkfaaGreatDoor
open Go.RowKit
theorem alpha256 : alphaB 256 = false := rfl
theorem alpha47 : alphaB 47 = false := rfl
theorem hid {p : Prop} (h : p) : Hid p := h

theorem cast_ne {c : Nat} {k : Nat} (h : c ≠ k) : ¬ (c : Int) = (k : Int) := by omega
set_option maxHeartbeats 4000000 in
set_option maxRecDepth 100000 in
theorem begins_any (s : ByteArray) (i : Nat) (hs : s.size ≤ 100000) (hi : i < s.size) (w : World) :
    Calls Tryz.prog 59 #[.string s, .int .i64 i] w fun e w' => e = .returned (.bool (startB s i)) ∧ w' = w := by
  obtain ⟨r, hr⟩ : ∃ r, r = startB s i := ⟨_, rfl⟩
  rw [← hr]
  unfold startB at hr
  rw [bt_lt hi] at hr
  by_cases h60 : s[i].toNat = 60
  rotate_left
  · have HR := hid (show r = false by rw [hr]; simp [h60])
    clear hr
    have h60' := cast_ne h60
    go_enter Tryz.func59, Tryz.ntmps59
    go_wp2_with (go_at_call 104; refine (ralpha_any _ _).mono ?_; rintro e w' ⟨rfl, rfl⟩)
    all_goals go_light
    all_goals first
      | (go_ret; exact ⟨retb HR.out.symm, rfl⟩)
      | (exfalso; simp_all; done)
      | (exfalso; simp_all; omega)
  by_cases h1 : i + 1 < s.size
  rotate_left
  · rw [bt_ge (show s.size ≤ i + 1 by omega)] at hr
    have HR := hid (show r = false by rw [hr]; simp [alpha256])
    clear hr
    go_enter Tryz.func59, Tryz.ntmps59
    go_wp2_with (go_at_call 104; refine (ralpha_any _ _).mono ?_; rintro e w' ⟨rfl, rfl⟩)
    all_goals go_light
    all_goals first
      | (go_ret; exact ⟨retb HR.out.symm, rfl⟩)
      | (exfalso; simp_all; done)
      | (exfalso; simp_all; omega)
  rw [bt_lt h1, h60] at hr
  obtain ⟨c1, hc1⟩ : ∃ c, s[i + 1].toNat = c := ⟨_, rfl⟩
  rw [hc1] at hr
  by_cases h33 : c1 = 33 ∨ c1 = 63
  · have HR := hid (show r = true by rw [hr]; rcases h33 with h | h <;> subst h <;> rfl)
    clear hr
    rcases h33 with h | h <;> subst h
    all_goals
      go_enter Tryz.func59, Tryz.ntmps59
      go_wp2
      go_ret
      exact ⟨retb HR.out.symm, rfl⟩
  have g1 := cast_ne (show c1 ≠ 33 by omega)
  have g2 := cast_ne (show c1 ≠ 63 by omega)
  by_cases h47 : c1 = 47
  rotate_left
  · have HR := hid (show r = alphaB c1 by rw [hr]; simp [h47, show c1 ≠ 33 by omega, show c1 ≠ 63 by omega])
    clear hr
    have g3 := cast_ne h47
    go_enter Tryz.func59, Tryz.ntmps59
    go_wp2_with (go_at_call 104; refine (ralpha_any _ _).mono ?_; rintro e w' ⟨rfl, rfl⟩)
    all_goals go_light
    all_goals first
      | (go_ret; exact ⟨retb HR.out.symm, rfl⟩)
      | (exfalso; simp_all; done)
      | (exfalso; simp_all; omega)
  subst h47
  by_cases h2 : i + 2 < s.size
  · rw [bt_lt h2] at hr
    obtain ⟨c2, hc2⟩ : ∃ c, s[i + 2].toNat = c := ⟨_, rfl⟩
    rw [hc2] at hr
    have HR := hid (show r = alphaB c2 by rw [hr]; simp [alpha47])
    clear hr
    go_enter Tryz.func59, Tryz.ntmps59
    go_wp2_with (go_at_call 104; refine (ralpha_any _ _).mono ?_; rintro e w' ⟨rfl, rfl⟩)
    all_goals go_light
    all_goals first
      | (go_ret; exact ⟨retb HR.out.symm, rfl⟩)
      | (exfalso; simp_all; done)
      | (exfalso; simp_all; omega)
  · rw [bt_ge (show s.size ≤ i + 2 by omega)] at hr
    have HR := hid (show r = false by rw [hr]; simp [alpha256, alpha47])
    clear hr
    go_enter Tryz.func59, Tryz.ntmps59
    go_wp2_with (go_at_call 104; refine (ralpha_any _ _).mono ?_; rintro e w' ⟨rfl, rfl⟩)
    all_goals go_light
    all_goals first
      | (go_ret; exact ⟨retb HR.out.symm, rfl⟩)
      | (exfalso; simp_all; done)
      | (exfalso; simp_all; omega)

set_option maxRecDepth 100000 in
/-- one byte as a text -/
theorem conv_one (wr : World) (c : Nat) (h : c < 256) (i : Int) (hi : i = c) : (convert 128 9 (.slice (some ⟨wr.heap.size, 0, none⟩) 1 1)).run Tryz.prog (wr.alloc (.cells #[.int .u8 i] 5)) = .ok (.string ⟨#[UInt8.ofNat c]⟩) (wr.alloc (.cells #[.int .u8 i] 5)) := by
  subst hi
  have := run_convert_bytes_back (P := Tryz.prog) (wr.alloc (.cells #[.int .u8 (c : Int)] 5)) 128 9 5 ⟨wr.heap.size, 0, none⟩ 1 [UInt8.ofNat c] (by rfl) (by rfl) (by rfl) (fun j hj => by
    obtain rfl : j = 0 := by simpa using hj
    have h1 := World.cell?_alloc_mark wr #[.int .u8 (c : Int)] 5 (0, 0) 0
    have h2 : (UInt8.ofNat c).toNat = c := by simp; omega
    show _ = some (Value.int .u8 (((UInt8.ofNat c).toNat : Nat) : Int))
    rw [h2]
    exact h1)
  simpa using this
theorem app_one (l : List UInt8) (a b : UInt8) (h : a = b) : (⟨l.toArray⟩ : ByteArray) ++ ⟨#[a]⟩ = ⟨(l ++ [b]).toArray⟩ := by
  subst h
  apply ByteArray.ext
  simp
theorem low_up {x : UInt8} {c : Nat} (hc : x.toNat = c) (h : 65 ≤ c ∧ c ≤ 90) : UInt8.ofNat c + 32 = lowerB x := by
  unfold lowerB
  rw [hc, if_pos h, ← hc]
  simp
theorem low_no {x : UInt8} {c : Nat} (hc : x.toNat = c) (h : ¬ (65 ≤ c ∧ c ≤ 90)) : UInt8.ofNat c = lowerB x := by
  unfold lowerB
  rw [hc, if_neg h, ← hc]
  simp
theorem smallL_snoc (s : ByteArray) (k : Nat) (h : k < s.size) : smallL (s.data.toList.take (k + 1)) = smallL (s.data.toList.take k) ++ [lowerB s[k]] := by
  unfold smallL
  rw [List.take_succ_eq_append_getElem (by simpa using h), List.map_append]
  rfl

set_option maxHeartbeats 4000000 in
set_option maxRecDepth 100000 in
theorem rsmall_any (s : ByteArray) (hs : s.size ≤ 100000) (w : World) :
    Calls Tryz.prog 68 #[.string s] w fun e w' => e = .returned (.string (smallS s)) ∧ Below w.heap.size w w' := by
  go_enter Tryz.func68, Tryz.ntmps68
  go_wp2
  go_loopw [3, 4] (fun ov iv wr => ∃ k : Nat, k ≤ s.size ∧ iv = .int .i64 k ∧ ov = .string ⟨(smallL (s.data.toList.take k)).toArray⟩ ∧ Hid (Below w.heap.size w wr)) (fun _ iv _ => s.size - (intOf iv).toNat)
  case atStart => exact ⟨0, by omega, rfl, rfl, hid (Below.refl _ _)⟩
  case round =>
    obtain ⟨k, hk, rfl, rfl, hB⟩ := hrel
    by_cases hlt : k < s.size
    · obtain ⟨c, hc⟩ : ∃ c, s[k].toNat = c := ⟨_, rfl⟩
      have hc256 : c < 256 := by rw [← hc]; exact s[k].toNat_lt
      have hl : (smallL (s.data.toList.take k)).length = k := by unfold smallL; simp; omega
      by_cases hup : 65 ≤ c ∧ c ≤ 90
      · have hcv := conv_one wr (c + 32) (by omega) ((c : Int) - 65 + 97) (by omega)
        have hup1 : (65 : Int) ≤ c := by omega
        have hup2 : (c : Int) ≤ 90 := by omega
        go_wp2
        all_goals go_light
        · refine ⟨⟨k + 1, by omega, by go_num, ?_, hid (hB.out.alloc hB.out.size _)⟩, ?_⟩
          · rw [smallL_snoc s k hlt]
            exact congrArg Value.string (app_one _ _ _ (low_up hc hup))
          · simp [intOf]
            omega
      · have hcv := conv_one wr c hc256 c rfl
        by_cases hup1 : c < 65
        · have hup2 : (c : Int) < 65 := by omega
          go_wp2
          all_goals go_light
          · refine ⟨⟨k + 1, by omega, by go_num, ?_, hid (hB.out.alloc hB.out.size _)⟩, ?_⟩
            · rw [smallL_snoc s k hlt]
              exact congrArg Value.string (app_one _ _ _ (low_no hc hup))
            · simp [intOf]
              omega
        · have hup2 : (65 : Int) ≤ c := by omega
          have hup3 : (90 : Int) < c := by omega
          go_wp2
          all_goals go_light
          · refine ⟨⟨k + 1, by omega, by go_num, ?_, hid (hB.out.alloc hB.out.size _)⟩, ?_⟩
            · rw [smallL_snoc s k hlt]
              exact congrArg Value.string (app_one _ _ _ (low_no hc hup))
            · simp [intOf]
              omega
    · have hke : k = s.size := by omega
      go_wp2
      go_ret
      refine ⟨rets ?_, hB.out⟩
      unfold smallS
      rw [hke, List.take_of_length_le (by simp)]
end Go.Proofs.YtkaeenafejdkfaaGreatDoor

/- What references stand for, as plain mathematics: a number's digits, the eight names, runes as bytes, a text with its references put in. -/
namespace Go.Proofs.YtkaeenafejdkfaaGreatDoor

/-- a digit's worth; -1: it is none -/
def digI (c : Nat) : Int := if 48 ≤ c ∧ c ≤ 57 then (c : Int) - 48 else if 97 ≤ c ∧ c ≤ 102 then (c : Int) - 87 else if 65 ≤ c ∧ c ≤ 70 then (c : Int) - 55 else -1
theorem digI_lt (c : Nat) : digI c < 16 := by unfold digI; split <;> (try split) <;> (try split) <;> omega
theorem digI_ge (c : Nat) : -1 ≤ digI c := by unfold digI; split <;> (try split) <;> (try split) <;> omega
/-- the number of digits; none: one is no digit of that base -/
def numL (base : Nat) : List UInt8 → Nat → Option Nat
  | [], n => some n
  | c :: l, n => if digI c.toNat < 0 ∨ (base : Int) ≤ digI c.toNat then none else numL base l (n * base + (digI c.toNat).toNat)
/-- the rune that a number tells -/
def runeN (n : Nat) : Nat := if n = 0 ∨ 1114111 < n ∨ (55296 ≤ n ∧ n ≤ 57343) then 65533 else n
def ampL : List UInt8 := [97, 109, 112]
def ltL : List UInt8 := [108, 116]
def gtL : List UInt8 := [103, 116]
def quotL : List UInt8 := [113, 117, 111, 116]
def aposL : List UInt8 := [97, 112, 111, 115]
def nbspL : List UInt8 := [110, 98, 115, 112]
def shyL : List UInt8 := [115, 104, 121]
def zwspL : List UInt8 := [122, 119, 115, 112]
def numRef (base : Nat) (l : List UInt8) : Option Nat := if l = [] then none else (numL base l 0).map runeN
/-- what is left where no name fits -/
def bodyT (l : List UInt8) : Option Nat := match l with
  | 35 :: c :: r => if c = 120 ∨ c = 88 then numRef 16 r else numRef 10 (c :: r)
  | _ => none
/-- what a reference's body stands for -/
def bodyR (l : List UInt8) : Option Nat :=
  if l = ampL then some 38 else if l = ltL then some 60 else if l = gtL then some 62 else if l = quotL then some 34 else if l = aposL then some 39
  else if l = nbspL then some 160 else if l = shyL then some 173 else if l = zwspL then some 8203
  else bodyT l
/-- the capped number (the document's answer stops at 2^24) -/
theorem numL_ge (base : Nat) : ∀ (l : List UInt8) (n m : Nat), 1 ≤ base → numL base l n = some m → n ≤ m
  | [], n, m, _, h => by simp [numL] at h; omega
  | c :: l, n, m, hb, h => by
    unfold numL at h
    split at h
    · cases h
    · have := numL_ge base l _ m hb h
      have h2 : n ≤ n * base := Nat.le_mul_of_pos_right n hb
      omega
/-- bytes of a rune -/
def runeL (n : Nat) : List UInt8 :=
  if n < 128 then [UInt8.ofNat n]
  else if n < 2048 then [UInt8.ofNat (192 + n / 64), UInt8.ofNat (128 + n % 64)]
  else if n < 65536 then [UInt8.ofNat (224 + n / 4096), UInt8.ofNat (128 + n / 64 % 64), UInt8.ofNat (128 + n % 64)]
  else [UInt8.ofNat (240 + n / 262144), UInt8.ofNat (128 + n / 4096 % 64), UInt8.ofNat (128 + n / 64 % 64), UInt8.ofNat (128 + n % 64)]
def bodyB (c : UInt8) : Bool := alphaB c.toNat || c == 35 || decide (48 ≤ c.toNat ∧ c.toNat ≤ 57)
/-- what stands behind a `&`, if it is a reference: its rune, and how many bytes it has with its `;` -/
def refAt (l : List UInt8) : Option (Nat × Nat) :=
  let b := l.takeWhile bodyB
  if l[b.length]? = some 59 then (bodyR b).map fun r => (r, b.length + 1) else none
/-- a text with what its references stand for -/
def meantL : Nat → List UInt8 → List UInt8
  | 0, _ => []
  | _ + 1, [] => []
  | f + 1, c :: l => if c = 38 then (match refAt l with
      | some (r, n) => runeL r ++ meantL f (l.drop n)
      | none => c :: meantL f l) else c :: meantL f l
end Go.Proofs.YtkaeenafejdkfaaGreatDoor

/- The document's answer: digits; runes as bytes. -/
namespace Go.Proofs.YtkaeenafejdkfaaGreatDoor
open Go.RowKit

theorem foldl_push_ints : ∀ (l : List Int) (r : ByteArray), l.foldl (fun r n => r.push (UInt8.ofNat n.toNat)) r = ⟨r.data ++ (l.map fun n => UInt8.ofNat n.toNat).toArray⟩
  | [], r => by simp
  | b :: l, r => by
    simp only [List.foldl_cons]
    rw [foldl_push_ints l]
    simp [ByteArray.push]

set_option maxRecDepth 100000 in
/-- numbers in a new row as a text -/
theorem conv_ints (wr : World) (l : List Int) (C : Array Value) (hC : C = (l.map (Value.int .u8)).toArray) :
    (convert 128 9 (.slice (some ⟨wr.heap.size, 0, none⟩) l.length l.length)).run Tryz.prog (wr.alloc (.cells C 5)) = .ok (.string ⟨(l.map fun n => UInt8.ofNat n.toNat).toArray⟩) (wr.alloc (.cells C 5)) := by
  rw [run_convert_bytes_string (P := Tryz.prog) _ 128 9 5 (some ⟨wr.heap.size, 0, none⟩) l.length l.length (by rfl) (by rfl) (by rfl)]
  have hl := run_loadCells_list (P := Tryz.prog) (wr.alloc (.cells C 5)) ⟨wr.heap.size, 0, none⟩ (l.map (Value.int .u8)) (fun j v hj => by
    have h1 := World.cell?_alloc_mark wr C 5 (0, 0) j
    have h3 : C[j]? = some v := by rw [hC]; simpa using hj
    rw [h3] at h1
    rw [← h1]
    show World.cell? _ _ = World.cell? _ ⟨wr.heap.size, j, none⟩
    congr 1
    simp [Addr.add]
    try omega)
  simp only [List.length_map] at hl
  rw [run_bytesToString _ ⟨wr.heap.size, 0, none⟩ l.length l.length l hl, foldl_push_ints]
  have he0 : ByteArray.empty.data = #[] := rfl
  rw [he0]
  simp

set_option maxHeartbeats 4000000 in
set_option maxRecDepth 100000 in
theorem rdigit_any (c : Nat) (w : World) : Calls Tryz.prog 131 #[.int .u8 c] w fun e w' => e = .returned (.int .i64 (digI c)) ∧ w' = w := by
  obtain ⟨r, hr⟩ : ∃ r, r = digI c := ⟨_, rfl⟩
  rw [← hr]
  have HR := hid hr
  clear hr
  go_enter Tryz.func131, Tryz.ntmps131
  go_wp2
  all_goals go_light
  all_goals go_ret
  all_goals (refine ⟨retn ?_, rfl⟩; rw [HR.out]; unfold digI)
  all_goals (first | (split <;> (try split) <;> (try split) <;> omega) | (simp_all; omega))

set_option maxHeartbeats 4000000 in
set_option maxRecDepth 20000 in
theorem rrune_any (x : Int) (h0 : 0 ≤ x) (hx : x ≤ 1114111) (w : World) : Calls Tryz.prog 106 #[.int .i64 x] w fun e w' => e = .returned (.string ⟨(runeL x.toNat).toArray⟩) ∧ Below w.heap.size w w' := by
  obtain ⟨r, hr⟩ : ∃ r, r = runeL x.toNat := ⟨_, rfl⟩
  rw [← hr]
  have HR := hid hr
  clear hr
  have c1 := conv_ints w [x] #[.int .u8 x] rfl
  have c2 := conv_ints w [192 + x / 64, 128 + x % 64] #[.int .u8 (192 + x / 64), .int .u8 (128 + x % 64)] rfl
  have c3 := conv_ints w [224 + x / 4096, 128 + x / 64 % 64, 128 + x % 64] #[.int .u8 (224 + x / 4096), .int .u8 (128 + x / 64 % 64), .int .u8 (128 + x % 64)] rfl
  have c4 := conv_ints w [240 + x / 262144, 128 + x / 4096 % 64, 128 + x / 64 % 64, 128 + x % 64] #[.int .u8 (240 + x / 262144), .int .u8 (128 + x / 4096 % 64), .int .u8 (128 + x / 64 % 64), .int .u8 (128 + x % 64)] rfl
  simp only [List.length_cons, List.length_nil, Nat.zero_add, Nat.reduceAdd, List.map_cons, List.map_nil] at c1 c2 c3 c4
  go_enter Tryz.func106, Tryz.ntmps106
  go_wp2
  all_goals clear c1 c2 c3 c4
  all_goals go_light
  · go_ret
    refine ⟨rets ?_, (Below.refl _ _).alloc (Nat.le_refl _) _⟩
    rw [HR.out]
    unfold runeL
    rw [if_pos (by omega)]
  · go_ret
    refine ⟨rets ?_, (Below.refl _ _).alloc (Nat.le_refl _) _⟩
    rw [HR.out]
    unfold runeL
    rw [if_neg (by omega), if_pos (by omega)]
    rw [show (192 + x / 64).toNat = 192 + x.toNat / 64 by omega, show (128 + x % 64).toNat = 128 + x.toNat % 64 by omega]
  · go_ret
    refine ⟨rets ?_, (Below.refl _ _).alloc (Nat.le_refl _) _⟩
    rw [HR.out]
    unfold runeL
    rw [if_neg (by omega), if_neg (by omega), if_pos (by omega)]
    rw [show (224 + x / 4096).toNat = 224 + x.toNat / 4096 by omega, show (128 + x / 64 % 64).toNat = 128 + x.toNat / 64 % 64 by omega, show (128 + x % 64).toNat = 128 + x.toNat % 64 by omega]
  · go_ret
    refine ⟨rets ?_, (Below.refl _ _).alloc (Nat.le_refl _) _⟩
    rw [HR.out]
    unfold runeL
    rw [if_neg (by omega), if_neg (by omega), if_neg (by omega)]
    rw [show (240 + x / 262144).toNat = 240 + x.toNat / 262144 by omega, show (128 + x / 4096 % 64).toNat = 128 + x.toNat / 4096 % 64 by omega, show (128 + x / 64 % 64).toNat = 128 + x.toNat / 64 % 64 by omega, show (128 + x % 64).toNat = 128 + x.toNat % 64 by omega]
end Go.Proofs.YtkaeenafejdkfaaGreatDoor
