/- How far bytes of a sort go: each byte on the way; where it stops. -/
import Derived.Test.YtkaeenafejdkfaaGreatDoorM06
import Derived.Test.YtkaeenafejdkfaaGreatDoorShelf
namespace Go.Proofs.YtkaeenafejdkfaaGreatDoor

theorem spanE_all (p : Nat → Bool) (s : ByteArray) (i k : Nat) (h1 : i ≤ k) (h2 : k < spanE p s i) : ∃ h : k < s.size, p s[k].toNat = true := by
  by_cases hi : i < s.size
  · cases hp : p s[i].toNat
    · rw [spanE_stop hi hp] at h2; omega
    · rw [spanE_step hi hp] at h2
      by_cases hk : k = i
      · subst hk; exact ⟨hi, hp⟩
      · exact spanE_all p s (i + 1) k (by omega) h2
  · rw [spanE_end (by omega)] at h2; omega
  termination_by s.size - i
/-- all that is known of where a sort stops -/
theorem spanE_is (p : Nat → Bool) (s : ByteArray) (i : Nat) (hi : i ≤ s.size) : ∃ e, spanE p s i = e ∧ i ≤ e ∧ e ≤ s.size ∧ (∀ k, i ≤ k → k < e → ∃ h : k < s.size, p s[k].toNat = true) ∧ (∀ h : e < s.size, p s[e].toNat = false) :=
  ⟨_, rfl, spanE_le p s i, spanE_size p s i hi, fun k h1 h2 => spanE_all p s i k h1 h2, fun h => spanE_none p s i h⟩
theorem inAttr_parts {c : Nat} : inAttrB c = true ↔ blankB c = false ∧ c ≠ 47 ∧ c ≠ 62 ∧ c ≠ 61 := by
  unfold inAttrB inTagB betwB
  simp
  constructor
  · rintro ⟨⟨⟨a, b⟩, c⟩, d⟩; exact ⟨a, b, c, d⟩
  · rintro ⟨a, b, c, d⟩; exact ⟨⟨⟨a, b⟩, c⟩, d⟩
theorem inAttr_no {c : Nat} (h : inAttrB c = false) : blankB c = true ∨ (blankB c = false ∧ (c = 47 ∨ c = 62 ∨ c = 61)) := by
  cases hb : blankB c
  · right
    refine ⟨rfl, ?_⟩
    have : ¬ inAttrB c = true := by rw [h]; simp
    rw [inAttr_parts] at this
    rcases Nat.decEq c 47 with h1 | h1
    · rcases Nat.decEq c 62 with h2 | h2
      · rcases Nat.decEq c 61 with h3 | h3
        · exact absurd ⟨hb, h1, h2, h3⟩ this
        · exact .inr (.inr h3)
      · exact .inr (.inl h2)
    · exact .inl h1
  · exact .inl rfl
theorem inVal_parts {c : Nat} : inValB c = true ↔ blankB c = false ∧ c ≠ 62 := by
  unfold inValB
  simp
theorem inVal_no {c : Nat} (h : inValB c = false) : blankB c = true ∨ (blankB c = false ∧ c = 62) := by
  cases hb : blankB c
  · right
    refine ⟨rfl, ?_⟩
    rcases Nat.decEq c 62 with h2 | h2
    · have : inValB c = true := inVal_parts.2 ⟨hb, h2⟩
      rw [h] at this; cases this
    · exact h2
  · exact .inl rfl
end Go.Proofs.YtkaeenafejdkfaaGreatDoor

/- The program: bytes of a sort; digits. -/
namespace Go.Proofs.YtkaeenafejdkfaaGreatDoor
open Go.RowKit

theorem pblank_any (c : Nat) (w : World) : Calls Tryz.prog 174 #[.int .u8 c] w fun e w' => e = .returned (.bool (blankB c)) ∧ w' = w := by
  go_enter Tryz.func174, Tryz.ntmps174
  go_wp2
  all_goals go_ret
  all_goals refine ⟨retb ?_, rfl⟩
  all_goals (rw [Bool.eq_iff_iff]; unfold blankB; simp; try omega)
theorem pletter_any (c : Nat) (w : World) : Calls Tryz.prog 156 #[.int .u8 c] w fun e w' => e = .returned (.bool (alphaB c)) ∧ w' = w := by
  go_enter Tryz.func156, Tryz.ntmps156
  go_wp2
  all_goals go_ret
  all_goals refine ⟨retb ?_, rfl⟩
  all_goals (rw [Bool.eq_iff_iff]; unfold alphaB; simp; try omega)
theorem pbetw_any (c : Nat) (w : World) : Calls Tryz.prog 161 #[.int .u8 c] w fun e w' => e = .returned (.bool (betwB c)) ∧ w' = w := by
  go_enter Tryz.func161, Tryz.ntmps161
  cases hq : blankB c
  all_goals go_wp2_with (go_at_call 174; refine (pblank_any c _).mono ?_; rintro e w' ⟨rfl, rfl⟩; rw [hq])
  all_goals go_ret
  all_goals refine ⟨retb ?_, rfl⟩
  all_goals (rw [Bool.eq_iff_iff]; unfold betwB; simp [hq]; try omega)
theorem pinTag_any (c : Nat) (w : World) : Calls Tryz.prog 160 #[.int .u8 c] w fun e w' => e = .returned (.bool (inTagB c)) ∧ w' = w := by
  go_enter Tryz.func160, Tryz.ntmps160
  cases hq : betwB c
  all_goals go_wp2_with (go_at_call 161; refine (pbetw_any c _).mono ?_; rintro e w' ⟨rfl, rfl⟩; rw [hq])
  all_goals go_ret
  all_goals refine ⟨retb ?_, rfl⟩
  all_goals (rw [Bool.eq_iff_iff]; unfold inTagB; simp [hq]; try omega)
theorem pinAttr_any (c : Nat) (w : World) : Calls Tryz.prog 175 #[.int .u8 c] w fun e w' => e = .returned (.bool (inAttrB c)) ∧ w' = w := by
  go_enter Tryz.func175, Tryz.ntmps175
  cases hq : inTagB c
  all_goals go_wp2_with (go_at_call 160; refine (pinTag_any c _).mono ?_; rintro e w' ⟨rfl, rfl⟩; rw [hq])
  all_goals go_ret
  all_goals refine ⟨retb ?_, rfl⟩
  all_goals (rw [Bool.eq_iff_iff]; unfold inAttrB; simp [hq]; try omega)
theorem pinVal_any (c : Nat) (w : World) : Calls Tryz.prog 184 #[.int .u8 c] w fun e w' => e = .returned (.bool (inValB c)) ∧ w' = w := by
  go_enter Tryz.func184, Tryz.ntmps184
  cases hq : blankB c
  all_goals go_wp2_with (go_at_call 174; refine (pblank_any c _).mono ?_; rintro e w' ⟨rfl, rfl⟩; rw [hq])
  all_goals go_ret
  all_goals refine ⟨retb ?_, rfl⟩
  all_goals (rw [Bool.eq_iff_iff]; unfold inValB; simp [hq]; try omega)
/-- a digit's worth; 16: it is none -/
def digP (c : Nat) : Int := if digI c < 0 then 16 else digI c
set_option maxHeartbeats 4000000 in
set_option maxRecDepth 100000 in
theorem pdigit_any (c : Nat) (w : World) : Calls Tryz.prog 189 #[.int .u8 c] w fun e w' => e = .returned (.int .i64 (digP c)) ∧ w' = w := by
  obtain ⟨r, hr⟩ : ∃ r, r = digP c := ⟨_, rfl⟩
  rw [← hr]
  have HR := hid hr
  clear hr
  go_enter Tryz.func189, Tryz.ntmps189
  go_wp2
  all_goals go_light
  all_goals go_ret
  all_goals (refine ⟨retn ?_, rfl⟩; rw [HR.out]; unfold digP digI)
  all_goals (first | (split <;> (try split) <;> (try split) <;> (try split) <;> omega) | (simp_all; omega))
end Go.Proofs.YtkaeenafejdkfaaGreatDoor

/- The document's answer: a text with what its references stand for. -/
namespace Go.Proofs.YtkaeenafejdkfaaGreatDoor
open Go.RowKit

theorem bytes_get (s : ByteArray) (j : Nat) (h : j < s.size) : s.data.toList[j]? = some s[j] := by
  rw [List.getElem?_eq_getElem (by simpa using h)]
  rfl
theorem ext_list (s : ByteArray) (a b : Nat) : (s.extract a b).data.toList = (s.data.toList.drop a).take (b - a) := by
  rw [ByteArray.data_extract, Array.toList_extract]
theorem ext_one (s : ByteArray) (j : Nat) (h : j < s.size) : s.extract j (j + 1) = ⟨#[s[j]]⟩ := by
  apply ByteArray.ext
  apply Array.toList_inj.mp
  rw [ext_list, List.drop_eq_getElem_cons (by simpa using h)]
  simp
  rfl
theorem stands_one {s : ByteArray} {c : UInt8} {j : Nat} : standsAt ⟨#[c]⟩ s j ↔ s.data.toList[j]? = some c := by
  unfold standsAt
  show j + 1 ≤ s.size ∧ s.extract j (j + 1) = _ ↔ _
  constructor
  · rintro ⟨h1, h2⟩
    rw [ext_one s j h1] at h2
    rw [bytes_get s j h1]
    have := congrArg (fun x : ByteArray => x.data.toList) h2
    simpa using this
  · intro h
    have hl : j < s.size := by simpa using (List.getElem?_eq_some_iff.1 h).1
    rw [bytes_get s j hl] at h
    refine ⟨hl, ?_⟩
    rw [ext_one s j hl, Option.some.inj h]
theorem runeN_le (n : Nat) : runeN n ≤ 1114111 := by unfold runeN; split <;> omega
theorem numRef_le {b : Nat} {l : List UInt8} {n : Nat} (h : numRef b l = some n) : n ≤ 1114111 := by
  unfold numRef at h
  split at h
  · cases h
  · cases hn : numL b l 0 with
    | none => rw [hn] at h; cases h
    | some m =>
      rw [hn] at h
      obtain rfl : runeN m = n := by simpa using h
      exact runeN_le m
theorem bodyR_le {l : List UInt8} {n : Nat} (h : bodyR l = some n) : n ≤ 1114111 := by
  unfold bodyR at h
  iterate 8 (split at h; · obtain rfl := Option.some.inj h; decide)
  unfold bodyT at h
  split at h
  · split at h
    · exact numRef_le h
    · exact numRef_le h
  · cases h
theorem find_hit (s what : ByteArray) (i0 j : Nat) (h : findE what s i0 = some j) (hs : s.size ≤ 100000) (hw : 0 < what.size) (hw2 : what.size ≤ 100) (hi : i0 ≤ s.size) (w : World) :
    Calls Tryz.prog 61 #[.string s, .string what, .int .i64 i0] w fun e w' => e = .returned (.int .i64 j) ∧ w' = w := by
  have := rfind_any s what i0 hs hw hw2 hi w
  rw [h] at this
  exact this
theorem find_miss (s what : ByteArray) (i0 : Nat) (h : findE what s i0 = none) (hs : s.size ≤ 100000) (hw : 0 < what.size) (hw2 : what.size ≤ 100) (hi : i0 ≤ s.size) (w : World) :
    Calls Tryz.prog 61 #[.string s, .string what, .int .i64 i0] w fun e w' => e = .returned (.int .i64 (-1)) ∧ w' = w := by
  have := rfind_any s what i0 hs hw hw2 hi w
  rw [h] at this
  exact this
theorem stands_hit (s : ByteArray) (x : Int) (h0 : 0 ≤ x) (h : bodyR s.data.toList = some x.toNat) (hs : s.size ≤ 100000) (w : World) :
    Calls Tryz.prog 105 #[.string s] w fun e w' => e = .returned (.tuple #[.int .i64 x, .bool true]) ∧ Below w.heap.size w w' := by
  have := stands_any s hs w
  rw [h] at this
  rw [← Int.toNat_of_nonneg h0]
  exact this
theorem stands_miss (s : ByteArray) (h : bodyR s.data.toList = none) (hs : s.size ≤ 100000) (w : World) :
    Calls Tryz.prog 105 #[.string s] w fun e w' => e = .returned (.tuple #[.int .i64 0, .bool false]) ∧ Below w.heap.size w w' := by
  have := stands_any s hs w
  rw [h] at this
  exact this
/-- one byte further, as it stands -/
theorem meant_on {s : ByteArray} {k : Nat} {o : ByteArray} {L : List UInt8} (h : k < s.size) (hL : L = o.data.toList ++ meant (s.data.toList.drop k)) (hp : meant (s.data.toList.drop k) = s[k] :: meant (s.data.toList.drop (k + 1))) : L = (o ++ s.extract k (k + 1)).data.toList ++ meant (s.data.toList.drop (k + 1)) := by
  rw [hL, hp, ext_one s k h]
  simp

set_option maxHeartbeats 8000000 in
set_option maxRecDepth 100000 in
theorem rmeant_any (s : ByteArray) (hs : s.size ≤ 100000) (w : World) :
    Calls Tryz.prog 60 #[.string s] w fun e w' => e = .returned (.string ⟨(meant s.data.toList).toArray⟩) ∧ Below w.heap.size w w' := by
  go_enter Tryz.func60, Tryz.ntmps60
  go_wp2
  go_loopw [3, 4] (fun ov iv wr => ∃ (k : Nat) (o : ByteArray), k ≤ s.size ∧ iv = .int .i64 k ∧ ov = .string o ∧ o.size ≤ 4 * k ∧ Hid (meant s.data.toList = o.data.toList ++ meant (s.data.toList.drop k)) ∧ Hid (Below w.heap.size w wr)) (fun _ iv _ => s.size - (intOf iv).toNat)
  case atStart => exact ⟨0, ⟨#[]⟩, by omega, rfl, rfl, by decide, hid rfl, hid (Below.refl _ _)⟩
  case round =>
    obtain ⟨k, o, hk, rfl, rfl, ho, hm, hB⟩ := hrel
    by_cases hlt : k < s.size
    · obtain ⟨c, hc⟩ : ∃ c, s[k].toNat = c := ⟨_, rfl⟩
      have hcons : s.data.toList.drop k = s[k] :: s.data.toList.drop (k + 1) := List.drop_eq_getElem_cons (by simpa using hlt)
      have hesz : (s.extract k (k + 1)).size = 1 := by rw [ext_one s k hlt]; rfl
      by_cases h38 : c = 38
      · subst h38
        have hsk : s[k] = 38 := UInt8.toNat_inj.mp hc
        have hfn : ∀ j, k < j → (s.data.toList.drop (k + 1))[j - (k + 1)]? = s.data.toList[j]? := fun j hj => by
          rw [List.getElem?_drop]; congr 1; omega
        cases hf : findE ⟨#[59]⟩ s k with
        | none =>
          have hr : refAt (s.data.toList.drop (k + 1)) = none := refAt_none (fun i hi => by
            rw [List.getElem?_drop] at hi
            exact findE_no (by decide) hf (k + 1 + i) (by omega) (stands_one.2 hi))
          have H := hid (meant_on hlt hm.out (by rw [hcons, hsk, meant_no hr]))
          clear hcons hfn hsk hr
          go_wp2_with (go_at_call 61; refine (find_miss s ⟨#[59]⟩ k hf hs (by decide) (by decide) hk _).mono ?_; rintro e w' ⟨rfl, rfl⟩)
          all_goals go_light
          all_goals first
            | (refine ⟨⟨k + 1, _, by omega, by go_num, rfl, by rw [ByteArray.size_append, hesz]; omega, H, hB⟩, ?_⟩; simp [intOf]; omega)
            | (exfalso; simp_all; done)
        | some j =>
          obtain ⟨hkj, hst, hno⟩ := findE_some hf
          have h59 := stands_one.1 hst
          have hjs : j < s.size := by simpa using (List.getElem?_eq_some_iff.1 h59).1
          have hne : j ≠ k := fun e => by
            subst e
            rw [bytes_get s j hlt, hsk] at h59
            cases h59
          have hkj2 : k < j := by omega
          have hr := refAt_semi (l := s.data.toList.drop (k + 1)) (j := j - (k + 1)) (by rw [hfn j hkj2]; exact h59) (fun i hi hi2 => by
            rw [List.getElem?_drop] at hi2
            exact hno (k + 1 + i) (by omega) (by omega) (stands_one.2 hi2))
          rw [← ext_list s (k + 1) j] at hr
          have hes : (s.extract (k + 1) j).size ≤ 100000 := by rw [ByteArray.size_extract]; omega
          clear hno hst h59 hfn
          cases hb : bodyR (s.extract (k + 1) j).data.toList with
          | none =>
            rw [hb] at hr
            have H := hid (meant_on hlt hm.out (by rw [hcons, hsk, meant_no hr]))
            clear hcons hsk hr
            go_wp2_with (first | (go_at_call 61; refine (find_hit s ⟨#[59]⟩ k j hf hs (by decide) (by decide) hk _).mono ?_; rintro e w' ⟨rfl, rfl⟩) | (go_at_call 105; refine (stands_miss (s.extract (k + 1) j) hb hes _).mono ?_; rintro e w' ⟨rfl, hB2⟩))
            all_goals go_light
            refine ⟨⟨k + 1, _, by omega, by go_num, rfl, by rw [ByteArray.size_append, hesz]; omega, H, hid (hB.out.trans (hB2.mono hB.out.size))⟩, ?_⟩
            simp [intOf]
            omega
          | some n =>
            rw [hb] at hr
            have hn := bodyR_le hb
            obtain ⟨x, hx⟩ : ∃ x : Int, x = n := ⟨_, rfl⟩
            have hx0 : 0 ≤ x := by omega
            have hx1 : x ≤ 1114111 := by omega
            obtain rfl : n = x.toNat := by omega
            have hL : meant s.data.toList = (o ++ ⟨(runeL x.toNat).toArray⟩).data.toList ++ meant (s.data.toList.drop (j + 1)) := by
              rw [hm.out, hcons, hsk, meant_ref hr, List.drop_drop]
              simp
              congr 2
              omega
            have H := hid hL
            have hrs : (runeL x.toNat).length ≤ 4 := by unfold runeL; split <;> (try split) <;> (try split) <;> simp
            clear hcons hsk hr hL hx hn
            go_wp2_with (first | (go_at_call 61; refine (find_hit s ⟨#[59]⟩ k j hf hs (by decide) (by decide) hk _).mono ?_; rintro e w' ⟨rfl, rfl⟩) | (go_at_call 105; refine (stands_hit (s.extract (k + 1) j) x hx0 hb hes _).mono ?_; rintro e w' ⟨rfl, hB2⟩) | (go_at_call 106; refine (rrune_any x hx0 hx1 _).mono ?_; rintro e w' ⟨rfl, hB3⟩))
            all_goals go_light
            refine ⟨⟨j + 1, _, by omega, by go_num, rfl, ?_, H, hid ((hB.out.trans (hB2.mono hB.out.size)).trans (hB3.mono (hB.out.trans (hB2.mono hB.out.size)).size))⟩, ?_⟩
            · rw [ByteArray.size_append]
              show o.size + (runeL x.toNat).toArray.size ≤ _
              rw [List.size_toArray]
              omega
            · simp [intOf]
              omega
      · have H := hid (meant_on hlt hm.out (by rw [hcons, meant_plain (fun e => h38 (by rw [← hc, e]; rfl))]))
        have h38' := cast_ne h38
        clear hcons
        go_wp2
        all_goals go_light
        all_goals first
          | (refine ⟨⟨k + 1, _, by omega, by go_num, rfl, by rw [ByteArray.size_append, hesz]; omega, H, hB⟩, ?_⟩; simp [intOf]; omega)
          | (exfalso; simp_all; done)
    · have hke : k = s.size := by omega
      subst hke
      go_wp2
      go_ret
      refine ⟨rets ?_, hB.out⟩
      rw [hm.out, drop_size, meant_nil]
      simp
end Go.Proofs.YtkaeenafejdkfaaGreatDoor

/- The program: the rune that digits tell; how long a reference's body is. -/
namespace Go.Proofs.YtkaeenafejdkfaaGreatDoor
open Go.RowKit

theorem pdigit_at (c : Nat) (d : Int) (hd : digP c = d) (w : World) : Calls Tryz.prog 189 #[.int .u8 c] w fun e w' => e = .returned (.int .i64 d) ∧ w' = w := by
  rw [← hd]; exact pdigit_any c w
/-- what `numbered` answers -/
def numP (base : Nat) (l : List UInt8) : Int × Bool := match numL base l 0 with
  | none => (0, false)
  | some n => (runeN n, decide (l ≠ []))
def twoV (p : Int × Bool) : Value := .tuple #[.int .i32 p.1, .bool p.2]
theorem digP_lt {c : Nat} {d : Int} (h : digP c = d) (hd : d < 16) : digI c = d := by
  unfold digP at h; split at h <;> omega
theorem digP_bad {c : Nat} {d : Int} {b : Nat} (h : digP c = d) (hd : (b : Int) ≤ d) : digI c < 0 ∨ (b : Int) ≤ digI c := by
  unfold digP at h; split at h <;> omega
theorem digP_ge (c : Nat) : 0 ≤ digP c ∧ digP c ≤ 16 := by
  have := digI_lt c
  unfold digP; split <;> omega
theorem min_step {m b : Nat} {x d : Int} (hx : x = min (m : Int) 1114112) (hd : 0 ≤ d) (hb : 1 ≤ b) : min (x * b + d) 1114112 = min ((m * b + d.toNat : Nat) : Int) 1114112 := by
  have e : ((m * b + d.toNat : Nat) : Int) = (m : Int) * b + d := by rw [Int.natCast_add, Int.natCast_mul]; omega
  rw [e]
  rcases Int.le_total (m : Int) 1114112 with h | h
  · rw [Int.min_eq_left h] at hx; rw [hx]
  · rw [Int.min_eq_right h] at hx
    have h1 : (1114112 : Int) * 1 ≤ 1114112 * b := Int.mul_le_mul_of_nonneg_left (by omega) (by omega)
    have h2 : (1114112 : Int) * b ≤ (m : Int) * b := Int.mul_le_mul_of_nonneg_right h (by omega)
    rw [hx, Int.min_eq_right (by omega), Int.min_eq_right (by omega)]

theorem num_bad {m : Nat} {x : Int} (hx : x = min (m : Int) 1114112) (h : x = 0 ∨ Lib.validRune x = false) : (runeN m : Int) = 65533 := by
  unfold runeN
  rw [if_pos]
  · rfl
  · rcases h with h | h
    · left; omega
    · unfold Lib.validRune at h
      rw [decide_eq_false_iff_not] at h
      omega
theorem num_good {m : Nat} {x : Int} (hx : x = min (m : Int) 1114112) (h : ¬ (x = 0 ∨ Lib.validRune x = false)) : (runeN m : Int) = x := by
  have h2 : Lib.validRune x = true := by cases hv : Lib.validRune x; exact absurd (.inr hv) h; rfl
  unfold Lib.validRune at h2
  rw [decide_eq_true_eq] at h2
  have h0 : x ≠ 0 := fun e => h (.inl e)
  unfold runeN
  rw [if_neg (by omega)]
  omega

theorem emptyS (s : ByteArray) (h : s.size = 0) : s.toList.isEmpty = true := by
  rw [Lib.toList_data, List.isEmpty_iff]
  exact List.eq_nil_of_length_eq_zero (by simpa using h)
theorem notEmptyS (s : ByteArray) (h : 0 < s.size) : s.toList.isEmpty = false := by
  rw [Lib.toList_data]
  cases hl : s.data.toList with
  | nil =>
    have h2 : s.data.toList.length = 0 := by rw [hl]; rfl
    have h3 : s.data.toList.length = s.size := by simp
    omega
  | cons a l => rfl

set_option maxHeartbeats 8000000 in
set_option maxRecDepth 100000 in
theorem pnum_10 (s : ByteArray) (hs : s.size ≤ 100000) (w : World) :
    Calls Tryz.prog 185 #[.string s, .int .i64 10] w fun e w' => e = .returned (twoV (numP 10 s.data.toList)) ∧ w' = w := by
  obtain ⟨r, hr⟩ : ∃ r, r = numP 10 s.data.toList := ⟨_, rfl⟩
  rw [← hr]
  have HR := hid hr
  clear hr
  go_enter Tryz.func185, Tryz.ntmps185
  go_wp2_with fail
  go_loop [6, 11] (fun nv iv => ∃ (k : Nat) (x : Int), k ≤ s.size ∧ iv = .int .i64 k ∧ nv = .int .i64 x ∧ 0 ≤ x ∧ x ≤ 1114112 ∧ Hid (∃ m : Nat, numL 10 s.data.toList 0 = numL 10 (s.data.toList.drop k) m ∧ x = min (m : Int) 1114112)) (fun _ iv => s.size - (intOf iv).toNat)
  case atStart => exact ⟨0, 0, by omega, rfl, rfl, by omega, by omega, hid ⟨0, rfl, rfl⟩⟩
  case round =>
    obtain ⟨k, x, hk, rfl, rfl, hx0, hx1, hm⟩ := hrel
    by_cases hlt : k < s.size
    · obtain ⟨c, hc⟩ : ∃ c, s[k].toNat = c := ⟨_, rfl⟩
      obtain ⟨d, hd⟩ : ∃ d, digP c = d := ⟨_, rfl⟩
      have hd0 : 0 ≤ d := by rw [← hd]; exact (digP_ge c).1
      have hd1 : d ≤ 16 := by rw [← hd]; exact (digP_ge c).2
      have hll : k < s.data.toList.length := by simpa using hlt
      have hdl : digI s.data.toList[k].toNat = digI c := by rw [← hc]; rfl
      by_cases hbad : 10 ≤ d
      · have H : Hid (r = (0, false)) := by
          obtain ⟨m, hm1, _⟩ := hm.out
          show r = _
          rw [HR.out]
          unfold numP
          rw [hm1, numL_bad hll hdl (digP_bad (b := 10) hd hbad)]
        clear hdl hll
        go_wp2_with (go_at_call 189; refine (pdigit_at c d hd _).mono ?_; rintro e w' ⟨rfl, rfl⟩)
        all_goals go_light
        go_ret2
        exact ⟨by rw [H.out]; rfl, rfl⟩
      · have H : Hid (∃ m : Nat, numL 10 s.data.toList 0 = numL 10 (s.data.toList.drop (k + 1)) m ∧ min (x * 10 + d) 1114112 = min (m : Int) 1114112) := by
          obtain ⟨m, hm1, hm2⟩ := hm.out
          have hdd : digI s.data.toList[k].toNat = d := hdl.trans (digP_lt hd (by omega))
          exact ⟨_, hm1.trans (numL_step hll hdd hd0 (by omega)), min_step (b := 10) hm2 hd0 (by omega)⟩
        clear hdl hll
        go_wp2_with (go_at_call 189; refine (pdigit_at c d hd _).mono ?_; rintro e w' ⟨rfl, rfl⟩)
        all_goals go_light
        refine ⟨⟨k + 1, min (x * 10 + d) 1114112, by omega, by go_num, rfl, by omega, by omega, H⟩, ?_⟩
        simp [intOf]
        omega
    · obtain rfl : k = s.size := by omega
      have H : Hid (∃ m : Nat, r = ((runeN m : Int), decide (s.data.toList ≠ [])) ∧ x = min (m : Int) 1114112) := by
        obtain ⟨m, hm1, hm2⟩ := hm.out
        rw [drop_size] at hm1
        exact ⟨m, by rw [HR.out]; unfold numP; rw [hm1]; rfl, hm2⟩
      have hnz : x ≠ 0 → s.data.toList ≠ [] := by
        intro hx he
        obtain ⟨m, hm1, hm2⟩ := hm.out
        rw [drop_size, he] at hm1
        have : (0 : Nat) = m := by simpa [numL] using hm1
        subst this
        exact hx hm2
      clear HR hm
      obtain ⟨v, hv⟩ : ∃ v, Lib.validRune x = v := ⟨_, rfl⟩
      by_cases hx : x = 0 ∨ v = false
      · have H2 : Hid (r = (65533, decide (s.data.toList ≠ []))) := by
          obtain ⟨m, h1, h2⟩ := H.out
          show r = _
          rw [h1, num_bad h2 (by rw [hv]; exact hx)]
        clear H
        by_cases h0 : s.size = 0
        · have he := emptyS s h0
          have hr2 : decide (s.data.toList ≠ []) = false := by
            rw [decide_eq_false_iff_not]
            intro h
            exact h (List.eq_nil_of_length_eq_zero (by simpa using h0))
          rw [hr2] at H2
          clear h0 hr2
          rcases hx with hx | hx
          · have hq : (x == 0) = true := by rw [beq_iff_eq]; exact hx
            clear hx hv
            go_wp2_with (go_at_call 190; refine (Tryz.utf8_ValidRune _ _).mono ?_; rintro e w' ⟨rfl, rfl⟩)
            all_goals go_light
            all_goals first
              | (go_ret2; exact ⟨by rw [H2.out]; rfl, rfl⟩)
              | (exfalso; simp_all; done)
          · subst hx
            by_cases hx0' : x = 0
            · have hq : (x == 0) = true := by rw [beq_iff_eq]; exact hx0'
              clear hx0' hv
              go_wp2_with (go_at_call 190; refine (Tryz.utf8_ValidRune _ _).mono ?_; rintro e w' ⟨rfl, rfl⟩)
              all_goals go_light
              all_goals first
                | (go_ret2; exact ⟨by rw [H2.out]; rfl, rfl⟩)
                | (exfalso; simp_all; done)
            · have hq : (x == 0) = false := by rw [beq_eq_false_iff_ne]; exact hx0'
              go_wp2_with (go_at_call 190; refine (Tryz.utf8_ValidRune _ _).mono ?_; rintro e w' ⟨rfl, rfl⟩; rw [hv])
              all_goals go_light
              all_goals first
                | (go_ret2; exact ⟨by rw [H2.out]; rfl, rfl⟩)
                | (exfalso; simp_all; done)
        · have he := notEmptyS s (by omega)
          have hr2 : decide (s.data.toList ≠ []) = true := by
            rw [decide_eq_true_eq]
            intro h
            exact h0 (by have := congrArg List.length h; simpa using this)
          rw [hr2] at H2
          clear h0 hr2
          rcases hx with hx | hx
          · have hq : (x == 0) = true := by rw [beq_iff_eq]; exact hx
            clear hx hv
            go_wp2_with (go_at_call 190; refine (Tryz.utf8_ValidRune _ _).mono ?_; rintro e w' ⟨rfl, rfl⟩)
            all_goals go_light
            all_goals first
              | (go_ret2; exact ⟨by rw [H2.out]; rfl, rfl⟩)
              | (exfalso; simp_all; done)
          · subst hx
            by_cases hx0' : x = 0
            · have hq : (x == 0) = true := by rw [beq_iff_eq]; exact hx0'
              clear hx0' hv
              go_wp2_with (go_at_call 190; refine (Tryz.utf8_ValidRune _ _).mono ?_; rintro e w' ⟨rfl, rfl⟩)
              all_goals go_light
              all_goals first
                | (go_ret2; exact ⟨by rw [H2.out]; rfl, rfl⟩)
                | (exfalso; simp_all; done)
            · have hq : (x == 0) = false := by rw [beq_eq_false_iff_ne]; exact hx0'
              go_wp2_with (go_at_call 190; refine (Tryz.utf8_ValidRune _ _).mono ?_; rintro e w' ⟨rfl, rfl⟩; rw [hv])
              all_goals go_light
              all_goals first
                | (go_ret2; exact ⟨by rw [H2.out]; rfl, rfl⟩)
                | (exfalso; simp_all; done)
      · have H2 : Hid (r = (x, true)) := by
          obtain ⟨m, h1, h2⟩ := H.out
          show r = _
          rw [h1, num_good h2 (by rw [hv]; exact hx), show decide (s.data.toList ≠ []) = true by
            rw [decide_eq_true_eq]
            exact hnz (fun e => hx (.inl e))]
        clear H
        have hv2 : v = true := by cases v; exact absurd (.inr rfl) hx; rfl
        have hne : (x == 0) = false := by rw [beq_eq_false_iff_ne]; exact fun e => hx (.inl e)
        subst hv2
        go_wp2_with (go_at_call 190; refine (Tryz.utf8_ValidRune _ _).mono ?_; rintro e w' ⟨rfl, rfl⟩; rw [hv])
        all_goals go_light
        all_goals first
          | (go_ret2; exact ⟨by rw [H2.out]; rfl, rfl⟩)
          | (exfalso; simp_all; done)
set_option maxHeartbeats 8000000 in
set_option maxRecDepth 100000 in
theorem pnum_16 (s : ByteArray) (hs : s.size ≤ 100000) (w : World) :
    Calls Tryz.prog 185 #[.string s, .int .i64 16] w fun e w' => e = .returned (twoV (numP 16 s.data.toList)) ∧ w' = w := by
  obtain ⟨r, hr⟩ : ∃ r, r = numP 16 s.data.toList := ⟨_, rfl⟩
  rw [← hr]
  have HR := hid hr
  clear hr
  go_enter Tryz.func185, Tryz.ntmps185
  go_wp2_with fail
  go_loop [6, 11] (fun nv iv => ∃ (k : Nat) (x : Int), k ≤ s.size ∧ iv = .int .i64 k ∧ nv = .int .i64 x ∧ 0 ≤ x ∧ x ≤ 1114112 ∧ Hid (∃ m : Nat, numL 16 s.data.toList 0 = numL 16 (s.data.toList.drop k) m ∧ x = min (m : Int) 1114112)) (fun _ iv => s.size - (intOf iv).toNat)
  case atStart => exact ⟨0, 0, by omega, rfl, rfl, by omega, by omega, hid ⟨0, rfl, rfl⟩⟩
  case round =>
    obtain ⟨k, x, hk, rfl, rfl, hx0, hx1, hm⟩ := hrel
    by_cases hlt : k < s.size
    · obtain ⟨c, hc⟩ : ∃ c, s[k].toNat = c := ⟨_, rfl⟩
      obtain ⟨d, hd⟩ : ∃ d, digP c = d := ⟨_, rfl⟩
      have hd0 : 0 ≤ d := by rw [← hd]; exact (digP_ge c).1
      have hd1 : d ≤ 16 := by rw [← hd]; exact (digP_ge c).2
      have hll : k < s.data.toList.length := by simpa using hlt
      have hdl : digI s.data.toList[k].toNat = digI c := by rw [← hc]; rfl
      by_cases hbad : 16 ≤ d
      · have H : Hid (r = (0, false)) := by
          obtain ⟨m, hm1, _⟩ := hm.out
          show r = _
          rw [HR.out]
          unfold numP
          rw [hm1, numL_bad hll hdl (digP_bad (b := 16) hd hbad)]
        clear hdl hll
        go_wp2_with (go_at_call 189; refine (pdigit_at c d hd _).mono ?_; rintro e w' ⟨rfl, rfl⟩)
        all_goals go_light
        go_ret2
        exact ⟨by rw [H.out]; rfl, rfl⟩
      · have H : Hid (∃ m : Nat, numL 16 s.data.toList 0 = numL 16 (s.data.toList.drop (k + 1)) m ∧ min (x * 16 + d) 1114112 = min (m : Int) 1114112) := by
          obtain ⟨m, hm1, hm2⟩ := hm.out
          have hdd : digI s.data.toList[k].toNat = d := hdl.trans (digP_lt hd (by omega))
          exact ⟨_, hm1.trans (numL_step hll hdd hd0 (by omega)), min_step (b := 16) hm2 hd0 (by omega)⟩
        clear hdl hll
        go_wp2_with (go_at_call 189; refine (pdigit_at c d hd _).mono ?_; rintro e w' ⟨rfl, rfl⟩)
        all_goals go_light
        refine ⟨⟨k + 1, min (x * 16 + d) 1114112, by omega, by go_num, rfl, by omega, by omega, H⟩, ?_⟩
        simp [intOf]
        omega
    · obtain rfl : k = s.size := by omega
      have H : Hid (∃ m : Nat, r = ((runeN m : Int), decide (s.data.toList ≠ [])) ∧ x = min (m : Int) 1114112) := by
        obtain ⟨m, hm1, hm2⟩ := hm.out
        rw [drop_size] at hm1
        exact ⟨m, by rw [HR.out]; unfold numP; rw [hm1]; rfl, hm2⟩
      have hnz : x ≠ 0 → s.data.toList ≠ [] := by
        intro hx he
        obtain ⟨m, hm1, hm2⟩ := hm.out
        rw [drop_size, he] at hm1
        have : (0 : Nat) = m := by simpa [numL] using hm1
        subst this
        exact hx hm2
      clear HR hm
      obtain ⟨v, hv⟩ : ∃ v, Lib.validRune x = v := ⟨_, rfl⟩
      by_cases hx : x = 0 ∨ v = false
      · have H2 : Hid (r = (65533, decide (s.data.toList ≠ []))) := by
          obtain ⟨m, h1, h2⟩ := H.out
          show r = _
          rw [h1, num_bad h2 (by rw [hv]; exact hx)]
        clear H
        by_cases h0 : s.size = 0
        · have he := emptyS s h0
          have hr2 : decide (s.data.toList ≠ []) = false := by
            rw [decide_eq_false_iff_not]
            intro h
            exact h (List.eq_nil_of_length_eq_zero (by simpa using h0))
          rw [hr2] at H2
          clear h0 hr2
          rcases hx with hx | hx
          · have hq : (x == 0) = true := by rw [beq_iff_eq]; exact hx
            clear hx hv
            go_wp2_with (go_at_call 190; refine (Tryz.utf8_ValidRune _ _).mono ?_; rintro e w' ⟨rfl, rfl⟩)
            all_goals go_light
            all_goals first
              | (go_ret2; exact ⟨by rw [H2.out]; rfl, rfl⟩)
              | (exfalso; simp_all; done)
          · subst hx
            by_cases hx0' : x = 0
            · have hq : (x == 0) = true := by rw [beq_iff_eq]; exact hx0'
              clear hx0' hv
              go_wp2_with (go_at_call 190; refine (Tryz.utf8_ValidRune _ _).mono ?_; rintro e w' ⟨rfl, rfl⟩)
              all_goals go_light
              all_goals first
                | (go_ret2; exact ⟨by rw [H2.out]; rfl, rfl⟩)
                | (exfalso; simp_all; done)
            · have hq : (x == 0) = false := by rw [beq_eq_false_iff_ne]; exact hx0'
              go_wp2_with (go_at_call 190; refine (Tryz.utf8_ValidRune _ _).mono ?_; rintro e w' ⟨rfl, rfl⟩; rw [hv])
              all_goals go_light
              all_goals first
                | (go_ret2; exact ⟨by rw [H2.out]; rfl, rfl⟩)
                | (exfalso; simp_all; done)
        · have he := notEmptyS s (by omega)
          have hr2 : decide (s.data.toList ≠ []) = true := by
            rw [decide_eq_true_eq]
            intro h
            exact h0 (by have := congrArg List.length h; simpa using this)
          rw [hr2] at H2
          clear h0 hr2
          rcases hx with hx | hx
          · have hq : (x == 0) = true := by rw [beq_iff_eq]; exact hx
            clear hx hv
            go_wp2_with (go_at_call 190; refine (Tryz.utf8_ValidRune _ _).mono ?_; rintro e w' ⟨rfl, rfl⟩)
            all_goals go_light
            all_goals first
              | (go_ret2; exact ⟨by rw [H2.out]; rfl, rfl⟩)
              | (exfalso; simp_all; done)
          · subst hx
            by_cases hx0' : x = 0
            · have hq : (x == 0) = true := by rw [beq_iff_eq]; exact hx0'
              clear hx0' hv
              go_wp2_with (go_at_call 190; refine (Tryz.utf8_ValidRune _ _).mono ?_; rintro e w' ⟨rfl, rfl⟩)
              all_goals go_light
              all_goals first
                | (go_ret2; exact ⟨by rw [H2.out]; rfl, rfl⟩)
                | (exfalso; simp_all; done)
            · have hq : (x == 0) = false := by rw [beq_eq_false_iff_ne]; exact hx0'
              go_wp2_with (go_at_call 190; refine (Tryz.utf8_ValidRune _ _).mono ?_; rintro e w' ⟨rfl, rfl⟩; rw [hv])
              all_goals go_light
              all_goals first
                | (go_ret2; exact ⟨by rw [H2.out]; rfl, rfl⟩)
                | (exfalso; simp_all; done)
      · have H2 : Hid (r = (x, true)) := by
          obtain ⟨m, h1, h2⟩ := H.out
          show r = _
          rw [h1, num_good h2 (by rw [hv]; exact hx), show decide (s.data.toList ≠ []) = true by
            rw [decide_eq_true_eq]
            exact hnz (fun e => hx (.inl e))]
        clear H
        have hv2 : v = true := by cases v; exact absurd (.inr rfl) hx; rfl
        have hne : (x == 0) = false := by rw [beq_eq_false_iff_ne]; exact fun e => hx (.inl e)
        subst hv2
        go_wp2_with (go_at_call 190; refine (Tryz.utf8_ValidRune _ _).mono ?_; rintro e w' ⟨rfl, rfl⟩; rw [hv])
        all_goals go_light
        all_goals first
          | (go_ret2; exact ⟨by rw [H2.out]; rfl, rfl⟩)
          | (exfalso; simp_all; done)
end Go.Proofs.YtkaeenafejdkfaaGreatDoor
