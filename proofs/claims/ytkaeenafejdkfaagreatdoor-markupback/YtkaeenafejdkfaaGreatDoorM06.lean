/- The document's answer: a text with what its references stand for. -/
import Derived.Test.YtkaeenafejdkfaaGreatDoorM05
import Derived.Test.YtkaeenafejdkfaaGreatDoorShelf
import Derived.Deep.LoopGhost
namespace Go.Proofs.YtkaeenafejdkfaaGreatDoor
open Go.RowKit

theorem bytes_get (s : ByteArray) (j : Nat) (h : j < s.size) : s.data.toList[j]? = some s[j] := by
  rw [List.getElem?_eq_getElem (by simpa using h)]
  rfl
theorem ext_list (s : ByteArray) (a b : Nat) : (s.extract a b).data.toList = (s.data.toList.drop a).take (b - a) := by
  rw [ByteArray.data_extract, Array.toList_extract]
theorem ext_one (s : ByteArray) (j : Nat) (h : j < s.size) : s.extract j (j + 1) = ⟨#[s[j]]⟩ := by
  apply ByteArray.ext
  apply Array.toList_inj.mp
  rw [ext_list, List.drop_eq_getElem_cons (by simpa using h)]
  simp
  rfl
theorem stands_one {s : ByteArray} {c : UInt8} {j : Nat} : standsAt ⟨#[c]⟩ s j ↔ s.data.toList[j]? = some c := by
  unfold standsAt
  show j + 1 ≤ s.size ∧ s.extract j (j + 1) = _ ↔ _
  constructor
  · rintro ⟨h1, h2⟩
    rw [ext_one s j h1] at h2
    rw [bytes_get s j h1]
    have := congrArg (fun x : ByteArray => x.data.toList) h2
    simpa using this
  · intro h
    have hl : j < s.size := by simpa using (List.getElem?_eq_some_iff.1 h).1
    rw [bytes_get s j hl] at h
    refine ⟨hl, ?_⟩
    rw [ext_one s j hl, Option.some.inj h]
theorem runeN_le (n : Nat) : runeN n ≤ 1114111 := by unfold runeN; split <;> omega
theorem numRef_le {b : Nat} {l : List UInt8} {n : Nat} (h : numRef b l = some n) : n ≤ 1114111 := by
  unfold numRef at h
  split at h
  · cases h
  · cases hn : numL b l 0 with
    | none => rw [hn] at h; cases h
    | some m =>
      rw [hn] at h
      obtain rfl : runeN m = n := by simpa using h
      exact runeN_le m
theorem bodyR_le {l : List UInt8} {n : Nat} (h : bodyR l = some n) : n ≤ 1114111 := by
  unfold bodyR at h
  iterate 8 (split at h; · obtain rfl := Option.some.inj h; decide)
  unfold bodyT at h
  split at h
  · split at h
    · exact numRef_le h
    · exact numRef_le h
  · cases h
theorem find_hit (s what : ByteArray) (i0 j : Nat) (h : findE what s i0 = some j) (hs : s.size ≤ 100000) (hw : 0 < what.size) (hw2 : what.size ≤ 100) (hi : i0 ≤ s.size) (w : World) :
    Calls Tryz.prog 61 #[.string s, .string what, .int .i64 i0] w fun e w' => e = .returned (.int .i64 j) ∧ w' = w := by
  have := rfind_any s what i0 hs hw hw2 hi w
  rw [h] at this
  exact this
theorem find_miss (s what : ByteArray) (i0 : Nat) (h : findE what s i0 = none) (hs : s.size ≤ 100000) (hw : 0 < what.size) (hw2 : what.size ≤ 100) (hi : i0 ≤ s.size) (w : World) :
    Calls Tryz.prog 61 #[.string s, .string what, .int .i64 i0] w fun e w' => e = .returned (.int .i64 (-1)) ∧ w' = w := by
  have := rfind_any s what i0 hs hw hw2 hi w
  rw [h] at this
  exact this
theorem stands_hit (s : ByteArray) (x : Int) (h0 : 0 ≤ x) (h : bodyR s.data.toList = some x.toNat) (hs : s.size ≤ 100000) (w : World) :
    Calls Tryz.prog 105 #[.string s] w fun e w' => e = .returned (.tuple #[.int .i64 x, .bool true]) ∧ Below w.heap.size w w' := by
  have := stands_any s hs w
  rw [h] at this
  rw [← Int.toNat_of_nonneg h0]
  exact this
theorem stands_miss (s : ByteArray) (h : bodyR s.data.toList = none) (hs : s.size ≤ 100000) (w : World) :
    Calls Tryz.prog 105 #[.string s] w fun e w' => e = .returned (.tuple #[.int .i64 0, .bool false]) ∧ Below w.heap.size w w' := by
  have := stands_any s hs w
  rw [h] at this
  exact this
/-- one byte further, as it stands -/
theorem meant_on {s : ByteArray} {k : Nat} {o : ByteArray} {L : List UInt8} (h : k < s.size) (hL : L = o.data.toList ++ meant (s.data.toList.drop k)) (hp : meant (s.data.toList.drop k) = s[k] :: meant (s.data.toList.drop (k + 1))) : L = (o ++ s.extract k (k + 1)).data.toList ++ meant (s.data.toList.drop (k + 1)) := by
  rw [hL, hp, ext_one s k h]
  simp

set_option maxHeartbeats 8000000 in
set_option maxRecDepth 100000 in
theorem rmeant_any (s : ByteArray) (hs : s.size ≤ 100000) (w : World) :
    Calls Tryz.prog 60 #[.string s] w fun e w' => e = .returned (.string ⟨(meant s.data.toList).toArray⟩) ∧ Below w.heap.size w w' := by
  go_enter Tryz.func60, Tryz.ntmps60
  go_wp2
  go_loopw [3, 4] (fun ov iv wr => ∃ (k : Nat) (o : ByteArray), k ≤ s.size ∧ iv = .int .i64 k ∧ ov = .string o ∧ o.size ≤ 4 * k ∧ Hid (meant s.data.toList = o.data.toList ++ meant (s.data.toList.drop k)) ∧ Hid (Below w.heap.size w wr)) (fun _ iv _ => s.size - (intOf iv).toNat)
  case atStart => exact ⟨0, ⟨#[]⟩, by omega, rfl, rfl, by decide, hid rfl, hid (Below.refl _ _)⟩
  case round =>
    obtain ⟨k, o, hk, rfl, rfl, ho, hm, hB⟩ := hrel
    by_cases hlt : k < s.size
    · obtain ⟨c, hc⟩ : ∃ c, s[k].toNat = c := ⟨_, rfl⟩
      have hcons : s.data.toList.drop k = s[k] :: s.data.toList.drop (k + 1) := List.drop_eq_getElem_cons (by simpa using hlt)
      have hesz : (s.extract k (k + 1)).size = 1 := by rw [ext_one s k hlt]; rfl
      by_cases h38 : c = 38
      · subst h38
        have hsk : s[k] = 38 := UInt8.toNat_inj.mp hc
        have hfn : ∀ j, k < j → (s.data.toList.drop (k + 1))[j - (k + 1)]? = s.data.toList[j]? := fun j hj => by
          rw [List.getElem?_drop]; congr 1; omega
        cases hf : findE ⟨#[59]⟩ s k with
        | none =>
          have hr : refAt (s.data.toList.drop (k + 1)) = none := refAt_none (fun i hi => by
            rw [List.getElem?_drop] at hi
            exact findE_no (by decide) hf (k + 1 + i) (by omega) (stands_one.2 hi))
          have H := hid (meant_on hlt hm.out (by rw [hcons, hsk, meant_no hr]))
          clear hcons hfn hsk hr
          go_wp2_with (go_at_call 61; refine (find_miss s ⟨#[59]⟩ k hf hs (by decide) (by decide) hk _).mono ?_; rintro e w' ⟨rfl, rfl⟩)
          all_goals go_light
          all_goals first
            | (refine ⟨⟨k + 1, _, by omega, by go_num, rfl, by rw [ByteArray.size_append, hesz]; omega, H, hB⟩, ?_⟩; simp [intOf]; omega)
            | (exfalso; simp_all; done)
        | some j =>
          obtain ⟨hkj, hst, hno⟩ := findE_some hf
          have h59 := stands_one.1 hst
          have hjs : j < s.size := by simpa using (List.getElem?_eq_some_iff.1 h59).1
          have hne : j ≠ k := fun e => by
            subst e
            rw [bytes_get s j hlt, hsk] at h59
            cases h59
          have hkj2 : k < j := by omega
          have hr := refAt_semi (l := s.data.toList.drop (k + 1)) (j := j - (k + 1)) (by rw [hfn j hkj2]; exact h59) (fun i hi hi2 => by
            rw [List.getElem?_drop] at hi2
            exact hno (k + 1 + i) (by omega) (by omega) (stands_one.2 hi2))
          rw [← ext_list s (k + 1) j] at hr
          have hes : (s.extract (k + 1) j).size ≤ 100000 := by rw [ByteArray.size_extract]; omega
          clear hno hst h59 hfn
          cases hb : bodyR (s.extract (k + 1) j).data.toList with
          | none =>
            rw [hb] at hr
            have H := hid (meant_on hlt hm.out (by rw [hcons, hsk, meant_no hr]))
            clear hcons hsk hr
            go_wp2_with (first | (go_at_call 61; refine (find_hit s ⟨#[59]⟩ k j hf hs (by decide) (by decide) hk _).mono ?_; rintro e w' ⟨rfl, rfl⟩) | (go_at_call 105; refine (stands_miss (s.extract (k + 1) j) hb hes _).mono ?_; rintro e w' ⟨rfl, hB2⟩))
            all_goals go_light
            refine ⟨⟨k + 1, _, by omega, by go_num, rfl, by rw [ByteArray.size_append, hesz]; omega, H, hid (hB.out.trans (hB2.mono hB.out.size))⟩, ?_⟩
            simp [intOf]
            omega
          | some n =>
            rw [hb] at hr
            have hn := bodyR_le hb
            obtain ⟨x, hx⟩ : ∃ x : Int, x = n := ⟨_, rfl⟩
            have hx0 : 0 ≤ x := by omega
            have hx1 : x ≤ 1114111 := by omega
            obtain rfl : n = x.toNat := by omega
            have hL : meant s.data.toList = (o ++ ⟨(runeL x.toNat).toArray⟩).data.toList ++ meant (s.data.toList.drop (j + 1)) := by
              rw [hm.out, hcons, hsk, meant_ref hr, List.drop_drop]
              simp
              congr 2
              omega
            have H := hid hL
            have hrs : (runeL x.toNat).length ≤ 4 := by unfold runeL; split <;> (try split) <;> (try split) <;> simp
            clear hcons hsk hr hL hx hn
            go_wp2_with (first | (go_at_call 61; refine (find_hit s ⟨#[59]⟩ k j hf hs (by decide) (by decide) hk _).mono ?_; rintro e w' ⟨rfl, rfl⟩) | (go_at_call 105; refine (stands_hit (s.extract (k + 1) j) x hx0 hb hes _).mono ?_; rintro e w' ⟨rfl, hB2⟩) | (go_at_call 106; refine (rrune_any x hx0 hx1 _).mono ?_; rintro e w' ⟨rfl, hB3⟩))
            all_goals go_light
            refine ⟨⟨j + 1, _, by omega, by go_num, rfl, ?_, H, hid ((hB.out.trans (hB2.mono hB.out.size)).trans (hB3.mono (hB.out.trans (hB2.mono hB.out.size)).size))⟩, ?_⟩
            · rw [ByteArray.size_append]
              show o.size + (runeL x.toNat).toArray.size ≤ _
              rw [List.size_toArray]
              omega
            · simp [intOf]
              omega
      · have H := hid (meant_on hlt hm.out (by rw [hcons, meant_plain (fun e => h38 (by rw [← hc, e]; rfl))]))
        have h38' := cast_ne h38
        clear hcons
        go_wp2
        all_goals go_light
        all_goals first
          | (refine ⟨⟨k + 1, _, by omega, by go_num, rfl, by rw [ByteArray.size_append, hesz]; omega, H, hB⟩, ?_⟩; simp [intOf]; omega)
          | (exfalso; simp_all; done)
    · have hke : k = s.size := by omega
      subst hke
      go_wp2
      go_ret
      refine ⟨rets ?_, hB.out⟩
      rw [hm.out, drop_size, meant_nil]
      simp
end Go.Proofs.YtkaeenafejdkfaaGreatDoor

/- The program: the rune that digits tell; how long a reference's body is. -/
namespace Go.Proofs.YtkaeenafejdkfaaGreatDoor
open Go.RowKit

theorem pdigit_at (c : Nat) (d : Int) (hd : digP c = d) (w : World) : Calls Tryz.prog 189 #[.int .u8 c] w fun e w' => e = .returned (.int .i64 d) ∧ w' = w := by
  rw [← hd]; exact pdigit_any c w
/-- what `numbered` answers -/
def numP (base : Nat) (l : List UInt8) : Int × Bool := match numL base l 0 with
  | none => (0, false)
  | some n => (runeN n, decide (l ≠ []))
def twoV (p : Int × Bool) : Value := .tuple #[.int .i32 p.1, .bool p.2]
theorem digP_lt {c : Nat} {d : Int} (h : digP c = d) (hd : d < 16) : digI c = d := by
  unfold digP at h; split at h <;> omega
theorem digP_bad {c : Nat} {d : Int} {b : Nat} (h : digP c = d) (hd : (b : Int) ≤ d) : digI c < 0 ∨ (b : Int) ≤ digI c := by
  unfold digP at h; split at h <;> omega
theorem digP_ge (c : Nat) : 0 ≤ digP c ∧ digP c ≤ 16 := by
  have := digI_lt c
  unfold digP; split <;> omega
theorem min_step {m b : Nat} {x d : Int} (hx : x = min (m : Int) 1114112) (hd : 0 ≤ d) (hb : 1 ≤ b) : min (x * b + d) 1114112 = min ((m * b + d.toNat : Nat) : Int) 1114112 := by
  have e : ((m * b + d.toNat : Nat) : Int) = (m : Int) * b + d := by rw [Int.natCast_add, Int.natCast_mul]; omega
  rw [e]
  rcases Int.le_total (m : Int) 1114112 with h | h
  · rw [Int.min_eq_left h] at hx; rw [hx]
  · rw [Int.min_eq_right h] at hx
    have h1 : (1114112 : Int) * 1 ≤ 1114112 * b := Int.mul_le_mul_of_nonneg_left (by omega) (by omega)
    have h2 : (1114112 : Int) * b ≤ (m : Int) * b := Int.mul_le_mul_of_nonneg_right h (by omega)
    rw [hx, Int.min_eq_right (by omega), Int.min_eq_right (by omega)]

theorem num_bad {m : Nat} {x : Int} (hx : x = min (m : Int) 1114112) (h : x = 0 ∨ Lib.validRune x = false) : (runeN m : Int) = 65533 := by
  unfold runeN
  rw [if_pos]
  · rfl
  · rcases h with h | h
    · left; omega
    · unfold Lib.validRune at h
      rw [decide_eq_false_iff_not] at h
      omega
theorem num_good {m : Nat} {x : Int} (hx : x = min (m : Int) 1114112) (h : ¬ (x = 0 ∨ Lib.validRune x = false)) : (runeN m : Int) = x := by
  have h2 : Lib.validRune x = true := by cases hv : Lib.validRune x; exact absurd (.inr hv) h; rfl
  unfold Lib.validRune at h2
  rw [decide_eq_true_eq] at h2
  have h0 : x ≠ 0 := fun e => h (.inl e)
  unfold runeN
  rw [if_neg (by omega)]
  omega

theorem emptyS (s : ByteArray) (h : s.size = 0) : s.toList.isEmpty = true := by
  rw [Lib.toList_data, List.isEmpty_iff]
  exact List.eq_nil_of_length_eq_zero (by simpa using h)
theorem notEmptyS (s : ByteArray) (h : 0 < s.size) : s.toList.isEmpty = false := by
  rw [Lib.toList_data]
  cases hl : s.data.toList with
  | nil =>
    have h2 : s.data.toList.length = 0 := by rw [hl]; rfl
    have h3 : s.data.toList.length = s.size := by simp
    omega
  | cons a l => rfl

set_option maxHeartbeats 8000000 in
set_option maxRecDepth 100000 in
theorem pnum_10 (s : ByteArray) (hs : s.size ≤ 100000) (w : World) :
    Calls Tryz.prog 185 #[.string s, .int .i64 10] w fun e w' => e = .returned (twoV (numP 10 s.data.toList)) ∧ w' = w := by
  obtain ⟨r, hr⟩ : ∃ r, r = numP 10 s.data.toList := ⟨_, rfl⟩
  rw [← hr]
  have HR := hid hr
  clear hr
  go_enter Tryz.func185, Tryz.ntmps185
  go_wp2_with fail
  go_loop [6, 11] (fun nv iv => ∃ (k : Nat) (x : Int), k ≤ s.size ∧ iv = .int .i64 k ∧ nv = .int .i64 x ∧ 0 ≤ x ∧ x ≤ 1114112 ∧ Hid (∃ m : Nat, numL 10 s.data.toList 0 = numL 10 (s.data.toList.drop k) m ∧ x = min (m : Int) 1114112)) (fun _ iv => s.size - (intOf iv).toNat)
  case atStart => exact ⟨0, 0, by omega, rfl, rfl, by omega, by omega, hid ⟨0, rfl, rfl⟩⟩
  case round =>
    obtain ⟨k, x, hk, rfl, rfl, hx0, hx1, hm⟩ := hrel
    by_cases hlt : k < s.size
    · obtain ⟨c, hc⟩ : ∃ c, s[k].toNat = c := ⟨_, rfl⟩
      obtain ⟨d, hd⟩ : ∃ d, digP c = d := ⟨_, rfl⟩
      have hd0 : 0 ≤ d := by rw [← hd]; exact (digP_ge c).1
      have hd1 : d ≤ 16 := by rw [← hd]; exact (digP_ge c).2
      have hll : k < s.data.toList.length := by simpa using hlt
      have hdl : digI s.data.toList[k].toNat = digI c := by rw [← hc]; rfl
      by_cases hbad : 10 ≤ d
      · have H : Hid (r = (0, false)) := by
          obtain ⟨m, hm1, _⟩ := hm.out
          show r = _
          rw [HR.out]
          unfold numP
          rw [hm1, numL_bad hll hdl (digP_bad (b := 10) hd hbad)]
        clear hdl hll
        go_wp2_with (go_at_call 189; refine (pdigit_at c d hd _).mono ?_; rintro e w' ⟨rfl, rfl⟩)
        all_goals go_light
        go_ret2
        exact ⟨by rw [H.out]; rfl, rfl⟩
      · have H : Hid (∃ m : Nat, numL 10 s.data.toList 0 = numL 10 (s.data.toList.drop (k + 1)) m ∧ min (x * 10 + d) 1114112 = min (m : Int) 1114112) := by
          obtain ⟨m, hm1, hm2⟩ := hm.out
          have hdd : digI s.data.toList[k].toNat = d := hdl.trans (digP_lt hd (by omega))
          exact ⟨_, hm1.trans (numL_step hll hdd hd0 (by omega)), min_step (b := 10) hm2 hd0 (by omega)⟩
        clear hdl hll
        go_wp2_with (go_at_call 189; refine (pdigit_at c d hd _).mono ?_; rintro e w' ⟨rfl, rfl⟩)
        all_goals go_light
        refine ⟨⟨k + 1, min (x * 10 + d) 1114112, by omega, by go_num, rfl, by omega, by omega, H⟩, ?_⟩
        simp [intOf]
        omega
    · obtain rfl : k = s.size := by omega
      have H : Hid (∃ m : Nat, r = ((runeN m : Int), decide (s.data.toList ≠ [])) ∧ x = min (m : Int) 1114112) := by
        obtain ⟨m, hm1, hm2⟩ := hm.out
        rw [drop_size] at hm1
        exact ⟨m, by rw [HR.out]; unfold numP; rw [hm1]; rfl, hm2⟩
      have hnz : x ≠ 0 → s.data.toList ≠ [] := by
        intro hx he
        obtain ⟨m, hm1, hm2⟩ := hm.out
        rw [drop_size, he] at hm1
        have : (0 : Nat) = m := by simpa [numL] using hm1
        subst this
        exact hx hm2
      clear HR hm
      obtain ⟨v, hv⟩ : ∃ v, Lib.validRune x = v := ⟨_, rfl⟩
      by_cases hx : x = 0 ∨ v = false
      · have H2 : Hid (r = (65533, decide (s.data.toList ≠ []))) := by
          obtain ⟨m, h1, h2⟩ := H.out
          show r = _
          rw [h1, num_bad h2 (by rw [hv]; exact hx)]
        clear H
        by_cases h0 : s.size = 0
        · have he := emptyS s h0
          have hr2 : decide (s.data.toList ≠ []) = false := by
            rw [decide_eq_false_iff_not]
            intro h
            exact h (List.eq_nil_of_length_eq_zero (by simpa using h0))
          rw [hr2] at H2
          clear h0 hr2
          rcases hx with hx | hx
          · have hq : (x == 0) = true := by rw [beq_iff_eq]; exact hx
            clear hx hv
            go_wp2_with (go_at_call 190; refine (Tryz.utf8_ValidRune _ _).mono ?_; rintro e w' ⟨rfl, rfl⟩)
            all_goals go_light
            all_goals first
              | (go_ret2; exact ⟨by rw [H2.out]; rfl, rfl⟩)
              | (exfalso; simp_all; done)
          · subst hx
            by_cases hx0' : x = 0
            · have hq : (x == 0) = true := by rw [beq_iff_eq]; exact hx0'
              clear hx0' hv
              go_wp2_with (go_at_call 190; refine (Tryz.utf8_ValidRune _ _).mono ?_; rintro e w' ⟨rfl, rfl⟩)
              all_goals go_light
              all_goals first
                | (go_ret2; exact ⟨by rw [H2.out]; rfl, rfl⟩)
                | (exfalso; simp_all; done)
            · have hq : (x == 0) = false := by rw [beq_eq_false_iff_ne]; exact hx0'
              go_wp2_with (go_at_call 190; refine (Tryz.utf8_ValidRune _ _).mono ?_; rintro e w' ⟨rfl, rfl⟩; rw [hv])
              all_goals go_light
              all_goals first
                | (go_ret2; exact ⟨by rw [H2.out]; rfl, rfl⟩)
                | (exfalso; simp_all; done)
        · have he := notEmptyS s (by omega)
          have hr2 : decide (s.data.toList ≠ []) = true := by
            rw [decide_eq_true_eq]
            intro h
            exact h0 (by have := congrArg List.length h; simpa using this)
          rw [hr2] at H2
          clear h0 hr2
          rcases hx with hx | hx
          · have hq : (x == 0) = true := by rw [beq_iff_eq]; exact hx
            clear hx hv
            go_wp2_with (go_at_call 190; refine (Tryz.utf8_ValidRune _ _).mono ?_; rintro e w' ⟨rfl, rfl⟩)
            all_goals go_light
            all_goals first
              | (go_ret2; exact ⟨by rw [H2.out]; rfl, rfl⟩)
              | (exfalso; simp_all; done)
          · subst hx
            by_cases hx0' : x = 0
            · have hq : (x == 0) = true := by rw [beq_iff_eq]; exact hx0'
              clear hx0' hv
              go_wp2_with (go_at_call 190; refine (Tryz.utf8_ValidRune _ _).mono ?_; rintro e w' ⟨rfl, rfl⟩)
              all_goals go_light
              all_goals first
                | (go_ret2; exact ⟨by rw [H2.out]; rfl, rfl⟩)
                | (exfalso; simp_all; done)
            · have hq : (x == 0) = false := by rw [beq_eq_false_iff_ne]; exact hx0'
              go_wp2_with (go_at_call 190; refine (Tryz.utf8_ValidRune _ _).mono ?_; rintro e w' ⟨rfl, rfl⟩; rw [hv])
              all_goals go_light
              all_goals first
                | (go_ret2; exact ⟨by rw [H2.out]; rfl, rfl⟩)
                | (exfalso; simp_all; done)
      · have H2 : Hid (r = (x, true)) := by
          obtain ⟨m, h1, h2⟩ := H.out
          show r = _
          rw [h1, num_good h2 (by rw [hv]; exact hx), show decide (s.data.toList ≠ []) = true by
            rw [decide_eq_true_eq]
            exact hnz (fun e => hx (.inl e))]
        clear H
        have hv2 : v = true := by cases v; exact absurd (.inr rfl) hx; rfl
        have hne : (x == 0) = false := by rw [beq_eq_false_iff_ne]; exact fun e => hx (.inl e)
        subst hv2
        go_wp2_with (go_at_call 190; refine (Tryz.utf8_ValidRune _ _).mono ?_; rintro e w' ⟨rfl, rfl⟩; rw [hv])
        all_goals go_light
        all_goals first
          | (go_ret2; exact ⟨by rw [H2.out]; rfl, rfl⟩)
          | (exfalso; simp_all; done)
set_option maxHeartbeats 8000000 in
set_option maxRecDepth 100000 in
theorem pnum_16 (s : ByteArray) (hs : s.size ≤ 100000) (w : World) :
    Calls Tryz.prog 185 #[.string s, .int .i64 16] w fun e w' => e = .returned (twoV (numP 16 s.data.toList)) ∧ w' = w := by
  obtain ⟨r, hr⟩ : ∃ r, r = numP 16 s.data.toList := ⟨_, rfl⟩
  rw [← hr]
  have HR := hid hr
  clear hr
  go_enter Tryz.func185, Tryz.ntmps185
  go_wp2_with fail
  go_loop [6, 11] (fun nv iv => ∃ (k : Nat) (x : Int), k ≤ s.size ∧ iv = .int .i64 k ∧ nv = .int .i64 x ∧ 0 ≤ x ∧ x ≤ 1114112 ∧ Hid (∃ m : Nat, numL 16 s.data.toList 0 = numL 16 (s.data.toList.drop k) m ∧ x = min (m : Int) 1114112)) (fun _ iv => s.size - (intOf iv).toNat)
  case atStart => exact ⟨0, 0, by omega, rfl, rfl, by omega, by omega, hid ⟨0, rfl, rfl⟩⟩
  case round =>
    obtain ⟨k, x, hk, rfl, rfl, hx0, hx1, hm⟩ := hrel
    by_cases hlt : k < s.size
    · obtain ⟨c, hc⟩ : ∃ c, s[k].toNat = c := ⟨_, rfl⟩
      obtain ⟨d, hd⟩ : ∃ d, digP c = d := ⟨_, rfl⟩
      have hd0 : 0 ≤ d := by rw [← hd]; exact (digP_ge c).1
      have hd1 : d ≤ 16 := by rw [← hd]; exact (digP_ge c).2
      have hll : k < s.data.toList.length := by simpa using hlt
      have hdl : digI s.data.toList[k].toNat = digI c := by rw [← hc]; rfl
      by_cases hbad : 16 ≤ d
      · have H : Hid (r = (0, false)) := by
          obtain ⟨m, hm1, _⟩ := hm.out
          show r = _
          rw [HR.out]
          unfold numP
          rw [hm1, numL_bad hll hdl (digP_bad (b := 16) hd hbad)]
        clear hdl hll
        go_wp2_with (go_at_call 189; refine (pdigit_at c d hd _).mono ?_; rintro e w' ⟨rfl, rfl⟩)
        all_goals go_light
        go_ret2
        exact ⟨by rw [H.out]; rfl, rfl⟩
      · have H : Hid (∃ m : Nat, numL 16 s.data.toList 0 = numL 16 (s.data.toList.drop (k + 1)) m ∧ min (x * 16 + d) 1114112 = min (m : Int) 1114112) := by
          obtain ⟨m, hm1, hm2⟩ := hm.out
          have hdd : digI s.data.toList[k].toNat = d := hdl.trans (digP_lt hd (by omega))
          exact ⟨_, hm1.trans (numL_step hll hdd hd0 (by omega)), min_step (b := 16) hm2 hd0 (by omega)⟩
        clear hdl hll
        go_wp2_with (go_at_call 189; refine (pdigit_at c d hd _).mono ?_; rintro e w' ⟨rfl, rfl⟩)
        all_goals go_light
        refine ⟨⟨k + 1, min (x * 16 + d) 1114112, by omega, by go_num, rfl, by omega, by omega, H⟩, ?_⟩
        simp [intOf]
        omega
    · obtain rfl : k = s.size := by omega
      have H : Hid (∃ m : Nat, r = ((runeN m : Int), decide (s.data.toList ≠ [])) ∧ x = min (m : Int) 1114112) := by
        obtain ⟨m, hm1, hm2⟩ := hm.out
        rw [drop_size] at hm1
        exact ⟨m, by rw [HR.out]; unfold numP; rw [hm1]; rfl, hm2⟩
      have hnz : x ≠ 0 → s.data.toList ≠ [] := by
        intro hx he
        obtain ⟨m, hm1, hm2⟩ := hm.out
        rw [drop_size, he] at hm1
        have : (0 : Nat) = m := by simpa [numL] using hm1
        subst this
        exact hx hm2
      clear HR hm
      obtain ⟨v, hv⟩ : ∃ v, Lib.validRune x = v := ⟨_, rfl⟩
      by_cases hx : x = 0 ∨ v = false
      · have H2 : Hid (r = (65533, decide (s.data.toList ≠ []))) := by
          obtain ⟨m, h1, h2⟩ := H.out
          show r = _
          rw [h1, num_bad h2 (by rw [hv]; exact hx)]
        clear H
        by_cases h0 : s.size = 0
        · have he := emptyS s h0
          have hr2 : decide (s.data.toList ≠ []) = false := by
            rw [decide_eq_false_iff_not]
            intro h
            exact h (List.eq_nil_of_length_eq_zero (by simpa using h0))
          rw [hr2] at H2
          clear h0 hr2
          rcases hx with hx | hx
          · have hq : (x == 0) = true := by rw [beq_iff_eq]; exact hx
            clear hx hv
            go_wp2_with (go_at_call 190; refine (Tryz.utf8_ValidRune _ _).mono ?_; rintro e w' ⟨rfl, rfl⟩)
            all_goals go_light
            all_goals first
              | (go_ret2; exact ⟨by rw [H2.out]; rfl, rfl⟩)
              | (exfalso; simp_all; done)
          · subst hx
            by_cases hx0' : x = 0
            · have hq : (x == 0) = true := by rw [beq_iff_eq]; exact hx0'
              clear hx0' hv
              go_wp2_with (go_at_call 190; refine (Tryz.utf8_ValidRune _ _).mono ?_; rintro e w' ⟨rfl, rfl⟩)
              all_goals go_light
              all_goals first
                | (go_ret2; exact ⟨by rw [H2.out]; rfl, rfl⟩)
                | (exfalso; simp_all; done)
            · have hq : (x == 0) = false := by rw [beq_eq_false_iff_ne]; exact hx0'
              go_wp2_with (go_at_call 190; refine (Tryz.utf8_ValidRune _ _).mono ?_; rintro e w' ⟨rfl, rfl⟩; rw [hv])
              all_goals go_light
              all_goals first
                | (go_ret2; exact ⟨by rw [H2.out]; rfl, rfl⟩)
                | (exfalso; simp_all; done)
        · have he := notEmptyS s (by omega)
          have hr2 : decide (s.data.toList ≠ []) = true := by
            rw [decide_eq_true_eq]
            intro h
            exact h0 (by have := congrArg List.length h; simpa using this)
          rw [hr2] at H2
          clear h0 hr2
          rcases hx with hx | hx
          · have hq : (x == 0) = true := by rw [beq_iff_eq]; exact hx
            clear hx hv
            go_wp2_with (go_at_call 190; refine (Tryz.utf8_ValidRune _ _).mono ?_; rintro e w' ⟨rfl, rfl⟩)
            all_goals go_light
            all_goals first
              | (go_ret2; exact ⟨by rw [H2.out]; rfl, rfl⟩)
              | (exfalso; simp_all; done)
          · subst hx
            by_cases hx0' : x = 0
            · have hq : (x == 0) = true := by rw [beq_iff_eq]; exact hx0'
              clear hx0' hv
              go_wp2_with (go_at_call 190; refine (Tryz.utf8_ValidRune _ _).mono ?_; rintro e w' ⟨rfl, rfl⟩)
              all_goals go_light
              all_goals first
                | (go_ret2; exact ⟨by rw [H2.out]; rfl, rfl⟩)
                | (exfalso; simp_all; done)
            · have hq : (x == 0) = false := by rw [beq_eq_false_iff_ne]; exact hx0'
              go_wp2_with (go_at_call 190; refine (Tryz.utf8_ValidRune _ _).mono ?_; rintro e w' ⟨rfl, rfl⟩; rw [hv])
              all_goals go_light
              all_goals first
                | (go_ret2; exact ⟨by rw [H2.out]; rfl, rfl⟩)
                | (exfalso; simp_all; done)
      · have H2 : Hid (r = (x, true)) := by
          obtain ⟨m, h1, h2⟩ := H.out
          show r = _
          rw [h1, num_good h2 (by rw [hv]; exact hx), show decide (s.data.toList ≠ []) = true by
            rw [decide_eq_true_eq]
            exact hnz (fun e => hx (.inl e))]
        clear H
        have hv2 : v = true := by cases v; exact absurd (.inr rfl) hx; rfl
        have hne : (x == 0) = false := by rw [beq_eq_false_iff_ne]; exact fun e => hx (.inl e)
        subst hv2
        go_wp2_with (go_at_call 190; refine (Tryz.utf8_ValidRune _ _).mono ?_; rintro e w' ⟨rfl, rfl⟩; rw [hv])
        all_goals go_light
        all_goals first
          | (go_ret2; exact ⟨by rw [H2.out]; rfl, rfl⟩)
          | (exfalso; simp_all; done)
end Go.Proofs.YtkaeenafejdkfaaGreatDoor

/- The program: the steps of a scanner. -/

namespace Go.Proofs.YtkaeenafejdkfaaGreatDoor
open Go.RowKit

/-- a scanner lies there -/
def Sc (w : World) (b : Nat) (s : ByteArray) (i : Nat) (raw : ByteArray) : Prop := w.heap[b]? = some (.cells #[.string s, .int .i64 i, .string raw] 119 (0, 0))
theorem Sc.cells {w : World} {b : Nat} {s : ByteArray} {i : Nat} {raw : ByteArray} (h : Sc w b s i raw) : w.cell? ⟨b, 0, none⟩ = some (.string s) ∧ w.cell? ⟨b, 1, none⟩ = some (.int .i64 i) ∧ w.cell? ⟨b, 2, none⟩ = some (.string raw) ∧ ∀ o, w.frozen? ⟨b, o, none⟩ = false := by
  unfold Sc at h
  refine ⟨?_, ?_, ?_, fun o => by simp [World.frozen?, h]⟩ <;> (rw [cell_of_row w b _ _ _ _ h]; rfl)
theorem Sc.set {w : World} {b : Nat} {s : ByteArray} {i : Nat} {raw : ByteArray} (h : Sc w b s i raw) (j : Int) (k : Nat) (hj : j = k) : Sc (w.setCell ⟨b, 1, none⟩ (.int .i64 j)) b s k raw := by
  subst hj
  unfold Sc at h ⊢
  simp [World.setCell, Array.getElem?_modify, h]
theorem Sc.below {w w' : World} {b : Nat} {s : ByteArray} {i : Nat} {raw : ByteArray} (h : Sc w b s i raw) {B : Nat} (hb : b < B) (hB : Below B w w') : Sc w' b s i raw := by
  unfold Sc at h ⊢
  rw [hB.block b hb]; exact h

/-- only one block has turned, and new ones may lie beside -/
structure Only (b : Nat) (w w' : World) : Prop where
  os : w'.os = w.os
  tape : w'.tape = w.tape
  output : w'.output = w.output
  size : w.heap.size ≤ w'.heap.size
  block : ∀ k, k < w.heap.size → k ≠ b → w'.heap[k]? = w.heap[k]?
theorem Only.refl (b : Nat) (w : World) : Only b w w := ⟨rfl, rfl, rfl, Nat.le_refl _, fun _ _ _ => rfl⟩
theorem Only.trans {b : Nat} {x y z : World} (h : Only b x y) (k : Only b y z) : Only b x z :=
  ⟨k.os.trans h.os, k.tape.trans h.tape, k.output.trans h.output, Nat.le_trans h.size k.size, fun i hi hb => (k.block i (Nat.lt_of_lt_of_le hi h.size) hb).trans (h.block i hi hb)⟩
theorem Only.of {b : Nat} {w w' : World} (h : Below w.heap.size w w') : Only b w w' := ⟨h.os, h.tape, h.output, h.size, fun k hk _ => h.block k hk⟩
theorem Only.set {b : Nat} {w w' : World} (h : Only b w w') (o : Nat) (u : Value) : Only b w (w'.setCell ⟨b, o, none⟩ u) :=
  ⟨h.os, h.tape, h.output, by simpa [World.setCell] using h.size, fun k hk hb => (Below.heap_setCell w' ⟨b, o, none⟩ u k hb).trans (h.block k hk hb)⟩
theorem Only.drew {b : Nat} {w w' : World} (h : Only b w w') (n : Nat) : Only b w (w'.drewN n) := ⟨h.os, h.tape, h.output, h.size, h.block⟩
theorem Sc.drew {w : World} {b : Nat} {s : ByteArray} {i : Nat} {raw : ByteArray} (h : Sc w b s i raw) (n : Nat) : Sc (w.drewN n) b s i raw := h
theorem Sc.lt {w : World} {b : Nat} {s : ByteArray} {i : Nat} {raw : ByteArray} (h : Sc w b s i raw) : b < w.heap.size := by
  unfold Sc at h
  rcases Nat.lt_or_ge b w.heap.size with h2 | h2
  · exact h2
  · rw [Array.getElem?_eq_none h2] at h; cases h

set_option maxHeartbeats 4000000 in
set_option maxRecDepth 100000 in
theorem atEnd_any {w : World} {b : Nat} {s : ByteArray} {i : Nat} {raw : ByteArray} (h : Sc w b s i raw) (r : Bool) (hr : decide (i = s.size) = r) :
    Calls Tryz.prog 109 #[.pointer (some ⟨b, 0, none⟩)] w fun e w' => e = .returned (.bool r) ∧ ∃ m, w' = w.drewN m := by
  have HR := hid hr
  obtain ⟨c0, c1, c2, cf⟩ := h.cells
  clear h hr
  go_enter Tryz.func109, Tryz.ntmps109
  go_wp2
  go_quiet (fail)
  go_wp2
  go_ret
  refine ⟨retb ?_, _, rfl⟩
  rw [← HR.out, Bool.eq_iff_iff]
  simp
  try omega
theorem at_end {i n : Nat} (h : i = n) : decide (i = n) = true := by rw [decide_eq_true_eq]; exact h
theorem at_no {i n : Nat} (h : i < n) : decide (i = n) = false := by rw [decide_eq_false_iff_not]; omega

theorem pinTag_at (c : Nat) (v : Bool) (h : inTagB c = v) (w : World) : Calls Tryz.prog 160 #[.int .u8 c] w fun e w' => e = .returned (.bool v) ∧ w' = w := by
  rw [← h]; exact pinTag_any c w
set_option maxHeartbeats 4000000 in
set_option maxRecDepth 100000 in
theorem take_tag {w : World} {b : Nat} {s : ByteArray} {i : Nat} {raw : ByteArray} (h : Sc w b s i raw) (hs : s.size ≤ 100000) (hi : i ≤ s.size) :
    Calls Tryz.prog 159 #[.pointer (some ⟨b, 0, none⟩), .func (.func 160) #[] #[]] w fun e w' => e = .returned (.string (s.extract i (spanE inTagB s i))) ∧ Only b w w' ∧ Sc w' b s (spanE inTagB s i) raw := by
  obtain ⟨e, E, a1, b1, g1, x1⟩ := spanE_is inTagB s i hi
  rw [E]
  have H := hid h
  have G := hid g1
  have X := hid x1
  obtain ⟨c0, c1, c2, cf⟩ := h.cells
  clear h g1 x1 E
  go_enter Tryz.func159, Tryz.ntmps159
  go_wp2_with fail
  clear c0 c1 c2 cf
  go_loopg [] (e - i) (fun g wr => ∃ j : Nat, i ≤ j ∧ j ≤ e ∧ g = e - j ∧ Hid (Sc wr b s j raw ∧ Only b w wr))
  case atStart => exact ⟨i, by omega, by omega, rfl, hid ⟨H.out, Only.refl _ _⟩⟩
  case round =>
    obtain ⟨j, hj1, hj2, rfl, hB⟩ := hrel
    obtain ⟨c0, c1, c2, cf⟩ := hB.out.1.cells
    by_cases hlt : j < e
    · obtain ⟨hsz, hp⟩ := G.out j hj1 hlt
      obtain ⟨c, hc⟩ : ∃ c, s[j].toNat = c := ⟨_, rfl⟩
      rw [hc] at hp
      go_wp2_with fail
      go_quiet ((first | (go_at_call 109; exact Calls.quiet_of (atEnd_any (hB.out.1.drew _) false (at_no hsz))) | (go_at_call 160; exact Calls.quiet_of_same (pinTag_at c true hp _))))
      go_wp2_with fail
      go_roundg (e - (j + 1))
      case measure => omega
      case rel => exact ⟨j + 1, by omega, by omega, rfl, hid ⟨(hB.out.1.drew _).set _ _ (by go_num), (hB.out.2.drew _).set _ _⟩⟩
    · obtain rfl : j = e := by omega
      by_cases hsz : j < s.size
      · have hp := X.out hsz
        obtain ⟨c, hc⟩ : ∃ c, s[j].toNat = c := ⟨_, rfl⟩
        rw [hc] at hp
        go_wp2_with fail
        go_quiet ((first | (go_at_call 109; exact Calls.quiet_of (atEnd_any (hB.out.1.drew _) false (at_no hsz))) | (go_at_call 160; exact Calls.quiet_of_same (pinTag_at c false hp _))))
        go_wp2_with fail
        go_quiet (fail)
        go_wp2_with fail
        go_ret
        exact ⟨rfl, (hB.out.2.drew _).drew _, hB.out.1⟩
      · go_wp2_with fail
        go_quiet ((go_at_call 109; exact Calls.quiet_of (atEnd_any (hB.out.1.drew _) true (at_end (by omega)))))
        go_wp2_with fail
        go_quiet (fail)
        go_wp2_with fail
        go_ret
        exact ⟨rfl, (hB.out.2.drew _).drew _, hB.out.1⟩

theorem pbetw_at (c : Nat) (v : Bool) (h : betwB c = v) (w : World) : Calls Tryz.prog 161 #[.int .u8 c] w fun e w' => e = .returned (.bool v) ∧ w' = w := by
  rw [← h]; exact pbetw_any c w
set_option maxHeartbeats 4000000 in
set_option maxRecDepth 100000 in
theorem take_betw {w : World} {b : Nat} {s : ByteArray} {i : Nat} {raw : ByteArray} (h : Sc w b s i raw) (hs : s.size ≤ 100000) (hi : i ≤ s.size) :
    Calls Tryz.prog 159 #[.pointer (some ⟨b, 0, none⟩), .func (.func 161) #[] #[]] w fun e w' => e = .returned (.string (s.extract i (spanE betwB s i))) ∧ Only b w w' ∧ Sc w' b s (spanE betwB s i) raw := by
  obtain ⟨e, E, a1, b1, g1, x1⟩ := spanE_is betwB s i hi
  rw [E]
  have H := hid h
  have G := hid g1
  have X := hid x1
  obtain ⟨c0, c1, c2, cf⟩ := h.cells
  clear h g1 x1 E
  go_enter Tryz.func159, Tryz.ntmps159
  go_wp2_with fail
  clear c0 c1 c2 cf
  go_loopg [] (e - i) (fun g wr => ∃ j : Nat, i ≤ j ∧ j ≤ e ∧ g = e - j ∧ Hid (Sc wr b s j raw ∧ Only b w wr))
  case atStart => exact ⟨i, by omega, by omega, rfl, hid ⟨H.out, Only.refl _ _⟩⟩
  case round =>
    obtain ⟨j, hj1, hj2, rfl, hB⟩ := hrel
    obtain ⟨c0, c1, c2, cf⟩ := hB.out.1.cells
    by_cases hlt : j < e
    · obtain ⟨hsz, hp⟩ := G.out j hj1 hlt
      obtain ⟨c, hc⟩ : ∃ c, s[j].toNat = c := ⟨_, rfl⟩
      rw [hc] at hp
      go_wp2_with fail
      go_quiet ((first | (go_at_call 109; exact Calls.quiet_of (atEnd_any (hB.out.1.drew _) false (at_no hsz))) | (go_at_call 161; exact Calls.quiet_of_same (pbetw_at c true hp _))))
      go_wp2_with fail
      go_roundg (e - (j + 1))
      case measure => omega
      case rel => exact ⟨j + 1, by omega, by omega, rfl, hid ⟨(hB.out.1.drew _).set _ _ (by go_num), (hB.out.2.drew _).set _ _⟩⟩
    · obtain rfl : j = e := by omega
      by_cases hsz : j < s.size
      · have hp := X.out hsz
        obtain ⟨c, hc⟩ : ∃ c, s[j].toNat = c := ⟨_, rfl⟩
        rw [hc] at hp
        go_wp2_with fail
        go_quiet ((first | (go_at_call 109; exact Calls.quiet_of (atEnd_any (hB.out.1.drew _) false (at_no hsz))) | (go_at_call 161; exact Calls.quiet_of_same (pbetw_at c false hp _))))
        go_wp2_with fail
        go_quiet (fail)
        go_wp2_with fail
        go_ret
        exact ⟨rfl, (hB.out.2.drew _).drew _, hB.out.1⟩
      · go_wp2_with fail
        go_quiet ((go_at_call 109; exact Calls.quiet_of (atEnd_any (hB.out.1.drew _) true (at_end (by omega)))))
        go_wp2_with fail
        go_quiet (fail)
        go_wp2_with fail
        go_ret
        exact ⟨rfl, (hB.out.2.drew _).drew _, hB.out.1⟩

theorem pinAttr_at (c : Nat) (v : Bool) (h : inAttrB c = v) (w : World) : Calls Tryz.prog 175 #[.int .u8 c] w fun e w' => e = .returned (.bool v) ∧ w' = w := by
  rw [← h]; exact pinAttr_any c w
set_option maxHeartbeats 4000000 in
set_option maxRecDepth 100000 in
theorem take_attr {w : World} {b : Nat} {s : ByteArray} {i : Nat} {raw : ByteArray} (h : Sc w b s i raw) (hs : s.size ≤ 100000) (hi : i ≤ s.size) :
    Calls Tryz.prog 159 #[.pointer (some ⟨b, 0, none⟩), .func (.func 175) #[] #[]] w fun e w' => e = .returned (.string (s.extract i (spanE inAttrB s i))) ∧ Only b w w' ∧ Sc w' b s (spanE inAttrB s i) raw := by
  obtain ⟨e, E, a1, b1, g1, x1⟩ := spanE_is inAttrB s i hi
  rw [E]
  have H := hid h
  have G := hid g1
  have X := hid x1
  obtain ⟨c0, c1, c2, cf⟩ := h.cells
  clear h g1 x1 E
  go_enter Tryz.func159, Tryz.ntmps159
  go_wp2_with fail
  clear c0 c1 c2 cf
  go_loopg [] (e - i) (fun g wr => ∃ j : Nat, i ≤ j ∧ j ≤ e ∧ g = e - j ∧ Hid (Sc wr b s j raw ∧ Only b w wr))
  case atStart => exact ⟨i, by omega, by omega, rfl, hid ⟨H.out, Only.refl _ _⟩⟩
  case round =>
    obtain ⟨j, hj1, hj2, rfl, hB⟩ := hrel
    obtain ⟨c0, c1, c2, cf⟩ := hB.out.1.cells
    by_cases hlt : j < e
    · obtain ⟨hsz, hp⟩ := G.out j hj1 hlt
      obtain ⟨c, hc⟩ : ∃ c, s[j].toNat = c := ⟨_, rfl⟩
      rw [hc] at hp
      go_wp2_with fail
      go_quiet ((first | (go_at_call 109; exact Calls.quiet_of (atEnd_any (hB.out.1.drew _) false (at_no hsz))) | (go_at_call 175; exact Calls.quiet_of_same (pinAttr_at c true hp _))))
      go_wp2_with fail
      go_roundg (e - (j + 1))
      case measure => omega
      case rel => exact ⟨j + 1, by omega, by omega, rfl, hid ⟨(hB.out.1.drew _).set _ _ (by go_num), (hB.out.2.drew _).set _ _⟩⟩
    · obtain rfl : j = e := by omega
      by_cases hsz : j < s.size
      · have hp := X.out hsz
        obtain ⟨c, hc⟩ : ∃ c, s[j].toNat = c := ⟨_, rfl⟩
        rw [hc] at hp
        go_wp2_with fail
        go_quiet ((first | (go_at_call 109; exact Calls.quiet_of (atEnd_any (hB.out.1.drew _) false (at_no hsz))) | (go_at_call 175; exact Calls.quiet_of_same (pinAttr_at c false hp _))))
        go_wp2_with fail
        go_quiet (fail)
        go_wp2_with fail
        go_ret
        exact ⟨rfl, (hB.out.2.drew _).drew _, hB.out.1⟩
      · go_wp2_with fail
        go_quiet ((go_at_call 109; exact Calls.quiet_of (atEnd_any (hB.out.1.drew _) true (at_end (by omega)))))
        go_wp2_with fail
        go_quiet (fail)
        go_wp2_with fail
        go_ret
        exact ⟨rfl, (hB.out.2.drew _).drew _, hB.out.1⟩

theorem pinVal_at (c : Nat) (v : Bool) (h : inValB c = v) (w : World) : Calls Tryz.prog 184 #[.int .u8 c] w fun e w' => e = .returned (.bool v) ∧ w' = w := by
  rw [← h]; exact pinVal_any c w
set_option maxHeartbeats 4000000 in
set_option maxRecDepth 100000 in
theorem take_val {w : World} {b : Nat} {s : ByteArray} {i : Nat} {raw : ByteArray} (h : Sc w b s i raw) (hs : s.size ≤ 100000) (hi : i ≤ s.size) :
    Calls Tryz.prog 159 #[.pointer (some ⟨b, 0, none⟩), .func (.func 184) #[] #[]] w fun e w' => e = .returned (.string (s.extract i (spanE inValB s i))) ∧ Only b w w' ∧ Sc w' b s (spanE inValB s i) raw := by
  obtain ⟨e, E, a1, b1, g1, x1⟩ := spanE_is inValB s i hi
  rw [E]
  have H := hid h
  have G := hid g1
  have X := hid x1
  obtain ⟨c0, c1, c2, cf⟩ := h.cells
  clear h g1 x1 E
  go_enter Tryz.func159, Tryz.ntmps159
  go_wp2_with fail
  clear c0 c1 c2 cf
  go_loopg [] (e - i) (fun g wr => ∃ j : Nat, i ≤ j ∧ j ≤ e ∧ g = e - j ∧ Hid (Sc wr b s j raw ∧ Only b w wr))
  case atStart => exact ⟨i, by omega, by omega, rfl, hid ⟨H.out, Only.refl _ _⟩⟩
  case round =>
    obtain ⟨j, hj1, hj2, rfl, hB⟩ := hrel
    obtain ⟨c0, c1, c2, cf⟩ := hB.out.1.cells
    by_cases hlt : j < e
    · obtain ⟨hsz, hp⟩ := G.out j hj1 hlt
      obtain ⟨c, hc⟩ : ∃ c, s[j].toNat = c := ⟨_, rfl⟩
      rw [hc] at hp
      go_wp2_with fail
      go_quiet ((first | (go_at_call 109; exact Calls.quiet_of (atEnd_any (hB.out.1.drew _) false (at_no hsz))) | (go_at_call 184; exact Calls.quiet_of_same (pinVal_at c true hp _))))
      go_wp2_with fail
      go_roundg (e - (j + 1))
      case measure => omega
      case rel => exact ⟨j + 1, by omega, by omega, rfl, hid ⟨(hB.out.1.drew _).set _ _ (by go_num), (hB.out.2.drew _).set _ _⟩⟩
    · obtain rfl : j = e := by omega
      by_cases hsz : j < s.size
      · have hp := X.out hsz
        obtain ⟨c, hc⟩ : ∃ c, s[j].toNat = c := ⟨_, rfl⟩
        rw [hc] at hp
        go_wp2_with fail
        go_quiet ((first | (go_at_call 109; exact Calls.quiet_of (atEnd_any (hB.out.1.drew _) false (at_no hsz))) | (go_at_call 184; exact Calls.quiet_of_same (pinVal_at c false hp _))))
        go_wp2_with fail
        go_quiet (fail)
        go_wp2_with fail
        go_ret
        exact ⟨rfl, (hB.out.2.drew _).drew _, hB.out.1⟩
      · go_wp2_with fail
        go_quiet ((go_at_call 109; exact Calls.quiet_of (atEnd_any (hB.out.1.drew _) true (at_end (by omega)))))
        go_wp2_with fail
        go_quiet (fail)
        go_wp2_with fail
        go_ret
        exact ⟨rfl, (hB.out.2.drew _).drew _, hB.out.1⟩

theorem pblank_at (c : Nat) (v : Bool) (h : blankB c = v) (w : World) : Calls Tryz.prog 174 #[.int .u8 c] w fun e w' => e = .returned (.bool v) ∧ w' = w := by
  rw [← h]; exact pblank_any c w
set_option maxHeartbeats 4000000 in
set_option maxRecDepth 100000 in
theorem take_blank {w : World} {b : Nat} {s : ByteArray} {i : Nat} {raw : ByteArray} (h : Sc w b s i raw) (hs : s.size ≤ 100000) (hi : i ≤ s.size) :
    Calls Tryz.prog 159 #[.pointer (some ⟨b, 0, none⟩), .func (.func 174) #[] #[]] w fun e w' => e = .returned (.string (s.extract i (spanE blankB s i))) ∧ Only b w w' ∧ Sc w' b s (spanE blankB s i) raw := by
  obtain ⟨e, E, a1, b1, g1, x1⟩ := spanE_is blankB s i hi
  rw [E]
  have H := hid h
  have G := hid g1
  have X := hid x1
  obtain ⟨c0, c1, c2, cf⟩ := h.cells
  clear h g1 x1 E
  go_enter Tryz.func159, Tryz.ntmps159
  go_wp2_with fail
  clear c0 c1 c2 cf
  go_loopg [] (e - i) (fun g wr => ∃ j : Nat, i ≤ j ∧ j ≤ e ∧ g = e - j ∧ Hid (Sc wr b s j raw ∧ Only b w wr))
  case atStart => exact ⟨i, by omega, by omega, rfl, hid ⟨H.out, Only.refl _ _⟩⟩
  case round =>
    obtain ⟨j, hj1, hj2, rfl, hB⟩ := hrel
    obtain ⟨c0, c1, c2, cf⟩ := hB.out.1.cells
    by_cases hlt : j < e
    · obtain ⟨hsz, hp⟩ := G.out j hj1 hlt
      obtain ⟨c, hc⟩ : ∃ c, s[j].toNat = c := ⟨_, rfl⟩
      rw [hc] at hp
      go_wp2_with fail
      go_quiet ((first | (go_at_call 109; exact Calls.quiet_of (atEnd_any (hB.out.1.drew _) false (at_no hsz))) | (go_at_call 174; exact Calls.quiet_of_same (pblank_at c true hp _))))
      go_wp2_with fail
      go_roundg (e - (j + 1))
      case measure => omega
      case rel => exact ⟨j + 1, by omega, by omega, rfl, hid ⟨(hB.out.1.drew _).set _ _ (by go_num), (hB.out.2.drew _).set _ _⟩⟩
    · obtain rfl : j = e := by omega
      by_cases hsz : j < s.size
      · have hp := X.out hsz
        obtain ⟨c, hc⟩ : ∃ c, s[j].toNat = c := ⟨_, rfl⟩
        rw [hc] at hp
        go_wp2_with fail
        go_quiet ((first | (go_at_call 109; exact Calls.quiet_of (atEnd_any (hB.out.1.drew _) false (at_no hsz))) | (go_at_call 174; exact Calls.quiet_of_same (pblank_at c false hp _))))
        go_wp2_with fail
        go_quiet (fail)
        go_wp2_with fail
        go_ret
        exact ⟨rfl, (hB.out.2.drew _).drew _, hB.out.1⟩
      · go_wp2_with fail
        go_quiet ((go_at_call 109; exact Calls.quiet_of (atEnd_any (hB.out.1.drew _) true (at_end (by omega)))))
        go_wp2_with fail
        go_quiet (fail)
        go_wp2_with fail
        go_ret
        exact ⟨rfl, (hB.out.2.drew _).drew _, hB.out.1⟩
end Go.Proofs.YtkaeenafejdkfaaGreatDoor
