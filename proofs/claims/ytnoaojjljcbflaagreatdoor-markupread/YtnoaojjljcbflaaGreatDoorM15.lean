/- The document's answer: a text with what its references stand for. -/
import Derived.Test.YtnoaojjljcbflaaGreatDoorM13
import Derived.Test.YtnoaojjljcbflaaGreatDoorM14
namespace Go.Proofs.YtnoaojjljcbflaaGreatDoor
open Go.RowKit

theorem bytes_get (s : ByteArray) (j : Nat) (h : j < s.size) : s.data.toList[j]? = some s[j] := by
  rw [List.getElem?_eq_getElem (by simpa using h)]
  rfl
theorem ext_list (s : ByteArray) (a b : Nat) : (s.extract a b).data.toList = (s.data.toList.drop a).take (b - a) := by
  rw [ByteArray.data_extract, Array.toList_extract]
theorem ext_one (s : ByteArray) (j : Nat) (h : j < s.size) : s.extract j (j + 1) = ⟨#[s[j]]⟩ := by
  apply ByteArray.ext
  apply Array.toList_inj.mp
  rw [ext_list, List.drop_eq_getElem_cons (by simpa using h)]
  simp
  rfl
theorem stands_one {s : ByteArray} {c : UInt8} {j : Nat} : standsAt ⟨#[c]⟩ s j ↔ s.data.toList[j]? = some c := by
  unfold standsAt
  show j + 1 ≤ s.size ∧ s.extract j (j + 1) = _ ↔ _
  constructor
  · rintro ⟨h1, h2⟩
    rw [ext_one s j h1] at h2
    rw [bytes_get s j h1]
    have := congrArg (fun x : ByteArray => x.data.toList) h2
    simpa using this
  · intro h
    have hl : j < s.size := by simpa using (List.getElem?_eq_some_iff.1 h).1
    rw [bytes_get s j hl] at h
    refine ⟨hl, ?_⟩
    rw [ext_one s j hl, Option.some.inj h]
theorem runeN_le (n : Nat) : runeN n ≤ 1114111 := by unfold runeN; split <;> omega
theorem numRef_le {b : Nat} {l : List UInt8} {n : Nat} (h : numRef b l = some n) : n ≤ 1114111 := by
  unfold numRef at h
  split at h
  · cases h
  · cases hn : numL b l 0 with
    | none => rw [hn] at h; cases h
    | some m =>
      rw [hn] at h
      obtain rfl : runeN m = n := by simpa using h
      exact runeN_le m
theorem bodyR_le {l : List UInt8} {n : Nat} (h : bodyR l = some n) : n ≤ 1114111 := by
  unfold bodyR at h
  iterate 8 (split at h; · obtain rfl := Option.some.inj h; decide)
  unfold bodyT at h
  split at h
  · split at h
    · exact numRef_le h
    · exact numRef_le h
  · cases h
theorem find_hit (s what : ByteArray) (i0 j : Nat) (h : findE what s i0 = some j) (hs : s.size ≤ 100000) (hw : 0 < what.size) (hw2 : what.size ≤ 100) (hi : i0 ≤ s.size) (w : World) :
    Calls Tryz.prog 61 #[.string s, .string what, .int .i64 i0] w fun e w' => e = .returned (.int .i64 j) ∧ w' = w := by
  have := rfind_any s what i0 hs hw hw2 hi w
  rw [h] at this
  exact this
theorem find_miss (s what : ByteArray) (i0 : Nat) (h : findE what s i0 = none) (hs : s.size ≤ 100000) (hw : 0 < what.size) (hw2 : what.size ≤ 100) (hi : i0 ≤ s.size) (w : World) :
    Calls Tryz.prog 61 #[.string s, .string what, .int .i64 i0] w fun e w' => e = .returned (.int .i64 (-1)) ∧ w' = w := by
  have := rfind_any s what i0 hs hw hw2 hi w
  rw [h] at this
  exact this
theorem stands_hit (s : ByteArray) (x : Int) (h0 : 0 ≤ x) (h : bodyR s.data.toList = some x.toNat) (hs : s.size ≤ 100000) (w : World) :
    Calls Tryz.prog 105 #[.string s] w fun e w' => e = .returned (.tuple #[.int .i64 x, .bool true]) ∧ Below w.heap.size w w' := by
  have := stands_any s hs w
  rw [h] at this
  rw [← Int.toNat_of_nonneg h0]
  exact this
theorem stands_miss (s : ByteArray) (h : bodyR s.data.toList = none) (hs : s.size ≤ 100000) (w : World) :
    Calls Tryz.prog 105 #[.string s] w fun e w' => e = .returned (.tuple #[.int .i64 0, .bool false]) ∧ Below w.heap.size w w' := by
  have := stands_any s hs w
  rw [h] at this
  exact this
/-- one byte further, as it stands -/
theorem meant_on {s : ByteArray} {k : Nat} {o : ByteArray} {L : List UInt8} (h : k < s.size) (hL : L = o.data.toList ++ meant (s.data.toList.drop k)) (hp : meant (s.data.toList.drop k) = s[k] :: meant (s.data.toList.drop (k + 1))) : L = (o ++ s.extract k (k + 1)).data.toList ++ meant (s.data.toList.drop (k + 1)) := by
  rw [hL, hp, ext_one s k h]
  simp

set_option maxHeartbeats 8000000 in
set_option maxRecDepth 100000 in
theorem rmeant_any (s : ByteArray) (hs : s.size ≤ 100000) (w : World) :
    Calls Tryz.prog 60 #[.string s] w fun e w' => e = .returned (.string ⟨(meant s.data.toList).toArray⟩) ∧ Below w.heap.size w w' := by
  go_enter Tryz.func60, Tryz.ntmps60
  go_wp2
  go_loopw [3, 4] (fun ov iv wr => ∃ (k : Nat) (o : ByteArray), k ≤ s.size ∧ iv = .int .i64 k ∧ ov = .string o ∧ o.size ≤ 4 * k ∧ Hid (meant s.data.toList = o.data.toList ++ meant (s.data.toList.drop k)) ∧ Hid (Below w.heap.size w wr)) (fun _ iv _ => s.size - (intOf iv).toNat)
  case atStart => exact ⟨0, ⟨#[]⟩, by omega, rfl, rfl, by decide, hid rfl, hid (Below.refl _ _)⟩
  case round =>
    obtain ⟨k, o, hk, rfl, rfl, ho, hm, hB⟩ := hrel
    by_cases hlt : k < s.size
    · obtain ⟨c, hc⟩ : ∃ c, s[k].toNat = c := ⟨_, rfl⟩
      have hcons : s.data.toList.drop k = s[k] :: s.data.toList.drop (k + 1) := List.drop_eq_getElem_cons (by simpa using hlt)
      have hesz : (s.extract k (k + 1)).size = 1 := by rw [ext_one s k hlt]; rfl
      by_cases h38 : c = 38
      · subst h38
        have hsk : s[k] = 38 := UInt8.toNat_inj.mp hc
        have hfn : ∀ j, k < j → (s.data.toList.drop (k + 1))[j - (k + 1)]? = s.data.toList[j]? := fun j hj => by
          rw [List.getElem?_drop]; congr 1; omega
        cases hf : findE ⟨#[59]⟩ s k with
        | none =>
          have hr : refAt (s.data.toList.drop (k + 1)) = none := refAt_none (fun i hi => by
            rw [List.getElem?_drop] at hi
            exact findE_no (by decide) hf (k + 1 + i) (by omega) (stands_one.2 hi))
          have H := hid (meant_on hlt hm.out (by rw [hcons, hsk, meant_no hr]))
          clear hcons hfn hsk hr
          go_wp2_with (go_at_call 61; refine (find_miss s ⟨#[59]⟩ k hf hs (by decide) (by decide) hk _).mono ?_; rintro e w' ⟨rfl, rfl⟩)
          all_goals go_light
          all_goals first
            | (refine ⟨⟨k + 1, _, by omega, by go_num, rfl, by rw [ByteArray.size_append, hesz]; omega, H, hB⟩, ?_⟩; simp [intOf]; omega)
            | (exfalso; simp_all; done)
        | some j =>
          obtain ⟨hkj, hst, hno⟩ := findE_some hf
          have h59 := stands_one.1 hst
          have hjs : j < s.size := by simpa using (List.getElem?_eq_some_iff.1 h59).1
          have hne : j ≠ k := fun e => by
            subst e
            rw [bytes_get s j hlt, hsk] at h59
            cases h59
          have hkj2 : k < j := by omega
          have hr := refAt_semi (l := s.data.toList.drop (k + 1)) (j := j - (k + 1)) (by rw [hfn j hkj2]; exact h59) (fun i hi hi2 => by
            rw [List.getElem?_drop] at hi2
            exact hno (k + 1 + i) (by omega) (by omega) (stands_one.2 hi2))
          rw [← ext_list s (k + 1) j] at hr
          have hes : (s.extract (k + 1) j).size ≤ 100000 := by rw [ByteArray.size_extract]; omega
          clear hno hst h59 hfn
          cases hb : bodyR (s.extract (k + 1) j).data.toList with
          | none =>
            rw [hb] at hr
            have H := hid (meant_on hlt hm.out (by rw [hcons, hsk, meant_no hr]))
            clear hcons hsk hr
            go_wp2_with (first | (go_at_call 61; refine (find_hit s ⟨#[59]⟩ k j hf hs (by decide) (by decide) hk _).mono ?_; rintro e w' ⟨rfl, rfl⟩) | (go_at_call 105; refine (stands_miss (s.extract (k + 1) j) hb hes _).mono ?_; rintro e w' ⟨rfl, hB2⟩))
            all_goals go_light
            refine ⟨⟨k + 1, _, by omega, by go_num, rfl, by rw [ByteArray.size_append, hesz]; omega, H, hid (hB.out.trans (hB2.mono hB.out.size))⟩, ?_⟩
            simp [intOf]
            omega
          | some n =>
            rw [hb] at hr
            have hn := bodyR_le hb
            obtain ⟨x, hx⟩ : ∃ x : Int, x = n := ⟨_, rfl⟩
            have hx0 : 0 ≤ x := by omega
            have hx1 : x ≤ 1114111 := by omega
            obtain rfl : n = x.toNat := by omega
            have hL : meant s.data.toList = (o ++ ⟨(runeL x.toNat).toArray⟩).data.toList ++ meant (s.data.toList.drop (j + 1)) := by
              rw [hm.out, hcons, hsk, meant_ref hr, List.drop_drop]
              simp
              congr 2
              omega
            have H := hid hL
            have hrs : (runeL x.toNat).length ≤ 4 := by unfold runeL; split <;> (try split) <;> (try split) <;> simp
            clear hcons hsk hr hL hx hn
            go_wp2_with (first | (go_at_call 61; refine (find_hit s ⟨#[59]⟩ k j hf hs (by decide) (by decide) hk _).mono ?_; rintro e w' ⟨rfl, rfl⟩) | (go_at_call 105; refine (stands_hit (s.extract (k + 1) j) x hx0 hb hes _).mono ?_; rintro e w' ⟨rfl, hB2⟩) | (go_at_call 106; refine (rrune_any x hx0 hx1 _).mono ?_; rintro e w' ⟨rfl, hB3⟩))
            all_goals go_light
            refine ⟨⟨j + 1, _, by omega, by go_num, rfl, ?_, H, hid ((hB.out.trans (hB2.mono hB.out.size)).trans (hB3.mono (hB.out.trans (hB2.mono hB.out.size)).size))⟩, ?_⟩
            · rw [ByteArray.size_append]
              show o.size + (runeL x.toNat).toArray.size ≤ _
              rw [List.size_toArray]
              omega
            · simp [intOf]
              omega
      · have H := hid (meant_on hlt hm.out (by rw [hcons, meant_plain (fun e => h38 (by rw [← hc, e]; rfl))]))
        have h38' := cast_ne h38
        clear hcons
        go_wp2
        all_goals go_light
        all_goals first
          | (refine ⟨⟨k + 1, _, by omega, by go_num, rfl, by rw [ByteArray.size_append, hesz]; omega, H, hB⟩, ?_⟩; simp [intOf]; omega)
          | (exfalso; simp_all; done)
    · have hke : k = s.size := by omega
      subst hke
      go_wp2
      go_ret
      refine ⟨rets ?_, hB.out⟩
      rw [hm.out, drop_size, meant_nil]
      simp
end Go.Proofs.YtnoaojjljcbflaaGreatDoor

/- The document's answer: an end tag; an attribute. -/
namespace Go.Proofs.YtnoaojjljcbflaaGreatDoor
open Go.RowKit

/-- a piece of the document's answer as a value -/
def rpv (kind : ByteArray) (fr to : Nat) (name text : ByteArray) (attrs : Value) : Value := .agg #[.string kind, .int .i64 fr, .int .i64 to, .string name, .string text, attrs]
def kNothing : ByteArray := ⟨#[110, 111, 116, 104, 105, 110, 103]⟩
def kEnd : ByteArray := ⟨#[101, 110, 100]⟩
def noS : ByteArray := ⟨#[]⟩
def endV (s : ByteArray) (i : Nat) : Value := match endP s i with
  | some (k, n) => rpv kEnd i k n noS (.slice none 0 0)
  | none => rpv kNothing i s.size noS noS (.slice none 0 0)

theorem six_cellsR {w : World} {b : Nat} {t : TypeId} {a0 a1 a2 a3 a4 a5 : Value} (h : w.heap[b]? = some (.cells #[a0, a1, a2, a3, a4, a5] t (0, 0))) : w.cell? ⟨b, 0, none⟩ = some a0 ∧ w.cell? ⟨b, 1, none⟩ = some a1 ∧ w.cell? ⟨b, 2, none⟩ = some a2 ∧ w.cell? ⟨b, 3, none⟩ = some a3 ∧ w.cell? ⟨b, 4, none⟩ = some a4 ∧ w.cell? ⟨b, 5, none⟩ = some a5 ∧ ∀ o, w.frozen? ⟨b, o, none⟩ = false := by
  refine ⟨?_, ?_, ?_, ?_, ?_, ?_, fun o => by simp [World.frozen?, h]⟩ <;> (rw [cell_of_row w b _ _ _ _ h]; rfl)

set_option maxHeartbeats 8000000 in
set_option maxRecDepth 100000 in
theorem rendTag_any (s : ByteArray) (i : Nat) (hs : s.size ≤ 100000) (hi : i + 2 ≤ s.size) (w : World) :
    Calls Tryz.prog 62 #[.string s, .int .i64 i] w fun e w' => e = .returned (endV s i) ∧ Below w.heap.size w w' := by
  obtain ⟨r, hr⟩ : ∃ r, r = endV s i := ⟨_, rfl⟩
  rw [← hr]
  have HR := hid hr
  clear hr
  obtain ⟨t, ht⟩ : ∃ t, spanE inTagB s (i + 2) = t := ⟨_, rfl⟩
  have ht1 : i + 2 ≤ t := by rw [← ht]; exact spanE_le _ _ _
  have ht2 : t ≤ s.size := by rw [← ht]; exact spanE_size _ _ _ hi
  have hne : ∀ w, Calls Tryz.prog 107 #[.string s, .int .i64 ((i : Int) + 2)] w fun e w' => e = .returned (.int .i64 t) ∧ w' = w := fun w => by
    have := nameEnd_any s (i + 2) hs hi w
    rw [ht] at this
    exact this
  cases hf : findE ⟨#[62]⟩ s t with
  | none =>
    have H : Hid (r = rpv kNothing i s.size noS noS (.slice none 0 0)) := by
      show r = _
      rw [HR.out]; unfold endV endP; simp only [ht, hf]
    clear HR
    go_enter Tryz.func62, Tryz.ntmps62
    go_wp2_with (first | (go_at_call 107; refine (hne _).mono ?_; rintro e w' ⟨rfl, rfl⟩) | (go_at_call 61; refine (find_miss s ⟨#[62]⟩ t hf hs (by decide) (by decide) ht2 _).mono ?_; rintro e w' ⟨rfl, rfl⟩))
    all_goals go_light
    refine bodyPost_ret (v := rpv kNothing i s.size noS noS (.slice none 0 0)) ?_ rfl ⟨by rw [H.out], (Below.refl _ _).alloc (Nat.le_refl _) _⟩
    simp [results, Tryz.results62, go_sem]
    rfl
  | some k =>
    obtain ⟨hk1, hk2, _⟩ := findE_some hf
    have hk3 : k < s.size := hk2.1
    have H : Hid (r = rpv kEnd i (k + 1) (smallS (s.extract (i + 2) t)) noS (.slice none 0 0)) := by
      show r = _
      rw [HR.out]; unfold endV endP; simp only [ht, hf]
    have hes : (s.extract (i + 2) t).size ≤ 100000 := by rw [ByteArray.size_extract]; omega
    clear HR
    go_enter Tryz.func62, Tryz.ntmps62
    go_wp2_with (first | (go_at_call 107; refine (hne _).mono ?_; rintro e w' ⟨rfl, rfl⟩) | (go_at_call 61; refine (find_hit s ⟨#[62]⟩ t k hf hs (by decide) (by decide) ht2 _).mono ?_; rintro e w' ⟨rfl, rfl⟩))
    refine (rsmall_any (s.extract (i + 2) t) hes _).mono ?_
    rintro e w1 ⟨rfl, hB⟩
    have hb0 := hB.block w.heap.size (by simp)
    rw [heap_alloc_new w] at hb0
    have HB : Hid (Below w.heap.size w w1) := ((Below.refl _ _).alloc (Nat.le_refl _) _).trans (hB.mono (by simp))
    obtain ⟨d0, d1, d2, d3, d4, d5, df⟩ := six_cellsR hb0
    clear hB hb0
    go_wp2_with fail
    all_goals go_light
    refine bodyPost_ret (v := rpv kEnd i (k + 1) (smallS (s.extract (i + 2) t)) noS (.slice none 0 0)) ?_ rfl ⟨by rw [H.out], ?_⟩
    · simp [results, Tryz.results62, go_sem, d0, d1, d2, d3, d4, d5]
      rfl
    · exact (((((HB.out.setCell (Nat.le_refl _) _).setCell (Nat.le_refl _) _).setCell (Nat.le_refl _) _).setCell (Nat.le_refl _) _).setCell (Nat.le_refl _) _).setCell (Nat.le_refl _) _
end Go.Proofs.YtnoaojjljcbflaaGreatDoor

/- The document's answer: where the text of a raw element ends. -/
namespace Go.Proofs.YtnoaojjljcbflaaGreatDoor
open Go.RowKit

theorem inTag_parts {c : Nat} : inTagB c = true ↔ blankB c = false ∧ c ≠ 47 ∧ c ≠ 62 := by
  unfold inTagB betwB
  simp
  constructor
  · rintro ⟨⟨a, b⟩, c⟩; exact ⟨a, b, c⟩
  · rintro ⟨a, b, c⟩; exact ⟨⟨a, b⟩, c⟩
theorem inTag_no {c : Nat} (h : inTagB c = false) : blankB c = true ∨ (blankB c = false ∧ (c = 47 ∨ c = 62)) := by
  cases hb : blankB c
  · right
    refine ⟨rfl, ?_⟩
    have : ¬ inTagB c = true := by rw [h]; simp
    rw [inTag_parts] at this
    rcases Nat.decEq c 47 with h1 | h1
    · rcases Nat.decEq c 62 with h2 | h2
      · exact absurd ⟨hb, h1, h2⟩ this
      · exact .inr h2
    · exact .inl h1
  · exact .inl rfl
/-- an end tag of that name stands there -/
def rawHit (s name : ByteArray) (k : Nat) : Prop := k + 2 + name.size ≤ s.size ∧ s.extract k (k + 2) = ⟨#[60, 47]⟩ ∧ smallS (s.extract (k + 2) (k + 2 + name.size)) = name ∧ (k + 2 + name.size = s.size ∨ inTagB (bt s (k + 2 + name.size)) = false)
instance (s name : ByteArray) (k : Nat) : Decidable (rawHit s name k) := by unfold rawHit; infer_instance
def rawE (s name : ByteArray) (k : Nat) : Nat := if k < s.size then (if rawHit s name k then k else rawE s name (k + 1)) else k
  termination_by s.size - k
theorem rawE_hit {s name : ByteArray} {k : Nat} (h : k < s.size) (hh : rawHit s name k) : rawE s name k = k := by rw [rawE]; simp [h, hh]
theorem rawE_step {s name : ByteArray} {k : Nat} (h : k < s.size) (hh : ¬ rawHit s name k) : rawE s name k = rawE s name (k + 1) := by rw [rawE]; simp [h, hh]
theorem rawE_end {s name : ByteArray} {k : Nat} (h : s.size ≤ k) : rawE s name k = k := by rw [rawE]; simp [show ¬ k < s.size by omega]

theorem lt_slash : (⟨#[60, 47]⟩ : ByteArray).toList = [60, 47] := by rw [Lib.toList_data]

set_option maxHeartbeats 8000000 in
set_option maxRecDepth 100000 in
theorem rawEnd_any (s name : ByteArray) (i : Nat) (hs : s.size ≤ 100000) (hi : i ≤ s.size) (hn : name.size ≤ 100) (w : World) :
    Calls Tryz.prog 28 #[.string s, .int .i64 i, .string name] w fun e w' => e = .returned (.int .i64 (rawE s name i)) ∧ Below w.heap.size w w' := by
  obtain ⟨r, hr⟩ : ∃ r, r = rawE s name i := ⟨_, rfl⟩
  rw [← hr]
  have HR := hid hr
  clear hr
  go_enter Tryz.func28, Tryz.ntmps28
  go_wp2
  go_loopw [1] (fun v wr => ∃ k : Nat, k ≤ s.size ∧ v = .int .i64 k ∧ Hid (r = rawE s name k) ∧ Hid (Below w.heap.size w wr)) (fun v _ => s.size - (intOf v).toNat)
  case atStart => exact ⟨i, hi, rfl, HR, hid (Below.refl _ _)⟩
  case round =>
    obtain ⟨k, hk, rfl, ha, hB⟩ := hrel
    by_cases hlt : k < s.size
    · by_cases hA : k + 2 + name.size ≤ s.size
      rotate_left
      · have H : Hid (r = rawE s name (k + 1)) := ha.out.trans (rawE_step hlt (fun h => hA h.1))
        go_wp2
        all_goals go_light
        all_goals first
          | (refine ⟨⟨k + 1, by omega, by go_num, H, hB⟩, ?_⟩; simp [intOf]; omega)
          | (exfalso; simp_all; done)
          | (exfalso; omega)
      by_cases h2 : s.extract k (k + 2) = ⟨#[60, 47]⟩
      rotate_left
      · have H : Hid (r = rawE s name (k + 1)) := ha.out.trans (rawE_step hlt (fun h => h2 h.2.1))
        have hb : ¬ (s.extract k (k + 2)).toList = [60, 47] := fun e => h2 (toList_inj' (e.trans lt_slash.symm))
        go_wp2_with fail
        all_goals go_light
        all_goals first
          | (refine ⟨⟨k + 1, by omega, by go_num, H, hB⟩, ?_⟩; simp [intOf]; omega)
          | (exfalso; simp_all; done)
      have h2' : (s.extract k (k + 2)).toList = [60, 47] := by rw [h2]; exact lt_slash
      have hes : (s.extract (k + 2) (k + 2 + name.size)).size ≤ 100000 := by rw [ByteArray.size_extract]; omega
      obtain ⟨sm, hsm⟩ : ∃ sm, sm = smallS (s.extract (k + 2) (k + 2 + name.size)) := ⟨_, rfl⟩
      by_cases h3 : sm = name
      rotate_left
      · have H : Hid (r = rawE s name (k + 1)) := ha.out.trans (rawE_step hlt (fun h => h3 (hsm.trans h.2.2.1)))
        have hb : ¬ sm.toList = name.toList := fun e => h3 (toList_inj' e)
        clear ha
        go_wp2_with (go_at_call 68; refine (rsmall_any _ hes _).mono ?_; rintro e w1 ⟨rfl, hB1⟩; rw [← hsm])
        all_goals go_light
        all_goals first
          | (refine ⟨⟨k + 1, by omega, by go_num, H, hid (hB.out.trans (hB1.mono hB.out.size))⟩, ?_⟩; simp [intOf]; omega)
          | (exfalso; simp_all; done)
      rw [h3] at hsm
      have HS := hid hsm
      clear hsm h3
      by_cases h4 : k + 2 + name.size = s.size
      · have H : Hid (r = k) := ha.out.trans (rawE_hit hlt ⟨hA, h2, HS.out.symm, .inl h4⟩)
        have e4 : ((k : Int) + 2 + name.size == s.size) = true := by rw [beq_iff_eq]; omega
        clear ha h4
        go_wp2_with (go_at_call 68; refine (rsmall_any _ hes _).mono ?_; rintro e w1 ⟨rfl, hB1⟩; rw [← HS.out])
        all_goals go_light
        all_goals first
          | (go_ret; exact ⟨retn (by rw [H.out]), hB.out.trans (hB1.mono hB.out.size)⟩)
          | (exfalso; simp_all; done)
      have h5 : k + 2 + name.size < s.size := by omega
      have e4 : ((k : Int) + 2 + name.size == s.size) = false := by rw [beq_eq_false_iff_ne]; omega
      obtain ⟨t, ht⟩ : ∃ t, k + 2 + name.size = t := ⟨_, rfl⟩
      obtain ⟨c, hc⟩ : ∃ c, s[k + 2 + name.size].toNat = c := ⟨_, rfl⟩
      have hbt : bt s (k + 2 + name.size) = c := by rw [bt_lt h5, hc]
      cases hin : inTagB c
      · have H : Hid (r = k) := ha.out.trans (rawE_hit hlt ⟨hA, h2, HS.out.symm, .inr (by rw [hbt]; exact hin)⟩)
        have hq3 : blankB c = true ∨ (blankB c = false ∧ (c = 47 ∨ c = 62)) := inTag_no hin
        clear ha h4 ht hbt hin
        rcases hq3 with hq | ⟨hq, h47 | h62⟩
        · go_wp2_with (first | (go_at_call 68; refine (rsmall_any _ hes _).mono ?_; rintro e w1 ⟨rfl, hB1⟩; rw [← HS.out]) | (go_at_call 69; refine (rblank_any _ _).mono ?_; rintro e w' ⟨rfl, rfl⟩; rw [hq]))
          all_goals go_light
          all_goals first
            | (go_ret; exact ⟨retn (by rw [H.out]), hB.out.trans (hB1.mono hB.out.size)⟩)
            | (exfalso; simp_all; done)
        · have n47 : ((c : Int) == 47) = true := by simp [h47]
          clear h47
          go_wp2_with (first | (go_at_call 68; refine (rsmall_any _ hes _).mono ?_; rintro e w1 ⟨rfl, hB1⟩; rw [← HS.out]) | (go_at_call 69; refine (rblank_any _ _).mono ?_; rintro e w' ⟨rfl, rfl⟩; rw [hq]))
          all_goals go_light
          all_goals first
            | (go_ret; exact ⟨retn (by rw [H.out]), hB.out.trans (hB1.mono hB.out.size)⟩)
            | (exfalso; simp_all; done)
        · have n47 : ((c : Int) == 47) = false := by rw [h62]; rfl
          have n62 : ((c : Int) == 62) = true := by simp [h62]
          clear h62
          go_wp2_with (first | (go_at_call 68; refine (rsmall_any _ hes _).mono ?_; rintro e w1 ⟨rfl, hB1⟩; rw [← HS.out]) | (go_at_call 69; refine (rblank_any _ _).mono ?_; rintro e w' ⟨rfl, rfl⟩; rw [hq]))
          all_goals go_light
          all_goals first
            | (go_ret; exact ⟨retn (by rw [H.out]), hB.out.trans (hB1.mono hB.out.size)⟩)
            | (exfalso; simp_all; done)
      · have H : Hid (r = rawE s name (k + 1)) := ha.out.trans (rawE_step hlt (fun h => by
          rcases h.2.2.2 with h | h
          · exact h4 h
          · rw [hbt, hin] at h; cases h))
        obtain ⟨hq, m47, m62⟩ := inTag_parts.1 hin
        have n47 : ((c : Int) == 47) = false := by rw [beq_eq_false_iff_ne]; omega
        have n62 : ((c : Int) == 62) = false := by rw [beq_eq_false_iff_ne]; omega
        clear ha h4 ht hbt hin m47 m62
        go_wp2_with (first | (go_at_call 68; refine (rsmall_any _ hes _).mono ?_; rintro e w1 ⟨rfl, hB1⟩; rw [← HS.out]) | (go_at_call 69; refine (rblank_any _ _).mono ?_; rintro e w' ⟨rfl, rfl⟩; rw [hq]))
        all_goals go_light
        all_goals first
          | (refine ⟨⟨k + 1, by omega, by go_num, H, hid (hB.out.trans (hB1.mono hB.out.size))⟩, ?_⟩; simp [intOf]; omega)
          | (exfalso; simp_all; done)
    · have H : Hid (r = k) := ha.out.trans (rawE_end (by omega))
      go_wp2
      go_ret
      exact ⟨retn (by rw [H.out]), hB.out⟩
end Go.Proofs.YtnoaojjljcbflaaGreatDoor

/- The pieces of a markup as plain mathematics: start tags, and which piece stands at a place. -/
namespace Go.Proofs.YtnoaojjljcbflaaGreatDoor

/-- the attributes of a start tag from a place on, those whose names are none left out, and where the tag ends; none: it has no end -/
def attrsF (ok : ByteArray → Bool) : Nat → ByteArray → Nat → List (ByteArray × ByteArray) → Option (List (ByteArray × ByteArray) × Nat)
  | 0, _, _, _ => none
  | f + 1, s, i, l =>
    let j := spanE betwB s i
    if s.size ≤ j then none else if bt s j = 62 then some (l, j + 1) else
      let a := attrP s j
      if s.size < a.2.2 then none else attrsF ok f s a.2.2 (if ok a.1 then l ++ [(a.1, a.2.1)] else l)
/-- the first of each name -/
def firsts (l : List (ByteArray × ByteArray)) : List (ByteArray × ByteArray) := l.foldl (fun acc x => if acc.any (fun y => y.1 == x.1) then acc else acc ++ [x]) []
theorem firsts_snoc (l : List (ByteArray × ByteArray)) (x : ByteArray × ByteArray) : firsts (l ++ [x]) = if (firsts l).any (fun y => y.1 == x.1) then firsts l else firsts l ++ [x] := by
  unfold firsts; rw [List.foldl_append]; rfl
theorem firsts_le (l : List (ByteArray × ByteArray)) : (firsts l).length ≤ l.length := by
  obtain ⟨n, hn⟩ : ∃ n, n = l.length := ⟨_, rfl⟩
  induction n generalizing l with
  | zero => obtain rfl := List.eq_nil_of_length_eq_zero hn.symm; simp [firsts]
  | succ n ih =>
    rcases List.eq_nil_or_concat l with h | ⟨m, x, h⟩
    · subst h; simp at hn
    · rw [List.concat_eq_append] at h
      subst h
      rw [List.length_append, List.length_singleton] at hn ⊢
      have := ih m (by omega)
      rw [firsts_snoc]
      split
      · omega
      · rw [List.length_append, List.length_singleton]; omega

inductive Pc where
  | text (t : ByteArray) (to : Nat)
  | com (t : ByteArray) (to : Nat)
  | none (to : Nat)
  | fin (name : ByteArray) (to : Nat)
  | start (name : ByteArray) (attrs : List (ByteArray × ByteArray)) (to : Nat)

/-- how far words go that begin at a place -/
def wordN (s : ByteArray) (i : Nat) : Nat := if i < s.size then (if startB s i then i else wordN s (i + 1)) else i
  termination_by s.size - i
theorem wordN_hit {s : ByteArray} {i : Nat} (h : i < s.size) (hb : startB s i = true) : wordN s i = i := by rw [wordN]; simp [h, hb]
theorem wordN_step {s : ByteArray} {i : Nat} (h : i < s.size) (hb : startB s i = false) : wordN s i = wordN s (i + 1) := by rw [wordN]; simp [h, hb]
theorem wordN_end {s : ByteArray} {i : Nat} (h : s.size ≤ i) : wordN s i = i := by rw [wordN]; simp [show ¬ i < s.size by omega]
theorem wordN_le (s : ByteArray) (i : Nat) : i ≤ wordN s i := by
  by_cases h : i < s.size
  · cases hp : startB s i
    · rw [wordN_step h hp]
      have := wordN_le s (i + 1)
      omega
    · rw [wordN_hit h hp]; exact Nat.le_refl _
  · rw [wordN_end (by omega)]; exact Nat.le_refl _
  termination_by s.size - i
theorem wordN_size (s : ByteArray) (i : Nat) (hi : i ≤ s.size) : wordN s i ≤ s.size := by
  by_cases h : i < s.size
  · cases hp : startB s i
    · rw [wordN_step h hp]
      exact wordN_size s (i + 1) h
    · rw [wordN_hit h hp]; exact hi
  · rw [wordN_end (by omega)]; exact hi
  termination_by s.size - i

def mComS : ByteArray := ⟨#[60, 33, 45, 45]⟩
def startP (ok : ByteArray → Bool) (s : ByteArray) (i : Nat) : Pc :=
  let to := spanE inTagB s (i + 1)
  match attrsF ok (s.size + 1) s to [] with
  | some (l, e) => .start (smallS (s.extract (i + 1) to)) l e
  | none => .none s.size
/-- the piece at a place -/
def pieceP (ok : ByteArray → Bool) (s : ByteArray) (i : Nat) : Pc :=
  if startB s i = false then .text (meantS (s.extract i (wordN s (i + 1)))) (wordN s (i + 1))
  else if standsAt ⟨#[60, 33, 45, 45]⟩ s i then
    match findE ⟨#[45, 45, 62]⟩ s (i + 4) with
    | some k => .com (s.extract (i + 4) k) (k + 3)
    | none => .com (s.extract (i + 4) s.size) s.size
  else if bt s (i + 1) = 33 ∨ bt s (i + 1) = 63 then
    match findE ⟨#[62]⟩ s i with
    | some k => .none (k + 1)
    | none => .none s.size
  else if bt s (i + 1) = 47 then
    match endP s i with
    | some (e, name) => .fin name e
    | none => .none s.size
  else startP ok s i
end Go.Proofs.YtnoaojjljcbflaaGreatDoor
