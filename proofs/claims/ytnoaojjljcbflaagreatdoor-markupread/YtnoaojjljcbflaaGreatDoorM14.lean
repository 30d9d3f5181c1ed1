/- A text with what its references stand for: step by step; what the document's answer looks for is what the program looks for. -/
import Derived.Test.YtnoaojjljcbflaaGreatDoorM13
import Derived.Deep.LoopGhost
namespace Go.Proofs.YtnoaojjljcbflaaGreatDoor

theorem refAt_pos {l : List UInt8} {r n : Nat} (h : refAt l = some (r, n)) : 1 ≤ n := by
  unfold refAt at h
  simp only at h
  split at h
  · cases hb : bodyR (l.takeWhile bodyB) with
    | none => rw [hb] at h; cases h
    | some x => rw [hb] at h; simp at h; omega
  · cases h
theorem meantL_fuel : ∀ (f g : Nat) (l : List UInt8), l.length ≤ f → l.length ≤ g → meantL f l = meantL g l
  | 0, g, l, h, _ => by
    obtain rfl : l = [] := List.eq_nil_of_length_eq_zero (by omega)
    cases g <;> rfl
  | f + 1, 0, l, _, h => by
    obtain rfl : l = [] := List.eq_nil_of_length_eq_zero (by omega)
    rfl
  | f + 1, g + 1, [], _, _ => rfl
  | f + 1, g + 1, c :: l, hf, hg => by
    simp only [List.length_cons] at hf hg
    unfold meantL
    split
    · split
      · rename_i r n hr
        rw [meantL_fuel f g (l.drop n) (by simp; omega) (by simp; omega)]
      · rw [meantL_fuel f g l (by omega) (by omega)]
    · rw [meantL_fuel f g l (by omega) (by omega)]
def meant (l : List UInt8) : List UInt8 := meantL l.length l
theorem meant_nil : meant [] = [] := rfl
theorem meant_plain {c : UInt8} {l : List UInt8} (h : c ≠ 38) : meant (c :: l) = c :: meant l := by
  show meantL (l.length + 1) (c :: l) = _
  unfold meantL
  rw [if_neg h]
  rfl
theorem meant_no {l : List UInt8} (h : refAt l = none) : meant (38 :: l) = 38 :: meant l := by
  show meantL (l.length + 1) (38 :: l) = _
  unfold meantL
  rw [if_pos rfl, h]
  rfl
theorem meant_ref {l : List UInt8} {r n : Nat} (h : refAt l = some (r, n)) : meant (38 :: l) = runeL r ++ meant (l.drop n) := by
  show meantL (l.length + 1) (38 :: l) = _
  unfold meantL
  rw [if_pos rfl, h]
  show runeL r ++ meantL l.length (l.drop n) = _
  rw [meantL_fuel l.length (l.drop n).length (l.drop n) (by simp) (Nat.le_refl _)]
  rfl

theorem dig_body {c : UInt8} (h : 0 ≤ digI c.toNat) : bodyB c = true := by
  unfold digI at h
  unfold bodyB alphaB
  simp only [Bool.or_eq_true, decide_eq_true_eq, beq_iff_eq]
  split at h
  · exact .inr (by omega)
  · split at h
    · exact .inl (.inl (by omega))
    · split at h
      · exact .inl (.inl (by omega))
      · omega
theorem numL_body (base : Nat) : ∀ (l : List UInt8) (n m : Nat), numL base l n = some m → l.all bodyB = true
  | [], _, _, _ => rfl
  | c :: l, n, m, h => by
    unfold numL at h
    split at h
    · cases h
    · rename_i hg
      rw [List.all_cons, dig_body (by omega), numL_body base l _ m h]
      rfl
theorem bodyT_body {l : List UInt8} {r : Nat} (h : bodyT l = some r) : l.all bodyB = true := by
  unfold bodyT at h
  split at h
  · rename_i c t
    split at h
    · rename_i hx
      unfold numRef at h
      split at h
      · cases h
      · cases hn : numL 16 t 0 with
        | none => rw [hn] at h; cases h
        | some m =>
          rw [List.all_cons, List.all_cons, numL_body 16 t 0 m hn]
          rcases hx with rfl | rfl <;> decide
    · unfold numRef at h
      rw [if_neg (by simp)] at h
      cases hn : numL 10 (c :: t) 0 with
      | none => rw [hn] at h; cases h
      | some m =>
        rw [List.all_cons, numL_body 10 (c :: t) 0 m hn]
        decide
  · cases h
theorem bodyR_body {l : List UInt8} {r : Nat} (h : bodyR l = some r) : l.all bodyB = true := by
  unfold bodyR at h
  iterate 8 (split at h; · rename_i e; subst e; decide)
  exact bodyT_body h
theorem takeWhile_take {l : List UInt8} {p : UInt8 → Bool} {j : Nat} (h1 : (l.take j).all p = true) (h2 : ∀ c, l[j]? = some c → p c = false) : l.takeWhile p = l.take j := by
  induction l generalizing j with
  | nil => simp
  | cons c l ih =>
    cases j with
    | zero =>
      have := h2 c (by simp)
      simp [this]
    | succ j =>
      simp only [List.take_succ_cons, List.all_cons, Bool.and_eq_true] at h1
      rw [List.takeWhile_cons, if_pos h1.1, List.take_succ_cons, ih h1.2 (fun d hd => h2 d (by simpa using hd))]
theorem mem_takeWhile_p {p : UInt8 → Bool} : ∀ {l : List UInt8} {x : UInt8}, x ∈ l.takeWhile p → p x = true
  | c :: l, x, h => by
    rw [List.takeWhile_cons] at h
    split at h
    · rename_i hc
      rcases List.mem_cons.1 h with rfl | h
      · exact hc
      · exact mem_takeWhile_p h
    · cases h
theorem semi_body : bodyB 59 = false := by decide
/-- the first `;` -/
theorem refAt_semi {l : List UInt8} {j : Nat} (hj : l[j]? = some 59) (hn : ∀ i, i < j → l[i]? ≠ some 59) : refAt l = (bodyR (l.take j)).map fun r => (r, j + 1) := by
  have hlt : j < l.length := (List.getElem?_eq_some_iff.1 hj).1
  have htl : (l.take j).length = j := by simp; omega
  cases hb : bodyR (l.take j) with
  | some r =>
    have e : l.takeWhile bodyB = l.take j := takeWhile_take (bodyR_body hb) (fun c hc => by rw [hj] at hc; obtain rfl := (Option.some.inj hc); exact semi_body)
    unfold refAt
    simp only [e, htl, hj, hb, if_true]
  | none =>
    unfold refAt
    simp only
    split
    · rename_i h59
      have hlen : (l.takeWhile bodyB).length = j := by
        rcases Nat.lt_trichotomy (l.takeWhile bodyB).length j with hlt2 | heq | hgt
        · exact absurd h59 (hn _ hlt2)
        · exact heq
        · exfalso
          have hp := List.takeWhile_prefix (p := bodyB) (l := l)
          obtain ⟨t, ht⟩ := hp
          have hmem : (l.takeWhile bodyB)[j]? = some 59 := by
            rw [← ht] at hj
            rw [List.getElem?_append_left hgt] at hj
            exact hj
          have hm2 : (59 : UInt8) ∈ l.takeWhile bodyB := List.mem_of_getElem? hmem
          have := mem_takeWhile_p hm2
          rw [semi_body] at this
          cases this
      have e : l.takeWhile bodyB = l.take j := by
        obtain ⟨t, ht⟩ := List.takeWhile_prefix (p := bodyB) (l := l)
        have : (l.takeWhile bodyB ++ t).take j = l.takeWhile bodyB := by rw [← hlen]; simp
        rw [ht] at this
        exact this.symm
      rw [e, hb]
      rfl
    · rfl
theorem refAt_none {l : List UInt8} (hn : ∀ i : Nat, l[i]? ≠ some 59) : refAt l = none := by
  unfold refAt
  simp only
  rw [if_neg (hn _)]
end Go.Proofs.YtnoaojjljcbflaaGreatDoor

/- The pieces of a markup as plain mathematics. -/
namespace Go.Proofs.YtnoaojjljcbflaaGreatDoor

def meantS (s : ByteArray) : ByteArray := ⟨(meant s.data.toList).toArray⟩
/-- a value at a place: with its strokes, or bare; and where it ends (beyond the text: nowhere) -/
def valP (s nm : ByteArray) (k : Nat) : ByteArray × ByteArray × Nat :=
  if bt s k = 34 ∨ bt s k = 39 then
    match findE (s.extract k (k + 1)) s (k + 1) with
    | some e => (nm, meantS (s.extract (k + 1) e), e + 1)
    | none => (nm, ⟨#[]⟩, s.size + 1)
  else (nm, meantS (s.extract k (spanE inValB s k)), spanE inValB s k)
theorem valP_hit {s nm : ByteArray} {k e : Nat} (h : bt s k = 34 ∨ bt s k = 39) (hf : findE (s.extract k (k + 1)) s (k + 1) = some e) : valP s nm k = (nm, meantS (s.extract (k + 1) e), e + 1) := by
  unfold valP; rw [if_pos h, hf]
theorem valP_miss {s nm : ByteArray} {k : Nat} (h : bt s k = 34 ∨ bt s k = 39) (hf : findE (s.extract k (k + 1)) s (k + 1) = none) : valP s nm k = (nm, ⟨#[]⟩, s.size + 1) := by
  unfold valP; rw [if_pos h, hf]
theorem valP_bare {s nm : ByteArray} {k : Nat} (h : ¬ (bt s k = 34 ∨ bt s k = 39)) : valP s nm k = (nm, meantS (s.extract k (spanE inValB s k)), spanE inValB s k) := by
  unfold valP; rw [if_neg h]
/-- an attribute at a place: its name, its value, where it ends (beyond the text: its value has no end) -/
def attrP (s : ByteArray) (i : Nat) : ByteArray × ByteArray × Nat :=
  let to := spanE inAttrB s (i + 1)
  let name := smallS (s.extract i to)
  let k := spanE blankB s to
  if bt s k = 61 then valP s name (spanE blankB s (k + 1)) else (name, ⟨#[]⟩, to)
/-- an end tag: where it ends, and its name; none: it has no end -/
def endP (s : ByteArray) (i : Nat) : Option (Nat × ByteArray) :=
  let to := spanE inTagB s (i + 2)
  match findE ⟨#[62]⟩ s to with
  | some k => some (k + 1, smallS (s.extract (i + 2) to))
  | none => none
end Go.Proofs.YtnoaojjljcbflaaGreatDoor

/- How far bytes of a sort go: each byte on the way; where it stops. -/
namespace Go.Proofs.YtnoaojjljcbflaaGreatDoor

theorem spanE_all (p : Nat → Bool) (s : ByteArray) (i k : Nat) (h1 : i ≤ k) (h2 : k < spanE p s i) : ∃ h : k < s.size, p s[k].toNat = true := by
  by_cases hi : i < s.size
  · cases hp : p s[i].toNat
    · rw [spanE_stop hi hp] at h2; omega
    · rw [spanE_step hi hp] at h2
      by_cases hk : k = i
      · subst hk; exact ⟨hi, hp⟩
      · exact spanE_all p s (i + 1) k (by omega) h2
  · rw [spanE_end (by omega)] at h2; omega
  termination_by s.size - i
/-- all that is known of where a sort stops -/
theorem spanE_is (p : Nat → Bool) (s : ByteArray) (i : Nat) (hi : i ≤ s.size) : ∃ e, spanE p s i = e ∧ i ≤ e ∧ e ≤ s.size ∧ (∀ k, i ≤ k → k < e → ∃ h : k < s.size, p s[k].toNat = true) ∧ (∀ h : e < s.size, p s[e].toNat = false) :=
  ⟨_, rfl, spanE_le p s i, spanE_size p s i hi, fun k h1 h2 => spanE_all p s i k h1 h2, fun h => spanE_none p s i h⟩
theorem inAttr_parts {c : Nat} : inAttrB c = true ↔ blankB c = false ∧ c ≠ 47 ∧ c ≠ 62 ∧ c ≠ 61 := by
  unfold inAttrB inTagB betwB
  simp
  constructor
  · rintro ⟨⟨⟨a, b⟩, c⟩, d⟩; exact ⟨a, b, c, d⟩
  · rintro ⟨a, b, c, d⟩; exact ⟨⟨⟨a, b⟩, c⟩, d⟩
theorem inAttr_no {c : Nat} (h : inAttrB c = false) : blankB c = true ∨ (blankB c = false ∧ (c = 47 ∨ c = 62 ∨ c = 61)) := by
  cases hb : blankB c
  · right
    refine ⟨rfl, ?_⟩
    have : ¬ inAttrB c = true := by rw [h]; simp
    rw [inAttr_parts] at this
    rcases Nat.decEq c 47 with h1 | h1
    · rcases Nat.decEq c 62 with h2 | h2
      · rcases Nat.decEq c 61 with h3 | h3
        · exact absurd ⟨hb, h1, h2, h3⟩ this
        · exact .inr (.inr h3)
      · exact .inr (.inl h2)
    · exact .inl h1
  · exact .inl rfl
theorem inVal_parts {c : Nat} : inValB c = true ↔ blankB c = false ∧ c ≠ 62 := by
  unfold inValB
  simp
theorem inVal_no {c : Nat} (h : inValB c = false) : blankB c = true ∨ (blankB c = false ∧ c = 62) := by
  cases hb : blankB c
  · right
    refine ⟨rfl, ?_⟩
    rcases Nat.decEq c 62 with h2 | h2
    · have : inValB c = true := inVal_parts.2 ⟨hb, h2⟩
      rw [h] at this; cases this
    · exact h2
  · exact .inl rfl
end Go.Proofs.YtnoaojjljcbflaaGreatDoor

/- The program: bytes of a sort; digits. -/
namespace Go.Proofs.YtnoaojjljcbflaaGreatDoor
open Go.RowKit

theorem pblank_any (c : Nat) (w : World) : Calls Tryz.prog 174 #[.int .u8 c] w fun e w' => e = .returned (.bool (blankB c)) ∧ w' = w := by
  go_enter Tryz.func174, Tryz.ntmps174
  go_wp2
  all_goals go_ret
  all_goals refine ⟨retb ?_, rfl⟩
  all_goals (rw [Bool.eq_iff_iff]; unfold blankB; simp; try omega)
theorem pletter_any (c : Nat) (w : World) : Calls Tryz.prog 156 #[.int .u8 c] w fun e w' => e = .returned (.bool (alphaB c)) ∧ w' = w := by
  go_enter Tryz.func156, Tryz.ntmps156
  go_wp2
  all_goals go_ret
  all_goals refine ⟨retb ?_, rfl⟩
  all_goals (rw [Bool.eq_iff_iff]; unfold alphaB; simp; try omega)
theorem pbetw_any (c : Nat) (w : World) : Calls Tryz.prog 161 #[.int .u8 c] w fun e w' => e = .returned (.bool (betwB c)) ∧ w' = w := by
  go_enter Tryz.func161, Tryz.ntmps161
  cases hq : blankB c
  all_goals go_wp2_with (go_at_call 174; refine (pblank_any c _).mono ?_; rintro e w' ⟨rfl, rfl⟩; rw [hq])
  all_goals go_ret
  all_goals refine ⟨retb ?_, rfl⟩
  all_goals (rw [Bool.eq_iff_iff]; unfold betwB; simp [hq]; try omega)
theorem pinTag_any (c : Nat) (w : World) : Calls Tryz.prog 160 #[.int .u8 c] w fun e w' => e = .returned (.bool (inTagB c)) ∧ w' = w := by
  go_enter Tryz.func160, Tryz.ntmps160
  cases hq : betwB c
  all_goals go_wp2_with (go_at_call 161; refine (pbetw_any c _).mono ?_; rintro e w' ⟨rfl, rfl⟩; rw [hq])
  all_goals go_ret
  all_goals refine ⟨retb ?_, rfl⟩
  all_goals (rw [Bool.eq_iff_iff]; unfold inTagB; simp [hq]; try omega)
theorem pinAttr_any (c : Nat) (w : World) : Calls Tryz.prog 175 #[.int .u8 c] w fun e w' => e = .returned (.bool (inAttrB c)) ∧ w' = w := by
  go_enter Tryz.func175, Tryz.ntmps175
  cases hq : inTagB c
  all_goals go_wp2_with (go_at_call 160; refine (pinTag_any c _).mono ?_; rintro e w' ⟨rfl, rfl⟩; rw [hq])
  all_goals go_ret
  all_goals refine ⟨retb ?_, rfl⟩
  all_goals (rw [Bool.eq_iff_iff]; unfold inAttrB; simp [hq]; try omega)
theorem pinVal_any (c : Nat) (w : World) : Calls Tryz.prog 184 #[.int .u8 c] w fun e w' => e = .returned (.bool (inValB c)) ∧ w' = w := by
  go_enter Tryz.func184, Tryz.ntmps184
  cases hq : blankB c
  all_goals go_wp2_with (go_at_call 174; refine (pblank_any c _).mono ?_; rintro e w' ⟨rfl, rfl⟩; rw [hq])
  all_goals go_ret
  all_goals refine ⟨retb ?_, rfl⟩
  all_goals (rw [Bool.eq_iff_iff]; unfold inValB; simp [hq]; try omega)
/-- a digit's worth; 16: it is none -/
def digP (c : Nat) : Int := if digI c < 0 then 16 else digI c
set_option maxHeartbeats 4000000 in
set_option maxRecDepth 100000 in
theorem pdigit_any (c : Nat) (w : World) : Calls Tryz.prog 189 #[.int .u8 c] w fun e w' => e = .returned (.int .i64 (digP c)) ∧ w' = w := by
  obtain ⟨r, hr⟩ : ∃ r, r = digP c := ⟨_, rfl⟩
  rw [← hr]
  have HR := hid hr
  clear hr
  go_enter Tryz.func189, Tryz.ntmps189
  go_wp2
  all_goals go_light
  all_goals go_ret
  all_goals (refine ⟨retn ?_, rfl⟩; rw [HR.out]; unfold digP digI)
  all_goals (first | (split <;> (try split) <;> (try split) <;> (try split) <;> omega) | (simp_all; omega))
end Go.Proofs.YtnoaojjljcbflaaGreatDoor

/- The program: the steps of a scanner. -/

namespace Go.Proofs.YtnoaojjljcbflaaGreatDoor
open Go.RowKit

/-- a scanner lies there -/
def Sc (w : World) (b : Nat) (s : ByteArray) (i : Nat) (raw : ByteArray) : Prop := w.heap[b]? = some (.cells #[.string s, .int .i64 i, .string raw] 119 (0, 0))
theorem Sc.cells {w : World} {b : Nat} {s : ByteArray} {i : Nat} {raw : ByteArray} (h : Sc w b s i raw) : w.cell? ⟨b, 0, none⟩ = some (.string s) ∧ w.cell? ⟨b, 1, none⟩ = some (.int .i64 i) ∧ w.cell? ⟨b, 2, none⟩ = some (.string raw) ∧ ∀ o, w.frozen? ⟨b, o, none⟩ = false := by
  unfold Sc at h
  refine ⟨?_, ?_, ?_, fun o => by simp [World.frozen?, h]⟩ <;> (rw [cell_of_row w b _ _ _ _ h]; rfl)
theorem Sc.set {w : World} {b : Nat} {s : ByteArray} {i : Nat} {raw : ByteArray} (h : Sc w b s i raw) (j : Int) (k : Nat) (hj : j = k) : Sc (w.setCell ⟨b, 1, none⟩ (.int .i64 j)) b s k raw := by
  subst hj
  unfold Sc at h ⊢
  simp [World.setCell, Array.getElem?_modify, h]
theorem Sc.below {w w' : World} {b : Nat} {s : ByteArray} {i : Nat} {raw : ByteArray} (h : Sc w b s i raw) {B : Nat} (hb : b < B) (hB : Below B w w') : Sc w' b s i raw := by
  unfold Sc at h ⊢
  rw [hB.block b hb]; exact h

/-- only one block has turned, and new ones may lie beside -/
structure Only (b : Nat) (w w' : World) : Prop where
  os : w'.os = w.os
  tape : w'.tape = w.tape
  output : w'.output = w.output
  size : w.heap.size ≤ w'.heap.size
  block : ∀ k, k < w.heap.size → k ≠ b → w'.heap[k]? = w.heap[k]?
theorem Only.refl (b : Nat) (w : World) : Only b w w := ⟨rfl, rfl, rfl, Nat.le_refl _, fun _ _ _ => rfl⟩
theorem Only.trans {b : Nat} {x y z : World} (h : Only b x y) (k : Only b y z) : Only b x z :=
  ⟨k.os.trans h.os, k.tape.trans h.tape, k.output.trans h.output, Nat.le_trans h.size k.size, fun i hi hb => (k.block i (Nat.lt_of_lt_of_le hi h.size) hb).trans (h.block i hi hb)⟩
theorem Only.of {b : Nat} {w w' : World} (h : Below w.heap.size w w') : Only b w w' := ⟨h.os, h.tape, h.output, h.size, fun k hk _ => h.block k hk⟩
theorem Only.set {b : Nat} {w w' : World} (h : Only b w w') (o : Nat) (u : Value) : Only b w (w'.setCell ⟨b, o, none⟩ u) :=
  ⟨h.os, h.tape, h.output, by simpa [World.setCell] using h.size, fun k hk hb => (Below.heap_setCell w' ⟨b, o, none⟩ u k hb).trans (h.block k hk hb)⟩
theorem Only.drew {b : Nat} {w w' : World} (h : Only b w w') (n : Nat) : Only b w (w'.drewN n) := ⟨h.os, h.tape, h.output, h.size, h.block⟩
theorem Sc.drew {w : World} {b : Nat} {s : ByteArray} {i : Nat} {raw : ByteArray} (h : Sc w b s i raw) (n : Nat) : Sc (w.drewN n) b s i raw := h
theorem Sc.lt {w : World} {b : Nat} {s : ByteArray} {i : Nat} {raw : ByteArray} (h : Sc w b s i raw) : b < w.heap.size := by
  unfold Sc at h
  rcases Nat.lt_or_ge b w.heap.size with h2 | h2
  · exact h2
  · rw [Array.getElem?_eq_none h2] at h; cases h

set_option maxHeartbeats 4000000 in
set_option maxRecDepth 100000 in
theorem atEnd_any {w : World} {b : Nat} {s : ByteArray} {i : Nat} {raw : ByteArray} (h : Sc w b s i raw) (r : Bool) (hr : decide (i = s.size) = r) :
    Calls Tryz.prog 109 #[.pointer (some ⟨b, 0, none⟩)] w fun e w' => e = .returned (.bool r) ∧ ∃ m, w' = w.drewN m := by
  have HR := hid hr
  obtain ⟨c0, c1, c2, cf⟩ := h.cells
  clear h hr
  go_enter Tryz.func109, Tryz.ntmps109
  go_wp2
  go_quiet (fail)
  go_wp2
  go_ret
  refine ⟨retb ?_, _, rfl⟩
  rw [← HR.out, Bool.eq_iff_iff]
  simp
  try omega
theorem at_end {i n : Nat} (h : i = n) : decide (i = n) = true := by rw [decide_eq_true_eq]; exact h
theorem at_no {i n : Nat} (h : i < n) : decide (i = n) = false := by rw [decide_eq_false_iff_not]; omega

theorem pinTag_at (c : Nat) (v : Bool) (h : inTagB c = v) (w : World) : Calls Tryz.prog 160 #[.int .u8 c] w fun e w' => e = .returned (.bool v) ∧ w' = w := by
  rw [← h]; exact pinTag_any c w
set_option maxHeartbeats 4000000 in
set_option maxRecDepth 100000 in
theorem take_tag {w : World} {b : Nat} {s : ByteArray} {i : Nat} {raw : ByteArray} (h : Sc w b s i raw) (hs : s.size ≤ 100000) (hi : i ≤ s.size) :
    Calls Tryz.prog 159 #[.pointer (some ⟨b, 0, none⟩), .func (.func 160) #[] #[]] w fun e w' => e = .returned (.string (s.extract i (spanE inTagB s i))) ∧ Only b w w' ∧ Sc w' b s (spanE inTagB s i) raw := by
  obtain ⟨e, E, a1, b1, g1, x1⟩ := spanE_is inTagB s i hi
  rw [E]
  have H := hid h
  have G := hid g1
  have X := hid x1
  obtain ⟨c0, c1, c2, cf⟩ := h.cells
  clear h g1 x1 E
  go_enter Tryz.func159, Tryz.ntmps159
  go_wp2_with fail
  clear c0 c1 c2 cf
  go_loopg [] (e - i) (fun g wr => ∃ j : Nat, i ≤ j ∧ j ≤ e ∧ g = e - j ∧ Hid (Sc wr b s j raw ∧ Only b w wr))
  case atStart => exact ⟨i, by omega, by omega, rfl, hid ⟨H.out, Only.refl _ _⟩⟩
  case round =>
    obtain ⟨j, hj1, hj2, rfl, hB⟩ := hrel
    obtain ⟨c0, c1, c2, cf⟩ := hB.out.1.cells
    by_cases hlt : j < e
    · obtain ⟨hsz, hp⟩ := G.out j hj1 hlt
      obtain ⟨c, hc⟩ : ∃ c, s[j].toNat = c := ⟨_, rfl⟩
      rw [hc] at hp
      go_wp2_with fail
      go_quiet ((first | (go_at_call 109; exact Calls.quiet_of (atEnd_any (hB.out.1.drew _) false (at_no hsz))) | (go_at_call 160; exact Calls.quiet_of_same (pinTag_at c true hp _))))
      go_wp2_with fail
      go_roundg (e - (j + 1))
      case measure => omega
      case rel => exact ⟨j + 1, by omega, by omega, rfl, hid ⟨(hB.out.1.drew _).set _ _ (by go_num), (hB.out.2.drew _).set _ _⟩⟩
    · obtain rfl : j = e := by omega
      by_cases hsz : j < s.size
      · have hp := X.out hsz
        obtain ⟨c, hc⟩ : ∃ c, s[j].toNat = c := ⟨_, rfl⟩
        rw [hc] at hp
        go_wp2_with fail
        go_quiet ((first | (go_at_call 109; exact Calls.quiet_of (atEnd_any (hB.out.1.drew _) false (at_no hsz))) | (go_at_call 160; exact Calls.quiet_of_same (pinTag_at c false hp _))))
        go_wp2_with fail
        go_quiet (fail)
        go_wp2_with fail
        go_ret
        exact ⟨rfl, (hB.out.2.drew _).drew _, hB.out.1⟩
      · go_wp2_with fail
        go_quiet ((go_at_call 109; exact Calls.quiet_of (atEnd_any (hB.out.1.drew _) true (at_end (by omega)))))
        go_wp2_with fail
        go_quiet (fail)
        go_wp2_with fail
        go_ret
        exact ⟨rfl, (hB.out.2.drew _).drew _, hB.out.1⟩

theorem pbetw_at (c : Nat) (v : Bool) (h : betwB c = v) (w : World) : Calls Tryz.prog 161 #[.int .u8 c] w fun e w' => e = .returned (.bool v) ∧ w' = w := by
  rw [← h]; exact pbetw_any c w
set_option maxHeartbeats 4000000 in
set_option maxRecDepth 100000 in
theorem take_betw {w : World} {b : Nat} {s : ByteArray} {i : Nat} {raw : ByteArray} (h : Sc w b s i raw) (hs : s.size ≤ 100000) (hi : i ≤ s.size) :
    Calls Tryz.prog 159 #[.pointer (some ⟨b, 0, none⟩), .func (.func 161) #[] #[]] w fun e w' => e = .returned (.string (s.extract i (spanE betwB s i))) ∧ Only b w w' ∧ Sc w' b s (spanE betwB s i) raw := by
  obtain ⟨e, E, a1, b1, g1, x1⟩ := spanE_is betwB s i hi
  rw [E]
  have H := hid h
  have G := hid g1
  have X := hid x1
  obtain ⟨c0, c1, c2, cf⟩ := h.cells
  clear h g1 x1 E
  go_enter Tryz.func159, Tryz.ntmps159
  go_wp2_with fail
  clear c0 c1 c2 cf
  go_loopg [] (e - i) (fun g wr => ∃ j : Nat, i ≤ j ∧ j ≤ e ∧ g = e - j ∧ Hid (Sc wr b s j raw ∧ Only b w wr))
  case atStart => exact ⟨i, by omega, by omega, rfl, hid ⟨H.out, Only.refl _ _⟩⟩
  case round =>
    obtain ⟨j, hj1, hj2, rfl, hB⟩ := hrel
    obtain ⟨c0, c1, c2, cf⟩ := hB.out.1.cells
    by_cases hlt : j < e
    · obtain ⟨hsz, hp⟩ := G.out j hj1 hlt
      obtain ⟨c, hc⟩ : ∃ c, s[j].toNat = c := ⟨_, rfl⟩
      rw [hc] at hp
      go_wp2_with fail
      go_quiet ((first | (go_at_call 109; exact Calls.quiet_of (atEnd_any (hB.out.1.drew _) false (at_no hsz))) | (go_at_call 161; exact Calls.quiet_of_same (pbetw_at c true hp _))))
      go_wp2_with fail
      go_roundg (e - (j + 1))
      case measure => omega
      case rel => exact ⟨j + 1, by omega, by omega, rfl, hid ⟨(hB.out.1.drew _).set _ _ (by go_num), (hB.out.2.drew _).set _ _⟩⟩
    · obtain rfl : j = e := by omega
      by_cases hsz : j < s.size
      · have hp := X.out hsz
        obtain ⟨c, hc⟩ : ∃ c, s[j].toNat = c := ⟨_, rfl⟩
        rw [hc] at hp
        go_wp2_with fail
        go_quiet ((first | (go_at_call 109; exact Calls.quiet_of (atEnd_any (hB.out.1.drew _) false (at_no hsz))) | (go_at_call 161; exact Calls.quiet_of_same (pbetw_at c false hp _))))
        go_wp2_with fail
        go_quiet (fail)
        go_wp2_with fail
        go_ret
        exact ⟨rfl, (hB.out.2.drew _).drew _, hB.out.1⟩
      · go_wp2_with fail
        go_quiet ((go_at_call 109; exact Calls.quiet_of (atEnd_any (hB.out.1.drew _) true (at_end (by omega)))))
        go_wp2_with fail
        go_quiet (fail)
        go_wp2_with fail
        go_ret
        exact ⟨rfl, (hB.out.2.drew _).drew _, hB.out.1⟩

theorem pinAttr_at (c : Nat) (v : Bool) (h : inAttrB c = v) (w : World) : Calls Tryz.prog 175 #[.int .u8 c] w fun e w' => e = .returned (.bool v) ∧ w' = w := by
  rw [← h]; exact pinAttr_any c w
set_option maxHeartbeats 4000000 in
set_option maxRecDepth 100000 in
theorem take_attr {w : World} {b : Nat} {s : ByteArray} {i : Nat} {raw : ByteArray} (h : Sc w b s i raw) (hs : s.size ≤ 100000) (hi : i ≤ s.size) :
    Calls Tryz.prog 159 #[.pointer (some ⟨b, 0, none⟩), .func (.func 175) #[] #[]] w fun e w' => e = .returned (.string (s.extract i (spanE inAttrB s i))) ∧ Only b w w' ∧ Sc w' b s (spanE inAttrB s i) raw := by
  obtain ⟨e, E, a1, b1, g1, x1⟩ := spanE_is inAttrB s i hi
  rw [E]
  have H := hid h
  have G := hid g1
  have X := hid x1
  obtain ⟨c0, c1, c2, cf⟩ := h.cells
  clear h g1 x1 E
  go_enter Tryz.func159, Tryz.ntmps159
  go_wp2_with fail
  clear c0 c1 c2 cf
  go_loopg [] (e - i) (fun g wr => ∃ j : Nat, i ≤ j ∧ j ≤ e ∧ g = e - j ∧ Hid (Sc wr b s j raw ∧ Only b w wr))
  case atStart => exact ⟨i, by omega, by omega, rfl, hid ⟨H.out, Only.refl _ _⟩⟩
  case round =>
    obtain ⟨j, hj1, hj2, rfl, hB⟩ := hrel
    obtain ⟨c0, c1, c2, cf⟩ := hB.out.1.cells
    by_cases hlt : j < e
    · obtain ⟨hsz, hp⟩ := G.out j hj1 hlt
      obtain ⟨c, hc⟩ : ∃ c, s[j].toNat = c := ⟨_, rfl⟩
      rw [hc] at hp
      go_wp2_with fail
      go_quiet ((first | (go_at_call 109; exact Calls.quiet_of (atEnd_any (hB.out.1.drew _) false (at_no hsz))) | (go_at_call 175; exact Calls.quiet_of_same (pinAttr_at c true hp _))))
      go_wp2_with fail
      go_roundg (e - (j + 1))
      case measure => omega
      case rel => exact ⟨j + 1, by omega, by omega, rfl, hid ⟨(hB.out.1.drew _).set _ _ (by go_num), (hB.out.2.drew _).set _ _⟩⟩
    · obtain rfl : j = e := by omega
      by_cases hsz : j < s.size
      · have hp := X.out hsz
        obtain ⟨c, hc⟩ : ∃ c, s[j].toNat = c := ⟨_, rfl⟩
        rw [hc] at hp
        go_wp2_with fail
        go_quiet ((first | (go_at_call 109; exact Calls.quiet_of (atEnd_any (hB.out.1.drew _) false (at_no hsz))) | (go_at_call 175; exact Calls.quiet_of_same (pinAttr_at c false hp _))))
        go_wp2_with fail
        go_quiet (fail)
        go_wp2_with fail
        go_ret
        exact ⟨rfl, (hB.out.2.drew _).drew _, hB.out.1⟩
      · go_wp2_with fail
        go_quiet ((go_at_call 109; exact Calls.quiet_of (atEnd_any (hB.out.1.drew _) true (at_end (by omega)))))
        go_wp2_with fail
        go_quiet (fail)
        go_wp2_with fail
        go_ret
        exact ⟨rfl, (hB.out.2.drew _).drew _, hB.out.1⟩

theorem pinVal_at (c : Nat) (v : Bool) (h : inValB c = v) (w : World) : Calls Tryz.prog 184 #[.int .u8 c] w fun e w' => e = .returned (.bool v) ∧ w' = w := by
  rw [← h]; exact pinVal_any c w
set_option maxHeartbeats 4000000 in
set_option maxRecDepth 100000 in
theorem take_val {w : World} {b : Nat} {s : ByteArray} {i : Nat} {raw : ByteArray} (h : Sc w b s i raw) (hs : s.size ≤ 100000) (hi : i ≤ s.size) :
    Calls Tryz.prog 159 #[.pointer (some ⟨b, 0, none⟩), .func (.func 184) #[] #[]] w fun e w' => e = .returned (.string (s.extract i (spanE inValB s i))) ∧ Only b w w' ∧ Sc w' b s (spanE inValB s i) raw := by
  obtain ⟨e, E, a1, b1, g1, x1⟩ := spanE_is inValB s i hi
  rw [E]
  have H := hid h
  have G := hid g1
  have X := hid x1
  obtain ⟨c0, c1, c2, cf⟩ := h.cells
  clear h g1 x1 E
  go_enter Tryz.func159, Tryz.ntmps159
  go_wp2_with fail
  clear c0 c1 c2 cf
  go_loopg [] (e - i) (fun g wr => ∃ j : Nat, i ≤ j ∧ j ≤ e ∧ g = e - j ∧ Hid (Sc wr b s j raw ∧ Only b w wr))
  case atStart => exact ⟨i, by omega, by omega, rfl, hid ⟨H.out, Only.refl _ _⟩⟩
  case round =>
    obtain ⟨j, hj1, hj2, rfl, hB⟩ := hrel
    obtain ⟨c0, c1, c2, cf⟩ := hB.out.1.cells
    by_cases hlt : j < e
    · obtain ⟨hsz, hp⟩ := G.out j hj1 hlt
      obtain ⟨c, hc⟩ : ∃ c, s[j].toNat = c := ⟨_, rfl⟩
      rw [hc] at hp
      go_wp2_with fail
      go_quiet ((first | (go_at_call 109; exact Calls.quiet_of (atEnd_any (hB.out.1.drew _) false (at_no hsz))) | (go_at_call 184; exact Calls.quiet_of_same (pinVal_at c true hp _))))
      go_wp2_with fail
      go_roundg (e - (j + 1))
      case measure => omega
      case rel => exact ⟨j + 1, by omega, by omega, rfl, hid ⟨(hB.out.1.drew _).set _ _ (by go_num), (hB.out.2.drew _).set _ _⟩⟩
    · obtain rfl : j = e := by omega
      by_cases hsz : j < s.size
      · have hp := X.out hsz
        obtain ⟨c, hc⟩ : ∃ c, s[j].toNat = c := ⟨_, rfl⟩
        rw [hc] at hp
        go_wp2_with fail
        go_quiet ((first | (go_at_call 109; exact Calls.quiet_of (atEnd_any (hB.out.1.drew _) false (at_no hsz))) | (go_at_call 184; exact Calls.quiet_of_same (pinVal_at c false hp _))))
        go_wp2_with fail
        go_quiet (fail)
        go_wp2_with fail
        go_ret
        exact ⟨rfl, (hB.out.2.drew _).drew _, hB.out.1⟩
      · go_wp2_with fail
        go_quiet ((go_at_call 109; exact Calls.quiet_of (atEnd_any (hB.out.1.drew _) true (at_end (by omega)))))
        go_wp2_with fail
        go_quiet (fail)
        go_wp2_with fail
        go_ret
        exact ⟨rfl, (hB.out.2.drew _).drew _, hB.out.1⟩

theorem pblank_at (c : Nat) (v : Bool) (h : blankB c = v) (w : World) : Calls Tryz.prog 174 #[.int .u8 c] w fun e w' => e = .returned (.bool v) ∧ w' = w := by
  rw [← h]; exact pblank_any c w
set_option maxHeartbeats 4000000 in
set_option maxRecDepth 100000 in
theorem take_blank {w : World} {b : Nat} {s : ByteArray} {i : Nat} {raw : ByteArray} (h : Sc w b s i raw) (hs : s.size ≤ 100000) (hi : i ≤ s.size) :
    Calls Tryz.prog 159 #[.pointer (some ⟨b, 0, none⟩), .func (.func 174) #[] #[]] w fun e w' => e = .returned (.string (s.extract i (spanE blankB s i))) ∧ Only b w w' ∧ Sc w' b s (spanE blankB s i) raw := by
  obtain ⟨e, E, a1, b1, g1, x1⟩ := spanE_is blankB s i hi
  rw [E]
  have H := hid h
  have G := hid g1
  have X := hid x1
  obtain ⟨c0, c1, c2, cf⟩ := h.cells
  clear h g1 x1 E
  go_enter Tryz.func159, Tryz.ntmps159
  go_wp2_with fail
  clear c0 c1 c2 cf
  go_loopg [] (e - i) (fun g wr => ∃ j : Nat, i ≤ j ∧ j ≤ e ∧ g = e - j ∧ Hid (Sc wr b s j raw ∧ Only b w wr))
  case atStart => exact ⟨i, by omega, by omega, rfl, hid ⟨H.out, Only.refl _ _⟩⟩
  case round =>
    obtain ⟨j, hj1, hj2, rfl, hB⟩ := hrel
    obtain ⟨c0, c1, c2, cf⟩ := hB.out.1.cells
    by_cases hlt : j < e
    · obtain ⟨hsz, hp⟩ := G.out j hj1 hlt
      obtain ⟨c, hc⟩ : ∃ c, s[j].toNat = c := ⟨_, rfl⟩
      rw [hc] at hp
      go_wp2_with fail
      go_quiet ((first | (go_at_call 109; exact Calls.quiet_of (atEnd_any (hB.out.1.drew _) false (at_no hsz))) | (go_at_call 174; exact Calls.quiet_of_same (pblank_at c true hp _))))
      go_wp2_with fail
      go_roundg (e - (j + 1))
      case measure => omega
      case rel => exact ⟨j + 1, by omega, by omega, rfl, hid ⟨(hB.out.1.drew _).set _ _ (by go_num), (hB.out.2.drew _).set _ _⟩⟩
    · obtain rfl : j = e := by omega
      by_cases hsz : j < s.size
      · have hp := X.out hsz
        obtain ⟨c, hc⟩ : ∃ c, s[j].toNat = c := ⟨_, rfl⟩
        rw [hc] at hp
        go_wp2_with fail
        go_quiet ((first | (go_at_call 109; exact Calls.quiet_of (atEnd_any (hB.out.1.drew _) false (at_no hsz))) | (go_at_call 174; exact Calls.quiet_of_same (pblank_at c false hp _))))
        go_wp2_with fail
        go_quiet (fail)
        go_wp2_with fail
        go_ret
        exact ⟨rfl, (hB.out.2.drew _).drew _, hB.out.1⟩
      · go_wp2_with fail
        go_quiet ((go_at_call 109; exact Calls.quiet_of (atEnd_any (hB.out.1.drew _) true (at_end (by omega)))))
        go_wp2_with fail
        go_quiet (fail)
        go_wp2_with fail
        go_ret
        exact ⟨rfl, (hB.out.2.drew _).drew _, hB.out.1⟩
end Go.Proofs.YtnoaojjljcbflaaGreatDoor
