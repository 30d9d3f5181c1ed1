/- What references stand for, as plain mathematics: a number's digits, the eight names, runes as bytes, a text with its references put in. -/
import Derived.Test.YtnoaojjljcbflaaGreatDoorM12
namespace Go.Proofs.YtnoaojjljcbflaaGreatDoor

/-- a digit's worth; -1: it is none -/
def digI (c : Nat) : Int := if 48 ≤ c ∧ c ≤ 57 then (c : Int) - 48 else if 97 ≤ c ∧ c ≤ 102 then (c : Int) - 87 else if 65 ≤ c ∧ c ≤ 70 then (c : Int) - 55 else -1
theorem digI_lt (c : Nat) : digI c < 16 := by unfold digI; split <;> (try split) <;> (try split) <;> omega
theorem digI_ge (c : Nat) : -1 ≤ digI c := by unfold digI; split <;> (try split) <;> (try split) <;> omega
/-- the number of digits; none: one is no digit of that base -/
def numL (base : Nat) : List UInt8 → Nat → Option Nat
  | [], n => some n
  | c :: l, n => if digI c.toNat < 0 ∨ (base : Int) ≤ digI c.toNat then none else numL base l (n * base + (digI c.toNat).toNat)
/-- the rune that a number tells -/
def runeN (n : Nat) : Nat := if n = 0 ∨ 1114111 < n ∨ (55296 ≤ n ∧ n ≤ 57343) then 65533 else n
def ampL : List UInt8 := [97, 109, 112]
def ltL : List UInt8 := [108, 116]
def gtL : List UInt8 := [103, 116]
def quotL : List UInt8 := [113, 117, 111, 116]
def aposL : List UInt8 := [97, 112, 111, 115]
def nbspL : List UInt8 := [110, 98, 115, 112]
def shyL : List UInt8 := [115, 104, 121]
def zwspL : List UInt8 := [122, 119, 115, 112]
def numRef (base : Nat) (l : List UInt8) : Option Nat := if l = [] then none else (numL base l 0).map runeN
/-- what is left where no name fits -/
def bodyT (l : List UInt8) : Option Nat := match l with
  | 35 :: c :: r => if c = 120 ∨ c = 88 then numRef 16 r else numRef 10 (c :: r)
  | _ => none
/-- what a reference's body stands for -/
def bodyR (l : List UInt8) : Option Nat :=
  if l = ampL then some 38 else if l = ltL then some 60 else if l = gtL then some 62 else if l = quotL then some 34 else if l = aposL then some 39
  else if l = nbspL then some 160 else if l = shyL then some 173 else if l = zwspL then some 8203
  else bodyT l
/-- the capped number (the document's answer stops at 2^24) -/
theorem numL_ge (base : Nat) : ∀ (l : List UInt8) (n m : Nat), 1 ≤ base → numL base l n = some m → n ≤ m
  | [], n, m, _, h => by simp [numL] at h; omega
  | c :: l, n, m, hb, h => by
    unfold numL at h
    split at h
    · cases h
    · have := numL_ge base l _ m hb h
      have h2 : n ≤ n * base := Nat.le_mul_of_pos_right n hb
      omega
/-- bytes of a rune -/
def runeL (n : Nat) : List UInt8 :=
  if n < 128 then [UInt8.ofNat n]
  else if n < 2048 then [UInt8.ofNat (192 + n / 64), UInt8.ofNat (128 + n % 64)]
  else if n < 65536 then [UInt8.ofNat (224 + n / 4096), UInt8.ofNat (128 + n / 64 % 64), UInt8.ofNat (128 + n % 64)]
  else [UInt8.ofNat (240 + n / 262144), UInt8.ofNat (128 + n / 4096 % 64), UInt8.ofNat (128 + n / 64 % 64), UInt8.ofNat (128 + n % 64)]
def bodyB (c : UInt8) : Bool := alphaB c.toNat || c == 35 || decide (48 ≤ c.toNat ∧ c.toNat ≤ 57)
/-- what stands behind a `&`, if it is a reference: its rune, and how many bytes it has with its `;` -/
def refAt (l : List UInt8) : Option (Nat × Nat) :=
  let b := l.takeWhile bodyB
  if l[b.length]? = some 59 then (bodyR b).map fun r => (r, b.length + 1) else none
/-- a text with what its references stand for -/
def meantL : Nat → List UInt8 → List UInt8
  | 0, _ => []
  | _ + 1, [] => []
  | f + 1, c :: l => if c = 38 then (match refAt l with
      | some (r, n) => runeL r ++ meantL f (l.drop n)
      | none => c :: meantL f l) else c :: meantL f l
end Go.Proofs.YtnoaojjljcbflaaGreatDoor

/- The document's answer: digits; runes as bytes. -/
namespace Go.Proofs.YtnoaojjljcbflaaGreatDoor
open Go.RowKit

theorem foldl_push_ints : ∀ (l : List Int) (r : ByteArray), l.foldl (fun r n => r.push (UInt8.ofNat n.toNat)) r = ⟨r.data ++ (l.map fun n => UInt8.ofNat n.toNat).toArray⟩
  | [], r => by simp
  | b :: l, r => by
    simp only [List.foldl_cons]
    rw [foldl_push_ints l]
    simp [ByteArray.push]

set_option maxRecDepth 100000 in
/-- numbers in a new row as a text -/
theorem conv_ints (wr : World) (l : List Int) (C : Array Value) (hC : C = (l.map (Value.int .u8)).toArray) :
    (convert 128 9 (.slice (some ⟨wr.heap.size, 0, none⟩) l.length l.length)).run Tryz.prog (wr.alloc (.cells C 5)) = .ok (.string ⟨(l.map fun n => UInt8.ofNat n.toNat).toArray⟩) (wr.alloc (.cells C 5)) := by
  rw [run_convert_bytes_string (P := Tryz.prog) _ 128 9 5 (some ⟨wr.heap.size, 0, none⟩) l.length l.length (by rfl) (by rfl) (by rfl)]
  have hl := run_loadCells_list (P := Tryz.prog) (wr.alloc (.cells C 5)) ⟨wr.heap.size, 0, none⟩ (l.map (Value.int .u8)) (fun j v hj => by
    have h1 := World.cell?_alloc_mark wr C 5 (0, 0) j
    have h3 : C[j]? = some v := by rw [hC]; simpa using hj
    rw [h3] at h1
    rw [← h1]
    show World.cell? _ _ = World.cell? _ ⟨wr.heap.size, j, none⟩
    congr 1
    simp [Addr.add]
    try omega)
  simp only [List.length_map] at hl
  rw [run_bytesToString _ ⟨wr.heap.size, 0, none⟩ l.length l.length l hl, foldl_push_ints]
  have he0 : ByteArray.empty.data = #[] := rfl
  rw [he0]
  simp

set_option maxHeartbeats 4000000 in
set_option maxRecDepth 100000 in
theorem rdigit_any (c : Nat) (w : World) : Calls Tryz.prog 131 #[.int .u8 c] w fun e w' => e = .returned (.int .i64 (digI c)) ∧ w' = w := by
  obtain ⟨r, hr⟩ : ∃ r, r = digI c := ⟨_, rfl⟩
  rw [← hr]
  have HR := hid hr
  clear hr
  go_enter Tryz.func131, Tryz.ntmps131
  go_wp2
  all_goals go_light
  all_goals go_ret
  all_goals (refine ⟨retn ?_, rfl⟩; rw [HR.out]; unfold digI)
  all_goals (first | (split <;> (try split) <;> (try split) <;> omega) | (simp_all; omega))

set_option maxHeartbeats 4000000 in
set_option maxRecDepth 20000 in
theorem rrune_any (x : Int) (h0 : 0 ≤ x) (hx : x ≤ 1114111) (w : World) : Calls Tryz.prog 106 #[.int .i64 x] w fun e w' => e = .returned (.string ⟨(runeL x.toNat).toArray⟩) ∧ Below w.heap.size w w' := by
  obtain ⟨r, hr⟩ : ∃ r, r = runeL x.toNat := ⟨_, rfl⟩
  rw [← hr]
  have HR := hid hr
  clear hr
  have c1 := conv_ints w [x] #[.int .u8 x] rfl
  have c2 := conv_ints w [192 + x / 64, 128 + x % 64] #[.int .u8 (192 + x / 64), .int .u8 (128 + x % 64)] rfl
  have c3 := conv_ints w [224 + x / 4096, 128 + x / 64 % 64, 128 + x % 64] #[.int .u8 (224 + x / 4096), .int .u8 (128 + x / 64 % 64), .int .u8 (128 + x % 64)] rfl
  have c4 := conv_ints w [240 + x / 262144, 128 + x / 4096 % 64, 128 + x / 64 % 64, 128 + x % 64] #[.int .u8 (240 + x / 262144), .int .u8 (128 + x / 4096 % 64), .int .u8 (128 + x / 64 % 64), .int .u8 (128 + x % 64)] rfl
  simp only [List.length_cons, List.length_nil, Nat.zero_add, Nat.reduceAdd, List.map_cons, List.map_nil] at c1 c2 c3 c4
  go_enter Tryz.func106, Tryz.ntmps106
  go_wp2
  all_goals clear c1 c2 c3 c4
  all_goals go_light
  · go_ret
    refine ⟨rets ?_, (Below.refl _ _).alloc (Nat.le_refl _) _⟩
    rw [HR.out]
    unfold runeL
    rw [if_pos (by omega)]
  · go_ret
    refine ⟨rets ?_, (Below.refl _ _).alloc (Nat.le_refl _) _⟩
    rw [HR.out]
    unfold runeL
    rw [if_neg (by omega), if_pos (by omega)]
    rw [show (192 + x / 64).toNat = 192 + x.toNat / 64 by omega, show (128 + x % 64).toNat = 128 + x.toNat % 64 by omega]
  · go_ret
    refine ⟨rets ?_, (Below.refl _ _).alloc (Nat.le_refl _) _⟩
    rw [HR.out]
    unfold runeL
    rw [if_neg (by omega), if_neg (by omega), if_pos (by omega)]
    rw [show (224 + x / 4096).toNat = 224 + x.toNat / 4096 by omega, show (128 + x / 64 % 64).toNat = 128 + x.toNat / 64 % 64 by omega, show (128 + x % 64).toNat = 128 + x.toNat % 64 by omega]
  · go_ret
    refine ⟨rets ?_, (Below.refl _ _).alloc (Nat.le_refl _) _⟩
    rw [HR.out]
    unfold runeL
    rw [if_neg (by omega), if_neg (by omega), if_neg (by omega)]
    rw [show (240 + x / 262144).toNat = 240 + x.toNat / 262144 by omega, show (128 + x / 4096 % 64).toNat = 128 + x.toNat / 4096 % 64 by omega, show (128 + x / 64 % 64).toNat = 128 + x.toNat / 64 % 64 by omega, show (128 + x % 64).toNat = 128 + x.toNat % 64 by omega]
end Go.Proofs.YtnoaojjljcbflaaGreatDoor

/- The document's answer: what a reference's body stands for. -/
namespace Go.Proofs.YtnoaojjljcbflaaGreatDoor
open Go.RowKit

def nmA : Array ByteArray := #[⟨ampL.toArray⟩, ⟨ltL.toArray⟩, ⟨gtL.toArray⟩, ⟨quotL.toArray⟩, ⟨aposL.toArray⟩, ⟨nbspL.toArray⟩, ⟨shyL.toArray⟩, ⟨zwspL.toArray⟩]
def rnA : Array Int := #[38, 60, 62, 34, 39, 160, 173, 8203]

theorem drop_size (s : ByteArray) : s.data.toList.drop s.size = [] := List.drop_of_length_le (by simp)
theorem two_ret {i : Int} {n : Nat} (h : i = n) : Ending.returned (Value.tuple #[.int .i64 i, .bool true]) = .returned (.tuple #[.int .i64 ((some n).getD 0 : Nat), .bool (some n).isSome]) := by rw [h]; rfl
theorem ne_list {s : ByteArray} {l : List UInt8} (h : (⟨l.toArray⟩ : ByteArray) ≠ s) : s.data.toList ≠ l := fun e => h (by
  apply ByteArray.ext
  simp [← e])
theorem bodyR_rest {s : ByteArray} (h : ∀ j, j < 8 → nmA.getD j ⟨#[]⟩ ≠ s) : bodyR s.data.toList = bodyT s.data.toList := by
  unfold bodyR
  rw [if_neg (ne_list (h 0 (by omega))), if_neg (ne_list (h 1 (by omega))), if_neg (ne_list (h 2 (by omega))), if_neg (ne_list (h 3 (by omega))), if_neg (ne_list (h 4 (by omega))), if_neg (ne_list (h 5 (by omega))), if_neg (ne_list (h 6 (by omega))), if_neg (ne_list (h 7 (by omega)))]
theorem data_cons {s : ByteArray} (h : 1 < s.size) : s.data.toList = s[0] :: s[1] :: s.data.toList.drop 2 := by
  have h0 : 0 < s.data.toList.length := by simp; omega
  have h1 : 1 < s.data.toList.length := by simpa using h
  conv => lhs; rw [← List.drop_zero (l := s.data.toList), List.drop_eq_getElem_cons h0, List.drop_eq_getElem_cons h1]
  rfl
theorem bodyT_short {s : ByteArray} (h : s.size < 2) : bodyT s.data.toList = none := by
  have hl : s.data.toList.length < 2 := by simpa using h
  match hd : s.data.toList, hl with
  | [], _ => rfl
  | [a], _ => simp [bodyT]
theorem bodyT_no {s : ByteArray} (h : 1 < s.size) (h0 : s[0].toNat ≠ 35) : bodyT s.data.toList = none := by
  rw [data_cons h]
  have : s[0] ≠ 35 := fun e => h0 (by rw [e]; rfl)
  unfold bodyT
  split
  · rename_i heq
    simp at heq
    exact absurd heq.1 this
  · rfl
theorem bodyT_hex {s : ByteArray} (h : 1 < s.size) (h0 : s[0].toNat = 35) (h1 : s[1].toNat = 120 ∨ s[1].toNat = 88) : bodyT s.data.toList = numRef 16 (s.data.toList.drop 2) := by
  rw [data_cons h]
  have e0 : s[0] = 35 := UInt8.toNat_inj.mp h0
  have e1 : s[1] = 120 ∨ s[1] = 88 := by rcases h1 with h1 | h1; exact .inl (UInt8.toNat_inj.mp h1); exact .inr (UInt8.toNat_inj.mp h1)
  rw [e0]
  unfold bodyT
  simp [e1]
theorem bodyT_dec {s : ByteArray} (h : 1 < s.size) (h0 : s[0].toNat = 35) (h1 : s[1].toNat ≠ 120) (h2 : s[1].toNat ≠ 88) : bodyT s.data.toList = numRef 10 (s.data.toList.drop 1) := by
  have e0 : s[0] = 35 := UInt8.toNat_inj.mp h0
  have e1 : ¬ (s[1] = 120 ∨ s[1] = 88) := by rintro (e | e); exact h1 (by rw [e]; rfl); exact h2 (by rw [e]; rfl)
  have e2 : s.data.toList.drop 1 = s[1] :: s.data.toList.drop 2 := by rw [data_cons h]; rfl
  rw [e2, data_cons h, e0]
  unfold bodyT
  simp [e1]
/-- the document's answer stops reckoning at 2^24 -/
def CapR (x : Int) (m : Nat) : Prop := (m < 16777216 ∧ x = m) ∨ (16777216 ≤ m ∧ 16777216 ≤ x)
theorem capR_rune {x : Int} {m : Nat} (h : CapR x m) : (runeN m : Int) = if x = 0 ∨ 1114111 < x ∨ (55296 ≤ x ∧ x ≤ 57343) then 65533 else x := by
  unfold runeN
  rcases h with ⟨_, rfl⟩ | ⟨h1, h2⟩
  · split <;> rename_i g <;> (first | rw [if_pos (by omega)] | rw [if_neg (by omega)])
    rfl
  · rw [if_pos (by omega), if_pos (by omega)]
    rfl
theorem numL_step {base : Nat} {l : List UInt8} {k : Nat} {m : Nat} {d : Int} (h : k < l.length) (hd : digI l[k].toNat = d) (h0 : 0 ≤ d) (hb : d < base) : numL base (l.drop k) m = numL base (l.drop (k + 1)) (m * base + d.toNat) := by
  rw [List.drop_eq_getElem_cons h]
  conv => lhs; unfold numL
  rw [hd, if_neg (by omega)]
theorem numL_bad {base : Nat} {l : List UInt8} {k : Nat} {m : Nat} {d : Int} (h : k < l.length) (hd : digI l[k].toNat = d) (hb : d < 0 ∨ (base : Int) ≤ d) : numL base (l.drop k) m = none := by
  rw [List.drop_eq_getElem_cons h]
  unfold numL
  rw [hd, if_pos hb]
theorem numRef_some {base : Nat} {l : List UInt8} {m : Nat} (hl : l ≠ []) (h : numL base l 0 = some m) : numRef base l = some (runeN m) := by
  unfold numRef; rw [if_neg hl, h]; rfl
theorem numRef_none {base : Nat} {l : List UInt8} (hl : l ≠ []) (h : numL base l 0 = none) : numRef base l = none := by
  unfold numRef; rw [if_neg hl, h]; rfl
theorem rdigit_at (c : Nat) (d : Int) (hd : digI c = d) (w : World) : Calls Tryz.prog 131 #[.int .u8 c] w fun e w' => e = .returned (.int .i64 d) ∧ w' = w := by
  rw [← hd]; exact rdigit_any c w
theorem capR_grow {x : Int} {m base : Nat} {d : Int} (h : CapR x m) (hx : x < 16777216) (h0 : 0 ≤ d) : CapR (x * base + d) (m * base + d.toNat) := by
  rcases h with ⟨a, rfl⟩ | ⟨_, b⟩
  · unfold CapR
    have e : ((m : Int) * base + d) = ((m * base + d.toNat : Nat) : Int) := by rw [Int.natCast_add, Int.natCast_mul]; omega
    rw [e]
    omega
  · omega
theorem capR_stay {x : Int} {m base : Nat} {d : Int} (h : CapR x m) (hx : ¬ x < 16777216) (hb : 1 ≤ base) : CapR x (m * base + d.toNat) := by
  have h2 : m ≤ m * base := Nat.le_mul_of_pos_right m hb
  rcases h with ⟨a, rfl⟩ | ⟨a, b⟩
  · omega
  · exact .inr ⟨by omega, b⟩

set_option maxHeartbeats 8000000 in
set_option maxRecDepth 100000 in
theorem stands_any (s : ByteArray) (hs : s.size ≤ 100000) (w : World) :
    Calls Tryz.prog 105 #[.string s] w fun e w' => e = .returned (.tuple #[.int .i64 ((bodyR s.data.toList).getD 0 : Nat), .bool (bodyR s.data.toList).isSome]) ∧ Below w.heap.size w w' := by
  obtain ⟨r, hr⟩ : ∃ r, r = bodyR s.data.toList := ⟨_, rfl⟩
  rw [← hr]
  have HR := hid hr
  clear hr
  go_enter Tryz.func105, Tryz.ntmps105
  go_wp2
  generalize hw2 : (w.alloc _).alloc _ = w2
  have cn : ∀ k : Nat, k < 8 → w2.cell? ⟨w.heap.size, k, none⟩ = some (.string (nmA.getD k ⟨#[]⟩)) := by
    intro k hk
    subst hw2
    rw [World.cell?_alloc_lt _ _ ⟨w.heap.size, k, none⟩ (by simp), World.cell?_alloc_mark]
    match k, hk with
    | 0, _ | 1, _ | 2, _ | 3, _ | 4, _ | 5, _ | 6, _ | 7, _ => rfl
  have cr : ∀ k : Nat, k < 8 → w2.cell? ⟨w.heap.size + 1, k, none⟩ = some (.int .i64 (rnA.getD k 0)) := by
    intro k hk
    subst hw2
    have e : w.heap.size + 1 = (w.alloc (.cells #[.string ⟨#[97, 109, 112]⟩, .string ⟨#[108, 116]⟩, .string ⟨#[103, 116]⟩, .string ⟨#[113, 117, 111, 116]⟩, .string ⟨#[97, 112, 111, 115]⟩, .string ⟨#[110, 98, 115, 112]⟩, .string ⟨#[115, 104, 121]⟩, .string ⟨#[122, 119, 115, 112]⟩] 9)).heap.size := by simp
    rw [e, World.cell?_alloc_mark]
    match k, hk with
    | 0, _ | 1, _ | 2, _ | 3, _ | 4, _ | 5, _ | 6, _ | 7, _ => rfl
  have HB : Hid (Below w.heap.size w w2) := by
    subst hw2
    exact ((Below.refl _ _).alloc (Nat.le_refl _) _).alloc (by simp) _
  clear hw2
  go_loop [6] (fun iv => ∃ k : Nat, k ≤ 8 ∧ iv = .int .i64 k ∧ Hid (∀ j, j < k → nmA.getD j ⟨#[]⟩ ≠ s)) (fun iv => 8 - (intOf iv).toNat)
  case atStart => exact ⟨0, by omega, rfl, hid (fun j hj => absurd hj (by omega))⟩
  case round =>
    obtain ⟨k, hk, rfl, ha⟩ := hrel
    by_cases hlt : k < 8
    · have ck := cn k hlt
      have dk := cr k hlt
      by_cases he : nmA.getD k ⟨#[]⟩ = s
      · have H : Hid (r = some (rnA.getD k 0).toNat ∧ 0 ≤ rnA.getD k 0) := by
          rw [HR.out, ← he]
          match k, hlt with
          | 0, _ | 1, _ | 2, _ | 3, _ | 4, _ | 5, _ | 6, _ | 7, _ => exact ⟨by decide, by decide⟩
        rw [he] at ck
        obtain ⟨y, hy⟩ : ∃ y, rnA.getD k 0 = y := ⟨_, rfl⟩
        rw [hy] at dk H
        clear cn cr he
        go_wp2
        all_goals go_light
        go_ret2
        obtain ⟨h3, h4⟩ := H.out
        refine ⟨?_, HB.out⟩
        rw [h3]
        show Ending.returned (Value.tuple #[.int .i64 y, .bool true]) = Ending.returned (Value.tuple #[.int .i64 ((y.toNat : Nat) : Int), .bool true])
        rw [Int.toNat_of_nonneg h4]
      · have H : Hid (∀ j, j < k + 1 → nmA.getD j ⟨#[]⟩ ≠ s) := fun j hj => by
          by_cases hjk : j = k
          · subst hjk; exact he
          · exact ha.out j (by omega)
        obtain ⟨z, hz⟩ : ∃ z, nmA.getD k ⟨#[]⟩ = z := ⟨_, rfl⟩
        rw [hz] at ck he
        clear cn cr
        go_wp2
        all_goals go_light
        · rename_i h0 _
          exact absurd (toList_inj' (eq_of_beq h0)) he
        · refine ⟨⟨k + 1, by omega, by go_num, H⟩, ?_⟩
          simp [intOf]
          omega
    · have hke : k = 8 := by omega
      subst hke
      have HR1 := hid (HR.out.trans (bodyR_rest ha.out))
      clear cn cr HR ha
      by_cases h2 : s.size < 2
      · have H := hid (HR1.out.trans (bodyT_short h2))
        go_wp2
        go_ret2
        exact ⟨by rw [H.out]; rfl, HB.out⟩
      obtain ⟨c0, hc0⟩ : ∃ c, s[0].toNat = c := ⟨_, rfl⟩
      by_cases h35 : c0 = 35
      rotate_left
      · have H := hid (HR1.out.trans (bodyT_no (by omega) (by rw [hc0]; exact h35)))
        have h35' := cast_ne h35
        go_wp2
        all_goals go_light
        all_goals first
          | (go_ret2; exact ⟨by rw [H.out]; rfl, HB.out⟩)
          | (exfalso; rename_i hh _; simp at hh; omega)
          | (exfalso; rename_i hh; simp at hh; omega)
          | (exfalso; simp_all; done)
      subst h35
      obtain ⟨c1, hc1⟩ : ∃ c, s[1].toNat = c := ⟨_, rfl⟩
      by_cases hx : c1 = 120 ∨ c1 = 88
      · have HR2 := hid (HR1.out.trans (bodyT_hex (by omega) hc0 (by rw [hc1]; exact hx)))
        clear HR1
        by_cases h3 : s.size = 2
        · have H : Hid (r = none) := by
            show r = none
            rw [HR2.out, List.drop_of_length_le (by simp; omega)]
            rfl
          rcases hx with rfl | rfl
          all_goals go_wp2
          all_goals go_light
          all_goals first
            | (go_ret2; exact ⟨by rw [H.out]; rfl, HB.out⟩)
            | (exfalso; simp_all; done)
            | trace_state
        · have hne : s.data.toList.drop 2 ≠ [] := fun e => by
            have := congrArg List.length e
            simp at this
            omega
          rcases hx with rfl | rfl
          · go_wp2
            go_loop [9, 10] (fun nv iv => ∃ (k : Nat) (x : Int), 2 ≤ k ∧ k ≤ s.size ∧ iv = .int .i64 k ∧ nv = .int .i64 x ∧ 0 ≤ x ∧ x ≤ 268435471 ∧ Hid (∃ m, numL 16 (s.data.toList.drop 2) 0 = numL 16 (s.data.toList.drop k) m ∧ CapR x m)) (fun _ iv => s.size - (intOf iv).toNat)
            case atStart => exact ⟨2, 0, by omega, by omega, rfl, rfl, by omega, by omega, hid ⟨0, rfl, .inl ⟨by omega, rfl⟩⟩⟩
            case round =>
              obtain ⟨k, x, hak, hk, rfl, rfl, hx0, hx1, hm⟩ := hrel
              by_cases hlt : k < s.size
              · obtain ⟨c, hc⟩ : ∃ c, s[k].toNat = c := ⟨_, rfl⟩
                obtain ⟨d, hd⟩ : ∃ d, digI c = d := ⟨_, rfl⟩
                have hd1 : d < 16 := by rw [← hd]; exact digI_lt c
                have hll : k < s.data.toList.length := by simpa using hlt
                have hdl : digI s.data.toList[k].toNat = d := by rw [← hd, ← hc]; rfl
                by_cases hbad : d < 0 ∨ 16 ≤ d
                · have H : Hid (r = none) := by
                    obtain ⟨m, hm1, _⟩ := hm.out
                    show r = none
                    rw [HR2.out]
                    exact numRef_none hne (hm1.trans (numL_bad hll hdl hbad))
                  clear hdl hll
                  go_wp2_with (go_at_call 131; refine (rdigit_at c d hd _).mono ?_; rintro e w' ⟨rfl, rfl⟩)
                  all_goals go_light
                  all_goals first
                    | (go_ret2; exact ⟨by rw [H.out]; rfl, HB.out⟩)
                    | (exfalso; omega)
                · have hd0 : 0 ≤ d := by omega
                  have hdb : d < 16 := by omega
                  by_cases hcap : x < 16777216
                  · have H : Hid (∃ m, numL 16 (s.data.toList.drop 2) 0 = numL 16 (s.data.toList.drop (k + 1)) m ∧ CapR (x * 16 + d) m) := by
                      obtain ⟨m, hm1, hm2⟩ := hm.out
                      exact ⟨_, hm1.trans (numL_step hll hdl hd0 hdb), capR_grow hm2 hcap hd0⟩
                    clear hdl hll
                    go_wp2_with (go_at_call 131; refine (rdigit_at c d hd _).mono ?_; rintro e w' ⟨rfl, rfl⟩)
                    all_goals go_light
                    all_goals first
                      | (refine ⟨⟨k + 1, x * 16 + d, by omega, by omega, by go_num, rfl, by omega, by omega, H⟩, ?_⟩; simp [intOf]; omega)
                      | (exfalso; omega)
                  · have H : Hid (∃ m, numL 16 (s.data.toList.drop 2) 0 = numL 16 (s.data.toList.drop (k + 1)) m ∧ CapR x m) := by
                      obtain ⟨m, hm1, hm2⟩ := hm.out
                      exact ⟨_, hm1.trans (numL_step hll hdl hd0 hdb), capR_stay hm2 hcap (by omega)⟩
                    clear hdl hll
                    go_wp2_with (go_at_call 131; refine (rdigit_at c d hd _).mono ?_; rintro e w' ⟨rfl, rfl⟩)
                    all_goals go_light
                    all_goals first
                      | (refine ⟨⟨k + 1, x, by omega, by omega, by go_num, rfl, by omega, by omega, H⟩, ?_⟩; simp [intOf]; omega)
                      | (exfalso; omega)
              · have hke : k = s.size := by omega
                subst hke
                have H : Hid (∃ n : Nat, r = some n ∧ (n : Int) = if x = 0 ∨ 1114111 < x ∨ (55296 ≤ x ∧ x ≤ 57343) then 65533 else x) := by
                  obtain ⟨m, hm1, hm2⟩ := hm.out
                  rw [drop_size] at hm1
                  exact ⟨runeN m, by rw [HR2.out]; exact numRef_some hne hm1, capR_rune hm2⟩
                go_wp2
                all_goals go_light
                all_goals (obtain ⟨n, h1, h2⟩ := H.out)
                all_goals go_ret2
                all_goals (refine ⟨?_, HB.out⟩; rw [h1])
                all_goals refine two_ret ?_
                all_goals rw [h2]
                all_goals (clear h1 h2; split <;> (first | rfl | (exfalso; simp only [beq_iff_eq, beq_eq_false_iff_ne, ne_eq] at *; omega)))
          · go_wp2
            go_loop [9, 10] (fun nv iv => ∃ (k : Nat) (x : Int), 2 ≤ k ∧ k ≤ s.size ∧ iv = .int .i64 k ∧ nv = .int .i64 x ∧ 0 ≤ x ∧ x ≤ 268435471 ∧ Hid (∃ m, numL 16 (s.data.toList.drop 2) 0 = numL 16 (s.data.toList.drop k) m ∧ CapR x m)) (fun _ iv => s.size - (intOf iv).toNat)
            case atStart => exact ⟨2, 0, by omega, by omega, rfl, rfl, by omega, by omega, hid ⟨0, rfl, .inl ⟨by omega, rfl⟩⟩⟩
            case round =>
              obtain ⟨k, x, hak, hk, rfl, rfl, hx0, hx1, hm⟩ := hrel
              by_cases hlt : k < s.size
              · obtain ⟨c, hc⟩ : ∃ c, s[k].toNat = c := ⟨_, rfl⟩
                obtain ⟨d, hd⟩ : ∃ d, digI c = d := ⟨_, rfl⟩
                have hd1 : d < 16 := by rw [← hd]; exact digI_lt c
                have hll : k < s.data.toList.length := by simpa using hlt
                have hdl : digI s.data.toList[k].toNat = d := by rw [← hd, ← hc]; rfl
                by_cases hbad : d < 0 ∨ 16 ≤ d
                · have H : Hid (r = none) := by
                    obtain ⟨m, hm1, _⟩ := hm.out
                    show r = none
                    rw [HR2.out]
                    exact numRef_none hne (hm1.trans (numL_bad hll hdl hbad))
                  clear hdl hll
                  go_wp2_with (go_at_call 131; refine (rdigit_at c d hd _).mono ?_; rintro e w' ⟨rfl, rfl⟩)
                  all_goals go_light
                  all_goals first
                    | (go_ret2; exact ⟨by rw [H.out]; rfl, HB.out⟩)
                    | (exfalso; omega)
                · have hd0 : 0 ≤ d := by omega
                  have hdb : d < 16 := by omega
                  by_cases hcap : x < 16777216
                  · have H : Hid (∃ m, numL 16 (s.data.toList.drop 2) 0 = numL 16 (s.data.toList.drop (k + 1)) m ∧ CapR (x * 16 + d) m) := by
                      obtain ⟨m, hm1, hm2⟩ := hm.out
                      exact ⟨_, hm1.trans (numL_step hll hdl hd0 hdb), capR_grow hm2 hcap hd0⟩
                    clear hdl hll
                    go_wp2_with (go_at_call 131; refine (rdigit_at c d hd _).mono ?_; rintro e w' ⟨rfl, rfl⟩)
                    all_goals go_light
                    all_goals first
                      | (refine ⟨⟨k + 1, x * 16 + d, by omega, by omega, by go_num, rfl, by omega, by omega, H⟩, ?_⟩; simp [intOf]; omega)
                      | (exfalso; omega)
                  · have H : Hid (∃ m, numL 16 (s.data.toList.drop 2) 0 = numL 16 (s.data.toList.drop (k + 1)) m ∧ CapR x m) := by
                      obtain ⟨m, hm1, hm2⟩ := hm.out
                      exact ⟨_, hm1.trans (numL_step hll hdl hd0 hdb), capR_stay hm2 hcap (by omega)⟩
                    clear hdl hll
                    go_wp2_with (go_at_call 131; refine (rdigit_at c d hd _).mono ?_; rintro e w' ⟨rfl, rfl⟩)
                    all_goals go_light
                    all_goals first
                      | (refine ⟨⟨k + 1, x, by omega, by omega, by go_num, rfl, by omega, by omega, H⟩, ?_⟩; simp [intOf]; omega)
                      | (exfalso; omega)
              · have hke : k = s.size := by omega
                subst hke
                have H : Hid (∃ n : Nat, r = some n ∧ (n : Int) = if x = 0 ∨ 1114111 < x ∨ (55296 ≤ x ∧ x ≤ 57343) then 65533 else x) := by
                  obtain ⟨m, hm1, hm2⟩ := hm.out
                  rw [drop_size] at hm1
                  exact ⟨runeN m, by rw [HR2.out]; exact numRef_some hne hm1, capR_rune hm2⟩
                go_wp2
                all_goals go_light
                all_goals (obtain ⟨n, h1, h2⟩ := H.out)
                all_goals go_ret2
                all_goals (refine ⟨?_, HB.out⟩; rw [h1])
                all_goals refine two_ret ?_
                all_goals rw [h2]
                all_goals (clear h1 h2; split <;> (first | rfl | (exfalso; simp only [beq_iff_eq, beq_eq_false_iff_ne, ne_eq] at *; omega)))
      · have HR2 := hid (HR1.out.trans (bodyT_dec (by omega) hc0 (by rw [hc1]; omega) (by rw [hc1]; omega)))
        have hne : s.data.toList.drop 1 ≠ [] := fun e => by
            have := congrArg List.length e
            simp at this
            omega
        clear HR1
        have g1 := cast_ne (show c1 ≠ 120 by omega)
        have g2 := cast_ne (show c1 ≠ 88 by omega)
        have b1 : ((c1 : Int) == 120) = false := by rw [beq_eq_false_iff_ne]; omega
        have b2 : ((c1 : Int) == 88) = false := by rw [beq_eq_false_iff_ne]; omega
        go_wp2
        go_loop [9, 10] (fun nv iv => ∃ (k : Nat) (x : Int), 1 ≤ k ∧ k ≤ s.size ∧ iv = .int .i64 k ∧ nv = .int .i64 x ∧ 0 ≤ x ∧ x ≤ 268435471 ∧ Hid (∃ m, numL 10 (s.data.toList.drop 1) 0 = numL 10 (s.data.toList.drop k) m ∧ CapR x m)) (fun _ iv => s.size - (intOf iv).toNat)
        case atStart => exact ⟨1, 0, by omega, by omega, rfl, rfl, by omega, by omega, hid ⟨0, rfl, .inl ⟨by omega, rfl⟩⟩⟩
        case round =>
          obtain ⟨k, x, hak, hk, rfl, rfl, hx0, hx1, hm⟩ := hrel
          by_cases hlt : k < s.size
          · obtain ⟨c, hc⟩ : ∃ c, s[k].toNat = c := ⟨_, rfl⟩
            obtain ⟨d, hd⟩ : ∃ d, digI c = d := ⟨_, rfl⟩
            have hd1 : d < 16 := by rw [← hd]; exact digI_lt c
            have hll : k < s.data.toList.length := by simpa using hlt
            have hdl : digI s.data.toList[k].toNat = d := by rw [← hd, ← hc]; rfl
            by_cases hbad : d < 0 ∨ 10 ≤ d
            · have H : Hid (r = none) := by
                obtain ⟨m, hm1, _⟩ := hm.out
                show r = none
                rw [HR2.out]
                exact numRef_none hne (hm1.trans (numL_bad hll hdl hbad))
              clear hdl hll
              go_wp2_with (go_at_call 131; refine (rdigit_at c d hd _).mono ?_; rintro e w' ⟨rfl, rfl⟩)
              all_goals go_light
              all_goals first
                | (go_ret2; exact ⟨by rw [H.out]; rfl, HB.out⟩)
                | (exfalso; omega)
            · have hd0 : 0 ≤ d := by omega
              have hdb : d < 10 := by omega
              by_cases hcap : x < 16777216
              · have H : Hid (∃ m, numL 10 (s.data.toList.drop 1) 0 = numL 10 (s.data.toList.drop (k + 1)) m ∧ CapR (x * 10 + d) m) := by
                  obtain ⟨m, hm1, hm2⟩ := hm.out
                  exact ⟨_, hm1.trans (numL_step hll hdl hd0 hdb), capR_grow hm2 hcap hd0⟩
                clear hdl hll
                go_wp2_with (go_at_call 131; refine (rdigit_at c d hd _).mono ?_; rintro e w' ⟨rfl, rfl⟩)
                all_goals go_light
                all_goals first
                  | (refine ⟨⟨k + 1, x * 10 + d, by omega, by omega, by go_num, rfl, by omega, by omega, H⟩, ?_⟩; simp [intOf]; omega)
                  | (exfalso; omega)
              · have H : Hid (∃ m, numL 10 (s.data.toList.drop 1) 0 = numL 10 (s.data.toList.drop (k + 1)) m ∧ CapR x m) := by
                  obtain ⟨m, hm1, hm2⟩ := hm.out
                  exact ⟨_, hm1.trans (numL_step hll hdl hd0 hdb), capR_stay hm2 hcap (by omega)⟩
                clear hdl hll
                go_wp2_with (go_at_call 131; refine (rdigit_at c d hd _).mono ?_; rintro e w' ⟨rfl, rfl⟩)
                all_goals go_light
                all_goals first
                  | (refine ⟨⟨k + 1, x, by omega, by omega, by go_num, rfl, by omega, by omega, H⟩, ?_⟩; simp [intOf]; omega)
                  | (exfalso; omega)
          · have hke : k = s.size := by omega
            subst hke
            have H : Hid (∃ n : Nat, r = some n ∧ (n : Int) = if x = 0 ∨ 1114111 < x ∨ (55296 ≤ x ∧ x ≤ 57343) then 65533 else x) := by
              obtain ⟨m, hm1, hm2⟩ := hm.out
              rw [drop_size] at hm1
              exact ⟨runeN m, by rw [HR2.out]; exact numRef_some hne hm1, capR_rune hm2⟩
            go_wp2
            all_goals go_light
            all_goals (obtain ⟨n, h1, h2⟩ := H.out)
            all_goals go_ret2
            all_goals (refine ⟨?_, HB.out⟩; rw [h1])
            all_goals refine two_ret ?_
            all_goals rw [h2]
            all_goals (clear h1 h2; split <;> (first | rfl | (exfalso; simp only [beq_iff_eq, beq_eq_false_iff_ne, ne_eq] at *; omega)))
end Go.Proofs.YtnoaojjljcbflaaGreatDoor
