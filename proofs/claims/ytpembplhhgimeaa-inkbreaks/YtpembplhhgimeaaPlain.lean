/- The plain mathematics of runes: the document's way to read a rune out of four bytes is the language's own decoding; a text's runes; how wide they are together; that a text's parts have the runes of the whole. No conditions. -/
import Derived.Laws.RangeAny
namespace Go.Proofs.Ytpembplhhgimeaa

/-- is a rune wide? -/
def wideB (r : Int) : Bool := decide ((11904 ≤ r ∧ r ≤ 55295) ∨ (63744 ≤ r ∧ r ≤ 64255) ∨ (65281 ≤ r ∧ r ≤ 65376))

def adv (r : Int) : Int :=
  if r < 32 ∨ r = 8203 ∨ r = 173 ∨ r = 8288 ∨ (768 ≤ r ∧ r < 880) then 0
  else if r = 32 ∨ r = 160 then 250
  else if r = 105 ∨ r = 106 ∨ r = 108 ∨ r = 39 ∨ r = 46 ∨ r = 44 ∨ r = 58 ∨ r = 59 ∨ r = 33 ∨ r = 124 then 300
  else if r = 109 ∨ r = 119 ∨ r = 77 ∨ r = 87 ∨ r = 64 ∨ r = 37 then 800
  else if 65 ≤ r ∧ r ≤ 90 then 650
  else if wideB r = true then 1000 else 500

theorem adv_bd (r : Int) : 0 ≤ adv r ∧ adv r ≤ 1000 := by
  unfold adv; repeat' split
  all_goals omega

def held (n : Int) : Int := if n < 0 then 0 else if 16777216 < n then 16777216 else n
theorem held_bd (n : Int) : 0 ≤ held n ∧ held n ≤ 16777216 := by
  unfold held; repeat' split
  all_goals omega

/-- a byte of a text; -1: it has ended -/
def bAt (s : ByteArray) (i : Int) : Int := if 0 ≤ i ∧ i < s.size then ((s.get! i.toNat).toNat : Int) else -1
theorem bAt_bd (s : ByteArray) (i : Int) : -1 ≤ bAt s i ∧ bAt s i ≤ 255 := by
  unfold bAt
  have := (s.get! i.toNat).toNat_lt
  split <;> omega

/-- the document's rune out of four bytes -/
def rune4 (a b c d : Int) : Int × Int :=
  if a < 128 then (a, 1)
  else
    let lo := if a = 224 then 160 else if a = 240 then 144 else 128
    let hi := if a = 237 then 159 else if a = 244 then 143 else 191
    if ¬ (lo ≤ b ∧ b ≤ hi) then (65533, 1)
    else if 194 ≤ a ∧ a ≤ 223 then ((a - 192) * 64 + b - 128, 2)
    else if (224 ≤ a ∧ a ≤ 239) ∧ (128 ≤ c ∧ c ≤ 191) then ((a - 224) * 4096 + (b - 128) * 64 + c - 128, 3)
    else if ((240 ≤ a ∧ a ≤ 244) ∧ (128 ≤ c ∧ c ≤ 191)) ∧ (128 ≤ d ∧ d ≤ 191) then ((a - 240) * 262144 + (b - 128) * 4096 + (c - 128) * 64 + d - 128, 4)
    else (65533, 1)

def runeI (s : ByteArray) (i : Int) : Int × Int := rune4 (bAt s i) (bAt s (i + 1)) (bAt s (i + 2)) (bAt s (i + 3))

theorem valid_nat (r : Nat) : (Utf8.valid (r : Int) = true) ↔ (r < 55296 ∨ (57344 ≤ r ∧ r ≤ 1114111)) := by
  simp only [Utf8.valid, Bool.or_eq_true, Bool.and_eq_true, decide_eq_true_eq]; omega
theorem runeError_is : Utf8.runeError = 65533 := rfl

set_option maxHeartbeats 1000000 in
theorem rune_decode (s : ByteArray) (i : Nat) (h : i < s.size) : runeI s i = (((Utf8.decode s i).1 : Int), ((Utf8.decode s i).2 : Int)) := by
  have h0 := (s.get! (i + 0)).toNat_lt
  have h1 := (s.get! (i + 1)).toNat_lt
  have h2 := (s.get! (i + 2)).toNat_lt
  have h3 := (s.get! (i + 3)).toNat_lt
  have e0 : bAt s i = ((s.get! (i + 0)).toNat : Int) := by rw [bAt, if_pos (by omega)]; simp
  have e1 : bAt s ((i : Int) + 1) = if i + 1 < s.size then ((s.get! (i + 1)).toNat : Int) else -1 := by
    unfold bAt; rw [show ((i : Int) + 1).toNat = i + 1 by omega]; split <;> split <;> first | rfl | omega
  have e2 : bAt s ((i : Int) + 2) = if i + 2 < s.size then ((s.get! (i + 2)).toNat : Int) else -1 := by
    unfold bAt; rw [show ((i : Int) + 2).toNat = i + 2 by omega]; split <;> split <;> first | rfl | omega
  have e3 : bAt s ((i : Int) + 3) = if i + 3 < s.size then ((s.get! (i + 3)).toNat : Int) else -1 := by
    unfold bAt; rw [show ((i : Int) + 3).toNat = i + 3 by omega]; split <;> split <;> first | rfl | omega
  unfold runeI
  rw [e0, e1, e2, e3]
  clear e0 e1 e2 e3
  simp only [Utf8.decode, runeError_is]
  obtain ⟨a, ha⟩ : ∃ a, (s.get! (i + 0)).toNat = a := ⟨_, rfl⟩
  obtain ⟨b, hb⟩ : ∃ b, (s.get! (i + 1)).toNat = b := ⟨_, rfl⟩
  obtain ⟨c, hc⟩ : ∃ c, (s.get! (i + 2)).toNat = c := ⟨_, rfl⟩
  obtain ⟨d, hd⟩ : ∃ d, (s.get! (i + 3)).toNat = d := ⟨_, rfl⟩
  simp only [ha, hb, hc, hd] at h0 h1 h2 h3 ⊢
  clear ha hb hc hd
  simp only [Bool.and_eq_true, decide_eq_true_eq, beq_iff_eq, valid_nat]
  generalize s.size = n at *
  obtain ⟨b', eb, hb⟩ : ∃ b' : Int, (if i + 1 < n then (b : Int) else -1) = b' ∧ (i + 1 < n ∧ b' = b ∨ ¬ i + 1 < n ∧ b' = -1) := by
    by_cases p : i + 1 < n
    · exact ⟨b, if_pos p, .inl ⟨p, rfl⟩⟩
    · exact ⟨-1, if_neg p, .inr ⟨p, rfl⟩⟩
  obtain ⟨c', ec, hc⟩ : ∃ c' : Int, (if i + 2 < n then (c : Int) else -1) = c' ∧ (i + 2 < n ∧ c' = c ∨ ¬ i + 2 < n ∧ c' = -1) := by
    by_cases p : i + 2 < n
    · exact ⟨c, if_pos p, .inl ⟨p, rfl⟩⟩
    · exact ⟨-1, if_neg p, .inr ⟨p, rfl⟩⟩
  obtain ⟨d', ed, hd⟩ : ∃ d' : Int, (if i + 3 < n then (d : Int) else -1) = d' ∧ (i + 3 < n ∧ d' = d ∨ ¬ i + 3 < n ∧ d' = -1) := by
    by_cases p : i + 3 < n
    · exact ⟨d, if_pos p, .inl ⟨p, rfl⟩⟩
    · exact ⟨-1, if_neg p, .inr ⟨p, rfl⟩⟩
  rw [eb, ec, ed]
  clear eb ec ed
  have pr : ∀ {x y u v : Int}, x = u → y = v → (x, y) = (u, v) := fun h1 h2 => by rw [h1, h2]
  repeat' split
  all_goals (unfold rune4; simp only []; repeat' split)
  all_goals first | omega | (refine pr ?_ ?_ <;> omega)

theorem decode_pos (s : ByteArray) (pos : Nat) (h : pos < s.size) : 1 ≤ (Utf8.decode s pos).2 := by
  by_cases ha : (s[pos]'h).toNat < 128
  · rw [decode_ascii s pos h ha]; exact Nat.le_refl _
  · exact (decode_high s pos h (by omega)).2

/-- the runes of a text from a place on, each with its place -/
def runesFrom (s : ByteArray) : Nat → Nat → List (Nat × Nat)
  | 0, _ => []
  | f + 1, pos => if pos < s.size then (pos, (Utf8.decode s pos).1) :: runesFrom s f (pos + (Utf8.decode s pos).2) else []
def runes (s : ByteArray) : List (Nat × Nat) := runesFrom s s.size 0

theorem runesFrom_end (s : ByteArray) (f pos : Nat) (h : ¬ pos < s.size) : runesFrom s f pos = [] := by
  cases f with
  | zero => rfl
  | succ f => simp [runesFrom, h]
theorem runesFrom_step (s : ByteArray) (f pos : Nat) (h : pos < s.size) : runesFrom s (f + 1) pos = (pos, (Utf8.decode s pos).1) :: runesFrom s f (pos + (Utf8.decode s pos).2) := by
  simp [runesFrom, h]
theorem runesFrom_length (s : ByteArray) : ∀ f pos, (runesFrom s f pos).length ≤ f
  | 0, _ => Nat.le_refl _
  | f + 1, pos => by
    by_cases h : pos < s.size
    · rw [runesFrom_step s f pos h, List.length_cons]; exact Nat.succ_le_succ (runesFrom_length s f _)
    · rw [runesFrom_end s _ pos h]; exact Nat.zero_le _
theorem runes_length (s : ByteArray) : (runes s).length ≤ s.size := runesFrom_length s _ _

/-- how wide runes are together -/
def wsum (h : Int) (l : List (Nat × Nat)) : Int := (l.map fun r => h * adv (r.2 : Int) / 1000).sum
theorem wsum_nil (h : Int) : wsum h [] = 0 := rfl
theorem wsum_cons (h : Int) (x : Nat × Nat) (l : List (Nat × Nat)) : wsum h (x :: l) = h * adv (x.2 : Int) / 1000 + wsum h l := by simp [wsum]
theorem wsum_append (h : Int) (l m : List (Nat × Nat)) : wsum h (l ++ m) = wsum h l + wsum h m := by simp [wsum]
theorem part_bd (h r : Int) (h0 : 0 ≤ h) (h1 : h ≤ 16777216) : 0 ≤ h * adv r ∧ h * adv r ≤ 16777216000 ∧ 0 ≤ h * adv r / 1000 ∧ h * adv r / 1000 ≤ 16777216 := by
  have ha := adv_bd r
  have l : h * adv r ≤ 16777216 * 1000 := Int.mul_le_mul h1 ha.2 ha.1 (by omega)
  have g : 0 ≤ h * adv r := Int.mul_nonneg h0 ha.1
  omega
theorem wsum_bd (h : Int) (h0 : 0 ≤ h) (h1 : h ≤ 16777216) : ∀ l : List (Nat × Nat), 0 ≤ wsum h l ∧ wsum h l ≤ 16777216 * l.length
  | [] => by simp [wsum]
  | x :: l => by
    have := wsum_bd h h0 h1 l
    have p := part_bd h x.2 h0 h1
    rw [wsum_cons, List.length_cons]; omega
end Go.Proofs.Ytpembplhhgimeaa
