/- What is read at a place where a text goes on in a certain way. -/
import Derived.Test.YtkaeenafejdkfaaGreatDoorM14
import Derived.Test.YtkaeenafejdkfaaGreatDoorM10
import Derived.Test.YtkaeenafejdkfaaGreatDoorM04
namespace Go.Proofs.YtkaeenafejdkfaaGreatDoor

/-- from a place on a text is that -/
def OnL (s : ByteArray) (i : Nat) (l : List UInt8) : Prop := i ≤ s.size ∧ s.data.toList.drop i = l
theorem OnL.size {s : ByteArray} {i : Nat} {l : List UInt8} (h : OnL s i l) : i + l.length = s.size := by
  have := congrArg List.length h.2
  rw [List.length_drop] at this
  have e : s.data.toList.length = s.size := by simp
  have := h.1
  omega
theorem OnL.head {s : ByteArray} {i : Nat} {c : UInt8} {l : List UInt8} (h : OnL s i (c :: l)) : ∃ hi : i < s.size, s[i] = c := by
  have hs := h.size
  rw [List.length_cons] at hs
  have hi : i < s.size := by omega
  refine ⟨hi, ?_⟩
  have h2 : s.data.toList[i]? = some c := by
    have := congrArg (fun x => x[0]?) h.2
    simpa using this
  have h3 : s.data.toList[i]? = some s[i] := by
    rw [Array.getElem?_toList]
    rw [Array.getElem?_eq_getElem (show i < s.data.size from hi)]
    rfl
  rw [h3] at h2
  exact Option.some.inj h2
theorem OnL.tail {s : ByteArray} {i : Nat} {c : UInt8} {l : List UInt8} (h : OnL s i (c :: l)) : OnL s (i + 1) l := by
  obtain ⟨hi, _⟩ := h.head
  refine ⟨hi, ?_⟩
  rw [← List.drop_drop, h.2]
  rfl
theorem OnL.byte {s : ByteArray} {i : Nat} {c : UInt8} {l : List UInt8} (h : OnL s i (c :: l)) : bt s i = c.toNat := by
  obtain ⟨hi, e⟩ := h.head
  rw [bt_lt hi, e]
theorem OnL.byteE {s : ByteArray} {i : Nat} (h : OnL s i []) : bt s i = 256 := bt_ge (by have := h.size; simp at this; omega)
theorem OnL.skip {s : ByteArray} : ∀ {a : List UInt8} {i : Nat} {b : List UInt8}, OnL s i (a ++ b) → OnL s (i + a.length) b
  | [], _, _, h => h
  | c :: a, i, b, h => by
    have := OnL.skip (a := a) h.tail
    rw [List.length_cons, show i + (a.length + 1) = i + 1 + a.length by omega]
    exact this
theorem OnL.cut {s : ByteArray} {a : List UInt8} {i : Nat} {b : List UInt8} (h : OnL s i (a ++ b)) : s.extract i (i + a.length) = ⟨a.toArray⟩ := by
  apply ByteArray.ext
  apply Array.toList_inj.1
  rw [ByteArray.data_extract, Array.toList_extract]
  show List.take (i + a.length - i) (List.drop i s.data.toList) = a
  rw [h.2, show i + a.length - i = a.length by omega, List.take_left']
  rfl
theorem span_on {p : Nat → Bool} {s : ByteArray} : ∀ {a : List UInt8} {i : Nat} {b : List UInt8}, OnL s i (a ++ b) → (∀ c ∈ a, p c.toNat = true) → (∀ c l, b = c :: l → p c.toNat = false) → spanE p s i = i + a.length
  | [], i, b, h, _, hb => by
    cases b with
    | nil =>
      have := h.size
      simp at this
      rw [spanE_end (by omega)]; rfl
    | cons c l =>
      obtain ⟨hi, e⟩ := OnL.head (c := c) (l := l) h
      rw [spanE_stop hi (by rw [e]; exact hb c l rfl)]; rfl
  | c :: a, i, b, h, ha, hb => by
    obtain ⟨hi, e⟩ := OnL.head (c := c) (l := a ++ b) h
    rw [spanE_step hi (by rw [e]; exact ha c (by simp)), span_on (a := a) (OnL.tail (c := c) h) (fun x hx => ha x (by simp [hx])) hb, List.length_cons]
    omega
theorem onl_one {s : ByteArray} {c d : UInt8} {i : Nat} {l : List UInt8} (h : OnL s i (d :: l)) : standsAt ⟨#[c]⟩ s i ↔ d = c := by
  obtain ⟨hi, e⟩ := h.head
  have e1 := OnL.cut (a := [d]) (b := l) h
  have e2 : (⟨#[c]⟩ : ByteArray).size = 1 := rfl
  unfold standsAt
  rw [e2]
  simp only [List.length_cons, List.length_nil, Nat.zero_add] at e1
  rw [e1]
  constructor
  · rintro ⟨_, h2⟩
    have := congrArg (fun x : ByteArray => x.data.toList) h2
    simpa using this
  · rintro rfl
    exact ⟨hi, rfl⟩
theorem find_one {s : ByteArray} {c : UInt8} : ∀ {a : List UInt8} {i : Nat} {b : List UInt8}, OnL s i (a ++ c :: b) → c ∉ a → findE ⟨#[c]⟩ s i = some (i + a.length)
  | [], i, b, h, _ => by
    rw [findE_hit ((onl_one h).2 rfl)]; rfl
  | d :: a, i, b, h, hn => by
    obtain ⟨hi, _⟩ := OnL.head (c := d) (l := a ++ c :: b) h
    have e2 : (⟨#[c]⟩ : ByteArray).size = 1 := rfl
    rw [findE_step (by rw [e2]; exact hi) (fun hs => hn (by rw [(onl_one (l := a ++ c :: b) h).1 hs]; simp)) (by rw [e2]; decide), find_one (a := a) (OnL.tail (c := d) h) (fun hm => hn (by simp [hm])), List.length_cons]
    congr 1
    omega
/-- a piece that is no text begins so -/
def startL (l : List UInt8) : Bool := match l with
  | 60 :: 33 :: _ => true
  | 60 :: 63 :: _ => true
  | 60 :: 47 :: c :: _ => alphaB c.toNat
  | 60 :: c :: _ => alphaB c.toNat
  | _ => false
theorem word_on {s : ByteArray} : ∀ {a : List UInt8} {i : Nat} {b : List UInt8}, OnL s i (a ++ b) → (60 : UInt8) ∉ a → (b = [] ∨ startB s (i + a.length) = true) → wordN s i = i + a.length
  | [], i, b, h, _, hb => by
    rcases hb with rfl | hb
    · have := h.size
      simp at this
      rw [wordN_end (by omega)]; rfl
    · have hlt : i < s.size := by
        apply Classical.byContradiction
        intro hn
        unfold startB at hb
        simp [bt_ge (show s.size ≤ i by omega)] at hb
      rw [wordN_hit hlt (by simpa using hb)]; rfl
  | c :: a, i, b, h, hn, hb => by
    obtain ⟨hi, e⟩ := OnL.head (c := c) (l := a ++ b) h
    have hs : startB s i = false := by
      unfold startB
      rw [bt_lt hi, e]
      have : c.toNat ≠ 60 := fun e => hn (by
        have : c = 60 := UInt8.toNat_inj.1 e
        rw [this]; simp)
      simp [this]
    rw [wordN_step hi hs, word_on (a := a) (OnL.tail (c := c) h) (fun hm => hn (by simp [hm])) (hb.imp id (fun h => by rw [List.length_cons] at h; rw [show i + 1 + a.length = i + (a.length + 1) by omega]; exact h)), List.length_cons]
    omega
/-- a text's piece -/
theorem piece_text {s : ByteArray} {q b : List UInt8} {i : Nat} (h : OnL s i (q ++ b)) (hq : q ≠ []) (hn : (60 : UInt8) ∉ q) (hb : b = [] ∨ startB s (i + q.length) = true) : pieceP nameB s i = .text (meantS ⟨q.toArray⟩) (i + q.length) := by
  cases q with
  | nil => exact absurd rfl hq
  | cons c a =>
    obtain ⟨hi, e⟩ := OnL.head (c := c) (l := a ++ b) h
    have hs : startB s i = false := by
      unfold startB
      rw [bt_lt hi, e]
      have : c.toNat ≠ 60 := fun e => hn (by
        have : c = 60 := UInt8.toNat_inj.1 e
        rw [this]; simp)
      simp [this]
    have hw := word_on (a := a) (OnL.tail (c := c) h) (fun hm => hn (by simp [hm])) (hb.imp id (fun h => by rw [List.length_cons] at h; rw [show i + 1 + a.length = i + (a.length + 1) by omega]; exact h))
    have he : wordN s (i + 1) = i + (c :: a).length := by rw [hw, List.length_cons]; omega
    unfold pieceP
    rw [if_pos hs, he, OnL.cut h]
end Go.Proofs.YtkaeenafejdkfaaGreatDoor

/- What is read where a tag or a comment is spelt. -/
namespace Go.Proofs.YtkaeenafejdkfaaGreatDoor

theorem name_head {n : ByteArray} (h : nameB n = true) : ∃ c l, n.data.toList = c :: l ∧ lowB c.toNat = true := by
  unfold nameB at h
  simp only [Bool.and_eq_true, decide_eq_true_eq] at h
  obtain ⟨⟨⟨h1, _⟩, h3⟩, _⟩ := h
  cases e : n.data.toList with
  | nil =>
    have : n.data.toList.length = n.size := by simp
    rw [e] at this
    simp at this
    omega
  | cons c l =>
    rw [e] at h3
    exact ⟨c, l, rfl, h3⟩
theorem name_all {n : ByteArray} (h : nameB n = true) : ∀ c ∈ n.data.toList, signB c.toNat = true := by
  unfold nameB at h
  simp only [Bool.and_eq_true] at h
  exact List.all_eq_true.1 h.2
theorem sign_facts {c : UInt8} (h : signB c.toNat = true) : inTagB c.toNat = true ∧ inAttrB c.toNat = true ∧ lowerB c = c ∧ betwB c.toNat = false ∧ c ≠ 62 := by
  have hc : (97 ≤ c.toNat ∧ c.toNat ≤ 122) ∨ (48 ≤ c.toNat ∧ c.toNat ≤ 57) ∨ c.toNat = 45 ∨ c.toNat = 95 ∨ c.toNat = 58 := by
    unfold signB lowB digB at h
    simp only [Bool.or_eq_true, decide_eq_true_eq, beq_iff_eq] at h
    omega
  have h1 : betwB c.toNat = false := by
    unfold betwB blankB
    simp only [Bool.or_eq_false_iff, decide_eq_false_iff_not]
    omega
  have h2 : inTagB c.toNat = true := by
    unfold inTagB
    rw [h1]
    simp only [Bool.not_false, Bool.true_and, decide_eq_true_eq]
    omega
  refine ⟨h2, ?_, ?_, h1, fun e => ?_⟩
  · unfold inAttrB
    rw [h2]
    simp only [Bool.true_and, decide_eq_true_eq]
    omega
  · unfold lowerB
    rw [if_neg (by omega)]
  · subst e
    revert hc
    decide
theorem small_name {n : ByteArray} (h : nameB n = true) : smallS n = n := by
  unfold smallS smallL
  apply ByteArray.ext
  apply Array.toList_inj.1
  show n.data.toList.map lowerB = n.data.toList
  have := name_all h
  generalize n.data.toList = l at *
  induction l with
  | nil => rfl
  | cons c l ih =>
    rw [List.map_cons, ih (fun x hx => this x (by simp [hx])), (sign_facts (this c (by simp))).2.2.1]
theorem low_alpha {c : UInt8} (h : lowB c.toNat = true) : alphaB c.toNat = true ∧ c.toNat ≠ 33 ∧ c.toNat ≠ 63 ∧ c.toNat ≠ 47 := by
  unfold lowB at h
  unfold alphaB
  simp only [decide_eq_true_eq] at h ⊢
  omega
theorem no_stands {s : ByteArray} {i : Nat} {c d : UInt8} {l : List UInt8} (h : OnL s i (c :: d :: l)) (hd : d ≠ 33) : ¬ standsAt ⟨#[60, 33, 45, 45]⟩ s i := by
  rintro ⟨h1, h2⟩
  have e : (⟨#[60, 33, 45, 45]⟩ : ByteArray).size = 4 := rfl
  rw [e] at h1 h2
  have h3 := congrArg (fun x : ByteArray => x.data.toList) h2
  simp only [ByteArray.data_extract, Array.toList_extract] at h3
  have h4 : List.take (i + 4 - i) (List.drop i s.data.toList) = [60, 33, 45, 45] := h3
  rw [h.2, show i + 4 - i = 4 by omega] at h4
  simp at h4
  exact hd h4.2.1
theorem mk_list (n : ByteArray) : (⟨n.data.toList.toArray⟩ : ByteArray) = n := by
  apply ByteArray.ext
  simp
/-- an end tag -/
theorem piece_end {s n : ByteArray} {i : Nat} {b : List UInt8} (h : OnL s i (60 :: 47 :: (n.data.toList ++ 62 :: b))) (hn : nameB n = true) : pieceP nameB s i = .fin n (i + 2 + n.size + 1) ∧ startB s i = true := by
  obtain ⟨c, l, hcl, hlow⟩ := name_head hn
  have h1 : OnL s (i + 1) (47 :: (n.data.toList ++ 62 :: b)) := h.tail
  have h2 : OnL s (i + 2) (n.data.toList ++ 62 :: b) := h1.tail
  have h2' : OnL s (i + 2) (c :: (l ++ 62 :: b)) := by rw [hcl] at h2; exact h2
  have b0 := h.byte
  have b1 := h1.byte
  have b2 := h2'.byte
  have hs : startB s i = true := by
    unfold startB
    rw [b0, b1, b2]
    simp [(low_alpha hlow).1]
  have hsz : n.data.toList.length = n.size := by simp
  have hsp := span_on (p := inTagB) h2 (fun x hx => (sign_facts (name_all hn x hx)).1) (fun x y e => by cases e; decide)
  rw [hsz] at hsp
  have h3 := h2.skip
  rw [hsz] at h3
  have hf := find_one (s := s) (c := 62) (a := []) (b := b) h3 (by simp)
  have hx := h2.cut
  rw [hsz] at hx
  refine ⟨?_, hs⟩
  unfold pieceP
  rw [if_neg (by rw [hs]; simp), if_neg (no_stands h (by decide)), if_neg (by rw [b1]; decide), if_pos (by rw [b1]; rfl)]
  unfold endP
  simp only [hsp, hf, hx, mk_list, small_name hn]
  rfl
/-- attributes as they are spelt -/
def attrL (a : ByteArray × ByteArray) : List UInt8 := 32 :: (a.1.data.toList ++ 61 :: 34 :: (quoteL 34 a.2.data.toList ++ [34]))
def attrsL (l : List (ByteArray × ByteArray)) : List UInt8 := l.flatMap attrL
theorem attr_on {s n v : ByteArray} {j : Nat} {b : List UInt8} (h : OnL s j (n.data.toList ++ 61 :: 34 :: (quoteL 34 v.data.toList ++ 34 :: b))) (hn : nameB n = true) : attrP s j = (n, v, j + n.size + 2 + (quoteL 34 v.data.toList).length + 1) := by
  obtain ⟨c, l, hcl, hlow⟩ := name_head hn
  have hsz : n.data.toList.length = n.size := by simp
  have hl1 : n.size = l.length + 1 := by rw [← hsz, hcl]; rfl
  have ht : OnL s (j + 1) (l ++ 61 :: 34 :: (quoteL 34 v.data.toList ++ 34 :: b)) := by
    rw [hcl] at h
    exact OnL.tail (c := c) h
  have hall := name_all hn
  have hsp := span_on (p := inAttrB) ht (fun x hx => (sign_facts (hall x (by rw [hcl]; simp [hx]))).2.1) (fun x y e => by cases e; decide)
  have hto : spanE inAttrB s (j + 1) = j + n.size := by rw [hsp]; omega
  have hx := h.cut
  rw [hsz] at hx
  have h3 := h.skip
  rw [hsz] at h3
  have hk := span_on (p := blankB) (a := []) h3 (by simp) (fun x y e => by cases e; decide)
  simp only [List.length_nil, Nat.add_zero] at hk
  have b61 : bt s (j + n.size) = 61 := h3.byte
  have h4 : OnL s (j + n.size + 1) (34 :: (quoteL 34 v.data.toList ++ 34 :: b)) := h3.tail
  have hk2 := span_on (p := blankB) (a := []) h4 (by simp) (fun x y e => by cases e; decide)
  simp only [List.length_nil, Nat.add_zero] at hk2
  have b34 : bt s (j + n.size + 1) = 34 := h4.byte
  have hq := OnL.cut (a := [34]) (b := quoteL 34 v.data.toList ++ 34 :: b) h4
  simp only [List.length_cons, List.length_nil, Nat.zero_add] at hq
  have h5 : OnL s (j + n.size + 1 + 1) (quoteL 34 v.data.toList ++ 34 :: b) := h4.tail
  have hf := find_one h5 (quote_no 34 (.inr rfl) _)
  have hv := h5.cut
  unfold attrP
  simp only [hto, hk, b61, if_true, hk2, hx, mk_list, small_name hn]
  have hmv : meantS ⟨(quoteL 34 v.data.toList).toArray⟩ = v := by
    unfold meantS
    rw [show (⟨(quoteL 34 v.data.toList).toArray⟩ : ByteArray).data.toList = quoteL 34 v.data.toList by simp, meant_quote 34 (.inr rfl), mk_list]
  unfold valP
  rw [if_pos (.inl b34), hq]
  have hf' : findE { data := [34].toArray } s (j + n.size + 1 + 1) = some (j + n.size + 1 + 1 + (quoteL 34 v.data.toList).length) := hf
  rw [hf']
  simp only [hv, hmv]
theorem attrs_on {s : ByteArray} {b : List UInt8} : ∀ (l l0 : List (ByteArray × ByteArray)) (f i : Nat), OnL s i (attrsL l ++ 62 :: b) → (∀ x ∈ l, nameB x.1 = true) → l.length < f → attrsF nameB f s i l0 = some (l0 ++ l, i + (attrsL l).length + 1)
  | [], l0, f + 1, i, h, _, _ => by
    have h' : OnL s i (62 :: b) := h
    have hj := span_on (p := betwB) (a := []) h' (by simp) (fun x y e => by cases e; decide)
    simp only [List.length_nil, Nat.add_zero] at hj
    have b62 : bt s i = 62 := h'.byte
    obtain ⟨hi, _⟩ := h'.head
    unfold attrsF
    simp only [hj]
    rw [if_neg (by omega), if_pos b62, List.append_nil]
    rfl
  | (n, v) :: l, l0, f + 1, i, h, hn, hf => by
    have hnn := hn (n, v) (by simp)
    obtain ⟨c, r, hcl, hlow⟩ := name_head hnn
    have h' : OnL s i (32 :: (n.data.toList ++ 61 :: 34 :: (quoteL 34 v.data.toList ++ 34 :: (attrsL l ++ 62 :: b)))) := by
      have e : attrsL ((n, v) :: l) ++ 62 :: b = 32 :: (n.data.toList ++ 61 :: 34 :: (quoteL 34 v.data.toList ++ 34 :: (attrsL l ++ 62 :: b))) := by
        unfold attrsL attrL
        simp
      rw [e] at h; exact h
    have h1 := h'.tail
    have hj := span_on (p := betwB) (a := [32]) h' (by intro x hx; simp at hx; subst hx; decide) (fun x y e => by
      rw [hcl] at e
      cases e
      exact (sign_facts (name_all hnn c (by rw [hcl]; simp))).2.2.2.1)
    simp only [List.length_cons, List.length_nil, Nat.zero_add] at hj
    have h1' : OnL s (i + 1) (c :: (r ++ 61 :: 34 :: (quoteL 34 v.data.toList ++ 34 :: (attrsL l ++ 62 :: b)))) := by rw [hcl] at h1; exact h1
    obtain ⟨hi, _⟩ := h1'.head
    have bne : bt s (i + 1) ≠ 62 := by
      rw [h1'.byte]
      intro e
      have hne := (sign_facts (name_all hnn c (by rw [hcl]; simp))).2.2.2.2
      exact hne (UInt8.toNat_inj.1 e)
    have ha := attr_on h1 hnn
    have hsz : n.data.toList.length = n.size := by simp
    have hend : OnL s (i + 1 + n.size + 2 + (quoteL 34 v.data.toList).length + 1) (attrsL l ++ 62 :: b) := by
      have q1 := h1.skip
      rw [hsz] at q1
      have q2 := (q1.tail).tail
      have q3 := q2.skip
      have q4 := q3.tail
      rw [show i + 1 + n.size + 2 + (quoteL 34 v.data.toList).length + 1 = i + 1 + n.size + 1 + 1 + (quoteL 34 v.data.toList).length + 1 by omega]
      exact q4
    have hle := hend.1
    have ih := attrs_on l (l0 ++ [(n, v)]) f _ hend (fun x hx => hn x (by simp [hx])) (by simp at hf; omega)
    unfold attrsF
    simp only [hj]
    rw [if_neg (by omega), if_neg bne, ha]
    simp only [hnn, if_true]
    rw [if_neg (by omega), ih]
    have e2 : (attrsL ((n, v) :: l)).length = 1 + n.size + 2 + (quoteL 34 v.data.toList).length + 1 + (attrsL l).length := by
      unfold attrsL attrL
      simp
      omega
    rw [e2, List.append_assoc]
    simp
    omega
/-- a start tag -/
theorem piece_start {s n : ByteArray} {l : List (ByteArray × ByteArray)} {i : Nat} {b : List UInt8} (h : OnL s i (60 :: (n.data.toList ++ (attrsL l ++ 62 :: b)))) (hn : nameB n = true) (hl : ∀ x ∈ l, nameB x.1 = true) (hll : l.length ≤ s.size) : pieceP nameB s i = .start n l (i + 1 + n.size + (attrsL l).length + 1) ∧ startB s i = true := by
  obtain ⟨c, r, hcl, hlow⟩ := name_head hn
  obtain ⟨ha, h33, h63, h47⟩ := low_alpha hlow
  have h1 : OnL s (i + 1) (n.data.toList ++ (attrsL l ++ 62 :: b)) := h.tail
  have h1' : OnL s (i + 1) (c :: (r ++ (attrsL l ++ 62 :: b))) := by rw [hcl] at h1; exact h1
  have b0 := h.byte
  have b1 := h1'.byte
  have hs : startB s i = true := by
    unfold startB
    rw [b0, b1]
    simp [ha]
  have hsz : n.data.toList.length = n.size := by simp
  have hsp := span_on (p := inTagB) h1 (fun x hx => (sign_facts (name_all hn x hx)).1) (fun x y e => by
    cases l with
    | nil => cases e; decide
    | cons a l =>
      have : attrsL (a :: l) ++ 62 :: b = 32 :: (a.1.data.toList ++ 61 :: 34 :: (quoteL 34 a.2.data.toList ++ [34]) ++ attrsL l ++ 62 :: b) := by
        unfold attrsL attrL
        simp
      rw [this] at e
      cases e
      decide)
  rw [hsz] at hsp
  have h2 := h1.skip
  rw [hsz] at h2
  have hx := h1.cut
  rw [hsz] at hx
  have hat := attrs_on l [] (s.size + 1) _ h2 hl (by omega)
  have hc33 : c ≠ 33 := fun e => h33 (by rw [e]; rfl)
  have hst := no_stands (l := r ++ (attrsL l ++ 62 :: b)) (by rw [hcl] at h; exact h) hc33
  refine ⟨?_, hs⟩
  unfold pieceP
  rw [if_neg (by rw [hs]; simp), if_neg hst, if_neg (by rw [b1]; omega), if_neg (by rw [b1]; exact h47)]
  unfold startP
  simp only [hsp, hx, mk_list, small_name hn, hat, List.nil_append]
end Go.Proofs.YtkaeenafejdkfaaGreatDoor

/- What is read where a comment or a raw text is spelt. -/
namespace Go.Proofs.YtkaeenafejdkfaaGreatDoor

/-- no end of a comment lies in it -/
def NoEnd (w : List UInt8) : Prop := ∀ j, (w.drop j).take 3 ≠ [45, 45, 62]
theorem NoEnd.tail {c : UInt8} {w : List UInt8} (h : NoEnd (c :: w)) : NoEnd w := fun j => by
  have := h (j + 1)
  rw [List.drop_succ_cons] at this
  exact this
theorem stands_three {s : ByteArray} {i : Nat} {l : List UInt8} (h : OnL s i l) : standsAt ⟨#[45, 45, 62]⟩ s i ↔ l.take 3 = [45, 45, 62] := by
  have e : (⟨#[45, 45, 62]⟩ : ByteArray).size = 3 := rfl
  have hs := h.size
  unfold standsAt
  rw [e]
  have hx : (s.extract i (i + 3)).data.toList = l.take 3 := by
    rw [ByteArray.data_extract, Array.toList_extract]
    show List.take (i + 3 - i) (List.drop i s.data.toList) = _
    rw [h.2, show i + 3 - i = 3 by omega]
  constructor
  · rintro ⟨_, h2⟩
    rw [← hx, h2]
  · intro h2
    have hl : 3 ≤ l.length := by
      have := congrArg List.length h2
      rw [List.length_take] at this
      simp at this
      omega
    refine ⟨by omega, ?_⟩
    apply ByteArray.ext
    apply Array.toList_inj.1
    rw [hx, h2]
theorem find_three {s : ByteArray} {b : List UInt8} : ∀ {w : List UInt8} {i : Nat}, OnL s i (w ++ 45 :: 45 :: 62 :: b) → NoEnd w → findE ⟨#[45, 45, 62]⟩ s i = some (i + w.length)
  | [], i, h, _ => by
    rw [findE_hit ((stands_three h).2 rfl)]; rfl
  | c :: w, i, h, hn => by
    have hs := h.size
    have e2 : (⟨#[45, 45, 62]⟩ : ByteArray).size = 3 := rfl
    have hno : ¬ standsAt ⟨#[45, 45, 62]⟩ s i := by
      rw [stands_three h]
      intro e
      match w, hn, e with
      | [], _, e => simp at e
      | [d], _, e => simp at e
      | d :: d2 :: w, hn, e =>
        have := hn 0
        simp at e this
        exact this e.1 e.2.1 e.2.2
    rw [findE_step (by rw [e2]; simp at hs; omega) hno (by rw [e2]; decide), find_three (w := w) (OnL.tail (c := c) h) hn.tail, List.length_cons]
    congr 1
    omega
/-- a comment -/
theorem piece_com {s : ByteArray} {w b : List UInt8} {i : Nat} (h : OnL s i (60 :: 33 :: 45 :: 45 :: (w ++ 45 :: 45 :: 62 :: b))) (hn : NoEnd w) : pieceP nameB s i = .com ⟨w.toArray⟩ (i + 4 + w.length + 3) ∧ startB s i = true := by
  have h1 := h.tail
  have h4 : OnL s (i + 4) (w ++ 45 :: 45 :: 62 :: b) := h1.tail.tail.tail
  have b0 := h.byte
  have b1 := h1.byte
  have hs : startB s i = true := by
    unfold startB
    rw [b0, b1]
    simp
  have hst : standsAt ⟨#[60, 33, 45, 45]⟩ s i := by
    have e : (⟨#[60, 33, 45, 45]⟩ : ByteArray).size = 4 := rfl
    have hsz := h4.size
    refine ⟨by rw [e]; omega, ?_⟩
    rw [e]
    exact OnL.cut (a := [60, 33, 45, 45]) (b := w ++ 45 :: 45 :: 62 :: b) h
  have hf := find_three h4 hn
  have hx := h4.cut
  refine ⟨?_, hs⟩
  unfold pieceP
  rw [if_neg (by rw [hs]; simp), if_pos hst, hf]
  simp only [hx]
/-- no end tag of that name lies in it -/
def NoRaw (n w : List UInt8) : Prop := ∀ j, (w.drop j).take 2 = [60, 47] → smallL ((w.drop (j + 2)).take n.length) = n → ∀ c r, w.drop (j + 2 + n.length) = c :: r → inTagB c.toNat = true
theorem NoRaw.tail {n : List UInt8} {c : UInt8} {w : List UInt8} (h : NoRaw n (c :: w)) : NoRaw n w := fun j h1 h2 d r h3 => by
  refine h (j + 1) (by rw [List.drop_succ_cons]; exact h1) ?_ d r ?_
  · rw [show j + 1 + 2 = (j + 2) + 1 by omega, List.drop_succ_cons]; exact h2
  · rw [show j + 1 + 2 + n.length = (j + 2 + n.length) + 1 by omega, List.drop_succ_cons]; exact h3
theorem raw_iff {s n : ByteArray} {i : Nat} {l : List UInt8} (h : OnL s i l) : rawHit s n i ↔ l.take 2 = [60, 47] ∧ n.data.toList.length + 2 ≤ l.length ∧ smallL ((l.drop 2).take n.data.toList.length) = n.data.toList ∧ (∀ c r, l.drop (2 + n.data.toList.length) = c :: r → inTagB c.toNat = false) := by
  have hs := h.size
  have hsz : n.data.toList.length = n.size := by simp
  have hx2 : (s.extract i (i + 2)).data.toList = l.take 2 := by
    rw [ByteArray.data_extract, Array.toList_extract]
    show List.take (i + 2 - i) (List.drop i s.data.toList) = _
    rw [h.2, show i + 2 - i = 2 by omega]
  have hx3 : (s.extract (i + 2) (i + 2 + n.size)).data.toList = (l.drop 2).take n.data.toList.length := by
    rw [ByteArray.data_extract, Array.toList_extract, hsz]
    show List.take (i + 2 + n.size - (i + 2)) (List.drop (i + 2) s.data.toList) = _
    rw [← List.drop_drop, h.2, show i + 2 + n.size - (i + 2) = n.size by omega]
  have hext : ∀ {a b : ByteArray}, a.data.toList = b.data.toList → a = b := fun e => ByteArray.ext (Array.toList_inj.1 e)
  unfold rawHit
  constructor
  · rintro ⟨h1, h2, h3, h4⟩
    refine ⟨by rw [← hx2, h2], by omega, ?_, ?_⟩
    · have := congrArg (fun x : ByteArray => x.data.toList) h3
      unfold smallS at this
      simp only [hx3] at this
      exact this
    · intro c r hc
      have hon : OnL s (i + 2 + n.size) (c :: r) := by
        refine ⟨by omega, ?_⟩
        rw [show i + 2 + n.size = i + (2 + n.data.toList.length) by omega, ← List.drop_drop, h.2]
        exact hc
      rcases h4 with h4 | h4
      · have := hon.size
        simp at this
        omega
      · rw [hon.byte] at h4
        exact h4
  · rintro ⟨h1, h2, h3, h4⟩
    refine ⟨by omega, hext (by rw [hx2, h1]), ?_, ?_⟩
    · apply hext
      unfold smallS
      rw [hx3, h3]
    · rcases Nat.lt_or_ge (i + 2 + n.size) s.size with hlt | hge
      · right
        cases hd : l.drop (2 + n.data.toList.length) with
        | nil =>
          have := congrArg List.length hd
          rw [List.length_drop] at this
          simp at this
          omega
        | cons c r =>
          have hon : OnL s (i + 2 + n.size) (c :: r) := by
            refine ⟨by omega, ?_⟩
            rw [show i + 2 + n.size = i + (2 + n.data.toList.length) by omega, ← List.drop_drop, h.2]
            exact hd
          rw [hon.byte]
          exact h4 c r hd
      · left; omega
theorem small_len (l : List UInt8) : (smallL l).length = l.length := by unfold smallL; simp
theorem small_mem {l n : List UInt8} (h : smallL l = n) {k : Nat} {c : UInt8} (hc : l[k]? = some c) : n[k]? = some (lowerB c) := by
  subst h
  unfold smallL
  rw [List.getElem?_map, hc]
  rfl
/-- a raw text ends at its end tag -/
theorem raw_on {s n : ByteArray} {b : List UInt8} (hn : nameB n = true) : ∀ {w : List UInt8} {i : Nat}, OnL s i (w ++ 60 :: 47 :: (n.data.toList ++ 62 :: b)) → NoRaw n.data.toList w → rawE s n i = i + w.length
  | [], i, h, _ => by
    obtain ⟨hi, _⟩ := OnL.head (c := 60) (l := 47 :: (n.data.toList ++ 62 :: b)) h
    have hh : rawHit s n i := by
      rw [raw_iff h]
      refine ⟨rfl, by simp, ?_, ?_⟩
      · have e : ((([] : List UInt8) ++ 60 :: 47 :: (n.data.toList ++ 62 :: b)).drop 2).take n.data.toList.length = n.data.toList := by simp
        rw [e]
        have := congrArg (fun x : ByteArray => x.data.toList) (small_name hn)
        unfold smallS at this
        simpa using this
      · intro c r hc
        have e : (([] : List UInt8) ++ 60 :: 47 :: (n.data.toList ++ 62 :: b)).drop (2 + n.data.toList.length) = 62 :: b := by
          rw [← List.drop_drop]
          simp
        rw [e] at hc
        cases hc
        decide
    rw [rawE_hit hi hh]; rfl
  | c :: w, i, h, hr => by
    obtain ⟨hi, _⟩ := OnL.head (c := c) (l := w ++ 60 :: 47 :: (n.data.toList ++ 62 :: b)) h
    have hno : ¬ rawHit s n i := by
      rw [raw_iff h]
      rintro ⟨h1, h2, h3, h4⟩
      have h1' : c = 60 := by simp at h1; exact h1.1
      subst h1'
      cases w with
      | nil => simp at h1
      | cons d w =>
        have hd : d = 47 := by simpa using h1
        subst hd
        rcases Nat.lt_or_ge w.length n.data.toList.length with hlt | hge
        · have e : ((60 :: 47 :: w ++ 60 :: 47 :: (n.data.toList ++ 62 :: b)).drop 2).take n.data.toList.length = (w ++ 60 :: 47 :: (n.data.toList ++ 62 :: b)).take n.data.toList.length := rfl
          rw [e] at h3
          have hk : ((w ++ 60 :: 47 :: (n.data.toList ++ 62 :: b)).take n.data.toList.length)[w.length]? = some 60 := by
            rw [List.getElem?_take, if_pos hlt, List.getElem?_append_right (Nat.le_refl _)]
            simp
          have hm := small_mem h3 hk
          have := name_all hn _ (List.mem_of_getElem? hm)
          revert this
          decide
        · have e : ((60 :: 47 :: w ++ 60 :: 47 :: (n.data.toList ++ 62 :: b)).drop 2).take n.data.toList.length = w.take n.data.toList.length := by
            show (w ++ 60 :: 47 :: (n.data.toList ++ 62 :: b)).take n.data.toList.length = _
            rw [List.take_append_of_le_length hge]
          rw [e] at h3
          cases hw : w.drop n.data.toList.length with
          | nil =>
            have hl : w.length = n.data.toList.length := by
              have := congrArg List.length hw
              rw [List.length_drop] at this
              simp at this ⊢
              simp at hge
              omega
            have e5 : (60 :: 47 :: w ++ 60 :: 47 :: (n.data.toList ++ 62 :: b)).drop (2 + n.data.toList.length) = 60 :: 47 :: (n.data.toList ++ 62 :: b) := by
              rw [← List.drop_drop]
              show (w ++ 60 :: 47 :: (n.data.toList ++ 62 :: b)).drop n.data.toList.length = _
              rw [← hl, List.drop_left']
              rfl
            have := h4 _ _ e5
            revert this
            decide
          | cons x r =>
            have e5 : (60 :: 47 :: w ++ 60 :: 47 :: (n.data.toList ++ 62 :: b)).drop (2 + n.data.toList.length) = x :: (r ++ 60 :: 47 :: (n.data.toList ++ 62 :: b)) := by
              rw [← List.drop_drop]
              show (w ++ 60 :: 47 :: (n.data.toList ++ 62 :: b)).drop n.data.toList.length = _
              rw [List.drop_append_of_le_length hge, hw]
              rfl
            have q1 := h4 _ _ e5
            have q2 := hr 0 (by simp) (by simpa using h3) x r (by
              rw [show 0 + 2 + n.data.toList.length = n.data.toList.length + 1 + 1 by omega, List.drop_succ_cons, List.drop_succ_cons]; exact hw)
            rw [q1] at q2
            cases q2
    rw [rawE_step hi hno, raw_on hn (w := w) (OnL.tail (c := c) h) hr.tail, List.length_cons]
    omega
end Go.Proofs.YtkaeenafejdkfaaGreatDoor
