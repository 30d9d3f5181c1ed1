/- What is read where a tag or a comment is spelt. -/
import Derived.Test.YtkaeenafejdkfaaGreatDoorM24
import Derived.StillTailTactics
namespace Go.Proofs.YtkaeenafejdkfaaGreatDoor

theorem name_head {n : ByteArray} (h : nameB n = true) : ∃ c l, n.data.toList = c :: l ∧ lowB c.toNat = true := by
  unfold nameB at h
  simp only [Bool.and_eq_true, decide_eq_true_eq] at h
  obtain ⟨⟨⟨h1, _⟩, h3⟩, _⟩ := h
  cases e : n.data.toList with
  | nil =>
    have : n.data.toList.length = n.size := by simp
    rw [e] at this
    simp at this
    omega
  | cons c l =>
    rw [e] at h3
    exact ⟨c, l, rfl, h3⟩
theorem name_all {n : ByteArray} (h : nameB n = true) : ∀ c ∈ n.data.toList, signB c.toNat = true := by
  unfold nameB at h
  simp only [Bool.and_eq_true] at h
  exact List.all_eq_true.1 h.2
theorem sign_facts {c : UInt8} (h : signB c.toNat = true) : inTagB c.toNat = true ∧ inAttrB c.toNat = true ∧ lowerB c = c ∧ betwB c.toNat = false ∧ c ≠ 62 := by
  have hc : (97 ≤ c.toNat ∧ c.toNat ≤ 122) ∨ (48 ≤ c.toNat ∧ c.toNat ≤ 57) ∨ c.toNat = 45 ∨ c.toNat = 95 ∨ c.toNat = 58 := by
    unfold signB lowB digB at h
    simp only [Bool.or_eq_true, decide_eq_true_eq, beq_iff_eq] at h
    omega
  have h1 : betwB c.toNat = false := by
    unfold betwB blankB
    simp only [Bool.or_eq_false_iff, decide_eq_false_iff_not]
    omega
  have h2 : inTagB c.toNat = true := by
    unfold inTagB
    rw [h1]
    simp only [Bool.not_false, Bool.true_and, decide_eq_true_eq]
    omega
  refine ⟨h2, ?_, ?_, h1, fun e => ?_⟩
  · unfold inAttrB
    rw [h2]
    simp only [Bool.true_and, decide_eq_true_eq]
    omega
  · unfold lowerB
    rw [if_neg (by omega)]
  · subst e
    revert hc
    decide
theorem small_name {n : ByteArray} (h : nameB n = true) : smallS n = n := by
  unfold smallS smallL
  apply ByteArray.ext
  apply Array.toList_inj.1
  show n.data.toList.map lowerB = n.data.toList
  have := name_all h
  generalize n.data.toList = l at *
  induction l with
  | nil => rfl
  | cons c l ih =>
    rw [List.map_cons, ih (fun x hx => this x (by simp [hx])), (sign_facts (this c (by simp))).2.2.1]
theorem low_alpha {c : UInt8} (h : lowB c.toNat = true) : alphaB c.toNat = true ∧ c.toNat ≠ 33 ∧ c.toNat ≠ 63 ∧ c.toNat ≠ 47 := by
  unfold lowB at h
  unfold alphaB
  simp only [decide_eq_true_eq] at h ⊢
  omega
theorem no_stands {s : ByteArray} {i : Nat} {c d : UInt8} {l : List UInt8} (h : OnL s i (c :: d :: l)) (hd : d ≠ 33) : ¬ standsAt ⟨#[60, 33, 45, 45]⟩ s i := by
  rintro ⟨h1, h2⟩
  have e : (⟨#[60, 33, 45, 45]⟩ : ByteArray).size = 4 := rfl
  rw [e] at h1 h2
  have h3 := congrArg (fun x : ByteArray => x.data.toList) h2
  simp only [ByteArray.data_extract, Array.toList_extract] at h3
  have h4 : List.take (i + 4 - i) (List.drop i s.data.toList) = [60, 33, 45, 45] := h3
  rw [h.2, show i + 4 - i = 4 by omega] at h4
  simp at h4
  exact hd h4.2.1
theorem mk_list (n : ByteArray) : (⟨n.data.toList.toArray⟩ : ByteArray) = n := by
  apply ByteArray.ext
  simp
/-- an end tag -/
theorem piece_end {s n : ByteArray} {i : Nat} {b : List UInt8} (h : OnL s i (60 :: 47 :: (n.data.toList ++ 62 :: b))) (hn : nameB n = true) : pieceP nameB s i = .fin n (i + 2 + n.size + 1) ∧ startB s i = true := by
  obtain ⟨c, l, hcl, hlow⟩ := name_head hn
  have h1 : OnL s (i + 1) (47 :: (n.data.toList ++ 62 :: b)) := h.tail
  have h2 : OnL s (i + 2) (n.data.toList ++ 62 :: b) := h1.tail
  have h2' : OnL s (i + 2) (c :: (l ++ 62 :: b)) := by rw [hcl] at h2; exact h2
  have b0 := h.byte
  have b1 := h1.byte
  have b2 := h2'.byte
  have hs : startB s i = true := by
    unfold startB
    rw [b0, b1, b2]
    simp [(low_alpha hlow).1]
  have hsz : n.data.toList.length = n.size := by simp
  have hsp := span_on (p := inTagB) h2 (fun x hx => (sign_facts (name_all hn x hx)).1) (fun x y e => by cases e; decide)
  rw [hsz] at hsp
  have h3 := h2.skip
  rw [hsz] at h3
  have hf := find_one (s := s) (c := 62) (a := []) (b := b) h3 (by simp)
  have hx := h2.cut
  rw [hsz] at hx
  refine ⟨?_, hs⟩
  unfold pieceP
  rw [if_neg (by rw [hs]; simp), if_neg (no_stands h (by decide)), if_neg (by rw [b1]; decide), if_pos (by rw [b1]; rfl)]
  unfold endP
  simp only [hsp, hf, hx, mk_list, small_name hn]
  rfl
/-- attributes as they are spelt -/
def attrL (a : ByteArray × ByteArray) : List UInt8 := 32 :: (a.1.data.toList ++ 61 :: 34 :: (quoteL 34 a.2.data.toList ++ [34]))
def attrsL (l : List (ByteArray × ByteArray)) : List UInt8 := l.flatMap attrL
theorem attr_on {s n v : ByteArray} {j : Nat} {b : List UInt8} (h : OnL s j (n.data.toList ++ 61 :: 34 :: (quoteL 34 v.data.toList ++ 34 :: b))) (hn : nameB n = true) : attrP s j = (n, v, j + n.size + 2 + (quoteL 34 v.data.toList).length + 1) := by
  obtain ⟨c, l, hcl, hlow⟩ := name_head hn
  have hsz : n.data.toList.length = n.size := by simp
  have hl1 : n.size = l.length + 1 := by rw [← hsz, hcl]; rfl
  have ht : OnL s (j + 1) (l ++ 61 :: 34 :: (quoteL 34 v.data.toList ++ 34 :: b)) := by
    rw [hcl] at h
    exact OnL.tail (c := c) h
  have hall := name_all hn
  have hsp := span_on (p := inAttrB) ht (fun x hx => (sign_facts (hall x (by rw [hcl]; simp [hx]))).2.1) (fun x y e => by cases e; decide)
  have hto : spanE inAttrB s (j + 1) = j + n.size := by rw [hsp]; omega
  have hx := h.cut
  rw [hsz] at hx
  have h3 := h.skip
  rw [hsz] at h3
  have hk := span_on (p := blankB) (a := []) h3 (by simp) (fun x y e => by cases e; decide)
  simp only [List.length_nil, Nat.add_zero] at hk
  have b61 : bt s (j + n.size) = 61 := h3.byte
  have h4 : OnL s (j + n.size + 1) (34 :: (quoteL 34 v.data.toList ++ 34 :: b)) := h3.tail
  have hk2 := span_on (p := blankB) (a := []) h4 (by simp) (fun x y e => by cases e; decide)
  simp only [List.length_nil, Nat.add_zero] at hk2
  have b34 : bt s (j + n.size + 1) = 34 := h4.byte
  have hq := OnL.cut (a := [34]) (b := quoteL 34 v.data.toList ++ 34 :: b) h4
  simp only [List.length_cons, List.length_nil, Nat.zero_add] at hq
  have h5 : OnL s (j + n.size + 1 + 1) (quoteL 34 v.data.toList ++ 34 :: b) := h4.tail
  have hf := find_one h5 (quote_no 34 (.inr rfl) _)
  have hv := h5.cut
  unfold attrP
  simp only [hto, hk, b61, if_true, hk2, hx, mk_list, small_name hn]
  have hmv : meantS ⟨(quoteL 34 v.data.toList).toArray⟩ = v := by
    unfold meantS
    rw [show (⟨(quoteL 34 v.data.toList).toArray⟩ : ByteArray).data.toList = quoteL 34 v.data.toList by simp, meant_quote 34 (.inr rfl), mk_list]
  unfold valP
  rw [if_pos (.inl b34), hq]
  have hf' : findE { data := [34].toArray } s (j + n.size + 1 + 1) = some (j + n.size + 1 + 1 + (quoteL 34 v.data.toList).length) := hf
  rw [hf']
  simp only [hv, hmv]
theorem attrs_on {s : ByteArray} {b : List UInt8} : ∀ (l l0 : List (ByteArray × ByteArray)) (f i : Nat), OnL s i (attrsL l ++ 62 :: b) → (∀ x ∈ l, nameB x.1 = true) → l.length < f → attrsF nameB f s i l0 = some (l0 ++ l, i + (attrsL l).length + 1)
  | [], l0, f + 1, i, h, _, _ => by
    have h' : OnL s i (62 :: b) := h
    have hj := span_on (p := betwB) (a := []) h' (by simp) (fun x y e => by cases e; decide)
    simp only [List.length_nil, Nat.add_zero] at hj
    have b62 : bt s i = 62 := h'.byte
    obtain ⟨hi, _⟩ := h'.head
    unfold attrsF
    simp only [hj]
    rw [if_neg (by omega), if_pos b62, List.append_nil]
    rfl
  | (n, v) :: l, l0, f + 1, i, h, hn, hf => by
    have hnn := hn (n, v) (by simp)
    obtain ⟨c, r, hcl, hlow⟩ := name_head hnn
    have h' : OnL s i (32 :: (n.data.toList ++ 61 :: 34 :: (quoteL 34 v.data.toList ++ 34 :: (attrsL l ++ 62 :: b)))) := by
      have e : attrsL ((n, v) :: l) ++ 62 :: b = 32 :: (n.data.toList ++ 61 :: 34 :: (quoteL 34 v.data.toList ++ 34 :: (attrsL l ++ 62 :: b))) := by
        unfold attrsL attrL
        simp
      rw [e] at h; exact h
    have h1 := h'.tail
    have hj := span_on (p := betwB) (a := [32]) h' (by intro x hx; simp at hx; subst hx; decide) (fun x y e => by
      rw [hcl] at e
      cases e
      exact (sign_facts (name_all hnn c (by rw [hcl]; simp))).2.2.2.1)
    simp only [List.length_cons, List.length_nil, Nat.zero_add] at hj
    have h1' : OnL s (i + 1) (c :: (r ++ 61 :: 34 :: (quoteL 34 v.data.toList ++ 34 :: (attrsL l ++ 62 :: b)))) := by rw [hcl] at h1; exact h1
    obtain ⟨hi, _⟩ := h1'.head
    have bne : bt s (i + 1) ≠ 62 := by
      rw [h1'.byte]
      intro e
      have hne := (sign_facts (name_all hnn c (by rw [hcl]; simp))).2.2.2.2
      exact hne (UInt8.toNat_inj.1 e)
    have ha := attr_on h1 hnn
    have hsz : n.data.toList.length = n.size := by simp
    have hend : OnL s (i + 1 + n.size + 2 + (quoteL 34 v.data.toList).length + 1) (attrsL l ++ 62 :: b) := by
      have q1 := h1.skip
      rw [hsz] at q1
      have q2 := (q1.tail).tail
      have q3 := q2.skip
      have q4 := q3.tail
      rw [show i + 1 + n.size + 2 + (quoteL 34 v.data.toList).length + 1 = i + 1 + n.size + 1 + 1 + (quoteL 34 v.data.toList).length + 1 by omega]
      exact q4
    have hle := hend.1
    have ih := attrs_on l (l0 ++ [(n, v)]) f _ hend (fun x hx => hn x (by simp [hx])) (by simp at hf; omega)
    unfold attrsF
    simp only [hj]
    rw [if_neg (by omega), if_neg bne, ha]
    simp only [hnn, if_true]
    rw [if_neg (by omega), ih]
    have e2 : (attrsL ((n, v) :: l)).length = 1 + n.size + 2 + (quoteL 34 v.data.toList).length + 1 + (attrsL l).length := by
      unfold attrsL attrL
      simp
      omega
    rw [e2, List.append_assoc]
    simp
    omega
/-- a start tag -/
theorem piece_start {s n : ByteArray} {l : List (ByteArray × ByteArray)} {i : Nat} {b : List UInt8} (h : OnL s i (60 :: (n.data.toList ++ (attrsL l ++ 62 :: b)))) (hn : nameB n = true) (hl : ∀ x ∈ l, nameB x.1 = true) (hll : l.length ≤ s.size) : pieceP nameB s i = .start n l (i + 1 + n.size + (attrsL l).length + 1) ∧ startB s i = true := by
  obtain ⟨c, r, hcl, hlow⟩ := name_head hn
  obtain ⟨ha, h33, h63, h47⟩ := low_alpha hlow
  have h1 : OnL s (i + 1) (n.data.toList ++ (attrsL l ++ 62 :: b)) := h.tail
  have h1' : OnL s (i + 1) (c :: (r ++ (attrsL l ++ 62 :: b))) := by rw [hcl] at h1; exact h1
  have b0 := h.byte
  have b1 := h1'.byte
  have hs : startB s i = true := by
    unfold startB
    rw [b0, b1]
    simp [ha]
  have hsz : n.data.toList.length = n.size := by simp
  have hsp := span_on (p := inTagB) h1 (fun x hx => (sign_facts (name_all hn x hx)).1) (fun x y e => by
    cases l with
    | nil => cases e; decide
    | cons a l =>
      have : attrsL (a :: l) ++ 62 :: b = 32 :: (a.1.data.toList ++ 61 :: 34 :: (quoteL 34 a.2.data.toList ++ [34]) ++ attrsL l ++ 62 :: b) := by
        unfold attrsL attrL
        simp
      rw [this] at e
      cases e
      decide)
  rw [hsz] at hsp
  have h2 := h1.skip
  rw [hsz] at h2
  have hx := h1.cut
  rw [hsz] at hx
  have hat := attrs_on l [] (s.size + 1) _ h2 hl (by omega)
  have hc33 : c ≠ 33 := fun e => h33 (by rw [e]; rfl)
  have hst := no_stands (l := r ++ (attrsL l ++ 62 :: b)) (by rw [hcl] at h; exact h) hc33
  refine ⟨?_, hs⟩
  unfold pieceP
  rw [if_neg (by rw [hs]; simp), if_neg hst, if_neg (by rw [b1]; omega), if_neg (by rw [b1]; exact h47)]
  unfold startP
  simp only [hsp, hx, mk_list, small_name hn, hat, List.nil_append]
end Go.Proofs.YtkaeenafejdkfaaGreatDoor

/- What is read where a comment or a raw text is spelt. -/
namespace Go.Proofs.YtkaeenafejdkfaaGreatDoor

/-- no end of a comment lies in it -/
def NoEnd (w : List UInt8) : Prop := ∀ j, (w.drop j).take 3 ≠ [45, 45, 62]
theorem NoEnd.tail {c : UInt8} {w : List UInt8} (h : NoEnd (c :: w)) : NoEnd w := fun j => by
  have := h (j + 1)
  rw [List.drop_succ_cons] at this
  exact this
theorem stands_three {s : ByteArray} {i : Nat} {l : List UInt8} (h : OnL s i l) : standsAt ⟨#[45, 45, 62]⟩ s i ↔ l.take 3 = [45, 45, 62] := by
  have e : (⟨#[45, 45, 62]⟩ : ByteArray).size = 3 := rfl
  have hs := h.size
  unfold standsAt
  rw [e]
  have hx : (s.extract i (i + 3)).data.toList = l.take 3 := by
    rw [ByteArray.data_extract, Array.toList_extract]
    show List.take (i + 3 - i) (List.drop i s.data.toList) = _
    rw [h.2, show i + 3 - i = 3 by omega]
  constructor
  · rintro ⟨_, h2⟩
    rw [← hx, h2]
  · intro h2
    have hl : 3 ≤ l.length := by
      have := congrArg List.length h2
      rw [List.length_take] at this
      simp at this
      omega
    refine ⟨by omega, ?_⟩
    apply ByteArray.ext
    apply Array.toList_inj.1
    rw [hx, h2]
theorem find_three {s : ByteArray} {b : List UInt8} : ∀ {w : List UInt8} {i : Nat}, OnL s i (w ++ 45 :: 45 :: 62 :: b) → NoEnd w → findE ⟨#[45, 45, 62]⟩ s i = some (i + w.length)
  | [], i, h, _ => by
    rw [findE_hit ((stands_three h).2 rfl)]; rfl
  | c :: w, i, h, hn => by
    have hs := h.size
    have e2 : (⟨#[45, 45, 62]⟩ : ByteArray).size = 3 := rfl
    have hno : ¬ standsAt ⟨#[45, 45, 62]⟩ s i := by
      rw [stands_three h]
      intro e
      match w, hn, e with
      | [], _, e => simp at e
      | [d], _, e => simp at e
      | d :: d2 :: w, hn, e =>
        have := hn 0
        simp at e this
        exact this e.1 e.2.1 e.2.2
    rw [findE_step (by rw [e2]; simp at hs; omega) hno (by rw [e2]; decide), find_three (w := w) (OnL.tail (c := c) h) hn.tail, List.length_cons]
    congr 1
    omega
/-- a comment -/
theorem piece_com {s : ByteArray} {w b : List UInt8} {i : Nat} (h : OnL s i (60 :: 33 :: 45 :: 45 :: (w ++ 45 :: 45 :: 62 :: b))) (hn : NoEnd w) : pieceP nameB s i = .com ⟨w.toArray⟩ (i + 4 + w.length + 3) ∧ startB s i = true := by
  have h1 := h.tail
  have h4 : OnL s (i + 4) (w ++ 45 :: 45 :: 62 :: b) := h1.tail.tail.tail
  have b0 := h.byte
  have b1 := h1.byte
  have hs : startB s i = true := by
    unfold startB
    rw [b0, b1]
    simp
  have hst : standsAt ⟨#[60, 33, 45, 45]⟩ s i := by
    have e : (⟨#[60, 33, 45, 45]⟩ : ByteArray).size = 4 := rfl
    have hsz := h4.size
    refine ⟨by rw [e]; omega, ?_⟩
    rw [e]
    exact OnL.cut (a := [60, 33, 45, 45]) (b := w ++ 45 :: 45 :: 62 :: b) h
  have hf := find_three h4 hn
  have hx := h4.cut
  refine ⟨?_, hs⟩
  unfold pieceP
  rw [if_neg (by rw [hs]; simp), if_pos hst, hf]
  simp only [hx]
/-- no end tag of that name lies in it -/
def NoRaw (n w : List UInt8) : Prop := ∀ j, (w.drop j).take 2 = [60, 47] → smallL ((w.drop (j + 2)).take n.length) = n → ∀ c r, w.drop (j + 2 + n.length) = c :: r → inTagB c.toNat = true
theorem NoRaw.tail {n : List UInt8} {c : UInt8} {w : List UInt8} (h : NoRaw n (c :: w)) : NoRaw n w := fun j h1 h2 d r h3 => by
  refine h (j + 1) (by rw [List.drop_succ_cons]; exact h1) ?_ d r ?_
  · rw [show j + 1 + 2 = (j + 2) + 1 by omega, List.drop_succ_cons]; exact h2
  · rw [show j + 1 + 2 + n.length = (j + 2 + n.length) + 1 by omega, List.drop_succ_cons]; exact h3
theorem raw_iff {s n : ByteArray} {i : Nat} {l : List UInt8} (h : OnL s i l) : rawHit s n i ↔ l.take 2 = [60, 47] ∧ n.data.toList.length + 2 ≤ l.length ∧ smallL ((l.drop 2).take n.data.toList.length) = n.data.toList ∧ (∀ c r, l.drop (2 + n.data.toList.length) = c :: r → inTagB c.toNat = false) := by
  have hs := h.size
  have hsz : n.data.toList.length = n.size := by simp
  have hx2 : (s.extract i (i + 2)).data.toList = l.take 2 := by
    rw [ByteArray.data_extract, Array.toList_extract]
    show List.take (i + 2 - i) (List.drop i s.data.toList) = _
    rw [h.2, show i + 2 - i = 2 by omega]
  have hx3 : (s.extract (i + 2) (i + 2 + n.size)).data.toList = (l.drop 2).take n.data.toList.length := by
    rw [ByteArray.data_extract, Array.toList_extract, hsz]
    show List.take (i + 2 + n.size - (i + 2)) (List.drop (i + 2) s.data.toList) = _
    rw [← List.drop_drop, h.2, show i + 2 + n.size - (i + 2) = n.size by omega]
  have hext : ∀ {a b : ByteArray}, a.data.toList = b.data.toList → a = b := fun e => ByteArray.ext (Array.toList_inj.1 e)
  unfold rawHit
  constructor
  · rintro ⟨h1, h2, h3, h4⟩
    refine ⟨by rw [← hx2, h2], by omega, ?_, ?_⟩
    · have := congrArg (fun x : ByteArray => x.data.toList) h3
      unfold smallS at this
      simp only [hx3] at this
      exact this
    · intro c r hc
      have hon : OnL s (i + 2 + n.size) (c :: r) := by
        refine ⟨by omega, ?_⟩
        rw [show i + 2 + n.size = i + (2 + n.data.toList.length) by omega, ← List.drop_drop, h.2]
        exact hc
      rcases h4 with h4 | h4
      · have := hon.size
        simp at this
        omega
      · rw [hon.byte] at h4
        exact h4
  · rintro ⟨h1, h2, h3, h4⟩
    refine ⟨by omega, hext (by rw [hx2, h1]), ?_, ?_⟩
    · apply hext
      unfold smallS
      rw [hx3, h3]
    · rcases Nat.lt_or_ge (i + 2 + n.size) s.size with hlt | hge
      · right
        cases hd : l.drop (2 + n.data.toList.length) with
        | nil =>
          have := congrArg List.length hd
          rw [List.length_drop] at this
          simp at this
          omega
        | cons c r =>
          have hon : OnL s (i + 2 + n.size) (c :: r) := by
            refine ⟨by omega, ?_⟩
            rw [show i + 2 + n.size = i + (2 + n.data.toList.length) by omega, ← List.drop_drop, h.2]
            exact hd
          rw [hon.byte]
          exact h4 c r hd
      · left; omega
theorem small_len (l : List UInt8) : (smallL l).length = l.length := by unfold smallL; simp
theorem small_mem {l n : List UInt8} (h : smallL l = n) {k : Nat} {c : UInt8} (hc : l[k]? = some c) : n[k]? = some (lowerB c) := by
  subst h
  unfold smallL
  rw [List.getElem?_map, hc]
  rfl
/-- a raw text ends at its end tag -/
theorem raw_on {s n : ByteArray} {b : List UInt8} (hn : nameB n = true) : ∀ {w : List UInt8} {i : Nat}, OnL s i (w ++ 60 :: 47 :: (n.data.toList ++ 62 :: b)) → NoRaw n.data.toList w → rawE s n i = i + w.length
  | [], i, h, _ => by
    obtain ⟨hi, _⟩ := OnL.head (c := 60) (l := 47 :: (n.data.toList ++ 62 :: b)) h
    have hh : rawHit s n i := by
      rw [raw_iff h]
      refine ⟨rfl, by simp, ?_, ?_⟩
      · have e : ((([] : List UInt8) ++ 60 :: 47 :: (n.data.toList ++ 62 :: b)).drop 2).take n.data.toList.length = n.data.toList := by simp
        rw [e]
        have := congrArg (fun x : ByteArray => x.data.toList) (small_name hn)
        unfold smallS at this
        simpa using this
      · intro c r hc
        have e : (([] : List UInt8) ++ 60 :: 47 :: (n.data.toList ++ 62 :: b)).drop (2 + n.data.toList.length) = 62 :: b := by
          rw [← List.drop_drop]
          simp
        rw [e] at hc
        cases hc
        decide
    rw [rawE_hit hi hh]; rfl
  | c :: w, i, h, hr => by
    obtain ⟨hi, _⟩ := OnL.head (c := c) (l := w ++ 60 :: 47 :: (n.data.toList ++ 62 :: b)) h
    have hno : ¬ rawHit s n i := by
      rw [raw_iff h]
      rintro ⟨h1, h2, h3, h4⟩
      have h1' : c = 60 := by simp at h1; exact h1.1
      subst h1'
      cases w with
      | nil => simp at h1
      | cons d w =>
        have hd : d = 47 := by simpa using h1
        subst hd
        rcases Nat.lt_or_ge w.length n.data.toList.length with hlt | hge
        · have e : ((60 :: 47 :: w ++ 60 :: 47 :: (n.data.toList ++ 62 :: b)).drop 2).take n.data.toList.length = (w ++ 60 :: 47 :: (n.data.toList ++ 62 :: b)).take n.data.toList.length := rfl
          rw [e] at h3
          have hk : ((w ++ 60 :: 47 :: (n.data.toList ++ 62 :: b)).take n.data.toList.length)[w.length]? = some 60 := by
            rw [List.getElem?_take, if_pos hlt, List.getElem?_append_right (Nat.le_refl _)]
            simp
          have hm := small_mem h3 hk
          have := name_all hn _ (List.mem_of_getElem? hm)
          revert this
          decide
        · have e : ((60 :: 47 :: w ++ 60 :: 47 :: (n.data.toList ++ 62 :: b)).drop 2).take n.data.toList.length = w.take n.data.toList.length := by
            show (w ++ 60 :: 47 :: (n.data.toList ++ 62 :: b)).take n.data.toList.length = _
            rw [List.take_append_of_le_length hge]
          rw [e] at h3
          cases hw : w.drop n.data.toList.length with
          | nil =>
            have hl : w.length = n.data.toList.length := by
              have := congrArg List.length hw
              rw [List.length_drop] at this
              simp at this ⊢
              simp at hge
              omega
            have e5 : (60 :: 47 :: w ++ 60 :: 47 :: (n.data.toList ++ 62 :: b)).drop (2 + n.data.toList.length) = 60 :: 47 :: (n.data.toList ++ 62 :: b) := by
              rw [← List.drop_drop]
              show (w ++ 60 :: 47 :: (n.data.toList ++ 62 :: b)).drop n.data.toList.length = _
              rw [← hl, List.drop_left']
              rfl
            have := h4 _ _ e5
            revert this
            decide
          | cons x r =>
            have e5 : (60 :: 47 :: w ++ 60 :: 47 :: (n.data.toList ++ 62 :: b)).drop (2 + n.data.toList.length) = x :: (r ++ 60 :: 47 :: (n.data.toList ++ 62 :: b)) := by
              rw [← List.drop_drop]
              show (w ++ 60 :: 47 :: (n.data.toList ++ 62 :: b)).drop n.data.toList.length = _
              rw [List.drop_append_of_le_length hge, hw]
              rfl
            have q1 := h4 _ _ e5
            have q2 := hr 0 (by simp) (by simpa using h3) x r (by
              rw [show 0 + 2 + n.data.toList.length = n.data.toList.length + 1 + 1 by omega, List.drop_succ_cons, List.drop_succ_cons]; exact hw)
            rw [q1] at q2
            cases q2
    rw [rawE_step hi hno, raw_on hn (w := w) (OnL.tail (c := c) h) hr.tail, List.length_cons]
    omega
end Go.Proofs.YtkaeenafejdkfaaGreatDoor

/- The program: what a start tag makes of a grower: the walk. -/
namespace Go.Proofs.YtkaeenafejdkfaaGreatDoor
open Go.RowKit

/-- attributes that lie in a held block -/
def AttrsX (X : List (Nat × Obj)) (a : Option Addr) (l : List (ByteArray × ByteArray)) : Prop := l = [] ∨ ∃ g cur t, a = some ⟨g, 0, none⟩ ∧ (g, Obj.cells cur t (0, 0)) ∈ X ∧ cur.toList.take (l.length * 2) = attrCells l
theorem AttrsX.cell {X : List (Nat × Obj)} {a : Option Addr} {l : List (ByteArray × ByteArray)} (h : AttrsX X a l) {w : World} (hw : ∀ x ∈ X, w.heap[x.1]? = some x.2) {k : Nat} {x : ByteArray × ByteArray} (hk : l[k]? = some x) : ∃ g, a = some ⟨g, 0, none⟩ ∧ g < w.heap.size ∧ w.cell? ⟨g, k * 2, none⟩ = some (.string x.1) ∧ w.cell? ⟨g, k * 2 + 1, none⟩ = some (.string x.2) := by
  rcases h with rfl | ⟨g, cur, t, rfl, h1, h2⟩
  · cases hk
  · have hg := hw _ h1
    obtain ⟨c1, c2⟩ := attrCells_get l k x hk
    have hkl : k < l.length := (List.getElem?_eq_some_iff.1 hk).1
    refine ⟨g, rfl, lt_of_heap hg, ?_, ?_⟩
    · rw [cell_of_row w g _ _ _ _ hg]
      rw [← h2, List.getElem?_take, if_pos (by omega)] at c1
      simpa using c1
    · rw [cell_of_row w g _ _ _ _ hg]
      rw [← h2, List.getElem?_take, if_pos (by omega)] at c2
      simpa using c2

theorem staysOpen_r (s : ByteArray) (n : Nat) (r : Bool) (hr : (!voidB s && decide (n < 40)) = r) (w : World) : Calls Tryz.prog 142 #[.string s, .int .i64 n] w fun e w' => e = .returned (.bool r) ∧ w' = w := by
  rw [← hr]; exact staysOpen_any s n w
set_option maxHeartbeats 8000000 in
set_option maxRecDepth 100000 in
theorem start_good {w : World} {gb tb : Nat} {ns : List Nd} {op : List Nat} {u i0 : Nat} {M Mo : Nat → Lab} {X : List (Nat × Obj)} (h : GS w gb tb ns op (txOf ns op) u M Mo) (hI : Inv ns op i0) (hl : ns.length < 400) (hu : u + 20010 ≤ 1000000) (name : ByteArray) (hname : nameB name = true) (l : List (ByteArray × ByteArray)) (hll : l.length ≤ 20000) (hln : ∀ x ∈ l, nameB x.1 = true ∧ x.2.size ≤ 20000) (a0 : Option Addr) (c0 : Nat) (hX : Held w M Mo gb X) (hA : AttrsX X a0 l) :
    Calls Tryz.prog 113 #[.pointer (some ⟨gb, 0, none⟩), pcv 3 i0 name ⟨#[]⟩ (.slice a0 l.length c0)] w fun e w' => e = .returned (.tuple #[]) ∧ GDone w gb tb (addN ns (inn (opAfter ns op name)) (elN name (firsts l))) (opThen ns (opAfter ns op name) name) 0 (u + 2 + l.length) M Mo w' := by
  have hgl0 : gb < w.heap.size := by obtain ⟨a, c, hg, _⟩ := h.head; exact lt_of_heap hg
  have hfr : M w.heap.size = .other ∧ Mo w.heap.size = .other := by
    obtain ⟨_, _, _, _, hL, _, _⟩ := h.tree
    exact ⟨hL.fresh _ (Nat.le_refl _), h.fresh _ (Nat.le_refl _)⟩
  -- the piece's own block
  have hB1 : Below w.heap.size w (w.alloc (.cells #[.int .i64 3, .int .i64 i0, .string name, .string ⟨#[]⟩, .slice a0 l.length c0] 121)) := (Below.refl _ _).alloc (Nat.le_refl _) _
  obtain ⟨Y, hY⟩ : ∃ Y, Y = (w.heap.size, Obj.cells #[.int .i64 3, .int .i64 i0, .string name, .string ⟨#[]⟩, .slice a0 l.length c0] 121 (0, 0)) :: X := ⟨_, rfl⟩
  have H1 : Hid (SAt w gb tb M Mo Y ns op (txOf ns op) u (w.alloc (.cells #[.int .i64 3, .int .i64 i0, .string name, .string ⟨#[]⟩, .slice a0 l.length c0] 121))) := by
    refine ⟨M, Mo, h.below hB1, GMv.below hB1, ?_⟩
    rw [hY]
    intro x hx
    rcases List.mem_cons.1 hx with rfl | hx
    · exact ⟨heap_alloc_new w _, hfr.1, hfr.2, by show w.heap.size ≠ gb; omega⟩
    · exact (hX.mv (GMv.below hB1)) x hx
  have HYm : Hid ((w.heap.size, Obj.cells #[.int .i64 3, .int .i64 i0, .string name, .string ⟨#[]⟩, .slice a0 l.length c0] 121 (0, 0)) ∈ Y) := by show _ ∈ Y; rw [hY]; simp
  have HAX : Hid (AttrsX Y a0 l) := by
    rcases hA with e | ⟨g, cur, t, e1, e2, e3⟩
    · exact .inl e
    · exact .inr ⟨g, cur, t, e1, by rw [hY]; exact List.mem_cons_of_mem _ e2, e3⟩
  obtain ⟨op1, hop1⟩ : ∃ op1, op1 = opAfter ns op name := ⟨_, rfl⟩
  have HOP := hid hop1
  have HI1 : Hid (Inv ns op1 i0) := by show Inv _ _ _; rw [hop1]; exact hI.shut _ _
  rw [← hop1]
  have HI := hid hI
  have HLN := hid hln
  unfold pcv
  clear h hX hA hI hY hfr hB1 hop1 hln
  go_enter Tryz.func113, Tryz.ntmps113
  go_wp2_with fail
  have hpl : w.heap.size < (w.alloc (.cells #[.int .i64 3, .int .i64 i0, .string name, .string ⟨#[]⟩, .slice a0 l.length c0] 121)).heap.size := by simp
  generalize w.alloc (.cells #[.int .i64 3, .int .i64 i0, .string name, .string ⟨#[]⟩, .slice a0 l.length c0] 121) = w1 at *
  refine (closing_any name w1).mono ?_
  rintro e w2 ⟨a1, n1, k1, a2, n2, k2, rfl, hSA, hSB, hB2⟩
  have H2 := hid (H1.out.below hB2)
  have HSA := hid hSA
  have HSB := hid hSB
  clear hSA hSB hB2 H1
  go_wp2_with fail
  refine (SAt.shut H2.out HI.out HSA.out HSB.out).mono ?_
  rintro e w3 ⟨rfl, h3⟩
  have H3 : Hid (SAt w gb tb M Mo Y ns op1 (txOf ns op1) u w3) := by
    show SAt _ _ _ _ _ _ _ _ _ _ _
    rw [HOP.out]; exact h3
  clear h3 H2 HSA HSB
  obtain ⟨p0, p1, p2, p3, p4, pf⟩ := five_cells (H3.out.held HYm.out)
  obtain ⟨ga, gc, hg3⟩ := H3.out.cells
  obtain ⟨e0, e1, e2, ef⟩ := three_cells hg3
  clear hg3
  go_wp2_with fail
  go_cut [4, 5] (fun s4 s5 wx => s4 = .int .i64 ns.length ∧ s5 = .nilIface ∧ Hid (SAt w gb tb M Mo Y (ns ++ [elN name []]) op1 (txOf ns op1) (u + 1) wx))
  case first =>
    go_region_with ((go_at_call 38; refine (SAt.mkElement (H3.out.below ((Below.refl _ _).drew)) (by omega) hl name hname).mono ?_; rintro e w4 ⟨rfl, h4⟩; have H4 := hid h4; clear h4))
    all_goals (go_wp2_with fail; go_meet; exact ⟨rfl, rfl, H4⟩)
  case rest =>
  obtain ⟨w4, hw4⟩ : ∃ w9, w9 = wc := ⟨_, rfl⟩
  subst hw4
  obtain ⟨hs4, hs5, H4⟩ := hcut
  subst hs4
  subst hs5
  clear p0 p1 p2 p3 p4 pf e0 e1 e2 ef H3
  obtain ⟨p0, p1, p2, p3, p4, pf⟩ := five_cells (H4.out.held HYm.out)
  go_wp2_with fail
  refine (SAt.add H4.out HI1.out.wf HI1.out.chain hl rfl rfl (by omega) (by have := HI1.out.few; omega) 3 i0 name ⟨#[]⟩ a0 l.length c0).mono ?_
  rintro e w5 ⟨rfl, h5⟩
  have H5 := hid h5
  clear h5 H4 p0 p1 p2 p3 p4 pf
  obtain ⟨p0, p1, p2, p3, p4, pf⟩ := five_cells (H5.out.held HYm.out)
  obtain ⟨m, hm, _⟩ := HI1.out.chain.inner HI1.out.wf
  have HM := hid hm
  clear hm
  go_wp2_with fail
  go_loopw [35] (fun v wr => ∃ k : Nat, k ≤ l.length ∧ v = .int .i64 k ∧ Hid (SAt w gb tb M Mo Y (addN ns (inn op1) (elN name (firsts (l.take k)))) op1 0 (u + 2 + k) wr)) (fun v _ => l.length - (intOf v).toNat)
  case atStart => exact ⟨0, by omega, rfl, H5⟩
  case round =>
    clear p0 p1 p2 p3 p4 pf
    obtain ⟨k, hk, rfl, HR⟩ := hrel
    by_cases hlt : k < l.length
    · obtain ⟨x, hx⟩ : ∃ x, l[k]? = some x := ⟨_, List.getElem?_eq_getElem hlt⟩
      obtain ⟨hxn, hxv⟩ := HLN.out x (List.mem_of_getElem? hx)
      obtain ⟨g, hga, hgl, c0', c1'⟩ := HAX.out.cell (w := wr) (fun y hy => HR.out.held hy) hx
      subst hga
      have htk : l.take (k + 1) = l.take k ++ [x] := by rw [List.take_add_one, hx]; rfl
      have hnode := add_at HM.out (elN name (firsts (l.take k)))
      have hfl : (firsts (l.take k)).length ≤ 20000 := Nat.le_trans (firsts_le _) (by rw [List.length_take]; omega)
      have HN := hid hnode
      have HT := hid htk
      clear hnode htk hx
      go_wp2_with fail
      have hB6 : Below wr.heap.size wr (wr.alloc (.cells #[.string x.1, .string x.2] 81)) := (Below.refl _ _).alloc (Nat.le_refl _) _
      have H6 := hid (HR.out.below hB6)
      have hab := heap_alloc_new wr (.cells #[.string x.1, .string x.2] 81)
      have hal : wr.heap.size < (wr.alloc (.cells #[.string x.1, .string x.2] 81)).heap.size := by simp
      obtain ⟨ga6, gc6, hg6⟩ := H6.out.cells
      obtain ⟨e0, e1, e2, ef⟩ := three_cells hg6
      have hgl6 := lt_of_heap hg6
      have hacs : (wr.alloc (.cells #[.string x.1, .string x.2] 81)).cell? ⟨wr.heap.size, 0, none⟩ = some (.string x.1) := by rw [cell_of_row _ _ _ _ _ _ hab]; rfl
      obtain ⟨ab, hab2⟩ : ∃ ab, ab = wr.heap.size := ⟨_, rfl⟩
      rw [← hab2] at hab hacs hal ⊢
      generalize wr.alloc (.cells #[.string x.1, .string x.2] 81) = w6 at *
      have HAB := hid hab
      clear hB6 hg6 hab hab2 HR c0' c1'
      cases hf : findA (firsts (l.take k)) x.1 with
      | some kk =>
        have EW : Hid (attrW (firsts (l.take k)) x.1 = .tuple #[.string ((firsts (l.take k)).getD kk (⟨#[]⟩, ⟨#[]⟩)).2, .bool true]) := by
          show attrW _ _ = _
          unfold attrW; rw [hf]
        go_cut [7, 9, 35] (fun s7 s9 s35 wx => s7 = .pointer (some ⟨ab, 0, none⟩) ∧ s9 = .bool true ∧ s35 = .int .i64 k ∧ Hid (Below w6.heap.size w6 wx))
        case first =>
          go_region_with ((go_at_call 141; refine (SAt.attr (H6.out.below ((Below.refl _ _).drew)) HN.out (by show (firsts (l.take k)).length ≤ 1000000; omega) x.1).mono ?_; rintro e w7 ⟨rfl, hB7⟩; rw [show attrW (Nd.attrs _) x.1 = _ from EW.out]; have H7 : Hid (Below w6.heap.size w6 w7) := (Below.refl _ _).drew.trans hB7; clear hB7))
          all_goals (go_wp2_with fail; go_meet; exact ⟨rfl, rfl, rfl, H7⟩)
        case rest =>
        obtain ⟨w7, hw7⟩ : ∃ w9, w9 = wc := ⟨_, rfl⟩
        subst hw7
        obtain ⟨hs7, hs9, hs35, H7⟩ := hcut
        subst hs7
        subst hs9
        subst hs35
        have H8 := hid ((H6.out.below H7.out).more (u2 := u + 2 + (k + 1)) (by omega))
        clear H6 H7 e0 e1 e2 ef hacs
        go_wp2_with fail
        refine ⟨⟨k + 1, by omega, by go_num, ?_⟩, ?_⟩
        · show SAt _ _ _ _ _ _ _ _ _ _ _
          rw [HT.out, firsts_some (by rw [hf]; rfl)]
          exact H8.out
        · simp [intOf]; omega
      | none =>
        have EW : Hid (attrW (firsts (l.take k)) x.1 = .tuple #[.string ⟨#[]⟩, .bool false]) := by
          show attrW _ _ = _
          unfold attrW; rw [hf]
        go_cut [7, 9, 35] (fun s7 s9 s35 wx => s7 = .pointer (some ⟨ab, 0, none⟩) ∧ s9 = .bool false ∧ s35 = .int .i64 k ∧ Hid (Below w6.heap.size w6 wx))
        case first =>
          go_region_with ((go_at_call 141; refine (SAt.attr (H6.out.below ((Below.refl _ _).drew)) HN.out (by show (firsts (l.take k)).length ≤ 1000000; omega) x.1).mono ?_; rintro e w7 ⟨rfl, hB7⟩; rw [show attrW (Nd.attrs _) x.1 = _ from EW.out]; have H7 : Hid (Below w6.heap.size w6 w7) := (Below.refl _ _).drew.trans hB7; clear hB7))
          all_goals (go_wp2_with fail; go_meet; exact ⟨rfl, rfl, rfl, H7⟩)
        case rest =>
        obtain ⟨w7, hw7⟩ : ∃ w9, w9 = wc := ⟨_, rfl⟩
        subst hw7
        obtain ⟨hs7, hs9, hs35, H7⟩ := hcut
        subst hs7
        subst hs9
        subst hs35
        have H8 := hid (H6.out.below H7.out)
        have hab7 := (H7.out.block ab hal).trans HAB.out
        obtain ⟨x0, x1, xf⟩ := pair_cells hab7
        obtain ⟨ga7, gc7, hg7⟩ := H8.out.cells
        obtain ⟨f0, f1, f2, ff⟩ := three_cells hg7
        clear H6 H7 e0 e1 e2 ef hacs hab7 hg7
        go_wp2_with fail
        have hadd := add_set HM.out name (firsts (l.take k)) (firsts (l.take k) ++ [(x.1, x.2)])
        have HADD := hid hadd
        clear hadd
        go_still_tail 9, (by kernel_rfl)
        go_wp2_with fail
        refine (SAt.set (H8.out.below ((Below.refl _ _).drew)) (by omega) HN.out rfl (by show (firsts (l.take k)).length ≤ 1000000; omega) x.1 x.2 hxn hxv hf).mono ?_
        rintro e w8 ⟨rfl, h9⟩
        have H9 : Hid (SAt w gb tb M Mo Y (addN ns (inn op1) (elN name (firsts (l.take k) ++ [(x.1, x.2)]))) op1 0 (u + 2 + k + 1) w8) := by
          show SAt _ _ _ _ _ _ _ _ _ _ _
          rw [← HADD.out]; exact h9
        clear h9
        go_wp2_with fail
        refine ⟨⟨k + 1, by omega, by go_num, ?_⟩, ?_⟩
        · show SAt _ _ _ _ _ _ _ _ _ _ _
          rw [HT.out, firsts_none hf]
          exact H9.out
        · simp [intOf]; omega
    · obtain rfl : k = l.length := by omega
      have H6 : Hid (SAt w gb tb M Mo Y (addN ns (inn op1) (elN name (firsts l))) op1 0 (u + 2 + l.length) wr) := by
        have := HR.out
        rw [List.take_length] at this
        exact this
      clear HR
      obtain ⟨p0, p1, p2, p3, p4, pf⟩ := five_cells (H6.out.held HYm.out)
      obtain ⟨M6, Mo6, hG6, hV6, hX6⟩ := H6.out
      obtain ⟨ga, gc, hg6, hrow6⟩ := hG6.head
      obtain ⟨e0, e1, e2, ef⟩ := three_cells hg6
      have hgl6 := lt_of_heap hg6
      have hpl6 := lt_of_heap (H6.out.held HYm.out)
      obtain ⟨_, _, hsh, hc1, hc2⟩ := hrow6.shape
      cases hsh
      have HG6 := hid hG6
      have HV6 := hid hV6
      have HROW := hid hrow6
      unfold maxLen at hc2
      have hfew := HI1.out.few
      clear hG6 hV6 hX6 hg6 hrow6
      cases hst : (!voidB name && decide (op1.length < 40))
      · have HO : Hid (opThen ns op1 name = op1) := by show _ = _; unfold opThen; rw [hst]; rfl
        go_wp2_with fail
        go_quiet ((go_at_call 142; exact Calls.quiet_of_same (staysOpen_r name op1.length false hst _)))
        go_wp2_with fail
        go_end0
        rw [HO.out]
        exact ⟨rfl, M6, Mo6, HG6.out.below (below_dr (Below.refl _ _) _), HV6.out.trans (GMv.below (below_dr (Below.refl _ _) _))⟩
      · have HO : Hid (opThen ns op1 name = ns.length :: op1) := by show _ = _; unfold opThen; rw [hst]; rfl
        obtain ⟨i9, hi9, hz0, hz1, hz2⟩ := info_parts Tryz.infoInt
        go_wp2_with fail
        go_quiet ((go_at_call 142; exact Calls.quiet_of_same (staysOpen_r name op1.length true hst _)))
        have HB7 : Hid (∀ o, Below wr.heap.size wr ((wr.drewN nq).alloc o)) := fun o => (below_dr (Below.refl _ _) nq).alloc (Nat.le_refl _) _
        have HG7 : Hid (∀ o, GS ((wr.drewN nq).alloc o) gb tb (addN ns (inn op1) (elN name (firsts l))) op1 0 (u + 2 + l.length) M6 Mo6) := fun o => HG6.out.below (HB7.out o)
        have HR7 : Hid (∀ o, Row ((wr.drewN nq).alloc o) Mo6 (.kids 0) 3 1 (.slice ga op1.length gc) op1.length ((op1.reverse.map fun (k : Nat) => (k : Int)).map intV)) := fun o => HROW.out.keep (fun b hb _ => (HB7.out o).block b hb) (fun _ _ => rfl)
        go_wp2_with ((at_builtin; (refine wpList_app_row _ (by rfl) (.tmp 75) (.tmp 77) 48 (by rfl) Mo6 (.kids 0) 3 i9 _ 1 8 Tryz.underlying48 hi9 hz0 hz1 hz2 rfl (by decide) (.slice ga op1.length gc) op1.length ((op1.reverse.map fun (k : Nat) => (k : Int)).map intV) (by rfl) (HR7.out _) ⟨wr.heap.size, 0, none⟩ 1 1 [.int .i64 ns.length] (by rfl) rfl (cell_one_new _ _ _) (by simp [Value.oneCell']) (by decide) (by unfold maxLen; omega) (by omega) (HG7.out _).fresh ?_); intro g cap1 w9 Mo9 hr st; have hrow9 : Row w9 Mo9 (.kids 0) 3 1 (.slice (some ⟨g, 0, none⟩) (ns.length :: op1).length cap1) (ns.length :: op1).length (((ns.length :: op1).reverse.map fun (k : Nat) => (k : Int)).map intV) := (by simpa [intV] using hr); obtain ⟨z1, z2⟩ := (HG7.out (.cells #[.int .i64 ns.length] 3)).opened hrow9 st; have H9 := hid (And.intro z1 z2); obtain ⟨ga7, gc7, hg7, _⟩ := (HG7.out (.cells #[.int .i64 ns.length] 3)).head; have hg9 := (st.far gb (lt_of_heap hg7) (by rw [(HG7.out (.cells #[.int .i64 ns.length] 3)).gO]; intro e; cases e)).trans hg7; obtain ⟨s0, s1, s2, sf⟩ := three_cells hg9; clear hr st hrow9 z1 z2 hg7 hg9))
        go_end0
        rw [HO.out]
        exact ⟨rfl, M6, Mo9, H9.out.1, HV6.out.trans ((GMv.below (HB7.out _)).trans H9.out.2)⟩
end Go.Proofs.YtkaeenafejdkfaaGreatDoor

/- The program: what a start tag makes of a grower, whatever it is. -/
namespace Go.Proofs.YtkaeenafejdkfaaGreatDoor
open Go.RowKit

set_option maxHeartbeats 8000000 in
set_option maxRecDepth 100000 in
theorem start_bad {w : World} {gb tb : Nat} {ns : List Nd} {op : List Nat} {u i0 : Nat} {M Mo : Nat → Lab} (h : GS w gb tb ns op (txOf ns op) u M Mo) (hI : Inv ns op i0) (hl : ns.length = 400) (name : ByteArray) (hname : nameB name = true) (a0 : Option Addr) (ll c0 : Nat) (bv : Value) (hbv : w.cell? ⟨0, 0, none⟩ = some bv) :
    Calls Tryz.prog 113 #[.pointer (some ⟨gb, 0, none⟩), pcv 3 i0 name ⟨#[]⟩ (.slice a0 ll c0)] w fun e w' => Thrown i0 bv e w' ∧ ∃ M' Mo', GMv gb w M Mo w' M' Mo' := by
  have hgl0 : gb < w.heap.size := by obtain ⟨a, c, hg, _⟩ := h.head; exact lt_of_heap hg
  have hfr : M w.heap.size = .other ∧ Mo w.heap.size = .other := by
    obtain ⟨_, _, _, _, hL, _, _⟩ := h.tree
    exact ⟨hL.fresh _ (Nat.le_refl _), h.fresh _ (Nat.le_refl _)⟩
  have hel := World.block_lt_of_cell? w _ hbv
  have hB1 : Below w.heap.size w (w.alloc (.cells #[.int .i64 3, .int .i64 i0, .string name, .string ⟨#[]⟩, .slice a0 ll c0] 121)) := (Below.refl _ _).alloc (Nat.le_refl _) _
  have hE0 : M 0 = .other ∧ Mo 0 = .other ∧ 0 ≠ gb := ⟨h.errs.lab _ (by decide), (h.errO _ (by decide)).1, (h.errO _ (by decide)).2⟩
  obtain ⟨eo, heo⟩ : ∃ eo, w.heap[0]? = some eo := ⟨_, Array.getElem?_eq_getElem hel⟩
  obtain ⟨Y, hY⟩ : ∃ Y, Y = [(w.heap.size, Obj.cells #[.int .i64 3, .int .i64 i0, .string name, .string ⟨#[]⟩, .slice a0 ll c0] 121 (0, 0)), (0, eo)] := ⟨_, rfl⟩
  have H1 : Hid (SAt w gb tb M Mo Y ns op (txOf ns op) u (w.alloc (.cells #[.int .i64 3, .int .i64 i0, .string name, .string ⟨#[]⟩, .slice a0 ll c0] 121))) := by
    refine ⟨M, Mo, h.below hB1, GMv.below hB1, ?_⟩
    rw [hY]
    intro x hx
    rcases List.mem_cons.1 hx with rfl | hx
    · exact ⟨heap_alloc_new w _, hfr.1, hfr.2, by show w.heap.size ≠ gb; omega⟩
    · rw [List.mem_singleton] at hx
      subst hx
      exact ⟨(hB1.block _ hel).trans heo, hE0.1, hE0.2.1, hE0.2.2⟩
  have HYm : Hid ((w.heap.size, Obj.cells #[.int .i64 3, .int .i64 i0, .string name, .string ⟨#[]⟩, .slice a0 ll c0] 121 (0, 0)) ∈ Y) := by show _ ∈ Y; rw [hY]; simp
  have HYe : Hid ((0, eo) ∈ Y) := by show _ ∈ Y; rw [hY]; simp
  have HEC : Hid (∀ w' : World, w'.heap[0]? = some eo → w'.cell? ⟨0, 0, none⟩ = some bv) := fun w' h' => (World.cell?_of_block (a := ⟨0, 0, none⟩) (h'.trans heo.symm)).trans hbv
  have HI := hid hI
  unfold pcv
  clear h hI hY hfr hB1 hbv heo hE0
  go_enter Tryz.func113, Tryz.ntmps113
  go_wp2_with fail
  have hpl : w.heap.size < (w.alloc (.cells #[.int .i64 3, .int .i64 i0, .string name, .string ⟨#[]⟩, .slice a0 ll c0] 121)).heap.size := by simp
  generalize w.alloc (.cells #[.int .i64 3, .int .i64 i0, .string name, .string ⟨#[]⟩, .slice a0 ll c0] 121) = w1 at *
  refine (closing_any name w1).mono ?_
  rintro e w2 ⟨a1, n1, k1, a2, n2, k2, rfl, hSA, hSB, hB2⟩
  have H2 := hid (H1.out.below hB2)
  have HSA := hid hSA
  have HSB := hid hSB
  clear hSA hSB hB2 H1
  go_wp2_with fail
  refine (SAt.shut H2.out HI.out HSA.out HSB.out).mono ?_
  rintro e w3 ⟨rfl, h3⟩
  have H3 := hid h3
  clear h3 H2 HSA HSB
  obtain ⟨p0, p1, p2, p3, p4, pf⟩ := five_cells (H3.out.held HYm.out)
  obtain ⟨ga, gc, hg3⟩ := H3.out.cells
  obtain ⟨e0, e1, e2, ef⟩ := three_cells hg3
  have hc3 := HEC.out w3 (H3.out.held HYe.out)
  have HC3 := hid hc3
  clear hg3 hc3
  go_wp2_with fail
  go_region_with ((go_at_call 38; refine (SAt.noElement (H3.out.below ((Below.refl _ _).drew)) hl name hname).mono ?_; rintro e w4 ⟨v, rfl, ⟨vt, vx, rfl⟩, hvc, hB4⟩; have hvc' : w3.cell? ⟨0, 0, none⟩ = some (.iface vt (.pointer (some vx))) := hvc; have H4 := hid (H3.out.below ((Below.refl _ _).drew.trans hB4)); have HV := hid hvc'; obtain ⟨q0, q1, q2, q3, q4, qf⟩ := five_cells (H4.out.held HYm.out); clear hB4 hvc hvc'))
  all_goals (
    go_wp2_with fail
    obtain rfl := Option.some.inj (HC3.out.symm.trans HV.out)
    refine (add_bad (gb := gb) vt vx _ ⟨vt, vx, rfl⟩ (HEC.out _ (H4.out.held HYe.out)) 3 i0 name ⟨#[]⟩ a0 ll c0 0).mono ?_
    rintro e w5 ⟨⟨fb, rfl, hfb⟩, hB5⟩
    obtain ⟨M5, Mo5, _, hV5, _⟩ := H4.out.below hB5
    exact ⟨rfl, ⟨fb, rfl, hfb⟩, M5, Mo5, hV5⟩)

/-- what a start tag makes of a grower -/
theorem start_any {w : World} {gb tb : Nat} {ns : List Nd} {op : List Nat} {u i0 : Nat} {M Mo : Nat → Lab} {X : List (Nat × Obj)} (h : GS w gb tb ns op (txOf ns op) u M Mo) (hI : Inv ns op i0) (hu : u + 20010 ≤ 1000000) (name : ByteArray) (hname : nameB name = true) (l : List (ByteArray × ByteArray)) (hll : l.length ≤ 20000) (hln : ∀ x ∈ l, nameB x.1 = true ∧ x.2.size ≤ 20000) (a0 : Option Addr) (c0 : Nat) (hX : Held w M Mo gb X) (hA : AttrsX X a0 l) (bv : Value) (hbv : w.cell? ⟨0, 0, none⟩ = some bv) :
    Calls Tryz.prog 113 #[.pointer (some ⟨gb, 0, none⟩), pcv 3 i0 name ⟨#[]⟩ (.slice a0 l.length c0)] w (GOut w gb tb (startM ns op name l) (u + 2 + l.length) M Mo i0 bv) := by
  unfold startM
  by_cases hl : ns.length < 400
  · rw [if_pos hl]
    refine (start_good h hI hl hu name hname l hll hln a0 c0 hX hA).mono ?_
    rintro e w' ⟨rfl, M', Mo', hG, hV⟩
    refine ⟨rfl, M', Mo', ?_, hV⟩
    have hI1 : Inv ns (opAfter ns op name) i0 := hI.shut _ _
    obtain ⟨m, hm, _⟩ := hI1.chain.inner hI1.wf
    have ht : txOf (addN ns (inn (opAfter ns op name)) (elN name (firsts l))) (opThen ns (opAfter ns op name) name) = 0 := by
      unfold opThen txOf
      split
      · show (textAt _ ns.length).getD 0 = 0
        unfold textAt
        rw [add_at hm]
        rfl
      · rw [textAt_new hm]; rfl
    rw [ht]
    exact hG
  · rw [if_neg hl]
    exact start_bad h hI (by have := hI.wf.len; omega) name hname a0 l.length c0 bv hbv
end Go.Proofs.YtkaeenafejdkfaaGreatDoor
