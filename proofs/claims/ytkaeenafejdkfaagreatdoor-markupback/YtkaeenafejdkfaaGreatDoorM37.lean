/- Reading what is spelt: token by token. -/
import Derived.Test.YtkaeenafejdkfaaGreatDoorM36
namespace Go.Proofs.YtkaeenafejdkfaaGreatDoor

/-- a raw element's text ends at its end tag -/
def fitsO (ns : List Nd) (op : List Nat) (rest : List UInt8) : Prop := match op with
  | [] => True
  | k :: _ => rawB (tagOf ns k) = true → ∃ r, rest = endL (tagOf ns k) ++ r
/-- what begins so is read up to here as that tree -/
def Rds (out : List UInt8) (ns : List Nd) (op : List Nat) : Prop := ∀ (s : ByteArray) (rest : List UInt8), OnL s 0 (out ++ rest) → fitsO ns op rest → ∃ F, s.size - out.length ≤ F ∧ readS s = readF F s out.length ns op
/-- the same, if a piece begins there, or nothing -/
def Rdf (out : List UInt8) (ns : List Nd) (op : List Nat) : Prop := ∀ (s : ByteArray) (rest : List UInt8), OnL s 0 (out ++ rest) → fitsO ns op rest → (rest = [] ∨ startB s out.length = true) → ∃ F, s.size - out.length ≤ F ∧ readS s = readF F s out.length ns op
theorem Rds.rdf {out : List UInt8} {ns : List Nd} {op : List Nat} (h : Rds out ns op) : Rdf out ns op := fun s rest h1 h2 _ => h s rest h1 h2
theorem rds_nil : Rds [] [docN] [] := fun s _ _ _ => ⟨s.size, by simp, rfl⟩
theorem meant_quoteS (w : List UInt8) : meantS ⟨(quoteL 60 w).toArray⟩ = ⟨w.toArray⟩ := by
  unfold meantS
  rw [show (⟨(quoteL 60 w).toArray⟩ : ByteArray).data.toList = quoteL 60 w by simp, meant_quote 60 (.inl rfl)]
/-- one piece is read -/
theorem rd_piece {s : ByteArray} {F i : Nat} {ns ns' : List Nd} {op op' : List Nat} (hi : i < s.size) (hF : s.size - i ≤ F) (hp : pieceM ns op (pieceP nameB s i) = some (ns', op')) (hraw : (pieceP nameB s i).raw = ⟨#[]⟩) (hto : i < (pieceP nameB s i).to) : ∃ F', s.size - (pieceP nameB s i).to ≤ F' ∧ readF F s i ns op = readF F' s (pieceP nameB s i).to ns' op' := by
  cases F with
  | zero => omega
  | succ F =>
    refine ⟨F, by omega, ?_⟩
    rw [read_step hi, hp]
    simp only [hraw, rawThen_no]
/-- a text that waits -/
theorem rd_flush {out0 w : List UInt8} {ns0 : List Nd} {op : List Nat} (h : Rds out0 ns0 op) (hw : w ≠ []) (ht : textAt ns0 (inn op) = none) (hl : ns0.length < 400) (ho : OpenO ns0 op) : Rdf (out0 ++ quoteL 60 w) (addN ns0 (inn op) (textN ⟨w.toArray⟩)) op := by
  intro s rest h1 h2 h3
  rw [List.append_assoc] at h1
  have hfit : fitsO ns0 op (quoteL 60 w ++ rest) := by
    cases op with
    | nil => trivial
    | cons k l => intro hr; rw [ho.2.2.1] at hr; cases hr
  obtain ⟨F, hF, hR⟩ := h s _ h1 hfit
  have h4 := h1.skip
  rw [Nat.zero_add] at h4
  have hq : quoteL 60 w ≠ [] := quote_ne 60 hw
  have hsz := h4.size
  have hpos : 0 < (quoteL 60 w).length := List.length_pos_iff.2 hq
  rw [List.length_append] at hsz
  have hpc := piece_text h4 hq (quote_no 60 (.inl rfl) w) (h3.imp id (fun h => by rw [List.length_append] at h; exact h))
  rw [meant_quoteS] at hpc
  have hpm : pieceM ns0 op (pieceP nameB s out0.length) = some (addN ns0 (inn op) (textN ⟨w.toArray⟩), op) := by
    rw [hpc]
    unfold pieceM textM
    simp only [ht, if_pos hl]
    rfl
  obtain ⟨F', g1, g2⟩ := rd_piece (by omega) hF hpm (by rw [hpc]; rfl) (by rw [hpc]; show _ < _ + _; omega)
  have hto : (pieceP nameB s out0.length).to = (out0 ++ quoteL 60 w).length := by rw [hpc, List.length_append]; rfl
  rw [hto] at g1 g2
  exact ⟨F', g1, hR.trans g2⟩
/-- an end tag of the innermost open one -/
theorem rd_end {out : List UInt8} {ns : List Nd} {k : Nat} {l : List Nat} (h : Rdf out ns (k :: l)) (hn : nameB (tagOf ns k) = true) : Rds (out ++ endL (tagOf ns k)) ns l := by
  intro s rest h1 _
  rw [List.append_assoc] at h1
  have h4 := h1.skip
  rw [Nat.zero_add] at h4
  have h5 : OnL s out.length (60 :: 47 :: ((tagOf ns k).data.toList ++ 62 :: rest)) := by
    have e : endL (tagOf ns k) ++ rest = 60 :: 47 :: ((tagOf ns k).data.toList ++ 62 :: rest) := by unfold endL; simp
    rw [e] at h4; exact h4
  obtain ⟨hpc, hst⟩ := piece_end h5 hn
  obtain ⟨F, hF, hR⟩ := h s _ h1 (fun _ => ⟨rest, rfl⟩) (.inr hst)
  obtain ⟨hi, _⟩ := h5.head
  have hpm : pieceM ns (k :: l) (pieceP nameB s out.length) = some (ns, l) := by
    rw [hpc]
    unfold pieceM
    simp only
    rw [shutM, if_pos (show inL [tagOf ns k] (tagOf ns k) = true from (Lib.containsS_iff _ _).2 (by simp))]
  obtain ⟨F', g1, g2⟩ := rd_piece hi hF hpm (by rw [hpc]; rfl) (by rw [hpc]; show _ < _ + _; omega)
  have hto : (pieceP nameB s out.length).to = (out ++ endL (tagOf ns k)).length := by
    rw [hpc, List.length_append]
    show out.length + 2 + (tagOf ns k).size + 1 = _
    unfold endL
    simp
    omega
  rw [hto] at g1 g2
  exact ⟨F', g1, hR.trans g2⟩
/-- a comment -/
theorem rd_com {out : List UInt8} {ns : List Nd} {op : List Nat} {t : ByteArray} (h : Rdf out ns op) (ho : OpenO ns op) (hl : ns.length < 400) (hn : NoEnd t.data.toList) : Rds (out ++ comL t) (addN ns (inn op) (comN t)) op := by
  intro s rest h1 _
  rw [List.append_assoc] at h1
  have h4 := h1.skip
  rw [Nat.zero_add] at h4
  have h5 : OnL s out.length (60 :: 33 :: 45 :: 45 :: (t.data.toList ++ 45 :: 45 :: 62 :: rest)) := by
    have e : comL t ++ rest = 60 :: 33 :: 45 :: 45 :: (t.data.toList ++ 45 :: 45 :: 62 :: rest) := by unfold comL; simp
    rw [e] at h4; exact h4
  obtain ⟨hpc, hst⟩ := piece_com h5 hn
  rw [mk_list] at hpc
  have hfit : fitsO ns op (comL t ++ rest) := by
    cases op with
    | nil => trivial
    | cons k l => intro hr; rw [ho.2.2.1] at hr; cases hr
  obtain ⟨F, hF, hR⟩ := h s _ h1 hfit (.inr hst)
  obtain ⟨hi, _⟩ := h5.head
  have hpm : pieceM ns op (pieceP nameB s out.length) = some (addN ns (inn op) (comN t), op) := by
    rw [hpc]
    unfold pieceM comM
    simp only [if_pos hl]
    rfl
  obtain ⟨F', g1, g2⟩ := rd_piece hi hF hpm (by rw [hpc]; rfl) (by rw [hpc]; show _ < _ + _; omega)
  have hto : (pieceP nameB s out.length).to = (out ++ comL t).length := by
    rw [hpc, List.length_append]
    show out.length + 4 + t.data.toList.length + 3 = _
    unfold comL
    simp
    omega
  rw [hto] at g1 g2
  exact ⟨F', g1, hR.trans g2⟩
theorem attrsL_cons (a : ByteArray × ByteArray) (l : List (ByteArray × ByteArray)) : attrsL (a :: l) = attrL a ++ attrsL l := by unfold attrsL; rw [List.flatMap_cons]
theorem attrsL_len : ∀ l : List (ByteArray × ByteArray), l.length ≤ (attrsL l).length
  | [] => Nat.le_refl _
  | a :: l => by
    have := attrsL_len l
    have h1 : 1 ≤ (attrL a).length := by unfold attrL; simp
    rw [attrsL_cons, List.length_append, List.length_cons]
    omega
/-- a start tag that is no raw one's -/
theorem rd_start {out : List UInt8} {ns : List Nd} {op : List Nat} {name : ByteArray} {l : List (ByteArray × ByteArray)} (h : Rdf out ns op) (ho : OpenO ns op) (hl : ns.length < 400) (hn : nameB name = true) (hr : rawB name = false) (ha : ∀ x ∈ l, nameB x.1 = true) (hf : firsts l = l) (hs : opAfter ns op name = op) : Rds (out ++ openL (elN name l)) (addN ns (inn op) (elN name l)) (opThen ns op name) := by
  intro s rest h1 _
  rw [List.append_assoc] at h1
  have h4 := h1.skip
  rw [Nat.zero_add] at h4
  have h5 : OnL s out.length (60 :: (name.data.toList ++ (attrsL l ++ 62 :: rest))) := by
    have e : openL (elN name l) ++ rest = 60 :: (name.data.toList ++ (attrsL l ++ 62 :: rest)) := by unfold openL elN; simp
    rw [e] at h4; exact h4
  have hll : l.length ≤ s.size := by
    have hsz := h5.size
    have := attrsL_len l
    simp at hsz
    omega
  obtain ⟨hpc, hst⟩ := piece_start h5 hn ha hll
  have hfit : fitsO ns op (openL (elN name l) ++ rest) := by
    cases op with
    | nil => trivial
    | cons k l => intro hr; rw [ho.2.2.1] at hr; cases hr
  obtain ⟨F, hF, hR⟩ := h s _ h1 hfit (.inr hst)
  obtain ⟨hi, _⟩ := h5.head
  have hpm : pieceM ns op (pieceP nameB s out.length) = some (addN ns (inn op) (elN name l), opThen ns op name) := by
    rw [hpc]
    unfold pieceM startM
    simp only [hn, if_true, if_pos hl, hs, hf]
  obtain ⟨F', g1, g2⟩ := rd_piece hi hF hpm (by rw [hpc]; show (if rawB name = true then name else (⟨#[]⟩ : ByteArray)) = _; rw [hr]; rfl) (by rw [hpc]; show _ < _ + _; omega)
  have hto : (pieceP nameB s out.length).to = (out ++ openL (elN name l)).length := by
    rw [hpc, List.length_append]
    show out.length + 1 + name.size + (attrsL l).length + 1 = _
    unfold openL elN
    simp
    omega
  rw [hto] at g1 g2
  exact ⟨F', g1, hR.trans g2⟩
theorem opThen_raw {name : ByteArray} (hr : rawB name = true) : voidB name = false := by
  unfold rawB at hr
  rw [Bool.or_eq_true, beq_iff_eq, beq_iff_eq] at hr
  rcases hr with h | h <;> (rw [← eq_list] at h; subst h; unfold voidB; rw [Lib.toList_data]; decide)
theorem no_raw_tag {ns : List Nd} {name : ByteArray} (hr : rawB name = true) : ∀ {op : List Nat}, OpenO ns op → ∀ op0, shutM ns (inL [name]) (inL []) op0 op = op0
  | [], _, _ => rfl
  | k :: l, h, op0 => by
    have hne : ¬ inL [name] (tagOf ns k) = true := fun e => by
      have := (Lib.containsS_iff _ _).1 e
      simp at this
      have h3 := h.2.2.1
      rw [this, hr] at h3
      cases h3
    have hne2 : ¬ inL [] (tagOf ns k) = true := fun e => by
      have := (Lib.containsS_iff _ _).1 e
      simp at this
    rw [shutM, if_neg hne, if_neg hne2]
    exact no_raw_tag hr h.2.2.2 op0
/-- what is read of a raw element's start tag, and of its text -/
theorem rd_rawStart {s : ByteArray} {out w rest : List UInt8} {ns : List Nd} {op : List Nat} {name : ByteArray} {l : List (ByteArray × ByteArray)} (h1 : OnL s 0 (out ++ (openL (elN name l) ++ (w ++ (endL name ++ rest))))) (h : Rdf out ns op) (ho : OpenO ns op) (hl : ns.length < 400) (hn : nameB name = true) (hr : rawB name = true) (ha : ∀ x ∈ l, nameB x.1 = true) (hf : firsts l = l) (hs : opAfter ns op name = op) (hw : NoRaw name.data.toList w) :
    ∃ F, s.size - (out ++ openL (elN name l)).length ≤ F + 1 ∧ (out ++ openL (elN name l)).length + w.length < s.size ∧ readS s = (if w = [] then readF F s (out ++ openL (elN name l)).length (addN ns (inn op) (elN name l)) (opThen ns op name) else match textM (addN ns (inn op) (elN name l)) (inn (opThen ns op name)) ⟨w.toArray⟩ with
      | none => .bad (out ++ openL (elN name l)).length
      | some ns' => readF F s ((out ++ openL (elN name l)).length + w.length) ns' (opThen ns op name)) ∧ s.size - (out ++ openL (elN name l)).length ≤ F := by
  have h4 := h1.skip
  rw [Nat.zero_add] at h4
  have h5 : OnL s out.length (60 :: (name.data.toList ++ (attrsL l ++ 62 :: (w ++ (endL name ++ rest))))) := by
    have e : openL (elN name l) ++ (w ++ (endL name ++ rest)) = 60 :: (name.data.toList ++ (attrsL l ++ 62 :: (w ++ (endL name ++ rest)))) := by unfold openL elN; simp
    rw [e] at h4; exact h4
  have hll : l.length ≤ s.size := by
    have hsz := h5.size
    have := attrsL_len l
    simp at hsz
    omega
  obtain ⟨hpc, hst⟩ := piece_start h5 hn ha hll
  have hfit : fitsO ns op (openL (elN name l) ++ (w ++ (endL name ++ rest))) := by
    cases op with
    | nil => trivial
    | cons k l => intro hr; rw [ho.2.2.1] at hr; cases hr
  obtain ⟨F, hF, hR⟩ := h s _ h1 hfit (.inr hst)
  obtain ⟨hi, _⟩ := h5.head
  have hlen : out.length + 1 + name.size + (attrsL l).length + 1 = (out ++ openL (elN name l)).length := by
    rw [List.length_append]
    unfold openL elN
    simp
    omega
  rw [hlen] at hpc
  have h6 : OnL s (out ++ openL (elN name l)).length (w ++ 60 :: 47 :: (name.data.toList ++ 62 :: rest)) := by
    have h7 := (show OnL s 0 ((out ++ openL (elN name l)) ++ (w ++ (endL name ++ rest))) by rw [List.append_assoc]; exact h1).skip
    rw [Nat.zero_add] at h7
    have e : w ++ (endL name ++ rest) = w ++ 60 :: 47 :: (name.data.toList ++ 62 :: rest) := by unfold endL; simp
    rw [e] at h7; exact h7
  have hgt : out.length < (out ++ openL (elN name l)).length := by rw [← hlen]; omega
  generalize (out ++ openL (elN name l)).length = P at *
  have hre := raw_on hn h6 hw
  have hsz6 := h6.size
  rw [List.length_append, List.length_cons] at hsz6
  cases F with
  | zero => omega
  | succ F =>
    refine ⟨F, by omega, by omega, ?_, by omega⟩
    rw [hR, read_step hi]
    have hpm : pieceM ns op (pieceP nameB s out.length) = some (addN ns (inn op) (elN name l), opThen ns op name) := by
      rw [hpc]
      unfold pieceM startM
      simp only [hn, if_true, if_pos hl, hs, hf]
    rw [hpm, hpc]
    show rawThen (readF F s) s P (if rawB name = true then name else (⟨#[]⟩ : ByteArray)) _ _ = _
    rw [if_pos hr]
    unfold rawThen
    rw [if_neg (rawB_size hr).2, hre]
    by_cases hw0 : w = []
    · subst hw0
      simp
    · have hwl : 0 < w.length := List.length_pos_iff.2 hw0
      rw [if_neg (by omega), if_neg hw0]
      have hx := h6.cut
      rw [hx]
      cases textM (addN ns (inn op) (elN name l)) (inn (opThen ns op name)) ⟨w.toArray⟩ <;> rfl
end Go.Proofs.YtkaeenafejdkfaaGreatDoor

/- Reading what is spelt: raw elements; several end tags; where a raw text has ended. -/
namespace Go.Proofs.YtkaeenafejdkfaaGreatDoor

theorem tag_add {ns : List Nd} {p j : Nat} {m x : Nd} (hp : ns[p]? = some m) (hj : j < ns.length) : tagOf (addN ns p x) j = tagOf ns j := by
  unfold tagOf
  rw [add_get hp, if_neg (by omega)]
  by_cases e : j = p
  · subst e; rw [if_pos rfl, hp]
  · rw [if_neg e]
theorem tag_new {ns : List Nd} {p : Nat} {m x : Nd} (hp : ns[p]? = some m) : tagOf (addN ns p x) ns.length = x.tag := by
  unfold tagOf
  rw [add_get hp, if_pos rfl]
/-- a raw element that stays open, with its text -/
theorem rd_rawOpen {out w : List UInt8} {ns : List Nd} {op : List Nat} {name : ByteArray} {l : List (ByteArray × ByteArray)} {m : Nd} (hm : ns[inn op]? = some m) (h : Rdf out ns op) (ho : OpenO ns op) (hl : ns.length < 400) (hn : nameB name = true) (hr : rawB name = true) (ha : ∀ x ∈ l, nameB x.1 = true) (hf : firsts l = l) (hs : opAfter ns op name = op) (h40 : op.length < 40) (hw : NoRaw name.data.toList w) :
    (w = [] → Rds (out ++ openL (elN name l)) (addN ns (inn op) (elN name l)) (ns.length :: op)) ∧ (w ≠ [] → ns.length + 1 < 400 → Rds (out ++ openL (elN name l) ++ w) (addN (addN ns (inn op) (elN name l)) ns.length (textN ⟨w.toArray⟩)) (ns.length :: op)) := by
  have hot : opThen ns op name = ns.length :: op := by
    unfold opThen
    rw [if_pos (by rw [opThen_raw hr]; simp [h40])]
  have hL : (addN ns (inn op) (elN name l))[ns.length]? = some { elN name l with parent := (inn op : Int) } := by rw [add_get hm, if_pos rfl]
  have ht1 : tagOf (addN ns (inn op) (elN name l)) ns.length = name := tag_new hm
  constructor
  · rintro rfl s rest h1 h2
    obtain ⟨r, hrest⟩ := h2 (by rw [ht1]; exact hr)
    rw [ht1] at hrest
    subst hrest
    rw [List.append_assoc] at h1
    obtain ⟨F, _, _, g3, g4⟩ := rd_rawStart (w := []) h1 h ho hl hn hr ha hf hs hw
    rw [if_pos rfl, hot] at g3
    exact ⟨F, g4, g3⟩
  · intro hw0 hl1 s rest h1 h2
    have ht2 : tagOf (addN (addN ns (inn op) (elN name l)) ns.length (textN ⟨w.toArray⟩)) ns.length = name := by
      rw [tag_add hL (by rw [add_len hm]; omega), ht1]
    obtain ⟨r, hrest⟩ := h2 (by rw [ht2]; exact hr)
    rw [ht2] at hrest
    subst hrest
    have h1' : OnL s 0 (out ++ (openL (elN name l) ++ (w ++ (endL name ++ r)))) := by
      simp only [List.append_assoc] at h1; exact h1
    obtain ⟨F, _, g2, g3, g4⟩ := rd_rawStart h1' h ho hl hn hr ha hf hs hw
    rw [if_neg hw0, hot] at g3
    have htm : textM (addN ns (inn op) (elN name l)) ns.length ⟨w.toArray⟩ = some (addN (addN ns (inn op) (elN name l)) ns.length (textN ⟨w.toArray⟩)) := by
      have hta : textAt (addN ns (inn op) (elN name l)) ns.length = none := by
        unfold textAt
        rw [hL]
        rfl
      unfold textM
      rw [hta]
      simp only
      rw [if_pos (by rw [add_len hm]; exact hl1)]
    have hinn : inn (ns.length :: op) = ns.length := rfl
    rw [hinn, htm] at g3
    simp only at g3
    have e : (out ++ openL (elN name l) ++ w).length = (out ++ openL (elN name l)).length + w.length := List.length_append
    rw [e]
    exact ⟨F, by omega, g3⟩
theorem OpenO.same {ns ns' : List Nd} : ∀ {op : List Nat}, OpenO ns op → (∀ k ∈ op, tagOf ns' k = tagOf ns k) → OpenO ns' op
  | [], _, _ => trivial
  | k :: l, h, hs => by
    obtain ⟨h1, h2, h3, h4⟩ := h
    rw [← hs k (by simp)] at h1 h3
    exact ⟨h1, h2, h3, OpenO.same h4 (fun x hx => hs x (by simp [hx]))⟩
/-- a raw element that isn't open -/
theorem rd_rawShut {out : List UInt8} {ns : List Nd} {op : List Nat} {name : ByteArray} {l : List (ByteArray × ByteArray)} {m : Nd} (hm : ns[inn op]? = some m) (hin : ∀ k ∈ op, k < ns.length) (h : Rdf out ns op) (ho : OpenO ns op) (hl : ns.length < 400) (hn : nameB name = true) (hr : rawB name = true) (ha : ∀ x ∈ l, nameB x.1 = true) (hf : firsts l = l) (hs : opAfter ns op name = op) (h40 : ¬ op.length < 40) : Rds (out ++ openL (elN name l) ++ endL name) (addN ns (inn op) (elN name l)) op := by
  have hot : opThen ns op name = op := by
    unfold opThen
    rw [if_neg (by simp [h40])]
  intro s rest h1 _
  have h1' : OnL s 0 (out ++ (openL (elN name l) ++ ([] ++ (endL name ++ rest)))) := by
    simp only [List.append_assoc, List.nil_append] at h1 ⊢; exact h1
  have hnr : NoRaw name.data.toList [] := fun j h1 => by simp at h1
  obtain ⟨F, _, _, g3, g4⟩ := rd_rawStart h1' h ho hl hn hr ha hf hs hnr
  rw [if_pos rfl, hot] at g3
  have h1'' : OnL s 0 ((out ++ openL (elN name l)) ++ (endL name ++ rest)) := by
    simp only [List.append_assoc] at h1 ⊢; exact h1
  have h4 := h1''.skip
  rw [Nat.zero_add] at h4
  have hln : (out ++ openL (elN name l) ++ endL name).length = (out ++ openL (elN name l)).length + 2 + name.size + 1 := by
    rw [List.length_append]
    unfold endL
    simp
    omega
  rw [hln]
  generalize (out ++ openL (elN name l)).length = P at *
  have h5 : OnL s P (60 :: 47 :: (name.data.toList ++ 62 :: rest)) := by
    have e : endL name ++ rest = 60 :: 47 :: (name.data.toList ++ 62 :: rest) := by unfold endL; simp
    rw [e] at h4; exact h4
  obtain ⟨hpc, hst⟩ := piece_end h5 hn
  obtain ⟨hi, _⟩ := h5.head
  have ho' : OpenO (addN ns (inn op) (elN name l)) op := ho.same (fun k hk => tag_add hm (hin k hk))
  have hpm : pieceM (addN ns (inn op) (elN name l)) op (pieceP nameB s P) = some (addN ns (inn op) (elN name l), op) := by
    rw [hpc]
    unfold pieceM
    simp only
    rw [no_raw_tag hr ho' op]
  obtain ⟨F', q1, q2⟩ := rd_piece hi g4 hpm (by rw [hpc]; rfl) (by rw [hpc]; show _ < _ + _; omega)
  have hto : (pieceP nameB s P).to = P + 2 + name.size + 1 := by rw [hpc]; rfl
  rw [hto] at q1 q2
  exact ⟨F', q1, g3.trans q2⟩
/-- several end tags -/
theorem rd_ends {ns : List Nd} : ∀ {x op' : List Nat} {out : List UInt8}, x ≠ [] → Rdf out ns (x ++ op') → (∀ k ∈ x, nameB (tagOf ns k) = true) → Rds (out ++ endsL ns x) ns op'
  | [], _, _, h, _, _ => absurd rfl h
  | [k], op', out, _, h, hn => by
    have := rd_end h (hn k (by simp))
    unfold endsL
    simpa using this
  | k :: k2 :: x, op', out, _, h, hn => by
    have h1 := rd_end h (hn k (by simp))
    have h2 := rd_ends (x := k2 :: x) (by simp) h1.rdf (fun y hy => hn y (by simp at hy ⊢; exact .inr hy))
    have e : endsL ns (k :: k2 :: x) = endL (tagOf ns k) ++ endsL ns (k2 :: x) := by unfold endsL; rw [List.flatMap_cons]
    rw [e, ← List.append_assoc]
    exact h2
theorem ends_app (ns : List Nd) (x y : List Nat) : endsL ns (x ++ y) = endsL ns x ++ endsL ns y := by unfold endsL; rw [List.flatMap_append]
theorem ends_same {ns ns' : List Nd} {op : List Nat} (h : ∀ k ∈ op, tagOf ns' k = tagOf ns k) : endsL ns' op = endsL ns op := by
  unfold endsL
  induction op with
  | nil => rfl
  | cons k l ih => rw [List.flatMap_cons, List.flatMap_cons, h k (by simp), ih (fun x hx => h x (by simp [hx]))]
theorem OpenO.tail {ns : List Nd} : ∀ {x y : List Nat}, OpenO ns (x ++ y) → OpenO ns y
  | [], _, h => h
  | _ :: x, _, h => OpenO.tail (x := x) h.2.2.2
theorem Chain.tail {ns : List Nd} : ∀ {x y : List Nat}, Chain ns (x ++ y) → Chain ns y
  | [], _, h => h
  | _ :: x, _, h => by
    cases h with
    | cons _ _ _ _ _ hc => exact Chain.tail (x := x) hc
theorem Chain.lt {ns : List Nd} : ∀ {op : List Nat}, Chain ns op → ∀ k ∈ op, k < ns.length
  | _, .nil, _, h => by simp at h
  | _, .cons hk _ _ _ _ hc, j, h => by
    rcases List.mem_cons.1 h with rfl | h
    · exact (List.getElem?_eq_some_iff.1 hk).1
    · exact hc.lt j h
end Go.Proofs.YtkaeenafejdkfaaGreatDoor

/- What is known of pieces: how long they are, and what does not lie in them. -/
namespace Go.Proofs.YtkaeenafejdkfaaGreatDoor

def sumA (l : List (ByteArray × ByteArray)) : Nat := (l.map fun x => x.1.size + x.2.size).sum
theorem sumA_snoc (l : List (ByteArray × ByteArray)) (x : ByteArray × ByteArray) : sumA (l ++ [x]) = sumA l + (x.1.size + x.2.size) := by
  unfold sumA; simp
theorem smallS_size (s : ByteArray) : (smallS s).size = s.size := by
  show (smallL s.data.toList).toArray.size = s.data.size
  unfold smallL
  rw [List.size_toArray, List.length_map, Array.length_toList]
theorem valP_len {s nm : ByteArray} {k : Nat} (hk : k ≤ s.size) : (valP s nm k).1 = nm ∧ (valP s nm k).2.1.size + k ≤ (valP s nm k).2.2 := by
  unfold valP
  split
  · split
    · rename_i e he
      obtain ⟨h1, h2, _⟩ := findE_some he
      refine ⟨rfl, ?_⟩
      have := meantS_size (s.extract (k + 1) e)
      rw [ByteArray.size_extract] at this
      show (meantS (s.extract (k + 1) e)).size + k ≤ e + 1
      omega
    · exact ⟨rfl, by show 0 + k ≤ s.size + 1; omega⟩
  · refine ⟨rfl, ?_⟩
    have := meantS_size (s.extract k (spanE inValB s k))
    have h2 := spanE_le inValB s k
    rw [ByteArray.size_extract] at this
    show (meantS (s.extract k (spanE inValB s k))).size + k ≤ spanE inValB s k
    omega
theorem attrP_len {s : ByteArray} {j : Nat} (hj : j < s.size) : (attrP s j).1.size + (attrP s j).2.1.size + j ≤ (attrP s j).2.2 := by
  unfold attrP
  simp only
  have h1 : j + 1 ≤ spanE inAttrB s (j + 1) := spanE_le _ _ _
  have h2 : spanE inAttrB s (j + 1) ≤ s.size := spanE_size _ _ _ hj
  have h3 := spanE_le blankB s (spanE inAttrB s (j + 1))
  have hn : (smallS (s.extract j (spanE inAttrB s (j + 1)))).size = spanE inAttrB s (j + 1) - j := by
    rw [smallS_size, ByteArray.size_extract]; omega
  split
  · rename_i h61
    have hlt : spanE blankB s (spanE inAttrB s (j + 1)) < s.size := by
      rcases Nat.lt_or_ge (spanE blankB s (spanE inAttrB s (j + 1))) s.size with h | h
      · exact h
      · rw [bt_ge h] at h61; omega
    have h5 := spanE_le blankB s (spanE blankB s (spanE inAttrB s (j + 1)) + 1)
    have h6 := spanE_size blankB s (spanE blankB s (spanE inAttrB s (j + 1)) + 1) hlt
    obtain ⟨g1, g2⟩ := valP_len (s := s) (nm := smallS (s.extract j (spanE inAttrB s (j + 1)))) h6
    rw [g1, hn]
    omega
  · show (smallS (s.extract j (spanE inAttrB s (j + 1)))).size + 0 + j ≤ spanE inAttrB s (j + 1)
    rw [hn]
    omega
theorem attrsF_len {ok : ByteArray → Bool} {s : ByteArray} : ∀ (f i : Nat) (l0 l : List (ByteArray × ByteArray)) (e : Nat), i ≤ s.size → attrsF ok f s i l0 = some (l, e) → sumA l + i + 1 ≤ sumA l0 + e
  | 0, _, _, _, _, _, h => by cases h
  | f + 1, i, l0, l, e, hi, h => by
    unfold attrsF at h
    simp only at h
    have hj1 := spanE_le betwB s i
    have hj2 := spanE_size betwB s i hi
    generalize spanE betwB s i = j at *
    split at h
    · cases h
    · split at h
      · simp at h
        obtain ⟨rfl, rfl⟩ := h
        omega
      · have g := attrP_len (s := s) (j := j) (by omega)
        split at h
        · cases h
        · have hrec := attrsF_len f (attrP s j).2.2 _ l e (by omega) h
          split at hrec
          · rw [sumA_snoc] at hrec
            simp only at hrec
            omega
          · omega
theorem start_len {s : ByteArray} {i : Nat} (hi : i < s.size) {n : ByteArray} {l : List (ByteArray × ByteArray)} {k : Nat} (h : pieceP nameB s i = .start n l k) : n.size + sumA l + i + 2 ≤ k := by
  unfold pieceP at h
  split at h
  · cases h
  · split at h
    · split at h <;> cases h
    · split at h
      · split at h <;> cases h
      · split at h
        · split at h <;> cases h
        · unfold startP at h
          simp only at h
          have g4 := spanE_le inTagB s (i + 1)
          have g5 := spanE_size inTagB s (i + 1) hi
          split at h
          · rename_i l' e he
            cases h
            have := attrsF_len _ _ _ _ _ g5 he
            rw [smallS_size, ByteArray.size_extract]
            have e0 : sumA [] = 0 := rfl
            omega
          · cases h
theorem attr_sum : ∀ l : List (ByteArray × ByteArray), (∀ x ∈ l, nameB x.1 = true) → (attrsL l).length ≤ 6 * sumA l
  | [], _ => Nat.zero_le _
  | a :: l, h => by
    have ih := attr_sum l (fun x hx => h x (by simp [hx]))
    have hn := h a (by simp)
    have h1 : 0 < a.1.size := by
      unfold nameB at hn
      simp only [Bool.and_eq_true, decide_eq_true_eq] at hn
      exact hn.1.1.1
    have h2 := quote_len 34 a.2.data.toList
    have e1 : a.1.data.toList.length = a.1.size := by simp
    have e2 : a.2.data.toList.length = a.2.size := by simp
    have e3 : (attrL a).length = a.1.size + (quoteL 34 a.2.data.toList).length + 4 := by
      unfold attrL
      simp
      omega
    have e4 : sumA (a :: l) = a.1.size + a.2.size + sumA l := by unfold sumA; simp
    rw [attrsL_cons, List.length_append, e3, e4]
    rw [e2] at h2
    omega
theorem firsts_sub (l : List (ByteArray × ByteArray)) : (∀ x ∈ firsts l, x ∈ l) ∧ sumA (firsts l) ≤ sumA l ∧ firsts (firsts l) = firsts l := by
  obtain ⟨n, hn⟩ : ∃ n, n = l.length := ⟨_, rfl⟩
  induction n generalizing l with
  | zero => obtain rfl := List.eq_nil_of_length_eq_zero hn.symm; exact ⟨by simp [firsts], Nat.le_refl _, rfl⟩
  | succ n ih =>
    rcases List.eq_nil_or_concat l with h | ⟨m, x, h⟩
    · subst h; simp at hn
    · rw [List.concat_eq_append] at h
      subst h
      rw [List.length_append, List.length_singleton] at hn
      obtain ⟨h1, h2, h3⟩ := ih m (by omega)
      rw [firsts_snoc]
      split
      · refine ⟨fun y hy => ?_, ?_, h3⟩
        · rw [List.mem_append]; exact .inl (h1 y hy)
        · rw [sumA_snoc]; omega
      · rename_i hx
        refine ⟨fun y hy => ?_, ?_, ?_⟩
        · rw [List.mem_append] at hy ⊢
          rcases hy with hy | hy
          · exact .inl (h1 y hy)
          · exact .inr hy
        · rw [sumA_snoc, sumA_snoc]; omega
        · rw [firsts_snoc, h3, if_neg hx]
theorem open_len {n : ByteArray} {l : List (ByteArray × ByteArray)} (h : ∀ x ∈ l, nameB x.1 = true) : (openL (elN n l)).length + (endL n).length ≤ 2 * n.size + 6 * sumA l + 5 := by
  have := attr_sum l h
  unfold openL endL elN
  simp
  omega
theorem com_facts {s : ByteArray} {i : Nat} (hi : i < s.size) {t : ByteArray} {k : Nat} (h : pieceP nameB s i = .com t k) : t.size + 4 + i ≤ k ∧ NoEnd t.data.toList := by
  have key : ∀ e, i + 4 ≤ e → e ≤ s.size → (∀ j, i + 4 ≤ j → j + 3 ≤ e → ¬ standsAt ⟨#[45, 45, 62]⟩ s j) → NoEnd (s.extract (i + 4) e).data.toList := by
    intro e he1 he2 hno j hj
    have ex : (s.extract (i + 4) e).data.toList = (s.data.toList.drop (i + 4)).take (e - (i + 4)) := by
      rw [ByteArray.data_extract, Array.toList_extract]
    rw [ex] at hj
    have hlen := congrArg List.length hj
    rw [List.length_take, List.length_drop, List.length_take, List.length_drop] at hlen
    have hsz : s.data.toList.length = s.size := by simp
    simp at hlen
    have hon : OnL s (i + 4 + j) (s.data.toList.drop (i + 4 + j)) := ⟨by omega, rfl⟩
    refine hno (i + 4 + j) (by omega) (by omega) ((stands_three hon).2 ?_)
    rw [List.drop_take, List.drop_drop, List.take_take] at hj
    rw [show min 3 (e - (i + 4) - j) = 3 by omega] at hj
    exact hj
  unfold pieceP at h
  split at h
  · cases h
  · split at h
    · rename_i hc
      have h4 : i + 4 ≤ s.size := hc.1
      split at h
      · rename_i kk hk
        obtain ⟨g1, g2, g3⟩ := findE_some hk
        have g4 : kk + 3 ≤ s.size := g2.1
        cases h
        refine ⟨by rw [ByteArray.size_extract]; omega, key kk g1 (by omega) (fun j a b => g3 j a (by omega))⟩
      · rename_i hk
        cases h
        refine ⟨by rw [ByteArray.size_extract]; omega, key s.size h4 (Nat.le_refl _) (fun j a b => findE_no (by decide) hk j a)⟩
    · split at h
      · split at h <;> cases h
      · split at h
        · split at h <;> cases h
        · unfold startP at h
          simp only at h
          split at h <;> cases h
/-- a raw text has no end tag of its element in it -/
theorem raw_facts {s n : ByteArray} {k : Nat} (hk : k ≤ s.size) : NoRaw n.data.toList (s.extract k (rawE s n k)).data.toList := by
  obtain ⟨e, he, h1, h2, h3, _⟩ := rawE_is s n k hk
  rw [he]
  have ex : (s.extract k e).data.toList = (s.data.toList.drop k).take (e - k) := by
    rw [ByteArray.data_extract, Array.toList_extract]
  rw [ex]
  have hsz : s.data.toList.length = s.size := by simp
  intro j q1 q2 c r q3
  have hlen := congrArg List.length q3
  rw [List.length_drop, List.length_take, List.length_drop, List.length_cons] at hlen
  have hje : k + j + 2 + n.data.toList.length < e := by omega
  obtain ⟨_, hno⟩ := h3 (k + j) (by omega) (by omega)
  have hon : OnL s (k + j) (s.data.toList.drop (k + j)) := ⟨by omega, rfl⟩
  cases hc : inTagB c.toNat with
  | true => rfl
  | false =>
    exfalso
    apply hno
    rw [raw_iff hon]
    rw [List.drop_take, List.drop_drop, List.take_take] at q1 q2
    rw [List.drop_take, List.drop_drop] at q3
    refine ⟨?_, ?_, ?_, ?_⟩
    · rw [show min 2 (e - k - j) = 2 by omega] at q1; exact q1
    · rw [List.length_drop]; omega
    · rw [show min n.data.toList.length (e - k - (j + 2)) = n.data.toList.length by omega] at q2
      rw [List.drop_drop, show k + j + 2 = k + (j + 2) by omega]
      exact q2
    · intro c' r' hc'
      rw [List.drop_drop, show k + j + (2 + n.data.toList.length) = k + (j + 2 + n.data.toList.length) by omega] at hc'
      rw [hc'] at q3
      cases hm : e - k - (j + 2 + n.data.toList.length) with
      | zero => omega
      | succ m =>
        rw [hm, List.take_succ_cons] at q3
        cases q3
        exact hc
/-- where a raw text has ended stands its end tag -/
theorem raw_piece {s n : ByteArray} {i : Nat} (hi : i < s.size) (hn : nameB n = true) (h : rawHit s n i) : (∃ k, pieceP nameB s i = .fin n k) ∨ pieceP nameB s i = .none s.size := by
  have hon : OnL s i (s.data.toList.drop i) := ⟨by omega, rfl⟩
  obtain ⟨h1, h2, h3, h4⟩ := (raw_iff hon).1 h
  generalize s.data.toList.drop i = l at *
  match l, h1, h2, h3, h4, hon with
  | a :: b :: l, h1, h2, h3, h4, hon =>
    have ha : a = 60 := by simp at h1; exact h1.1
    have hb : b = 47 := by simp at h1; exact h1.2
    subst ha hb
    have e1 : ((60 :: 47 :: l : List UInt8).drop 2) = l := rfl
    rw [e1] at h3
    have hl : n.data.toList.length ≤ l.length := by simp at h2 ⊢; omega
    obtain ⟨q, r, hl2, hq⟩ : ∃ q r, l = q ++ r ∧ q.length = n.data.toList.length := ⟨l.take n.data.toList.length, l.drop n.data.toList.length, (List.take_append_drop _ _).symm, by rw [List.length_take]; omega⟩
    subst hl2
    rw [← hq, List.take_left'] at h3
    · have on2 : OnL s (i + 2) (q ++ r) := hon.tail.tail
      have hall : ∀ c ∈ q, inTagB c.toNat = true ∧ alphaB c.toNat = true ∨ inTagB c.toNat = true := by
        intro c hc
        right
        obtain ⟨k, hk⟩ := List.getElem?_of_mem hc
        have hm := small_mem h3 hk
        have hs := name_all hn _ (List.mem_of_getElem? hm)
        unfold lowerB at hs
        split at hs
        · rename_i hcap
          unfold inTagB betwB blankB
          simp only [Bool.and_eq_true, Bool.not_eq_true', Bool.or_eq_false_iff, decide_eq_false_iff_not, decide_eq_true_eq]
          omega
        · exact (sign_facts hs).1
      have hsp := span_on (p := inTagB) on2 (fun c hc => (hall c hc).elim (fun h => h.1) id) (fun c r' e => by
        refine h4 c r' ?_
        rw [show 2 + n.data.toList.length = n.data.toList.length + 1 + 1 by omega, List.drop_succ_cons, List.drop_succ_cons, ← hq, List.drop_left']
        · exact e
        · rfl)
      have hx := on2.cut
      obtain ⟨c0, r0, hn0, hlow⟩ := name_head hn
      have hq0 : ∃ d q', q = d :: q' := by
        cases q with
        | nil => rw [hn0] at hq; simp at hq
        | cons d q' => exact ⟨d, q', rfl⟩
      obtain ⟨d, q', rfl⟩ := hq0
      have hd : alphaB d.toNat = true := by
        have hm := small_mem h3 (k := 0) (c := d) rfl
        rw [hn0] at hm
        simp at hm
        have := hlow
        rw [hm] at this
        unfold lowerB at this
        unfold alphaB
        split at this
        · rename_i hcap
          simp only [decide_eq_true_eq]
          omega
        · unfold lowB at this
          simp only [decide_eq_true_eq] at this ⊢
          omega
      have b0 := hon.byte
      have b1 := hon.tail.byte
      have b2 : bt s (i + 2) = d.toNat := on2.byte
      have hs : startB s i = true := by
        unfold startB
        rw [b0, b1, b2]
        simp [hd]
      have hnm : smallS ⟨(d :: q').toArray⟩ = n := by
        unfold smallS
        rw [show (⟨(d :: q').toArray⟩ : ByteArray).data.toList = d :: q' by simp, h3, mk_list]
      unfold pieceP
      rw [if_neg (by rw [hs]; simp), if_neg (no_stands hon (by decide)), if_neg (by rw [b1]; decide), if_pos (by rw [b1]; rfl)]
      unfold endP
      simp only [hsp, hx, hnm]
      cases findE ⟨#[62]⟩ s (i + 2 + (d :: q').length) with
      | none => exact .inr rfl
      | some k => exact .inl ⟨k + 1, rfl⟩
    · rfl
end Go.Proofs.YtkaeenafejdkfaaGreatDoor

/- A text is read, and what is spelt of its tree is read as that tree: step by step. -/
namespace Go.Proofs.YtkaeenafejdkfaaGreatDoor

/-- all is read up to here, but for a text that may still grow -/
def Pend (ns : List Nd) (op : List Nat) (out : List UInt8) : Prop := ∃ out0 w ns0, out = out0 ++ quoteL 60 w ∧ Rds out0 ns0 op ∧ ((w = [] ∧ ns0 = ns ∧ textAt ns (inn op) = none) ∨ (w ≠ [] ∧ ns = addN ns0 (inn op) (textN ⟨w.toArray⟩) ∧ textAt ns0 (inn op) = none ∧ ns0.length < 400 ∧ OpenO ns0 op ∧ ∃ m, ns0[inn op]? = some m))
theorem Pend.of {ns : List Nd} {op : List Nat} {out : List UInt8} (h : Rds out ns op) (ht : textAt ns (inn op) = none) : Pend ns op out := ⟨out, [], ns, by simp [quoteL], h, .inl ⟨rfl, rfl, ht⟩⟩
theorem Pend.rdf {ns : List Nd} {op : List Nat} {out : List UInt8} (h : Pend ns op out) : Rdf out ns op := by
  obtain ⟨out0, w, ns0, rfl, h1, ⟨rfl, rfl, _⟩ | ⟨h2, rfl, h3, h4, h5, _⟩⟩ := h
  · rw [show out0 ++ quoteL 60 [] = out0 by simp [quoteL]]; exact h1.rdf
  · exact rd_flush h1 h2 h3 h4 h5
structure Sim (s : ByteArray) (i : Nat) (ns : List Nd) (op : List Nat) (out : List UInt8) : Prop where
  inv : Inv ns op i
  cov : Cov ns 0 ns.length
  ok : OkAll ns op
  names : ∀ k ∈ op, nameB (tagOf ns k) = true
  spell : spellT ns = out ++ endsL ns op
  len : (spellT ns).length ≤ 6 * i
  st : (OpenO ns op ∧ Pend ns op out) ∨ (∃ k l, op = k :: l ∧ rawB (tagOf ns k) = true ∧ OpenO ns l ∧ Rds out ns op ∧ (i = s.size ∨ rawHit s (tagOf ns k) i))
theorem sim0 (s : ByteArray) : Sim s 0 [docN] [] [] := by
  refine ⟨inv0, ⟨docN, rfl, .nil 1⟩, OkAll.nil _, by simp, ?_, ?_, .inl ⟨trivial, Pend.of rds_nil rfl⟩⟩
  · rfl
  · show ([] : List UInt8).length ≤ _; simp
/-- end tags for what is shut -/
theorem close_pend {ns : List Nd} {op : List Nat} {out : List UInt8} {A B : ByteArray → Bool} (hc : Chain ns op) (ho : OpenO ns op) (hn : ∀ k ∈ op, nameB (tagOf ns k) = true) (hs : spellT ns = out ++ endsL ns op) (hp : Pend ns op out) : ∃ out', OpenO ns (shutM ns A B op op) ∧ Pend ns (shutM ns A B op op) out' ∧ spellT ns = out' ++ endsL ns (shutM ns A B op op) ∧ (∀ k ∈ shutM ns A B op op, nameB (tagOf ns k) = true) ∧ Chain ns (shutM ns A B op op) := by
  rcases shut_tail (ns := ns) (A := A) (B := B) (op0 := op) (l := op) with e | ⟨x, e⟩
  · rw [e]; exact ⟨out, ho, hp, hs, hn, hc⟩
  · generalize shutM ns A B op op = op' at *
    subst e
    cases x with
    | nil => exact ⟨out, ho, hp, hs, hn, hc⟩
    | cons a x =>
      have hr := rd_ends (x := a :: x) (op' := op') (by simp) hp.rdf (fun k hk => hn k (List.mem_append_left _ hk))
      have hct : Chain ns op' := hc.tail
      have htx : textAt ns (inn op') = none := by
        rcases List.eq_nil_or_concat (a :: x) with h | ⟨y, k, h⟩
        · cases h
        · rw [List.concat_eq_append] at h
          rw [h, List.append_assoc] at hc
          exact (Chain.tail (x := y) hc).noText
      refine ⟨out ++ endsL ns (a :: x), ho.tail, Pend.of hr htx, ?_, fun k hk => hn k (List.mem_append_right _ hk), hct⟩
      rw [hs, ends_app, List.append_assoc]
theorem text_len {t : ByteArray} : (quoteL 60 t.data.toList).length ≤ 6 * t.size := by
  have := quote_len 60 t.data.toList
  have e : t.data.toList.length = t.size := by simp
  rw [e] at this; exact this
/-- a text -/
theorem sim_text {s : ByteArray} {i e : Nat} {ns ns' : List Nd} {op : List Nat} {out : List UInt8} {t : ByteArray} (hI : Inv ns op i) (hcov : Cov ns 0 ns.length) (hok : OkAll ns op) (hn : ∀ k ∈ op, nameB (tagOf ns k) = true) (hs : spellT ns = out ++ endsL ns op) (hlen : (spellT ns).length ≤ 6 * i) (ho : OpenO ns op) (hp : Pend ns op out) (ht : t ≠ ⟨#[]⟩) (hie : i ≤ e) (hte : t.size ≤ e - i) (hm : textM ns (inn op) t = some ns') : ∃ out', Sim s e ns' op out' := by
  have hI' := text_inv hI hie hte hm
  obtain ⟨m, hmm, _⟩ := hI.chain.inner hI.wf
  have htl := text_len (t := t)
  have htne : t.data.toList ≠ [] := fun e => ht (by rw [← mk_list t, e])
  obtain ⟨out0, w, ns0, ho0, hr0, hcase⟩ := hp
  rcases hcase with ⟨rfl, rfl, htx⟩ | ⟨hw, hns, htx, hl0, hop0, m0, hm0⟩
  · have ho0' : out = out0 := by rw [ho0]; simp [quoteL]
    subst ho0'
    unfold textM at hm
    rw [htx] at hm
    simp only at hm
    split at hm
    · rename_i hl
      obtain rfl := Option.some.inj hm
      have htag : ∀ k ∈ op, tagOf (addN ns0 (inn op) (textN t)) k = tagOf ns0 k := fun k hk => tag_add hmm (hI.chain.lt k hk)
      have hsp := spell_add (x := textN t) hI.wf hcov hI.chain ho hmm hs rfl
      have hown : ownL op.length (textN t) = quoteL 60 t.data.toList := rfl
      rw [hown] at hsp
      refine ⟨out ++ quoteL 60 t.data.toList, hI', cov_add hI.chain hmm rfl hcov, hok.same htag, fun k hk => by rw [htag k hk]; exact hn k hk, by rw [hsp, ends_same htag], ?_, .inl ⟨ho.same htag, out, t.data.toList, ns0, rfl, hr0, .inr ⟨htne, by rw [mk_list], htx, hl, ho, m, hmm⟩⟩⟩
      rw [hsp]
      rw [hs] at hlen
      simp only [List.length_append] at hlen ⊢
      omega
    · cases hm
  · subst hns
    have hta : textAt (addN ns0 (inn op) (textN ⟨w.toArray⟩)) (inn op) = some ns0.length := by rw [textAt_new hm0]; rfl
    have hLk : (addN ns0 (inn op) (textN ⟨w.toArray⟩))[ns0.length]? = some { textN ⟨w.toArray⟩ with parent := (inn op : Int) } := by rw [add_get hm0, if_pos rfl]
    have hlt0 : inn op < ns0.length := (List.getElem?_eq_some_iff.1 hm0).1
    have hmp : (addN ns0 (inn op) (textN ⟨w.toArray⟩))[inn op]? = some { m0 with kids := m0.kids ++ [(ns0.length : Int)] } := by rw [add_get hm0, if_neg (by omega), if_pos rfl]
    obtain rfl := Option.some.inj (hmm.symm.trans hmp)
    unfold textM at hm
    rw [hta] at hm
    obtain rfl := Option.some.inj hm
    have hj : joinT (addN ns0 (inn op) (textN ⟨w.toArray⟩)) ns0.length t = addN ns0 (inn op) (textN ⟨(w ++ t.data.toList).toArray⟩) := by
      unfold joinT
      rw [hLk]
      unfold addN
      rw [hm0]
      simp only
      rw [List.set_append_right _ _ (by simp)]
      simp [textN]
      apply ByteArray.ext
      rw [ByteArray.data_append]
      simp
    have hsp := spell_join (t := t) hcov hI.chain ho hmm hs (by simp) hLk rfl
    rw [hj] at hsp hI' ⊢
    have htag : ∀ k ∈ op, tagOf (addN ns0 (inn op) (textN ⟨(w ++ t.data.toList).toArray⟩)) k = tagOf (addN ns0 (inn op) (textN ⟨w.toArray⟩)) k := fun k hk => by
      have hk2 := hI.chain.lt k hk
      rw [add_len hm0] at hk2
      by_cases e : k = ns0.length
      · subst e
        rw [tag_new hm0, tag_new hm0]; rfl
      · rw [tag_add hm0 (by omega), tag_add hm0 (by omega)]
    have hcov' : Cov (addN ns0 (inn op) (textN ⟨(w ++ t.data.toList).toArray⟩)) 0 (addN ns0 (inn op) (textN ⟨(w ++ t.data.toList).toArray⟩)).length := by
      obtain ⟨r, hr, hcv⟩ := hcov
      have hsame : ∀ (j : Nat) (y : Nd), (addN ns0 (inn op) (textN ⟨w.toArray⟩))[j]? = some y → ∃ y' : Nd, (addN ns0 (inn op) (textN ⟨(w ++ t.data.toList).toArray⟩))[j]? = some y' ∧ y'.kids = y.kids := by
        intro j y hy
        rw [add_get hm0] at hy ⊢
        by_cases e1 : j = ns0.length
        · rw [if_pos e1] at hy ⊢
          obtain rfl := Option.some.inj hy
          exact ⟨_, rfl, rfl⟩
        · rw [if_neg e1] at hy ⊢
          exact ⟨y, hy, rfl⟩
      obtain ⟨r', g1, g2⟩ := hsame 0 r hr
      refine ⟨r', g1, ?_⟩
      rw [g2, add_len hm0]
      rw [add_len hm0] at hcv
      exact hcv.same (fun j y _ _ hy => hsame j y hy)
    refine ⟨out ++ quoteL 60 t.data.toList, hI', hcov', hok.same htag, fun k hk => by rw [htag k hk]; exact hn k hk, by rw [hsp, ends_same htag], ?_, .inl ⟨ho.same htag, out0, w ++ t.data.toList, ns0, by rw [ho0, quoteL_app, List.append_assoc], hr0, .inr ⟨by simp [hw], rfl, htx, hl0, hop0, m0, hm0⟩⟩⟩
    rw [hsp]
    rw [hs] at hlen
    simp only [List.length_append] at hlen ⊢
    omega
end Go.Proofs.YtkaeenafejdkfaaGreatDoor
