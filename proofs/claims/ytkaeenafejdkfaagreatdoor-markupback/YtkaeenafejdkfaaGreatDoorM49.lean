/- Reading what is spelt: token by token. -/
import Derived.Test.YtkaeenafejdkfaaGreatDoorM48
namespace Go.Proofs.YtkaeenafejdkfaaGreatDoor

/-- a raw element's text ends at its end tag -/
def fitsO (ns : List Nd) (op : List Nat) (rest : List UInt8) : Prop := match op with
  | [] => True
  | k :: _ => rawB (tagOf ns k) = true → ∃ r, rest = endL (tagOf ns k) ++ r
/-- what begins so is read up to here as that tree -/
def Rds (out : List UInt8) (ns : List Nd) (op : List Nat) : Prop := ∀ (s : ByteArray) (rest : List UInt8), OnL s 0 (out ++ rest) → fitsO ns op rest → ∃ F, s.size - out.length ≤ F ∧ readS s = readF F s out.length ns op
/-- the same, if a piece begins there, or nothing -/
def Rdf (out : List UInt8) (ns : List Nd) (op : List Nat) : Prop := ∀ (s : ByteArray) (rest : List UInt8), OnL s 0 (out ++ rest) → fitsO ns op rest → (rest = [] ∨ startB s out.length = true) → ∃ F, s.size - out.length ≤ F ∧ readS s = readF F s out.length ns op
theorem Rds.rdf {out : List UInt8} {ns : List Nd} {op : List Nat} (h : Rds out ns op) : Rdf out ns op := fun s rest h1 h2 _ => h s rest h1 h2
theorem rds_nil : Rds [] [docN] [] := fun s _ _ _ => ⟨s.size, by simp, rfl⟩
theorem meant_quoteS (w : List UInt8) : meantS ⟨(quoteL 60 w).toArray⟩ = ⟨w.toArray⟩ := by
  unfold meantS
  rw [show (⟨(quoteL 60 w).toArray⟩ : ByteArray).data.toList = quoteL 60 w by simp, meant_quote 60 (.inl rfl)]
/-- one piece is read -/
theorem rd_piece {s : ByteArray} {F i : Nat} {ns ns' : List Nd} {op op' : List Nat} (hi : i < s.size) (hF : s.size - i ≤ F) (hp : pieceM ns op (pieceP nameB s i) = some (ns', op')) (hraw : (pieceP nameB s i).raw = ⟨#[]⟩) (hto : i < (pieceP nameB s i).to) : ∃ F', s.size - (pieceP nameB s i).to ≤ F' ∧ readF F s i ns op = readF F' s (pieceP nameB s i).to ns' op' := by
  cases F with
  | zero => omega
  | succ F =>
    refine ⟨F, by omega, ?_⟩
    rw [read_step hi, hp]
    simp only [hraw, rawThen_no]
/-- a text that waits -/
theorem rd_flush {out0 w : List UInt8} {ns0 : List Nd} {op : List Nat} (h : Rds out0 ns0 op) (hw : w ≠ []) (ht : textAt ns0 (inn op) = none) (hl : ns0.length < 400) (ho : OpenO ns0 op) : Rdf (out0 ++ quoteL 60 w) (addN ns0 (inn op) (textN ⟨w.toArray⟩)) op := by
  intro s rest h1 h2 h3
  rw [List.append_assoc] at h1
  have hfit : fitsO ns0 op (quoteL 60 w ++ rest) := by
    cases op with
    | nil => trivial
    | cons k l => intro hr; rw [ho.2.2.1] at hr; cases hr
  obtain ⟨F, hF, hR⟩ := h s _ h1 hfit
  have h4 := h1.skip
  rw [Nat.zero_add] at h4
  have hq : quoteL 60 w ≠ [] := quote_ne 60 hw
  have hsz := h4.size
  have hpos : 0 < (quoteL 60 w).length := List.length_pos_iff.2 hq
  rw [List.length_append] at hsz
  have hpc := piece_text h4 hq (quote_no 60 (.inl rfl) w) (h3.imp id (fun h => by rw [List.length_append] at h; exact h))
  rw [meant_quoteS] at hpc
  have hpm : pieceM ns0 op (pieceP nameB s out0.length) = some (addN ns0 (inn op) (textN ⟨w.toArray⟩), op) := by
    rw [hpc]
    unfold pieceM textM
    simp only [ht, if_pos hl]
    rfl
  obtain ⟨F', g1, g2⟩ := rd_piece (by omega) hF hpm (by rw [hpc]; rfl) (by rw [hpc]; show _ < _ + _; omega)
  have hto : (pieceP nameB s out0.length).to = (out0 ++ quoteL 60 w).length := by rw [hpc, List.length_append]; rfl
  rw [hto] at g1 g2
  exact ⟨F', g1, hR.trans g2⟩
/-- an end tag of the innermost open one -/
theorem rd_end {out : List UInt8} {ns : List Nd} {k : Nat} {l : List Nat} (h : Rdf out ns (k :: l)) (hn : nameB (tagOf ns k) = true) : Rds (out ++ endL (tagOf ns k)) ns l := by
  intro s rest h1 _
  rw [List.append_assoc] at h1
  have h4 := h1.skip
  rw [Nat.zero_add] at h4
  have h5 : OnL s out.length (60 :: 47 :: ((tagOf ns k).data.toList ++ 62 :: rest)) := by
    have e : endL (tagOf ns k) ++ rest = 60 :: 47 :: ((tagOf ns k).data.toList ++ 62 :: rest) := by unfold endL; simp
    rw [e] at h4; exact h4
  obtain ⟨hpc, hst⟩ := piece_end h5 hn
  obtain ⟨F, hF, hR⟩ := h s _ h1 (fun _ => ⟨rest, rfl⟩) (.inr hst)
  obtain ⟨hi, _⟩ := h5.head
  have hpm : pieceM ns (k :: l) (pieceP nameB s out.length) = some (ns, l) := by
    rw [hpc]
    unfold pieceM
    simp only
    rw [shutM, if_pos (show inL [tagOf ns k] (tagOf ns k) = true from (Lib.containsS_iff _ _).2 (by simp))]
  obtain ⟨F', g1, g2⟩ := rd_piece hi hF hpm (by rw [hpc]; rfl) (by rw [hpc]; show _ < _ + _; omega)
  have hto : (pieceP nameB s out.length).to = (out ++ endL (tagOf ns k)).length := by
    rw [hpc, List.length_append]
    show out.length + 2 + (tagOf ns k).size + 1 = _
    unfold endL
    simp
    omega
  rw [hto] at g1 g2
  exact ⟨F', g1, hR.trans g2⟩
/-- a comment -/
theorem rd_com {out : List UInt8} {ns : List Nd} {op : List Nat} {t : ByteArray} (h : Rdf out ns op) (ho : OpenO ns op) (hl : ns.length < 400) (hn : NoEnd t.data.toList) : Rds (out ++ comL t) (addN ns (inn op) (comN t)) op := by
  intro s rest h1 _
  rw [List.append_assoc] at h1
  have h4 := h1.skip
  rw [Nat.zero_add] at h4
  have h5 : OnL s out.length (60 :: 33 :: 45 :: 45 :: (t.data.toList ++ 45 :: 45 :: 62 :: rest)) := by
    have e : comL t ++ rest = 60 :: 33 :: 45 :: 45 :: (t.data.toList ++ 45 :: 45 :: 62 :: rest) := by unfold comL; simp
    rw [e] at h4; exact h4
  obtain ⟨hpc, hst⟩ := piece_com h5 hn
  rw [mk_list] at hpc
  have hfit : fitsO ns op (comL t ++ rest) := by
    cases op with
    | nil => trivial
    | cons k l => intro hr; rw [ho.2.2.1] at hr; cases hr
  obtain ⟨F, hF, hR⟩ := h s _ h1 hfit (.inr hst)
  obtain ⟨hi, _⟩ := h5.head
  have hpm : pieceM ns op (pieceP nameB s out.length) = some (addN ns (inn op) (comN t), op) := by
    rw [hpc]
    unfold pieceM comM
    simp only [if_pos hl]
    rfl
  obtain ⟨F', g1, g2⟩ := rd_piece hi hF hpm (by rw [hpc]; rfl) (by rw [hpc]; show _ < _ + _; omega)
  have hto : (pieceP nameB s out.length).to = (out ++ comL t).length := by
    rw [hpc, List.length_append]
    show out.length + 4 + t.data.toList.length + 3 = _
    unfold comL
    simp
    omega
  rw [hto] at g1 g2
  exact ⟨F', g1, hR.trans g2⟩
theorem attrsL_cons (a : ByteArray × ByteArray) (l : List (ByteArray × ByteArray)) : attrsL (a :: l) = attrL a ++ attrsL l := by unfold attrsL; rw [List.flatMap_cons]
theorem attrsL_len : ∀ l : List (ByteArray × ByteArray), l.length ≤ (attrsL l).length
  | [] => Nat.le_refl _
  | a :: l => by
    have := attrsL_len l
    have h1 : 1 ≤ (attrL a).length := by unfold attrL; simp
    rw [attrsL_cons, List.length_append, List.length_cons]
    omega
/-- a start tag that is no raw one's -/
theorem rd_start {out : List UInt8} {ns : List Nd} {op : List Nat} {name : ByteArray} {l : List (ByteArray × ByteArray)} (h : Rdf out ns op) (ho : OpenO ns op) (hl : ns.length < 400) (hn : nameB name = true) (hr : rawB name = false) (ha : ∀ x ∈ l, nameB x.1 = true) (hf : firsts l = l) (hs : opAfter ns op name = op) : Rds (out ++ openL (elN name l)) (addN ns (inn op) (elN name l)) (opThen ns op name) := by
  intro s rest h1 _
  rw [List.append_assoc] at h1
  have h4 := h1.skip
  rw [Nat.zero_add] at h4
  have h5 : OnL s out.length (60 :: (name.data.toList ++ (attrsL l ++ 62 :: rest))) := by
    have e : openL (elN name l) ++ rest = 60 :: (name.data.toList ++ (attrsL l ++ 62 :: rest)) := by unfold openL elN; simp
    rw [e] at h4; exact h4
  have hll : l.length ≤ s.size := by
    have hsz := h5.size
    have := attrsL_len l
    simp at hsz
    omega
  obtain ⟨hpc, hst⟩ := piece_start h5 hn ha hll
  have hfit : fitsO ns op (openL (elN name l) ++ rest) := by
    cases op with
    | nil => trivial
    | cons k l => intro hr; rw [ho.2.2.1] at hr; cases hr
  obtain ⟨F, hF, hR⟩ := h s _ h1 hfit (.inr hst)
  obtain ⟨hi, _⟩ := h5.head
  have hpm : pieceM ns op (pieceP nameB s out.length) = some (addN ns (inn op) (elN name l), opThen ns op name) := by
    rw [hpc]
    unfold pieceM startM
    simp only [hn, if_true, if_pos hl, hs, hf]
  obtain ⟨F', g1, g2⟩ := rd_piece hi hF hpm (by rw [hpc]; show (if rawB name = true then name else (⟨#[]⟩ : ByteArray)) = _; rw [hr]; rfl) (by rw [hpc]; show _ < _ + _; omega)
  have hto : (pieceP nameB s out.length).to = (out ++ openL (elN name l)).length := by
    rw [hpc, List.length_append]
    show out.length + 1 + name.size + (attrsL l).length + 1 = _
    unfold openL elN
    simp
    omega
  rw [hto] at g1 g2
  exact ⟨F', g1, hR.trans g2⟩
theorem opThen_raw {name : ByteArray} (hr : rawB name = true) : voidB name = false := by
  unfold rawB at hr
  rw [Bool.or_eq_true, beq_iff_eq, beq_iff_eq] at hr
  rcases hr with h | h <;> (rw [← eq_list] at h; subst h; unfold voidB; rw [Lib.toList_data]; decide)
theorem no_raw_tag {ns : List Nd} {name : ByteArray} (hr : rawB name = true) : ∀ {op : List Nat}, OpenO ns op → ∀ op0, shutM ns (inL [name]) (inL []) op0 op = op0
  | [], _, _ => rfl
  | k :: l, h, op0 => by
    have hne : ¬ inL [name] (tagOf ns k) = true := fun e => by
      have := (Lib.containsS_iff _ _).1 e
      simp at this
      have h3 := h.2.2.1
      rw [this, hr] at h3
      cases h3
    have hne2 : ¬ inL [] (tagOf ns k) = true := fun e => by
      have := (Lib.containsS_iff _ _).1 e
      simp at this
    rw [shutM, if_neg hne, if_neg hne2]
    exact no_raw_tag hr h.2.2.2 op0
/-- what is read of a raw element's start tag, and of its text -/
theorem rd_rawStart {s : ByteArray} {out w rest : List UInt8} {ns : List Nd} {op : List Nat} {name : ByteArray} {l : List (ByteArray × ByteArray)} (h1 : OnL s 0 (out ++ (openL (elN name l) ++ (w ++ (endL name ++ rest))))) (h : Rdf out ns op) (ho : OpenO ns op) (hl : ns.length < 400) (hn : nameB name = true) (hr : rawB name = true) (ha : ∀ x ∈ l, nameB x.1 = true) (hf : firsts l = l) (hs : opAfter ns op name = op) (hw : NoRaw name.data.toList w) :
    ∃ F, s.size - (out ++ openL (elN name l)).length ≤ F + 1 ∧ (out ++ openL (elN name l)).length + w.length < s.size ∧ readS s = (if w = [] then readF F s (out ++ openL (elN name l)).length (addN ns (inn op) (elN name l)) (opThen ns op name) else match textM (addN ns (inn op) (elN name l)) (inn (opThen ns op name)) ⟨w.toArray⟩ with
      | none => .bad (out ++ openL (elN name l)).length
      | some ns' => readF F s ((out ++ openL (elN name l)).length + w.length) ns' (opThen ns op name)) ∧ s.size - (out ++ openL (elN name l)).length ≤ F := by
  have h4 := h1.skip
  rw [Nat.zero_add] at h4
  have h5 : OnL s out.length (60 :: (name.data.toList ++ (attrsL l ++ 62 :: (w ++ (endL name ++ rest))))) := by
    have e : openL (elN name l) ++ (w ++ (endL name ++ rest)) = 60 :: (name.data.toList ++ (attrsL l ++ 62 :: (w ++ (endL name ++ rest)))) := by unfold openL elN; simp
    rw [e] at h4; exact h4
  have hll : l.length ≤ s.size := by
    have hsz := h5.size
    have := attrsL_len l
    simp at hsz
    omega
  obtain ⟨hpc, hst⟩ := piece_start h5 hn ha hll
  have hfit : fitsO ns op (openL (elN name l) ++ (w ++ (endL name ++ rest))) := by
    cases op with
    | nil => trivial
    | cons k l => intro hr; rw [ho.2.2.1] at hr; cases hr
  obtain ⟨F, hF, hR⟩ := h s _ h1 hfit (.inr hst)
  obtain ⟨hi, _⟩ := h5.head
  have hlen : out.length + 1 + name.size + (attrsL l).length + 1 = (out ++ openL (elN name l)).length := by
    rw [List.length_append]
    unfold openL elN
    simp
    omega
  rw [hlen] at hpc
  have h6 : OnL s (out ++ openL (elN name l)).length (w ++ 60 :: 47 :: (name.data.toList ++ 62 :: rest)) := by
    have h7 := (show OnL s 0 ((out ++ openL (elN name l)) ++ (w ++ (endL name ++ rest))) by rw [List.append_assoc]; exact h1).skip
    rw [Nat.zero_add] at h7
    have e : w ++ (endL name ++ rest) = w ++ 60 :: 47 :: (name.data.toList ++ 62 :: rest) := by unfold endL; simp
    rw [e] at h7; exact h7
  have hgt : out.length < (out ++ openL (elN name l)).length := by rw [← hlen]; omega
  generalize (out ++ openL (elN name l)).length = P at *
  have hre := raw_on hn h6 hw
  have hsz6 := h6.size
  rw [List.length_append, List.length_cons] at hsz6
  cases F with
  | zero => omega
  | succ F =>
    refine ⟨F, by omega, by omega, ?_, by omega⟩
    rw [hR, read_step hi]
    have hpm : pieceM ns op (pieceP nameB s out.length) = some (addN ns (inn op) (elN name l), opThen ns op name) := by
      rw [hpc]
      unfold pieceM startM
      simp only [hn, if_true, if_pos hl, hs, hf]
    rw [hpm, hpc]
    show rawThen (readF F s) s P (if rawB name = true then name else (⟨#[]⟩ : ByteArray)) _ _ = _
    rw [if_pos hr]
    unfold rawThen
    rw [if_neg (rawB_size hr).2, hre]
    by_cases hw0 : w = []
    · subst hw0
      simp
    · have hwl : 0 < w.length := List.length_pos_iff.2 hw0
      rw [if_neg (by omega), if_neg hw0]
      have hx := h6.cut
      rw [hx]
      cases textM (addN ns (inn op) (elN name l)) (inn (opThen ns op name)) ⟨w.toArray⟩ <;> rfl
end Go.Proofs.YtkaeenafejdkfaaGreatDoor

/- Reading what is spelt: raw elements; several end tags; where a raw text has ended. -/
namespace Go.Proofs.YtkaeenafejdkfaaGreatDoor

theorem tag_add {ns : List Nd} {p j : Nat} {m x : Nd} (hp : ns[p]? = some m) (hj : j < ns.length) : tagOf (addN ns p x) j = tagOf ns j := by
  unfold tagOf
  rw [add_get hp, if_neg (by omega)]
  by_cases e : j = p
  · subst e; rw [if_pos rfl, hp]
  · rw [if_neg e]
theorem tag_new {ns : List Nd} {p : Nat} {m x : Nd} (hp : ns[p]? = some m) : tagOf (addN ns p x) ns.length = x.tag := by
  unfold tagOf
  rw [add_get hp, if_pos rfl]
/-- a raw element that stays open, with its text -/
theorem rd_rawOpen {out w : List UInt8} {ns : List Nd} {op : List Nat} {name : ByteArray} {l : List (ByteArray × ByteArray)} {m : Nd} (hm : ns[inn op]? = some m) (h : Rdf out ns op) (ho : OpenO ns op) (hl : ns.length < 400) (hn : nameB name = true) (hr : rawB name = true) (ha : ∀ x ∈ l, nameB x.1 = true) (hf : firsts l = l) (hs : opAfter ns op name = op) (h40 : op.length < 40) (hw : NoRaw name.data.toList w) :
    (w = [] → Rds (out ++ openL (elN name l)) (addN ns (inn op) (elN name l)) (ns.length :: op)) ∧ (w ≠ [] → ns.length + 1 < 400 → Rds (out ++ openL (elN name l) ++ w) (addN (addN ns (inn op) (elN name l)) ns.length (textN ⟨w.toArray⟩)) (ns.length :: op)) := by
  have hot : opThen ns op name = ns.length :: op := by
    unfold opThen
    rw [if_pos (by rw [opThen_raw hr]; simp [h40])]
  have hL : (addN ns (inn op) (elN name l))[ns.length]? = some { elN name l with parent := (inn op : Int) } := by rw [add_get hm, if_pos rfl]
  have ht1 : tagOf (addN ns (inn op) (elN name l)) ns.length = name := tag_new hm
  constructor
  · rintro rfl s rest h1 h2
    obtain ⟨r, hrest⟩ := h2 (by rw [ht1]; exact hr)
    rw [ht1] at hrest
    subst hrest
    rw [List.append_assoc] at h1
    obtain ⟨F, _, _, g3, g4⟩ := rd_rawStart (w := []) h1 h ho hl hn hr ha hf hs hw
    rw [if_pos rfl, hot] at g3
    exact ⟨F, g4, g3⟩
  · intro hw0 hl1 s rest h1 h2
    have ht2 : tagOf (addN (addN ns (inn op) (elN name l)) ns.length (textN ⟨w.toArray⟩)) ns.length = name := by
      rw [tag_add hL (by rw [add_len hm]; omega), ht1]
    obtain ⟨r, hrest⟩ := h2 (by rw [ht2]; exact hr)
    rw [ht2] at hrest
    subst hrest
    have h1' : OnL s 0 (out ++ (openL (elN name l) ++ (w ++ (endL name ++ r)))) := by
      simp only [List.append_assoc] at h1; exact h1
    obtain ⟨F, _, g2, g3, g4⟩ := rd_rawStart h1' h ho hl hn hr ha hf hs hw
    rw [if_neg hw0, hot] at g3
    have htm : textM (addN ns (inn op) (elN name l)) ns.length ⟨w.toArray⟩ = some (addN (addN ns (inn op) (elN name l)) ns.length (textN ⟨w.toArray⟩)) := by
      have hta : textAt (addN ns (inn op) (elN name l)) ns.length = none := by
        unfold textAt
        rw [hL]
        rfl
      unfold textM
      rw [hta]
      simp only
      rw [if_pos (by rw [add_len hm]; exact hl1)]
    have hinn : inn (ns.length :: op) = ns.length := rfl
    rw [hinn, htm] at g3
    simp only at g3
    have e : (out ++ openL (elN name l) ++ w).length = (out ++ openL (elN name l)).length + w.length := List.length_append
    rw [e]
    exact ⟨F, by omega, g3⟩
theorem OpenO.same {ns ns' : List Nd} : ∀ {op : List Nat}, OpenO ns op → (∀ k ∈ op, tagOf ns' k = tagOf ns k) → OpenO ns' op
  | [], _, _ => trivial
  | k :: l, h, hs => by
    obtain ⟨h1, h2, h3, h4⟩ := h
    rw [← hs k (by simp)] at h1 h3
    exact ⟨h1, h2, h3, OpenO.same h4 (fun x hx => hs x (by simp [hx]))⟩
/-- a raw element that isn't open -/
theorem rd_rawShut {out : List UInt8} {ns : List Nd} {op : List Nat} {name : ByteArray} {l : List (ByteArray × ByteArray)} {m : Nd} (hm : ns[inn op]? = some m) (hin : ∀ k ∈ op, k < ns.length) (h : Rdf out ns op) (ho : OpenO ns op) (hl : ns.length < 400) (hn : nameB name = true) (hr : rawB name = true) (ha : ∀ x ∈ l, nameB x.1 = true) (hf : firsts l = l) (hs : opAfter ns op name = op) (h40 : ¬ op.length < 40) : Rds (out ++ openL (elN name l) ++ endL name) (addN ns (inn op) (elN name l)) op := by
  have hot : opThen ns op name = op := by
    unfold opThen
    rw [if_neg (by simp [h40])]
  intro s rest h1 _
  have h1' : OnL s 0 (out ++ (openL (elN name l) ++ ([] ++ (endL name ++ rest)))) := by
    simp only [List.append_assoc, List.nil_append] at h1 ⊢; exact h1
  have hnr : NoRaw name.data.toList [] := fun j h1 => by simp at h1
  obtain ⟨F, _, _, g3, g4⟩ := rd_rawStart h1' h ho hl hn hr ha hf hs hnr
  rw [if_pos rfl, hot] at g3
  have h1'' : OnL s 0 ((out ++ openL (elN name l)) ++ (endL name ++ rest)) := by
    simp only [List.append_assoc] at h1 ⊢; exact h1
  have h4 := h1''.skip
  rw [Nat.zero_add] at h4
  have hln : (out ++ openL (elN name l) ++ endL name).length = (out ++ openL (elN name l)).length + 2 + name.size + 1 := by
    rw [List.length_append]
    unfold endL
    simp
    omega
  rw [hln]
  generalize (out ++ openL (elN name l)).length = P at *
  have h5 : OnL s P (60 :: 47 :: (name.data.toList ++ 62 :: rest)) := by
    have e : endL name ++ rest = 60 :: 47 :: (name.data.toList ++ 62 :: rest) := by unfold endL; simp
    rw [e] at h4; exact h4
  obtain ⟨hpc, hst⟩ := piece_end h5 hn
  obtain ⟨hi, _⟩ := h5.head
  have ho' : OpenO (addN ns (inn op) (elN name l)) op := ho.same (fun k hk => tag_add hm (hin k hk))
  have hpm : pieceM (addN ns (inn op) (elN name l)) op (pieceP nameB s P) = some (addN ns (inn op) (elN name l), op) := by
    rw [hpc]
    unfold pieceM
    simp only
    rw [no_raw_tag hr ho' op]
  obtain ⟨F', q1, q2⟩ := rd_piece hi g4 hpm (by rw [hpc]; rfl) (by rw [hpc]; show _ < _ + _; omega)
  have hto : (pieceP nameB s P).to = P + 2 + name.size + 1 := by rw [hpc]; rfl
  rw [hto] at q1 q2
  exact ⟨F', q1, g3.trans q2⟩
/-- several end tags -/
theorem rd_ends {ns : List Nd} : ∀ {x op' : List Nat} {out : List UInt8}, x ≠ [] → Rdf out ns (x ++ op') → (∀ k ∈ x, nameB (tagOf ns k) = true) → Rds (out ++ endsL ns x) ns op'
  | [], _, _, h, _, _ => absurd rfl h
  | [k], op', out, _, h, hn => by
    have := rd_end h (hn k (by simp))
    unfold endsL
    simpa using this
  | k :: k2 :: x, op', out, _, h, hn => by
    have h1 := rd_end h (hn k (by simp))
    have h2 := rd_ends (x := k2 :: x) (by simp) h1.rdf (fun y hy => hn y (by simp at hy ⊢; exact .inr hy))
    have e : endsL ns (k :: k2 :: x) = endL (tagOf ns k) ++ endsL ns (k2 :: x) := by unfold endsL; rw [List.flatMap_cons]
    rw [e, ← List.append_assoc]
    exact h2
theorem ends_app (ns : List Nd) (x y : List Nat) : endsL ns (x ++ y) = endsL ns x ++ endsL ns y := by unfold endsL; rw [List.flatMap_append]
theorem ends_same {ns ns' : List Nd} {op : List Nat} (h : ∀ k ∈ op, tagOf ns' k = tagOf ns k) : endsL ns' op = endsL ns op := by
  unfold endsL
  induction op with
  | nil => rfl
  | cons k l ih => rw [List.flatMap_cons, List.flatMap_cons, h k (by simp), ih (fun x hx => h x (by simp [hx]))]
theorem OpenO.tail {ns : List Nd} : ∀ {x y : List Nat}, OpenO ns (x ++ y) → OpenO ns y
  | [], _, h => h
  | _ :: x, _, h => OpenO.tail (x := x) h.2.2.2
theorem Chain.tail {ns : List Nd} : ∀ {x y : List Nat}, Chain ns (x ++ y) → Chain ns y
  | [], _, h => h
  | _ :: x, _, h => by
    cases h with
    | cons _ _ _ _ _ hc => exact Chain.tail (x := x) hc
theorem Chain.lt {ns : List Nd} : ∀ {op : List Nat}, Chain ns op → ∀ k ∈ op, k < ns.length
  | _, .nil, _, h => by simp at h
  | _, .cons hk _ _ _ _ hc, j, h => by
    rcases List.mem_cons.1 h with rfl | h
    · exact (List.getElem?_eq_some_iff.1 hk).1
    · exact hc.lt j h
end Go.Proofs.YtkaeenafejdkfaaGreatDoor
