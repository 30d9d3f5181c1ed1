/- A text is read, and what is spelt of its tree is read as that tree: start tags, and all. -/
import Derived.Test.YtkaeenafejdkfaaGreatDoorM37
import Derived.Test.YtkaeenafejdkfaaGreatDoorM36
namespace Go.Proofs.YtkaeenafejdkfaaGreatDoor

theorem own_open {d : Nat} {name : ByteArray} {l : List (ByteArray × ByteArray)} (h : voidB name = false) (hd : d < 40) : ownL d (elN name l) = openL (elN name l) ++ endL name := by
  unfold ownL
  rw [if_pos (show (elN name l).kind = 2 from rfl), if_pos (by show (rawB name || (!voidB name && decide (d < 40))) = true; rw [h]; simp [hd])]
  rfl
theorem own_raw {d : Nat} {name : ByteArray} {l : List (ByteArray × ByteArray)} (h : rawB name = true) : ownL d (elN name l) = openL (elN name l) ++ endL name := by
  unfold ownL
  rw [if_pos (show (elN name l).kind = 2 from rfl), if_pos (by show (rawB name || (!voidB name && decide (d < 40))) = true; rw [h]; rfl)]
  rfl
theorem own_shut {d : Nat} {name : ByteArray} {l : List (ByteArray × ByteArray)} (hr : rawB name = false) (h : (!voidB name && decide (d < 40)) = false) : ownL d (elN name l) = openL (elN name l) := by
  unfold ownL
  rw [if_pos (show (elN name l).kind = 2 from rfl), if_neg (by show ¬ (rawB name || (!voidB name && decide (d < 40))) = true; rw [hr, h]; simp), List.append_nil]
/-- a start tag that is no raw one's -/
theorem sim_start {s : ByteArray} {i e : Nat} {ns : List Nd} {op : List Nat} {out : List UInt8} {name : ByteArray} {l : List (ByteArray × ByteArray)} (hI : Inv ns op i) (hcov : Cov ns 0 ns.length) (hok : OkAll ns op) (hnm : ∀ k ∈ op, nameB (tagOf ns k) = true) (hs : spellT ns = out ++ endsL ns op) (hlen : (spellT ns).length ≤ 6 * i) (ho : OpenO ns op) (hp : Pend ns op out) (hl4 : ns.length < 400) (hn : nameB name = true) (hr : rawB name = false) (ha : ∀ x ∈ l, nameB x.1 = true) (hf : firsts l = l) (hsh : opAfter ns op name = op) (hh : hitsO ns (inL (closesL name)) (inL (upToL name)) op = false) (hie : name.size + sumA l + i + 2 ≤ e) (hI' : Inv (addN ns (inn op) (elN name l)) (opThen ns op name) e) : ∃ out', Sim s e (addN ns (inn op) (elN name l)) (opThen ns op name) out' := by
  obtain ⟨m, hm, _⟩ := hI.chain.inner hI.wf
  have hrd := rd_start hp.rdf ho hl4 hn hr ha hf hsh
  have hsp := spell_add (x := elN name l) hI.wf hcov hI.chain ho hm hs rfl
  have htag : ∀ k ∈ op, tagOf (addN ns (inn op) (elN name l)) k = tagOf ns k := fun k hk => tag_add hm (hI.chain.lt k hk)
  have hnew : tagOf (addN ns (inn op) (elN name l)) ns.length = name := tag_new hm
  have hcov' := cov_add (x := elN name l) hI.chain hm rfl hcov
  have hol := open_len (n := name) ha
  have hlt : inn op < ns.length := (List.getElem?_eq_some_iff.1 hm).1
  cases hot : (!voidB name && decide (op.length < 40)) with
  | true =>
    have h1 : voidB name = false := by
      rw [Bool.and_eq_true] at hot
      simpa using hot.1
    have h2 : op.length < 40 := by
      rw [Bool.and_eq_true, decide_eq_true_eq] at hot
      exact hot.2
    have hop : opThen ns op name = ns.length :: op := by unfold opThen; rw [if_pos hot]
    rw [hop] at hrd hI' ⊢
    rw [own_open h1 h2] at hsp
    have hto : textAt (addN ns (inn op) (elN name l)) ns.length = none := by
      unfold textAt
      rw [add_get hm, if_pos rfl]
      rfl
    refine ⟨out ++ openL (elN name l), hI', hcov', (hok.same htag).open hnew ?_, ?_, ?_, ?_, .inl ⟨⟨by rw [hnew]; exact h1, h2, by rw [hnew]; exact hr, ho.same htag⟩, Pend.of hrd hto⟩⟩
    · rw [hits_same htag]; exact hh
    · intro k hk
      rcases List.mem_cons.1 hk with rfl | hk
      · rw [hnew]; exact hn
      · rw [htag k hk]; exact hnm k hk
    · rw [hsp]
      unfold endsL
      rw [List.flatMap_cons, hnew]
      have := ends_same htag
      unfold endsL at this
      rw [this]
      simp only [List.append_assoc]
    · rw [hsp]
      rw [hs] at hlen
      simp only [List.length_append] at hlen ⊢
      omega
  | false =>
    have hop : opThen ns op name = op := by unfold opThen; rw [if_neg (by rw [hot]; simp)]
    rw [hop] at hrd hI' ⊢
    rw [own_shut hr hot] at hsp
    have hto : textAt (addN ns (inn op) (elN name l)) (inn op) = none := by
      rw [textAt_new hm, if_neg (by show ¬ (2 : Int) = 3; decide)]
    refine ⟨out ++ openL (elN name l), hI', hcov', hok.same htag, fun k hk => by rw [htag k hk]; exact hnm k hk, by rw [hsp, ends_same htag], ?_, .inl ⟨ho.same htag, Pend.of hrd hto⟩⟩
    rw [hsp]
    rw [hs] at hlen
    simp only [List.length_append] at hlen ⊢
    omega
/-- a raw element's start tag, and its text -/
theorem sim_raw {s : ByteArray} {i k : Nat} {ns : List Nd} {op : List Nat} {out : List UInt8} {name : ByteArray} {l : List (ByteArray × ByteArray)} {f : Nat} {nsF : List Nd} (hI : Inv ns op i) (hcov : Cov ns 0 ns.length) (hok : OkAll ns op) (hnm : ∀ k ∈ op, nameB (tagOf ns k) = true) (hs : spellT ns = out ++ endsL ns op) (hlen : (spellT ns).length ≤ 6 * i) (ho : OpenO ns op) (hp : Pend ns op out) (hl4 : ns.length < 400) (hn : nameB name = true) (hr : rawB name = true) (ha : ∀ x ∈ l, nameB x.1 = true) (hf : firsts l = l) (hsh : opAfter ns op name = op) (hh : hitsO ns (inL (closesL name)) (inL (upToL name)) op = false) (hie : name.size + sumA l + i + 2 ≤ k) (hks : k ≤ s.size) (hI' : Inv (addN ns (inn op) (elN name l)) (opThen ns op name) k)
    (hR : rawThen (readF f s) s k name (addN ns (inn op) (elN name l)) (opThen ns op name) = .ok nsF) : ∃ i' ns2 op2 out2, k ≤ i' ∧ i' ≤ s.size ∧ Sim s i' ns2 op2 out2 ∧ readF f s i' ns2 op2 = .ok nsF := by
  obtain ⟨m, hm, _⟩ := hI.chain.inner hI.wf
  have htag : ∀ k ∈ op, tagOf (addN ns (inn op) (elN name l)) k = tagOf ns k := fun k hk => tag_add hm (hI.chain.lt k hk)
  have hnew : tagOf (addN ns (inn op) (elN name l)) ns.length = name := tag_new hm
  have hcov' := cov_add (x := elN name l) hI.chain hm rfl hcov
  have hol := open_len (n := name) ha
  have hlt : inn op < ns.length := (List.getElem?_eq_some_iff.1 hm).1
  have hsp := spell_add (x := elN name l) hI.wf hcov hI.chain ho hm hs rfl
  rw [own_raw hr] at hsp
  obtain ⟨e, he, e1, e2, _, e4⟩ := rawE_is s name k hks
  have hnr := raw_facts (s := s) (n := name) hks
  rw [he] at hnr
  unfold rawThen at hR
  rw [if_neg (rawB_size hr).2, he] at hR
  have hend : endsL (addN ns (inn op) (elN name l)) (ns.length :: op) = endL name ++ endsL ns op := by
    unfold endsL
    rw [List.flatMap_cons, hnew]
    have := ends_same htag
    unfold endsL at this
    rw [this]
  have hhit : e = s.size ∨ rawHit s name e := by
    rcases Nat.lt_or_ge e s.size with h | h
    · exact .inr (e4 h)
    · exact .inl (by omega)
  by_cases h40 : op.length < 40
  · have hop : opThen ns op name = ns.length :: op := by unfold opThen; rw [if_pos (by rw [opThen_raw hr]; simp [h40])]
    rw [hop] at hR hI'
    have hok' : OkAll (addN ns (inn op) (elN name l)) (ns.length :: op) := (hok.same htag).open hnew (by rw [hits_same htag]; exact hh)
    have hnm' : ∀ j ∈ ns.length :: op, nameB (tagOf (addN ns (inn op) (elN name l)) j) = true := by
      intro j hj
      rcases List.mem_cons.1 hj with rfl | hj
      · rw [hnew]; exact hn
      · rw [htag j hj]; exact hnm j hj
    by_cases hek : e = k
    · subst hek
      rw [if_pos rfl] at hR
      have hrd := (rd_rawOpen (w := []) hm hp.rdf ho hl4 hn hr ha hf hsh h40 (fun j h1 => by simp at h1)).1 rfl
      refine ⟨e, _, _, out ++ openL (elN name l), Nat.le_refl _, hks, ⟨hI', hcov', hok', hnm', by rw [hsp, hend]; simp only [List.append_assoc], ?_, .inr ⟨ns.length, op, rfl, by rw [hnew]; exact hr, ho.same htag, hrd, by rw [hnew]; exact hhit⟩⟩, hR⟩
      rw [hsp]
      rw [hs] at hlen
      simp only [List.length_append] at hlen ⊢
      omega
    · rw [if_neg hek] at hR
      have hL : (addN ns (inn op) (elN name l))[ns.length]? = some { elN name l with parent := (inn op : Int) } := by rw [add_get hm, if_pos rfl]
      have hinn : inn (ns.length :: op) = ns.length := rfl
      rw [hinn] at hR
      have hta : textAt (addN ns (inn op) (elN name l)) ns.length = none := by
        unfold textAt
        rw [hL]
        rfl
      obtain ⟨w, hw⟩ : ∃ w, w = s.extract k e := ⟨_, rfl⟩
      rw [← hw] at hR hnr
      have hwsz : w.size = e - k := by rw [hw, ByteArray.size_extract]; omega
      have hwl : w.data.toList.length = w.size := by simp
      have hw0 : w.data.toList ≠ [] := fun h => by rw [h] at hwl; simp at hwl; omega
      by_cases hl5 : ns.length + 1 < 400
      · have htm : textM (addN ns (inn op) (elN name l)) ns.length w = some (addN (addN ns (inn op) (elN name l)) ns.length (textN w)) := by
          unfold textM
          rw [hta]
          simp only
          rw [if_pos (by rw [add_len hm]; exact hl5)]
        rw [htm] at hR
        simp only at hR
        have hrd := (rd_rawOpen hm hp.rdf ho hl4 hn hr ha hf hsh h40 hnr).2 hw0 hl5
        rw [mk_list] at hrd
        have hI2 : Inv (addN (addN ns (inn op) (elN name l)) ns.length (textN w)) (ns.length :: op) e := text_inv (t := w) hI' e1 (by omega) (by rw [hinn]; exact htm)
        have htag2 : ∀ j ∈ ns.length :: op, tagOf (addN (addN ns (inn op) (elN name l)) ns.length (textN w)) j = tagOf (addN ns (inn op) (elN name l)) j := fun j hj => tag_add hL (hI'.chain.lt j hj)
        have hsp2 := spell_raw (w := w) (x := elN name l) hI.wf hI'.wf hcov hI.chain ho hm hs rfl rfl hr
        refine ⟨e, _, _, out ++ openL (elN name l) ++ w.data.toList, e1, e2, ⟨hI2, cov_add hI'.chain hL rfl hcov', hok'.same htag2, fun j hj => by rw [htag2 j hj]; exact hnm' j hj, ?_, ?_, .inr ⟨ns.length, op, rfl, by rw [htag2 _ (by simp), hnew]; exact hr, (ho.same htag).same (fun j hj => htag2 j (by simp [hj])), hrd, by rw [htag2 _ (by simp), hnew]; exact hhit⟩⟩, hR⟩
        · rw [hsp2, ends_same htag2, hend]
          show _ = _ ++ (endL name ++ endsL ns op)
          have : (elN name l).tag = name := rfl
          rw [this]
          simp only [List.append_assoc]
        · rw [hsp2]
          have : (elN name l).tag = name := rfl
          rw [this]
          rw [hs] at hlen
          simp only [List.length_append] at hlen ⊢
          omega
      · have htm : textM (addN ns (inn op) (elN name l)) ns.length w = none := by
          unfold textM
          rw [hta]
          simp only
          rw [if_neg (by rw [add_len hm]; exact hl5)]
        rw [htm] at hR
        cases hR
  · have hop : opThen ns op name = op := by unfold opThen; rw [if_neg (by simp [h40])]
    rw [hop] at hR hI'
    have hrd := rd_rawShut hm hI.chain.lt hp.rdf ho hl4 hn hr ha hf hsh h40
    have hto : textAt (addN ns (inn op) (elN name l)) (inn op) = none := by
      rw [textAt_new hm, if_neg (by show ¬ (2 : Int) = 3; decide)]
    have hP : Pend (addN ns (inn op) (elN name l)) op (out ++ openL (elN name l) ++ endL name) := Pend.of hrd hto
    have hspell : spellT (addN ns (inn op) (elN name l)) = out ++ openL (elN name l) ++ endL name ++ endsL (addN ns (inn op) (elN name l)) op := by
      rw [hsp, ends_same htag]
      simp only [List.append_assoc]
    have hlen' : (spellT (addN ns (inn op) (elN name l))).length ≤ 6 * k := by
      rw [hsp]
      rw [hs] at hlen
      simp only [List.length_append] at hlen ⊢
      omega
    have hnm' : ∀ j ∈ op, nameB (tagOf (addN ns (inn op) (elN name l)) j) = true := fun j hj => by rw [htag j hj]; exact hnm j hj
    by_cases hek : e = k
    · subst hek
      rw [if_pos rfl] at hR
      exact ⟨e, _, _, _, Nat.le_refl _, hks, ⟨hI', hcov', hok.same htag, hnm', hspell, hlen', .inl ⟨ho.same htag, hP⟩⟩, hR⟩
    · rw [if_neg hek] at hR
      cases htm : textM (addN ns (inn op) (elN name l)) (inn op) (s.extract k e) with
      | none => rw [htm] at hR; cases hR
      | some ns2 =>
        rw [htm] at hR
        simp only at hR
        have hwsz : (s.extract k e).size = e - k := by rw [ByteArray.size_extract]; omega
        obtain ⟨out2, hsim⟩ := sim_text (s := s) hI' hcov' (hok.same htag) hnm' hspell hlen' (ho.same htag) hP (t := s.extract k e) (fun h => by rw [h] at hwsz; have e0 : (⟨#[]⟩ : ByteArray).size = 0 := rfl; rw [e0] at hwsz; omega) e1 (by omega) htm
        exact ⟨e, _, _, out2, e1, e2, hsim, hR⟩
end Go.Proofs.YtkaeenafejdkfaaGreatDoor

/- What is spelt of a text's tree is read as that tree. -/
namespace Go.Proofs.YtkaeenafejdkfaaGreatDoor

/-- one round of the reading -/
theorem sim_step {s : ByteArray} {i : Nat} {ns : List Nd} {op : List Nat} {out : List UInt8} (h : Sim s i ns op out) (hi : i < s.size) {f : Nat} {nsF : List Nd} (hR : readF (f + 1) s i ns op = .ok nsF) : ∃ i' ns2 op2 out2, i < i' ∧ i' ≤ s.size ∧ Sim s i' ns2 op2 out2 ∧ readF f s i' ns2 op2 = .ok nsF := by
  have hfact := piece_fact hi
  have hcomf := com_fact hi
  rw [read_step hi] at hR
  rcases h.st with ⟨ho, hp⟩ | ⟨k, l, hopk, hraw, hol, hrd, hpos⟩
  · cases hpc : pieceP nameB s i with
    | text t k =>
      rw [hpc] at hR hfact
      obtain ⟨k1, k2, k3⟩ := hfact
      have k1 : i < k := k1
      have k2 : k ≤ s.size := k2
      have k3 : t.size ≤ k - i := k3
      cases htm : textM ns (inn op) t with
      | none =>
        have e : pieceM ns op (.text t k) = none := by unfold pieceM; simp only [htm]; rfl
        rw [e] at hR
        cases hR
      | some ns' =>
        have e : pieceM ns op (.text t k) = some (ns', op) := by unfold pieceM; simp only [htm]; rfl
        rw [e] at hR
        obtain ⟨out', hsim⟩ := sim_text (s := s) h.inv h.cov h.ok h.names h.spell h.len ho hp (text_ne hi hpc) (Nat.le_of_lt k1) k3 htm
        exact ⟨k, ns', op, out', k1, k2, hsim, (rawThen_no (k := readF f s)).symm.trans hR⟩
    | com t k =>
      obtain ⟨c1, c2⟩ := com_facts hi hpc
      rw [hpc] at hR hfact
      obtain ⟨k1, k2, _⟩ := hfact
      have k1 : i < k := k1
      have k2 : k ≤ s.size := k2
      obtain ⟨m, hm, _⟩ := h.inv.chain.inner h.inv.wf
      by_cases hl : ns.length < 400
      · have e : pieceM ns op (.com t k) = some (addN ns (inn op) (comN t), op) := by unfold pieceM comM; simp only [if_pos hl]; rfl
        rw [e] at hR
        have hI' : Inv (addN ns (inn op) (comN t)) op k := piece_inv (s := s) (pc := .com t k) h.inv ⟨k1, k2, (piece_fact hi |> fun x => by rw [hpc] at x; exact x.2.2)⟩ (fun t' e' h' => by cases h'; exact hcomf t k hpc) e
        have hrd := rd_com hp.rdf ho hl c2
        have htag : ∀ j ∈ op, tagOf (addN ns (inn op) (comN t)) j = tagOf ns j := fun j hj => tag_add hm (h.inv.chain.lt j hj)
        have hsp := spell_add (x := comN t) h.inv.wf h.cov h.inv.chain ho hm h.spell rfl
        have hown : ownL op.length (comN t) = comL t := rfl
        rw [hown] at hsp
        have hto : textAt (addN ns (inn op) (comN t)) (inn op) = none := by
          rw [textAt_new hm, if_neg (by show ¬ (4 : Int) = 3; decide)]
        refine ⟨k, _, op, out ++ comL t, k1, k2, ⟨hI', cov_add h.inv.chain hm rfl h.cov, h.ok.same htag, fun j hj => by rw [htag j hj]; exact h.names j hj, by rw [hsp, ends_same htag], ?_, .inl ⟨ho.same htag, Pend.of hrd hto⟩⟩, (rawThen_no (k := readF f s)).symm.trans hR⟩
        rw [hsp]
        have hlen := h.len
        rw [h.spell] at hlen
        have hcl : (comL t).length = t.size + 7 := by unfold comL; simp
        simp only [List.length_append] at hlen ⊢
        omega
      · have e : pieceM ns op (.com t k) = none := by unfold pieceM comM; simp only [if_neg hl]; rfl
        rw [e] at hR
        cases hR
    | none k =>
      rw [hpc] at hR hfact
      obtain ⟨k1, k2, _⟩ := hfact
      have k1 : i < k := k1
      have k2 : k ≤ s.size := k2
      exact ⟨k, ns, op, out, k1, k2, ⟨h.inv.mono (Nat.le_of_lt k1), h.cov, h.ok, h.names, h.spell, Nat.le_trans h.len (by omega), .inl ⟨ho, hp⟩⟩, (rawThen_no (k := readF f s)).symm.trans hR⟩
    | fin n k =>
      rw [hpc] at hR hfact
      obtain ⟨k1, k2, _⟩ := hfact
      have k1 : i < k := k1
      have k2 : k ≤ s.size := k2
      obtain ⟨out', g1, g2, g3, g4, g5⟩ := close_pend (A := inL [n]) (B := inL []) h.inv.chain ho h.names h.spell hp
      exact ⟨k, ns, _, out', k1, k2, ⟨(h.inv.shut _ _).mono (Nat.le_of_lt k1), h.cov, h.ok.shut _ _, g4, g3, Nat.le_trans h.len (by omega), .inl ⟨g1, g2⟩⟩, (rawThen_no (k := readF f s)).symm.trans hR⟩
    | start n l k =>
      have hsl := start_len hi hpc
      have hpi : ∀ ns' op', pieceM ns op (pieceP nameB s i) = some (ns', op') → Inv ns' op' (pieceP nameB s i).to := fun _ _ hm => piece_inv (s := s) h.inv hfact hcomf hm
      rw [hpc] at hR hfact hpi
      obtain ⟨k1, k2, k3, k4⟩ := hfact
      have k1 : i < k := k1
      have k2 : k ≤ s.size := k2
      cases hn : nameB n with
      | false =>
        have e : pieceM ns op (.start n l k) = some (ns, op) := by unfold pieceM; simp only [hn]; rfl
        have hr0 : rawB n = false := by
          cases e : rawB n
          · rfl
          · rw [raw_name e] at hn; cases hn
        rw [e] at hR
        have hR' : rawThen (readF f s) s k (if rawB n = true then n else (⟨#[]⟩ : ByteArray)) ns op = .ok nsF := hR
        rw [hr0] at hR'
        exact ⟨k, ns, op, out, k1, k2, ⟨h.inv.mono (Nat.le_of_lt k1), h.cov, h.ok, h.names, h.spell, Nat.le_trans h.len (by omega), .inl ⟨ho, hp⟩⟩, (rawThen_no (k := readF f s)).symm.trans hR'⟩
      | true =>
        by_cases hl : ns.length < 400
        · have e : pieceM ns op (.start n l k) = some (addN ns (inn (opAfter ns op n)) (elN n (firsts l)), opThen ns (opAfter ns op n) n) := by
            unfold pieceM startM
            simp only [hn, if_true, if_pos hl]
          have hI' := hpi _ _ e
          rw [e] at hR
          have hR' : rawThen (readF f s) s k (if rawB n = true then n else (⟨#[]⟩ : ByteArray)) (addN ns (inn (opAfter ns op n)) (elN n (firsts l))) (opThen ns (opAfter ns op n) n) = .ok nsF := hR
          obtain ⟨f1, f2, f3⟩ := firsts_sub l
          have hna : ∀ x ∈ firsts l, nameB x.1 = true := fun x hx => (k4 x (f1 x hx)).1
          obtain ⟨a1, a2⟩ := h.ok.again n
          obtain ⟨out', g1, g2, g3, g4, g5⟩ := close_pend (A := inL (closesL n)) (B := inL (upToL n)) h.inv.chain ho h.names h.spell hp
          have hIs : Inv ns (opAfter ns op n) i := h.inv.shut _ _
          have hoks : OkAll ns (opAfter ns op n) := h.ok.shut _ _
          cases hr : rawB n with
          | false =>
            rw [hr] at hR'
            obtain ⟨out2, hsim⟩ := sim_start (s := s) (e := k) hIs h.cov hoks g4 g3 h.len g1 g2 hl hn hr hna f3 a1 a2 (by omega) hI'
            exact ⟨k, _, _, out2, k1, k2, hsim, (rawThen_no (k := readF f s)).symm.trans hR'⟩
          | true =>
            rw [if_pos hr] at hR'
            obtain ⟨i', ns2, op2, out2, q1, q2, q3, q4⟩ := sim_raw (s := s) hIs h.cov hoks g4 g3 h.len g1 g2 hl hn hr hna f3 a1 a2 (by omega) k2 hI' hR'
            exact ⟨i', ns2, op2, out2, by omega, q2, q3, q4⟩
        · have e : pieceM ns op (.start n l k) = none := by
            unfold pieceM startM
            simp only [hn, if_true, if_neg hl]
          rw [e] at hR
          cases hR
  · subst hopk
    have hn := h.names k (by simp)
    rcases hpos with e | hhit
    · omega
    · rcases raw_piece hi hn hhit with ⟨e, hpc⟩ | hpc
      · rw [hpc] at hR hfact
        obtain ⟨k1, k2, _⟩ := hfact
        have k1 : i < e := k1
        have k2 : e ≤ s.size := k2
        have hpm : pieceM ns (k :: l) (.fin (tagOf ns k) e) = some (ns, l) := by
          unfold pieceM
          simp only
          rw [shutM, if_pos (show inL [tagOf ns k] (tagOf ns k) = true from (Lib.containsS_iff _ _).2 (by simp))]
        rw [hpm] at hR
        have hr2 := rd_end hrd.rdf hn
        have hch := h.inv.chain
        have hIl : Inv ns l e := by
          have := (h.inv.shut (inL [tagOf ns k]) (inL [])).mono (Nat.le_of_lt k1)
          rw [shutM, if_pos (show inL [tagOf ns k] (tagOf ns k) = true from (Lib.containsS_iff _ _).2 (by simp))] at this
          exact this
        refine ⟨e, ns, l, out ++ endL (tagOf ns k), k1, k2, ⟨hIl, h.cov, fun name => (h.ok name).2, fun j hj => h.names j (by simp [hj]), ?_, Nat.le_trans h.len (by omega), .inl ⟨hol, Pend.of hr2 hch.noText⟩⟩, (rawThen_no (k := readF f s)).symm.trans hR⟩
        rw [h.spell]
        unfold endsL
        rw [List.flatMap_cons, List.append_assoc]
      · rw [hpc] at hR
        have hR' : readF f s s.size ns (k :: l) = .ok nsF := (rawThen_no (k := readF f s)).symm.trans hR
        exact ⟨s.size, ns, k :: l, out, hi, Nat.le_refl _, ⟨h.inv.mono (Nat.le_of_lt hi), h.cov, h.ok, h.names, h.spell, Nat.le_trans h.len (by omega), .inr ⟨k, l, rfl, hraw, hol, hrd, .inl rfl⟩⟩, hR'⟩
theorem sim_all {s : ByteArray} : ∀ (f : Nat) {i : Nat} {ns : List Nd} {op : List Nat} {out : List UInt8} {nsF : List Nd}, Sim s i ns op out → i ≤ s.size → s.size - i ≤ f → readF f s i ns op = .ok nsF → ∃ opF outF, Sim s s.size nsF opF outF
  | 0, i, ns, op, out, nsF, h, h1, h2, hR => by
    have e : i = s.size := by omega
    subst e
    simp [readF] at hR
    subst hR
    exact ⟨op, out, h⟩
  | f + 1, i, ns, op, out, nsF, h, h1, h2, hR => by
    by_cases hi : i < s.size
    · obtain ⟨i', ns2, op2, out2, q1, q2, q3, q4⟩ := sim_step h hi hR
      exact sim_all f q3 q2 (by omega) q4
    · rw [readF, if_neg hi] at hR
      cases hR
      have e : i = s.size := by omega
      subst e
      exact ⟨op, out, h⟩
/-- PARSE OF PRINT: what is spelt of a text's tree is read as that tree, and is not too long -/
theorem spell_back {s : ByteArray} {ns : List Nd} (h : readS s = .ok ns) : readS ⟨(spellT ns).toArray⟩ = .ok ns ∧ (spellT ns).length ≤ 6 * s.size := by
  obtain ⟨op, out, hs⟩ := sim_all s.size (sim0 s) (Nat.zero_le _) (by omega) h
  refine ⟨?_, hs.len⟩
  have hrdf : Rdf out ns op := by
    rcases hs.st with ⟨_, hp⟩ | ⟨k, l, _, _, _, hr, _⟩
    · exact hp.rdf
    · exact hr.rdf
  have fin : ∀ (o : List UInt8), Rdf o ns [] → readS ⟨o.toArray⟩ = .ok ns := by
    intro o ho
    have hon : OnL ⟨o.toArray⟩ 0 (o ++ []) := ⟨Nat.zero_le _, by simp⟩
    obtain ⟨F, _, hF⟩ := ho ⟨o.toArray⟩ [] hon trivial (.inl rfl)
    rw [hF]
    have hsz : (⟨o.toArray⟩ : ByteArray).size = o.length := by simp [ByteArray.size]
    cases F with
    | zero => rfl
    | succ F => rw [readF, if_neg (by omega)]
  cases op with
  | nil =>
    have e : spellT ns = out := by rw [hs.spell]; simp [endsL]
    rw [e]
    exact fin out hrdf
  | cons k l =>
    rw [hs.spell]
    have := rd_ends (x := k :: l) (op' := []) (by simp) (by rw [List.append_nil]; exact hrdf) hs.names
    exact fin _ this.rdf
end Go.Proofs.YtkaeenafejdkfaaGreatDoor

/- What a text's tree is, when all of the text is read. -/
namespace Go.Proofs.YtkaeenafejdkfaaGreatDoor
theorem readS_end {s : ByteArray} {ns : List Nd} (h : readS s = .ok ns) : Cov ns 0 ns.length ∧ WF ns ∧ (∀ (j : Nat) (n : Nd), ns[j]? = some n → n.kids.length ≤ 100000 ∧ n.attrs.length ≤ s.size) := by
  obtain ⟨op, out, hs⟩ := sim_all s.size (sim0 s) (Nat.zero_le _) (by omega) h
  refine ⟨hs.cov, hs.inv.wf, fun j n hn => ⟨?_, hs.inv.attrs j n hn⟩⟩
  have := hs.inv.wf.few hn
  omega
end Go.Proofs.YtkaeenafejdkfaaGreatDoor

/- The program: the tree of a text is grown. -/
namespace Go.Proofs.YtkaeenafejdkfaaGreatDoor
open Go.RowKit

def pObj (k : Int) (i : Int) (n t : ByteArray) (a : Option Addr) (l c : Nat) : Obj := .cells #[.int .i64 k, .int .i64 i, .string n, .string t, .slice a l c] 121 (0, 0)
/-- at the loop's head -/
def HeadAt (w0 : World) (gb tb sb : Nat) (s : ByteArray) (R : Res) (pb : Nat) (more : Bool) (g : Nat) (wr : World) : Prop :=
  (more = false ∧ g = 0 ∧ ∃ ns op i raw u M Mo, R = .ok ns ∧ LS w0 gb tb sb s i raw ns op u M Mo wr) ∨
  (more = true ∧ ∃ i raw ns op u f M Mo B k n t a l c, i < s.size ∧ g = 1 + left s i raw ∧ St s R i raw ns op u f ∧ Nx w0 gb tb sb s i raw ns op u pb M Mo B (pcv k i n t (.slice a l c)) wr ∧ wr.heap[pb]? = some (pObj k i n t a l c))
/-- the next piece is laid in a block -/
theorem head_more {w0 w2 w3 w4 : World} {gb tb sb : Nat} {s : ByteArray} {R : Res} {i : Nat} {raw : ByteArray} {ns : List Nd} {op : List Nat} {u f pb : Nat} {M Mo : Nat → Lab} {k : Int} {n t : ByteArray} {a : Option Addr} {l c : Nat} (hL : LS w0 gb tb sb s i raw ns op u M Mo w2) (hS : St s R i raw ns op u f) (hi : i < s.size)
    (hO : Only sb w2 w3) (hSc : Sc w3 sb s (pcNext s i raw).to (pcNext s i raw).raw) (hP : PcV w3 w2.heap.size (pcNext s i raw) i (pcv k i n t (.slice a l c))) (hpo : Only pb w3 w4) (hpb : w4.heap[pb]? = some (pObj k i n t a l c)) (p1 : M pb = .other) (p2 : Mo pb = .other) (p3 : pb ≠ gb) (p4 : pb ≠ sb) (p5 : w0.heap.size ≤ pb) (hfar : ∀ g, w2.heap.size ≤ g → g < w3.heap.size → g ≠ pb) :
    HeadAt w0 gb tb sb s R pb true (1 + left s i raw) w4 := by
  have hL3 := hL.scan hO hSc
  have hL4 := hL3.other hpo p1 p2 p3 p4 p5
  obtain ⟨nv, uv, ps, us, g1, _, _⟩ := hL.gs.tree
  obtain ⟨ga, gc, hg, _⟩ := hL.gs.head
  refine .inr ⟨rfl, i, raw, ns, op, u, f, M, Mo, w2.heap.size, k, n, t, a, l, c, hi, rfl, hS, ⟨hL4, lt_of_heap hg, fun x hx => ⟨g1.fresh x hx, hL.gs.fresh x hx⟩, ?_, p1, p2, p3, p4, p5⟩, hpb⟩
  obtain ⟨k', n', t', a', l', c', e, hF⟩ := hP.form
  unfold pcv at e
  simp at e
  obtain ⟨rfl, rfl, rfl, rfl, rfl, rfl⟩ := e
  exact hF w4 w2.heap.size i (Nat.le_refl _) (fun g hg1 hg2 => hpo.block g hg2 (hfar g hg1 hg2)) i rfl
theorem head_end {w0 w2 w3 w4 : World} {gb tb sb : Nat} {s : ByteArray} {R : Res} {i : Nat} {raw : ByteArray} {ns : List Nd} {op : List Nat} {u f pb : Nat} {M Mo : Nat → Lab} (hL : LS w0 gb tb sb s i raw ns op u M Mo w2) (hS : St s R i raw ns op u f) (hi : s.size ≤ i) (hO : Only sb w2 w3) (hSc : Sc w3 sb s i raw) (hpo : Only pb w3 w4) (p1 : M pb = .other) (p2 : Mo pb = .other) (p3 : pb ≠ gb) (p4 : pb ≠ sb) (p5 : w0.heap.size ≤ pb) : HeadAt w0 gb tb sb s R pb false 0 w4 :=
  .inl ⟨rfl, rfl, ns, op, i, raw, u, M, Mo, by rw [hS.res]; exact read_end hi, (hL.scan hO hSc).other hpo p1 p2 p3 p4 p5⟩
/-- the beginning -/
theorem ls_start {w w1 : World} {M1 : Nat → Lab} {tb : Nat} {nv uv : Value} (s : ByteArray) (hL : Lies w1 M1 tb nv uv [docP] []) (hM : Moved w (fun _ => .other) w1 M1) (hE : Errs w (fun _ => .other)) (m : Int) (h8 : w.cell? ⟨8, 0, none⟩ = some (.int .i64 m)) :
    LS w w1.heap.size tb (w1.heap.size + 1) s 0 ⟨#[]⟩ [docN] [] 0 M1 (fun _ => .other) ((w1.alloc (.cells #[.pointer (some ⟨tb, 0, none⟩), .slice none 0 0, .int .i64 0] 117)).alloc (.cells #[.string s, .int .i64 0, .string ⟨#[]⟩] 119)) := by
  have hsz : (w1.alloc (.cells #[.pointer (some ⟨tb, 0, none⟩), .slice none 0 0, .int .i64 0] 117)).heap.size = w1.heap.size + 1 := by simp
  have hB : Below w1.heap.size w1 ((w1.alloc (.cells #[.pointer (some ⟨tb, 0, none⟩), .slice none 0 0, .int .i64 0] 117)).alloc (.cells #[.string s, .int .i64 0, .string ⟨#[]⟩] 119)) := ((Below.refl _ _).alloc (Nat.le_refl _) _).alloc (by simp) _
  have hw8 : 8 < w.heap.size := World.block_lt_of_cell? w _ h8
  have hle := hM.size
  have hBw : Below w.heap.size w ((w1.alloc (.cells #[.pointer (some ⟨tb, 0, none⟩), .slice none 0 0, .int .i64 0] 117)).alloc (.cells #[.string s, .int .i64 0, .string ⟨#[]⟩] 119)) := ⟨hB.os.trans hM.os, hB.tape.trans hM.tape, hB.output.trans hM.output, Nat.le_trans hle hB.size, fun k hk => (hB.block k (Nat.lt_of_lt_of_le hk hle)).trans (hM.far k hk rfl)⟩
  have herr : ∀ g, errG g = true → g < w.heap.size := fun g hg => by
    obtain ⟨t, x, hc⟩ := hE.cell g hg
    exact World.block_lt_of_cell? w _ hc
  have hgb : ((w1.alloc (.cells #[.pointer (some ⟨tb, 0, none⟩), .slice none 0 0, .int .i64 0] 117)).alloc (.cells #[.string s, .int .i64 0, .string ⟨#[]⟩] 119)).heap[w1.heap.size]? = some (.cells #[.pointer (some ⟨tb, 0, none⟩), .slice none 0 0, .int .i64 0] 117 (0, 0)) := by
    rw [Below.heap_alloc _ _ _ (by omega)]; exact heap_alloc_new w1 _
  have hsb : ((w1.alloc (.cells #[.pointer (some ⟨tb, 0, none⟩), .slice none 0 0, .int .i64 0] 117)).alloc (.cells #[.string s, .int .i64 0, .string ⟨#[]⟩] 119)).heap[w1.heap.size + 1]? = some (.cells #[.string s, .int .i64 0, .string ⟨#[]⟩] 119 (0, 0)) := by
    rw [← hsz]; exact heap_alloc_new _ _
  refine ⟨⟨⟨nv, uv, [docP], [], hL.below hB, rfl, Nat.le_refl _⟩, ⟨none, 0, hgb, Row.nil _ _ _ _ _⟩, hL.fresh _ (Nat.le_refl _), rfl, fun k hk => absurd rfl hk, fun _ _ => rfl, (hE.moved hM).below hB, fun g hg => ⟨rfl, by have := herr g hg; omega⟩⟩, ⟨hsb, by omega, m, (hBw.cell (p := ⟨8, 0, none⟩) hw8).trans h8⟩, hL.fresh _ (by omega), rfl, by omega, hBw, fun k hk => ⟨hM.lab k hk, rfl⟩, hle, by omega, herr, hw8⟩

set_option maxHeartbeats 8000000 in
set_option maxRecDepth 100000 in
theorem grow_any {w : World} (s : ByteArray) (hs : s.size ≤ 20000) (m8 : Int) (h8 : w.cell? ⟨8, 0, none⟩ = some (.int .i64 m8)) (hE : Errs w (fun _ => .other)) (bv : Value) (hbv : w.cell? ⟨0, 0, none⟩ = some bv) :
    Calls Tryz.prog 31 #[.string s] w (GrowPost w bv (readS s)) := by
  have hst := St.start s
  obtain ⟨R, hR⟩ : ∃ R, R = readS s := ⟨_, rfl⟩
  rw [← hR] at hst ⊢
  have HST := hid hst
  have HE := hid hE
  have HB := hid hbv
  have H8 := hid h8
  clear hR hE hbv h8 hst
  go_enter Tryz.func31, Tryz.ntmps31
  go_wp2_with fail
  refine (new_any w).mono ?_
  rintro e w1 ⟨tb, nv, uv, M1, rfl, hL1, hM1⟩
  have HL := hid (ls_start s hL1 hM1 HE.out m8 H8.out)
  have hwle : w.heap.size ≤ w1.heap.size := hM1.size
  have HFR := hid hL1.fresh
  clear hL1 hM1
  go_upto_region 3 with fail
  obtain ⟨gb, hgb⟩ : ∃ gb, gb = w1.heap.size := ⟨_, rfl⟩
  obtain ⟨sb, hsb⟩ : ∃ sb, sb = gb + 1 := ⟨_, rfl⟩
  have hw2 : ((w1.alloc (.cells #[.pointer (some ⟨tb, 0, none⟩), .slice none 0 0, .int .i64 0] 117)).alloc (.cells #[.string s, .int .i64 0, .string ⟨#[]⟩] 119)).heap.size = w1.heap.size + 1 + 1 := by simp
  generalize ((w1.alloc (.cells #[.pointer (some ⟨tb, 0, none⟩), .slice none 0 0, .int .i64 0] 117)).alloc (.cells #[.string s, .int .i64 0, .string ⟨#[]⟩] 119)) = w2 at *
  rw [← hgb, ← hsb] at HL ⊢
  have hq1 : gb < w2.heap.size := by omega
  have hq2 : sb < w2.heap.size := by omega
  have hq3 : w.heap.size ≤ gb := by omega
  have hq4 : w1.heap.size ≤ w2.heap.size := by omega
  clear hgb hsb hw2
  go_cut [5, 6] (fun s5 s6 wx => ∃ pb b g, s5 = .pointer (some ⟨pb, 0, none⟩) ∧ s6 = .bool b ∧ Hid (HeadAt w gb tb sb s R pb b g wx))
  case first =>
    by_cases hi : 0 < s.size
    · go_wp2_with fail
      refine (next_any HL.out.sc (by omega) (Nat.zero_le _) (Nat.zero_le _)).mono ?_
      intro e w3 hpost
      unfold NextPost at hpost
      rw [if_pos hi] at hpost
      obtain ⟨v, rfl, hPV, hO3, hS3⟩ := hpost
      obtain ⟨k, n, t, a, l, c, rfl, hF⟩ := hPV.form
      have hsz3 : w2.heap.size ≤ w3.heap.size := hO3.size
      have HH : Hid (HeadAt w gb tb sb s R w3.heap.size true (1 + left s 0 ⟨#[]⟩) (w3.alloc (pObj k 0 n t a l c))) := head_more HL.out HST.out hi hO3 hS3 hPV (Only.alloc _) (heap_alloc_new w3 _) (HFR.out _ (by omega)) rfl (by omega) (by omega) (by omega) (fun g _ h => by omega)
      clear hPV hO3 hS3 hF
      unfold pcv
      go_wp2_with fail
      go_meet
      exact ⟨_, _, _, rfl, rfl, HH⟩
    · have hz : s.size = 0 := by omega
      have HL2 : Hid (SC w2 sb s s.size ⟨#[]⟩) := by show SC _ _ _ _ _; rw [hz]; exact HL.out.sc
      go_wp2_with fail
      refine (next_end HL2.out).mono ?_
      rintro e w3 ⟨rfl, hO3, hS3⟩
      rw [hz] at hS3
      have hsz3 : w2.heap.size ≤ w3.heap.size := hO3.size
      have HH : Hid (HeadAt w gb tb sb s R w3.heap.size false 0 (w3.alloc (pObj 0 0 ⟨#[]⟩ ⟨#[]⟩ none 0 0))) := head_end HL.out HST.out (by omega) hO3 hS3 (Only.alloc _) (HFR.out _ (by omega)) rfl (by omega) (by omega) (by omega)
      clear hO3 hS3
      unfold pcv
      go_wp2_with fail
      go_meet
      exact ⟨_, _, _, rfl, rfl, HH⟩
  case rest =>
  obtain ⟨w4, hw4⟩ : ∃ w9, w9 = wc := ⟨_, rfl⟩
  subst hw4
  obtain ⟨pb, b, g0, hs5, hs6, HH⟩ := hcut
  subst hs5
  subst hs6
  clear HL HST HFR
  go_wp2_with fail
  go_loopg [5, 6] g0 (fun g v5 v6 wr => ∃ pb b, v5 = .pointer (some ⟨pb, 0, none⟩) ∧ v6 = .bool b ∧ Hid (HeadAt w gb tb sb s R pb b g wr))
  case atStart => exact ⟨pb, b, rfl, rfl, HH⟩
  case round =>
    obtain ⟨pb, b, rfl, rfl, HR⟩ := hrel
    rcases HR.out with ⟨hb, hg, ns, op, i, raw, u, M, Mo, hRes, hLS⟩ | ⟨hb, i, raw, ns, op, u, f, M, Mo, B, k, n, t, a, l, c, hi, hg, hST, hNX, hPB⟩
    · subst hb
      obtain ⟨ga, gc, hgh, _⟩ := hLS.gs.head
      obtain ⟨e0, e1, e2, ef⟩ := three_cells hgh
      obtain ⟨nv', uv', ps, us, hL, hn, _⟩ := hLS.gs.tree
      have HL := hid hL
      have HLS := hid hLS
      have HN := hid hn
      have hgl := lt_of_heap hgh
      have HRS := hid hRes
      clear hgh hL hLS hg hn hRes
      go_wp2_with fail
      refine (settle_any HL.out).mono ?_
      rintro e w5 ⟨rfl, hL5, hm5⟩
      have hg5 : w5.cell? ⟨gb, 0, none⟩ = some (.pointer (some ⟨tb, 0, none⟩)) := (World.cell?_of_block (a := ⟨gb, 0, none⟩) (hm5.far gb hgl HLS.out.gs.gm)).trans e0
      have H5 := hid (And.intro hL5 hm5)
      clear hL5 hm5
      go_wp2_with fail
      go_ret
      rw [HRS.out]
      have hb := HLS.out.bel
      exact ⟨tb, M, _, _, ps, rfl, H5.out.1, HN.out, ⟨H5.out.2.os.trans hb.os, H5.out.2.tape.trans hb.tape, H5.out.2.output.trans hb.output, Nat.le_trans hb.size H5.out.2.size, fun k hk => (H5.out.2.lab k (Nat.lt_of_lt_of_le hk hb.size)).trans (HLS.out.low k hk).1, fun k hk _ => (H5.out.2.far k (Nat.lt_of_lt_of_le hk hb.size) (HLS.out.low k hk).1).trans (hb.block k hk)⟩⟩
    · subst hb
      obtain ⟨d0, d1, d2, d3, d4, df⟩ := five_cells hPB
      have hbw := HB.out
      have hel : 0 < w.heap.size := World.block_lt_of_cell? w _ hbw
      have htake := ptake_any hNX.ls.gs hST.inv (by have := hST.few; have := hST.le; omega) hNX.pv (next_ok hs hi) ⟨hNX.gB, hNX.free⟩ bv ((hNX.ls.bel.cell (p := ⟨0, 0, none⟩) hel).trans hbw)
      unfold pcv at htake
      have HT := hid htake
      have HX := hid hNX
      have HP := hid hPB
      have HS := hid hST
      have HG := hid hg
      clear htake hNX hPB hST hbw hg
      go_wp2_with fail
      refine HT.out.mono ?_
      intro e w5 hout
      clear d0 d1 d2 d3 d4 df HT
      cases hpm : pieceM ns op (pcNext s i raw) with
      | none =>
        rw [hpm] at hout
        obtain ⟨⟨fb, rfl, hfb⟩, M5, Mo5, hV5⟩ := hout
        have hRb := HS.out.bad hi hpm
        rw [hRb]
        exact ⟨rfl, ⟨fb, rfl, hfb⟩, (HX.out.ls.lowAfter hV5).1⟩
      | some x =>
        obtain ⟨ns', op'⟩ := x
        rw [hpm] at hout
        obtain ⟨rfl, M5, Mo5, hG5, hV5⟩ := hout
        obtain ⟨⟨f', hST5⟩, hleft⟩ := HS.out.next hi hpm
        have hL5 := HX.out.ls.grown hG5 hV5
        obtain ⟨hpk, hpm5, hpo5⟩ := hV5.keep pb (lt_of_heap HP.out) HX.out.pM HX.out.pMo HX.out.pg
        have hpb5 := hpk.trans HP.out
        unfold pObj at hpb5
        obtain ⟨d0, d1, d2, d3, d4, df⟩ := five_cells hpb5
        have hB6 : Below w5.heap.size w5 (w5.alloc (pObj k i n t a l c)) := (Below.refl _ _).alloc (Nat.le_refl _) _
        have hL6 := hL5.below hB6
        have hfr5 : M5 w5.heap.size = .other ∧ Mo5 w5.heap.size = .other := by
          obtain ⟨_, _, _, _, q1, _, _⟩ := hL5.gs.tree
          exact ⟨q1.fresh _ (Nat.le_refl _), hL5.gs.fresh _ (Nat.le_refl _)⟩
        obtain ⟨ga5, gc5, hgh5, _⟩ := hL5.gs.head
        have hng : w5.heap.size ≠ gb := by have := lt_of_heap hgh5; omega
        have hns : w5.heap.size ≠ sb := by have := hL5.sc.sc.lt; omega
        have hnl : w.heap.size ≤ w5.heap.size := hL5.bel.size
        have hnew := heap_alloc_new w5 (pObj k i n t a l c)
        have hsz6 : (w5.alloc (pObj k i n t a l c)).heap.size = w5.heap.size + 1 := by simp
        have HL6 := hid hL6
        have HS5 := hid hST5
        have HLT := hid hleft
        have HFR := hid hfr5
        have HNEW := hid hnew
        clear hG5 hV5 hL5 hL6 hST5 hleft hpk hpm5 hpo5 hpb5 hB6 hfr5 hgh5 hnew HX HP HS
        generalize (pcNext s i raw).to = i2 at *
        generalize (pcNext s i raw).raw = raw2 at *
        go_wp2_with fail
        obtain ⟨pb6, hpb6⟩ : ∃ pb6, pb6 = w5.heap.size := ⟨_, rfl⟩
        rw [← hpb6] at HFR HNEW hng hns hnl hsz6 ⊢
        change Calls _ _ _ (w5.alloc (pObj k i n t a l c)) _
        generalize w5.alloc (pObj k i n t a l c) = w6 at *
        clear hpb6 d0 d1 d2 d3 d4 df
        by_cases hi2 : i2 < s.size
        · refine (next_any HL6.out.sc (by omega) (Nat.le_of_lt hi2) HS5.out.raw).mono ?_
          intro e w7 hpost
          unfold NextPost at hpost
          rw [if_pos hi2] at hpost
          obtain ⟨v, rfl, hPV, hO7, hS7⟩ := hpost
          obtain ⟨k2, n2, t2, a2, l2, c2, rfl, hF⟩ := hPV.form
          have hp7 := (hO7.block pb6 (by omega) hns).trans HNEW.out
          unfold pObj at hp7
          obtain ⟨r0, r1, r2, r3, r4, rf⟩ := five_cells hp7
          have hO8 : Only pb6 w7 (((((w7.setCell ⟨pb6, 0, none⟩ (.int .i64 k2)).setCell ⟨pb6, 1, none⟩ (.int .i64 i2)).setCell ⟨pb6, 2, none⟩ (.string n2)).setCell ⟨pb6, 3, none⟩ (.string t2)).setCell ⟨pb6, 4, none⟩ (.slice a2 l2 c2)) := (((((Only.refl _ _).set _ _).set _ _).set _ _).set _ _).set _ _
          have hp8 : (((((w7.setCell ⟨pb6, 0, none⟩ (.int .i64 k2)).setCell ⟨pb6, 1, none⟩ (.int .i64 i2)).setCell ⟨pb6, 2, none⟩ (.string n2)).setCell ⟨pb6, 3, none⟩ (.string t2)).setCell ⟨pb6, 4, none⟩ (.slice a2 l2 c2)).heap[pb6]? = some (pObj k2 i2 n2 t2 a2 l2 c2) := by
            unfold pObj
            simp [World.setCell, Array.getElem?_modify, hp7]
          have HH8 := hid (head_more HL6.out HS5.out hi2 hO7 hS7 hPV hO8 hp8 HFR.out.1 HFR.out.2 hng hns hnl (fun g h1 _ => by omega))
          clear hPV hO7 hS7 hF hp7 hO8 hp8
          unfold pcv
          go_wp2_with fail
          go_roundg (1 + left s i2 raw2)
          case measure => have := HLT.out; have := HG.out; omega
          case rel => exact ⟨pb6, true, rfl, rfl, HH8⟩
        · have hz : i2 = s.size := by have := HS5.out.le; omega
          subst hz
          refine (next_end HL6.out.sc).mono ?_
          rintro e w7 ⟨rfl, hO7, hS7⟩
          have hp7 := (hO7.block pb6 (by omega) hns).trans HNEW.out
          unfold pObj at hp7
          obtain ⟨r0, r1, r2, r3, r4, rf⟩ := five_cells hp7
          have hO8 : Only pb6 w7 (((((w7.setCell ⟨pb6, 0, none⟩ (.int .i64 0)).setCell ⟨pb6, 1, none⟩ (.int .i64 0)).setCell ⟨pb6, 2, none⟩ (.string ⟨#[]⟩)).setCell ⟨pb6, 3, none⟩ (.string ⟨#[]⟩)).setCell ⟨pb6, 4, none⟩ (.slice none 0 0)) := (((((Only.refl _ _).set _ _).set _ _).set _ _).set _ _).set _ _
          have HH8 := hid (head_end HL6.out HS5.out (Nat.le_refl _) hO7 hS7 hO8 HFR.out.1 HFR.out.2 hng hns hnl)
          clear hO7 hS7 hp7 hO8
          unfold pcv
          go_wp2_with fail
          go_roundg 0
          case measure => have := HG.out; omega
          case rel => exact ⟨pb6, false, rfl, rfl, HH8⟩
end Go.Proofs.YtkaeenafejdkfaaGreatDoor
