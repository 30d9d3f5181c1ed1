/- The program: what lies in memory at the head of the loop that reads a text. -/
import Derived.Test.YtkaeenafejdkfaaGreatDoorM35
import Derived.Test.YtkaeenafejdkfaaGreatDoorM33
import Derived.Test.YtkaeenafejdkfaaGreatDoorM26
namespace Go.Proofs.YtkaeenafejdkfaaGreatDoor
open Go.RowKit

/-- what growing answers -/
def GrowPost (w0 : World) (bv : Value) (R : Res) (e : Ending) (w' : World) : Prop := match R with
  | .ok ns => ∃ tb M nv uv ps, e = .returned (.pointer (some ⟨tb, 0, none⟩)) ∧ Lies w' M tb nv uv ps [] ∧ nodesOf ps = ns ∧ Moved w0 (fun _ => .other) w' M
  | .bad i => Thrown i bv e w' ∧ Below w0.heap.size w0 w'
/-- a state: what is still to be read -/
structure St (s : ByteArray) (R : Res) (i : Nat) (raw : ByteArray) (ns : List Nd) (op : List Nat) (u f : Nat) : Prop where
  res : R = rawThen (readF f s) s i raw ns op
  fuel : s.size - i ≤ f
  le : i ≤ s.size
  inv : Inv ns op i
  few : u + (if raw = ⟨#[]⟩ then 0 else 2) ≤ 6 * i
  raw : raw.size ≤ 100
/-- the piece that comes next lies in a block -/
structure Nx (w0 : World) (gb tb sb : Nat) (s : ByteArray) (i : Nat) (raw : ByteArray) (ns : List Nd) (op : List Nat) (u : Nat) (pb : Nat) (M Mo : Nat → Lab) (B : Nat) (v : Value) (wr : World) : Prop where
  ls : LS w0 gb tb sb s (pcNext s i raw).to (pcNext s i raw).raw ns op u M Mo wr
  gB : gb < B
  free : ∀ x, B ≤ x → M x = .other ∧ Mo x = .other
  pv : PcV wr B (pcNext s i raw) i v
  pM : M pb = .other
  pMo : Mo pb = .other
  pg : pb ≠ gb
  ps : pb ≠ sb
  pl : w0.heap.size ≤ pb
theorem LS.other {w0 wr w1 : World} {gb tb sb : Nat} {s : ByteArray} {i : Nat} {raw : ByteArray} {ns : List Nd} {op : List Nat} {u : Nat} {M Mo : Nat → Lab} (h : LS w0 gb tb sb s i raw ns op u M Mo wr) {pb : Nat} (ho : Only pb wr w1) (p1 : M pb = .other) (p2 : Mo pb = .other) (p3 : pb ≠ gb) (p4 : pb ≠ sb) (p5 : w0.heap.size ≤ pb) : LS w0 gb tb sb s i raw ns op u M Mo w1 := by
  have he : errG pb = false := by
    cases he : errG pb
    · rfl
    · have := h.err pb he; omega
  have hS : Sc w1 sb s i raw := by
    have := h.sc.sc
    unfold Sc at this ⊢
    rw [ho.block sb h.sc.sc.lt (Ne.symm p4)]; exact this
  obtain ⟨m, hm⟩ := h.sc.max
  have h8 := h.eight
  have hs := h.bel.size
  exact ⟨h.gs.only ho p1 p2 p3 he, ⟨hS, h.sc.ne, m, (World.cell?_of_block (a := ⟨8, 0, none⟩) (ho.block 8 (by omega) (by omega))).trans hm⟩, h.sM, h.sMo, h.sg, ⟨ho.os.trans h.bel.os, ho.tape.trans h.bel.tape, ho.output.trans h.bel.output, Nat.le_trans h.bel.size ho.size, fun k hk => (ho.block k (by omega) (by omega)).trans (h.bel.block k hk)⟩, h.low, h.gl, h.sl, h.err, h.eight⟩
theorem read_end {s : ByteArray} {i f : Nat} {raw : ByteArray} {ns : List Nd} {op : List Nat} (hi : s.size ≤ i) : rawThen (readF f s) s i raw ns op = .ok ns := by
  have hk : readF f s i ns op = .ok ns := by
    cases f with
    | zero => rfl
    | succ f => unfold readF; rw [if_neg (by omega)]
  unfold rawThen
  split
  · exact hk
  · rw [rawE_end hi, if_pos rfl]; exact hk
/-- how much is left -/
def left (s : ByteArray) (i : Nat) (raw : ByteArray) : Nat := 2 * (s.size - i) + (if raw = ⟨#[]⟩ then 0 else 1)
theorem raw_small (s : ByteArray) (i : Nat) : (pieceP nameB s i).raw.size ≤ 100 := by
  cases h : pieceP nameB s i with
  | start n l e =>
    show (if rawB n = true then n else (⟨#[]⟩ : ByteArray)).size ≤ 100
    split
    · rename_i hr; exact (rawB_size hr).1
    · exact Nat.zero_le _
  | text t e => exact Nat.zero_le _
  | com t e => exact Nat.zero_le _
  | none e => exact Nat.zero_le _
  | fin n e => exact Nat.zero_le _
theorem cnt_le {s : ByteArray} {i : Nat} {pc : Pc} (h : PcFact s i pc) : pc.cnt ≤ pc.to - i := by
  cases pc with
  | start n l e => exact h.2.2.1
  | text t e => exact Nat.zero_le _
  | com t e => exact Nat.zero_le _
  | none e => exact Nat.zero_le _
  | fin n e => exact Nat.zero_le _
theorem pc_ok {s : ByteArray} {i : Nat} {pc : Pc} (h : PcFact s i pc) (hs : s.size ≤ 20000) : PcOk i pc := by
  obtain ⟨h1, h2, h3⟩ := h
  cases pc with
  | start n l e => exact ⟨Nat.le_trans h3.1 (Nat.le_trans (Nat.sub_le _ _) (Nat.le_trans h2 hs)), fun x hx => ⟨(h3.2 x hx).1, Nat.le_trans (h3.2 x hx).2 hs⟩⟩
  | text t e => exact ⟨Nat.le_of_lt h1, Nat.le_trans h2 hs, h3⟩
  | com t e => exact Nat.le_trans h3 hs
  | none e => trivial
  | fin n e => trivial
theorem pcNext_empty (s : ByteArray) (i : Nat) : pcNext s i ⟨#[]⟩ = pieceP nameB s i := by unfold pcNext; rw [if_pos rfl]
theorem pcNext_raw {s : ByteArray} {i : Nat} {raw : ByteArray} (h : raw ≠ ⟨#[]⟩) : pcNext s i raw = pcRaw s i raw := by unfold pcNext; rw [if_neg h]
theorem next_ok {s : ByteArray} {i : Nat} {raw : ByteArray} (hs : s.size ≤ 20000) (hi : i < s.size) : PcOk i (pcNext s i raw) := by
  by_cases hr : raw = ⟨#[]⟩
  · subst hr; rw [pcNext_empty]; exact pc_ok (piece_fact hi) hs
  · rw [pcNext_raw hr]
    obtain ⟨e, he, h1, h2, _, _⟩ := rawE_is s raw i (Nat.le_of_lt hi)
    unfold pcRaw
    rw [he]
    split
    · trivial
    · exact ⟨h1, Nat.le_trans h2 hs, by rw [ByteArray.size_extract]; omega⟩
/-- a piece was taken -/
theorem St.next {s : ByteArray} {R : Res} {i : Nat} {raw : ByteArray} {ns ns' : List Nd} {op op' : List Nat} {u f : Nat} (h : St s R i raw ns op u f) (hi : i < s.size) (hm : pieceM ns op (pcNext s i raw) = some (ns', op')) : (∃ f', St s R (pcNext s i raw).to (pcNext s i raw).raw ns' op' (u + 2 + (pcNext s i raw).cnt) f') ∧ left s (pcNext s i raw).to (pcNext s i raw).raw < left s i raw := by
  have hfew := h.few
  by_cases hr : raw = ⟨#[]⟩
  · subst hr
    rw [pcNext_empty] at hm ⊢
    have hf := piece_fact hi
    have hc := cnt_le hf
    have h1 := hf.1
    have h2 := hf.2.1
    have hfu := h.fuel
    rw [if_pos rfl] at hfew
    obtain ⟨f', rfl⟩ : ∃ f', f = f' + 1 := ⟨f - 1, by omega⟩
    refine ⟨⟨f', ⟨?_, by omega, h2, piece_inv h.inv hf (com_fact hi) hm, ?_, raw_small s i⟩⟩, ?_⟩
    · rw [h.res]
      unfold rawThen
      rw [if_pos rfl]
      rw [readF, if_pos hi, hm]
      rfl
    · split <;> omega
    · unfold left
      rw [if_pos rfl]
      split <;> omega
  · rw [pcNext_raw hr] at hm ⊢
    rw [if_neg hr] at hfew
    obtain ⟨e, he, h1, h2, _, _⟩ := rawE_is s raw i (Nat.le_of_lt hi)
    have hres := h.res
    unfold rawThen at hres
    rw [if_neg hr, he] at hres
    unfold pcRaw at hm ⊢
    rw [he] at hm ⊢
    have hfu := h.fuel
    by_cases hei : e = i
    · rw [if_pos hei] at hm hres ⊢
      simp [pieceM] at hm
      obtain ⟨rfl, rfl⟩ := hm
      refine ⟨⟨f, ⟨?_, hfu, h.le, h.inv, ?_, Nat.zero_le _⟩⟩, ?_⟩
      · rw [hres]
        unfold rawThen
        show _ = if (⟨#[]⟩ : ByteArray) = ⟨#[]⟩ then _ else _
        rw [if_pos rfl]
        rfl
      · show u + 2 + 0 + (if (⟨#[]⟩ : ByteArray) = ⟨#[]⟩ then 0 else 2) ≤ 6 * i
        rw [if_pos rfl]; omega
      · unfold left
        show 2 * (s.size - i) + (if (⟨#[]⟩ : ByteArray) = ⟨#[]⟩ then 0 else 1) < _
        rw [if_pos rfl, if_neg hr]; omega
    · rw [if_neg hei] at hm hres ⊢
      unfold pieceM at hm
      simp only [Option.map_eq_some_iff] at hm
      obtain ⟨x, hx, e1⟩ := hm
      simp at e1
      obtain ⟨rfl, rfl⟩ := e1
      rw [hx] at hres
      refine ⟨⟨f, ⟨?_, by show s.size - e ≤ f; omega, h2, (text_inv (e := e) h.inv h1 (by rw [ByteArray.size_extract]; omega) hx), ?_, Nat.zero_le _⟩⟩, ?_⟩
      · rw [hres]
        unfold rawThen
        show _ = if (⟨#[]⟩ : ByteArray) = ⟨#[]⟩ then _ else _
        rw [if_pos rfl]
        rfl
      · show u + 2 + 0 + (if (⟨#[]⟩ : ByteArray) = ⟨#[]⟩ then 0 else 2) ≤ 6 * e
        rw [if_pos rfl]; omega
      · unfold left
        show 2 * (s.size - e) + (if (⟨#[]⟩ : ByteArray) = ⟨#[]⟩ then 0 else 1) < _
        rw [if_pos rfl, if_neg hr]; omega
/-- a piece was one too many -/
theorem St.bad {s : ByteArray} {R : Res} {i : Nat} {raw : ByteArray} {ns : List Nd} {op : List Nat} {u f : Nat} (h : St s R i raw ns op u f) (hi : i < s.size) (hm : pieceM ns op (pcNext s i raw) = none) : R = .bad i := by
  by_cases hr : raw = ⟨#[]⟩
  · subst hr
    rw [pcNext_empty] at hm
    have hfu := h.fuel
    obtain ⟨f', rfl⟩ : ∃ f', f = f' + 1 := ⟨f - 1, by omega⟩
    rw [h.res]
    unfold rawThen
    rw [if_pos rfl]
    rw [readF, if_pos hi, hm]
  · rw [pcNext_raw hr] at hm
    have hres := h.res
    unfold rawThen at hres
    unfold pcRaw at hm
    rw [if_neg hr] at hres
    by_cases hei : rawE s raw i = i
    · rw [if_pos hei] at hm
      simp [pieceM] at hm
    · rw [if_neg hei] at hm hres
      unfold pieceM at hm
      simp only [Option.map_eq_none_iff] at hm
      rw [hm] at hres
      exact hres
theorem St.start (s : ByteArray) : St s (readS s) 0 ⟨#[]⟩ [docN] [] 0 s.size := by
  refine ⟨?_, by omega, Nat.zero_le _, inv0, by rw [if_pos rfl]; omega, Nat.zero_le _⟩
  unfold readS rawThen
  rw [if_pos rfl]
end Go.Proofs.YtkaeenafejdkfaaGreatDoor

/- The document's builder: a round of the reading, as plain mathematics and contracts. -/
namespace Go.Proofs.YtkaeenafejdkfaaGreatDoor
open Go.RowKit

theorem raw_name {n : ByteArray} (h : rawB n = true) : nameB n = true := by
  unfold rawB at h
  rw [Bool.or_eq_true, beq_iff_eq, beq_iff_eq] at h
  rcases h with h | h <;> (rw [← eq_list] at h; subst h; decide)
theorem meantL_ne : ∀ (f : Nat) (l : List UInt8), l ≠ [] → l.length ≤ f → meantL f l ≠ []
  | 0, l, h, hf => absurd (List.eq_nil_of_length_eq_zero (by omega)) h
  | _ + 1, [], h, _ => absurd rfl h
  | f + 1, c :: l, _, _ => by
    unfold meantL
    split
    · split
      · rename_i r n hr
        intro e
        rw [List.append_eq_nil_iff] at e
        have e := e.1
        unfold runeL at e
        split at e
        · cases e
        · split at e
          · cases e
          · split at e <;> cases e
      · simp
    · simp
theorem meantS_ne {s : ByteArray} (h : 0 < s.size) : meantS s ≠ ⟨#[]⟩ := by
  intro e
  have e2 : (meant s.data.toList) = [] := by
    have := congrArg (fun x : ByteArray => x.data.toList) e
    simpa [meantS] using this
  have h3 : s.data.toList ≠ [] := by
    intro e3
    have : s.data.toList.length = s.size := by simp
    rw [e3] at this
    simp at this
    omega
  exact meantL_ne _ _ h3 (Nat.le_refl _) e2
theorem text_ne {s : ByteArray} {i : Nat} (hi : i < s.size) {t : ByteArray} {k : Nat} (h : pieceP nameB s i = .text t k) : t ≠ ⟨#[]⟩ := by
  unfold pieceP at h
  split at h
  · cases h
    have h1 := wordN_le s (i + 1)
    have h2 := wordN_size s (i + 1) hi
    exact meantS_ne (by rw [ByteArray.size_extract]; omega)
  · split at h
    · split at h <;> cases h
    · split at h
      · split at h <;> cases h
      · split at h
        · split at h <;> cases h
        · unfold startP at h
          simp only at h
          split at h <;> cases h

/-- a start tag on a builder -/
def BStarted (B : World) (bb : Nat) (ns : List Nd) (op : List Nat) (U : Nat) (name : ByteArray) (l : List (ByteArray × ByteArray)) (fr k : Nat) (w : World) (M : Nat → Lab) (w' : World) : Prop :=
  Far w M w' ∧ ∃ M' ns' op' c' a', BAt B bb ns' (inn op') c' a' (U + 2) w' M' ∧ Inv ns' op' k ∧ ((c' = 0 ∧ startM ns op name l = some (ns', op')) ∨ (c' = 2 ∧ a' = (fr : Int) ∧ startM ns op name l = none))
theorem bstart_any {B w : World} {bb U : Nat} {ns : List Nd} {a : Int} {M : Nat → Lab} {op : List Nat} {i k : Nat} (h : BAt B bb ns (inn op) 0 a U w M) (hI : Inv ns op i) (hU : U ≤ 1000000) (name : ByteArray) (hn : nameB name = true) (hns : name.size ≤ 100000) (l : List (ByteArray × ByteArray)) (av : Value) (hA : AttrsV B w M av (firsts l)) (hik : i ≤ k) (hk : k ≤ 20000) (hll : l.length ≤ k) (fr : Nat) :
    Calls Tryz.prog 27 #[.pointer (some ⟨bb, 0, none⟩), rpv kStart fr k name noS av] w fun e w' => e = .returned (.tuple #[]) ∧ BStarted B bb ns op U name l fr k w M w' := by
  have hfl := firsts_le l
  have hIR : Inv ns (opAfter ns op name) i := hI.shut _ _
  by_cases hl : ns.length < 400
  · refine (bstart_good h hI (by omega) hU hl name hn (firsts l) av hA (by omega) fr k).mono ?_
    rintro e w' ⟨rfl, hF, M', hB⟩
    refine ⟨rfl, hF, M', _, _, 0, a, hB, ?_, .inl ⟨rfl, by unfold startM; rw [if_pos hl]⟩⟩
    have h5 := hIR.mono hik
    unfold opThen
    split
    · rename_i hst
      rw [Bool.and_eq_true, decide_eq_true_eq] at hst
      exact h5.open hl (elN name (firsts l)) rfl rfl (Nat.zero_le _) (Nat.le_trans hfl hll) rfl hst.2
    · exact h5.add hl (elN name (firsts l)) rfl rfl (Nat.zero_le _) (Nat.le_trans hfl hll)
  · have := hI.wf.len
    refine (bstart_bad h hI (by omega) name hn hns (firsts l) av hA fr k).mono ?_
    rintro e w' ⟨rfl, hF, hB⟩
    exact ⟨rfl, hF, M, ns, _, 2, fr, hB.mono (by omega), hIR.mono hik, .inr ⟨rfl, rfl, by unfold startM; rw [if_neg hl]⟩⟩

/-- a text on a builder -/
def BSaid (B : World) (bb : Nat) (ns : List Nd) (op : List Nat) (c a : Int) (U : Nat) (t : ByteArray) (fr k : Nat) (w : World) (M : Nat → Lab) (w' : World) : Prop :=
  ∃ M' ns' c' a', Moved w M w' M' ∧ BAt B bb ns' (inn op) c' a' (U + 2) w' M' ∧ Inv ns' op k ∧ ((t = ⟨#[]⟩ ∧ ns' = ns ∧ c' = c ∧ a' = a) ∨ (t ≠ ⟨#[]⟩ ∧ textM ns (inn op) t = some ns' ∧ c' = c ∧ a' = a) ∨ (t ≠ ⟨#[]⟩ ∧ textM ns (inn op) t = none ∧ c' = (if c = 0 then 2 else c) ∧ a' = (if c = 0 then (fr : Int) else a)))
theorem btext_all {B w : World} {bb U : Nat} {ns : List Nd} {c a : Int} {M : Nat → Lab} {op : List Nat} {i k : Nat} (h : BAt B bb ns (inn op) c a U w M) (hI : Inv ns op i) (hU : U ≤ 1000000) (hik : i ≤ k) (hk : k ≤ 20000) (t : ByteArray) (ht : t.size ≤ k - i) (fr : Nat) :
    Calls Tryz.prog 23 #[.pointer (some ⟨bb, 0, none⟩), .string t, .int .i64 fr] w fun e w' => e = .returned (.tuple #[]) ∧ BSaid B bb ns op c a U t fr k w M w' := by
  by_cases hte : t = ⟨#[]⟩
  · subst hte
    refine (btext_nil h hI fr).mono ?_
    rintro e w' ⟨rfl, h1, h2⟩
    exact ⟨rfl, M, ns, c, a, h2, h1.mono (by omega), hI.mono hik, .inl ⟨rfl, rfl, rfl, rfl⟩⟩
  · refine (btext_any h hI (by omega) hU t hte (by omega) fr).mono ?_
    rintro e w' ⟨rfl, M', h2, h3⟩
    cases hR : textM ns (inn op) t with
    | some ns' =>
      rw [hR] at h3
      exact ⟨rfl, M', ns', c, a, h2, h3, text_inv hI hik ht hR, .inr (.inl ⟨hte, hR, rfl, rfl⟩)⟩
    | none =>
      rw [hR] at h3
      exact ⟨rfl, M', ns, _, _, h2, h3, hI.mono hik, .inr (.inr ⟨hte, hR, rfl, rfl⟩)⟩

/-- a builder at the loop's head -/
def BR (W : World) (bb : Nat) (s : ByteArray) (R : Res) (i : Nat) (c a : Int) (w : World) : Prop :=
  ∃ ns op U M, BAt W bb ns (inn op) c a U w M ∧ Inv ns op i ∧ U ≤ 4 * i ∧ ((c = 0 ∧ ∃ f, R = readF f s i ns op ∧ s.size - i ≤ f) ∨ (c = 2 ∧ ∃ z : Nat, a = z ∧ R = .bad z))
theorem read_step {s : ByteArray} {f i : Nat} {ns : List Nd} {op : List Nat} (hi : i < s.size) : readF (f + 1) s i ns op = (match pieceM ns op (pieceP nameB s i) with
      | none => .bad i
      | some (ns', op') => rawThen (readF f s) s (pieceP nameB s i).to (pieceP nameB s i).raw ns' op') := by
  rw [readF, if_pos hi]
  cases pieceM ns op (pieceP nameB s i) <;> rfl
theorem rawThen_no {k : Nat → List Nd → List Nat → Res} {s : ByteArray} {i : Nat} {ns : List Nd} {op : List Nat} : rawThen k s i ⟨#[]⟩ ns op = k i ns op := by
  unfold rawThen; rw [if_pos rfl]
theorem br_go {W w' : World} {bb : Nat} {s : ByteArray} {R : Res} {i f U' : Nat} {ns ns' : List Nd} {op op' : List Nat} {a : Int} {M' : Nat → Lab} (hi : i < s.size) (hI : Inv ns op i) (hR : R = readF f s i ns op) (hf : s.size - i ≤ f) (hp : pieceM ns op (pieceP nameB s i) = some (ns', op')) (hraw : (pieceP nameB s i).raw = ⟨#[]⟩) (hB : BAt W bb ns' (inn op') 0 a U' w' M') (hU : U' ≤ 4 * (pieceP nameB s i).to) : BR W bb s R (pieceP nameB s i).to 0 a w' := by
  have hfact := piece_fact hi
  cases f with
  | zero => omega
  | succ f =>
    rw [read_step hi, hp] at hR
    simp only [hraw, rawThen_no] at hR
    have := hfact.1
    exact ⟨ns', op', U', M', hB, piece_inv hI hfact (com_fact hi) hp, hU, .inl ⟨rfl, f, hR, by omega⟩⟩
theorem br_bad {W w' : World} {bb : Nat} {s : ByteArray} {R : Res} {i f U' k : Nat} {ns ns' : List Nd} {op op' : List Nat} {M' : Nat → Lab} (hi : i < s.size) (hR : R = readF f s i ns op) (hf : s.size - i ≤ f) (hp : pieceM ns op (pieceP nameB s i) = none) (hB : BAt W bb ns' (inn op') 2 (i : Int) U' w' M') (hI : Inv ns' op' k) (hU : U' ≤ 4 * k) : BR W bb s R k 2 i w' := by
  cases f with
  | zero => omega
  | succ f =>
    rw [read_step hi, hp] at hR
    exact ⟨ns', op', U', M', hB, hI, hU, .inr ⟨rfl, i, rfl, hR⟩⟩
theorem start_piece {s : ByteArray} {i : Nat} {ns : List Nd} {op : List Nat} {name : ByteArray} {l : List (ByteArray × ByteArray)} {k : Nat} (hpc : pieceP nameB s i = .start name l k) (hn : nameB name = true) : pieceM ns op (pieceP nameB s i) = startM ns op name l := by
  rw [hpc]; unfold pieceM; simp only [hn, if_true]
/-- behind a start tag that is no raw one's -/
theorem br_start {W w w' : World} {bb : Nat} {s : ByteArray} {R : Res} {i f U k : Nat} {ns : List Nd} {op : List Nat} {M : Nat → Lab} {name : ByteArray} {l : List (ByteArray × ByteArray)} (hi : i < s.size) (hR : R = readF f s i ns op) (hf : s.size - i ≤ f) (hI : Inv ns op i) (hpc : pieceP nameB s i = .start name l k) (hn : nameB name = true) (hr : rawB name = false) (hU : U ≤ 4 * i) (h : BStarted W bb ns op U name l i k w M w') : ∃ c a, BR W bb s R k c a w' := by
  obtain ⟨_, M', ns', op', c', a', hB, hI', h1⟩ := h
  have hto := (piece_fact hi).1
  have hk : (pieceP nameB s i).to = k := by rw [hpc]; rfl
  have hraw : (pieceP nameB s i).raw = ⟨#[]⟩ := by
    rw [hpc]
    show (if rawB name = true then name else (⟨#[]⟩ : ByteArray)) = _
    rw [hr]; rfl
  rw [hk] at hto
  rcases h1 with ⟨rfl, h2⟩ | ⟨rfl, rfl, h2⟩
  · have := br_go hi hI hR hf ((start_piece hpc hn).trans h2) hraw hB (by rw [hk]; omega)
    rw [hk] at this
    exact ⟨_, _, this⟩
  · exact ⟨_, _, br_bad hi hR hf ((start_piece hpc hn).trans h2) hB hI' (by omega)⟩
/-- behind a raw element's text -/
theorem br_raw {W w1 w' : World} {bb : Nat} {s : ByteArray} {R : Res} {i f U k : Nat} {ns ns1 : List Nd} {op op1 : List Nat} {c1 a1 : Int} {M1 : Nat → Lab} {name : ByteArray} {l : List (ByteArray × ByteArray)} (hi : i < s.size) (hR : R = readF f s i ns op) (hf : s.size - i ≤ f) (hpc : pieceP nameB s i = .start name l k) (hn : nameB name = true) (hr : rawB name = true) (hU : U ≤ 4 * i) (h1 : (c1 = 0 ∧ startM ns op name l = some (ns1, op1)) ∨ (c1 = 2 ∧ a1 = (i : Int) ∧ startM ns op name l = none)) (hle : k ≤ rawE s name k) (hle2 : rawE s name k ≤ s.size) (h : BSaid W bb ns1 op1 c1 a1 (U + 2) (s.extract k (rawE s name k)) k (rawE s name k) w1 M1 w') : ∃ c a, BR W bb s R (rawE s name k) c a w' := by
  obtain ⟨M', ns', c', a', _, hB, hI', h2⟩ := h
  have hto := (piece_fact hi).1
  have hkk : (pieceP nameB s i).to = k := by rw [hpc]; rfl
  rw [hkk] at hto
  have hraw : (pieceP nameB s i).raw = name := by
    rw [hpc]
    show (if rawB name = true then name else (⟨#[]⟩ : ByteArray)) = _
    rw [hr]; rfl
  have hemp : s.extract k (rawE s name k) = ⟨#[]⟩ ↔ rawE s name k = k := by
    constructor
    · intro e
      have := congrArg ByteArray.size e
      rw [ByteArray.size_extract] at this
      have e0 : (⟨#[]⟩ : ByteArray).size = 0 := rfl
      rw [e0] at this
      omega
    · intro e
      apply ByteArray.ext
      rw [e]
      have : (s.extract k k).size = 0 := by rw [ByteArray.size_extract]; omega
      exact Array.eq_empty_of_size_eq_zero this
  rcases h1 with ⟨rfl, h3⟩ | ⟨rfl, rfl, h3⟩
  · cases f with
    | zero => omega
    | succ f =>
      rw [read_step hi, (start_piece hpc hn).trans h3] at hR
      simp only [hraw, hkk] at hR
      unfold rawThen at hR
      rw [if_neg (rawB_size hr).2] at hR
      rcases h2 with ⟨h5, rfl, rfl, rfl⟩ | ⟨h5, h6, rfl, rfl⟩ | ⟨h5, h6, h7, h8⟩
      · have e := hemp.1 h5
        rw [if_pos e] at hR
        rw [e] at hI' ⊢
        exact ⟨_, _, _, op1, _, M', hB, hI', by omega, .inl ⟨rfl, f, hR, by omega⟩⟩
      · rw [if_neg (fun e => h5 (hemp.2 e)), h6] at hR
        exact ⟨_, _, _, op1, _, M', hB, hI', by omega, .inl ⟨rfl, f, hR, by omega⟩⟩
      · rw [if_neg (fun e => h5 (hemp.2 e)), h6] at hR
        rw [if_pos rfl] at h7 h8
        subst h7 h8
        exact ⟨_, _, _, op1, _, M', hB, hI', by omega, .inr ⟨rfl, k, rfl, hR⟩⟩
  · have hb : BAt W bb ns' (inn op1) 2 (i : Int) (U + 2 + 2) w' M' := by
      rcases h2 with ⟨_, _, rfl, rfl⟩ | ⟨_, _, rfl, rfl⟩ | ⟨_, _, h5, h6⟩
      · exact hB
      · exact hB
      · rw [if_neg (by decide)] at h5 h6
        subst h5 h6
        exact hB
    exact ⟨_, _, br_bad hi hR hf ((start_piece hpc hn).trans h3) hb hI' (by omega)⟩
theorem br_text {W w w' : World} {bb : Nat} {s : ByteArray} {R : Res} {i f U k : Nat} {ns : List Nd} {op : List Nat} {a : Int} {M : Nat → Lab} {t : ByteArray} (hi : i < s.size) (hR : R = readF f s i ns op) (hf : s.size - i ≤ f) (hI : Inv ns op i) (hpc : pieceP nameB s i = .text t k) (hU : U ≤ 4 * i) (h : BSaid W bb ns op 0 a U t i k w M w') : ∃ c a, BR W bb s R k c a w' := by
  obtain ⟨M', ns', c', a', _, hB, hI', h1⟩ := h
  have hto := (piece_fact hi).1
  have hk : (pieceP nameB s i).to = k := by rw [hpc]; rfl
  have hraw : (pieceP nameB s i).raw = ⟨#[]⟩ := by rw [hpc]; rfl
  rw [hk] at hto
  have hpm : pieceM ns op (pieceP nameB s i) = (textM ns (inn op) t).map fun x => (x, op) := by rw [hpc]; rfl
  rcases h1 with ⟨h2, _⟩ | ⟨_, h2, rfl, rfl⟩ | ⟨_, h2, h3, h4⟩
  · exact absurd h2 (text_ne hi hpc)
  · have := br_go hi hI hR hf (hpm.trans (by rw [h2]; rfl)) hraw hB (by rw [hk]; omega)
    rw [hk] at this
    exact ⟨_, _, this⟩
  · rw [if_pos rfl] at h3 h4
    subst h3 h4
    exact ⟨_, _, br_bad hi hR hf (hpm.trans (by rw [h2]; rfl)) hB hI' (by omega)⟩
theorem br_com {W w w' : World} {bb : Nat} {s : ByteArray} {R : Res} {i f U k : Nat} {ns : List Nd} {op : List Nat} {a : Int} {M : Nat → Lab} {t : ByteArray} (hi : i < s.size) (hR : R = readF f s i ns op) (hf : s.size - i ≤ f) (hI : Inv ns op i) (hpc : pieceP nameB s i = .com t k) (hU : U ≤ 4 * i) (h : BOut W bb ns (inn op) 0 a U i w M (if ns.length < 400 then some (addN ns (inn op) (mkN 4 t)) else none) w') : ∃ c a, BR W bb s R k c a w' := by
  obtain ⟨M', _, h1⟩ := h
  have hto := (piece_fact hi).1
  have hk : (pieceP nameB s i).to = k := by rw [hpc]; rfl
  have hraw : (pieceP nameB s i).raw = ⟨#[]⟩ := by rw [hpc]; rfl
  rw [hk] at hto
  have hpm : pieceM ns op (pieceP nameB s i) = (comM ns (inn op) t).map fun x => (x, op) := by rw [hpc]; rfl
  by_cases hl : ns.length < 400
  · rw [if_pos hl] at h1
    have := br_go hi hI hR hf (hpm.trans (by unfold comM; rw [if_pos hl]; rfl)) hraw (op' := op) h1 (by rw [hk]; omega)
    rw [hk] at this
    exact ⟨_, _, this⟩
  · rw [if_neg hl] at h1
    simp only [if_true] at h1
    exact ⟨_, _, br_bad hi hR hf (hpm.trans (by unfold comM; rw [if_neg hl]; rfl)) h1 (hI.mono (j := k) (by omega)) (by omega)⟩
theorem br_none {W w' : World} {bb : Nat} {s : ByteArray} {R : Res} {i f U k : Nat} {ns : List Nd} {op : List Nat} {a : Int} {M : Nat → Lab} (hi : i < s.size) (hR : R = readF f s i ns op) (hf : s.size - i ≤ f) (hI : Inv ns op i) (hpc : pieceP nameB s i = .none k) (hU : U ≤ 4 * i) (h : BAt W bb ns (inn op) 0 a U w' M) : ∃ c a, BR W bb s R k c a w' := by
  have hto := (piece_fact hi).1
  have hk : (pieceP nameB s i).to = k := by rw [hpc]; rfl
  rw [hk] at hto
  have := br_go hi hI hR hf (ns' := ns) (op' := op) (by rw [hpc]; rfl) (by rw [hpc]; rfl) h (by rw [hk]; omega)
  rw [hk] at this
  exact ⟨_, _, this⟩
theorem br_fin {W w' : World} {bb : Nat} {s : ByteArray} {R : Res} {i f U k : Nat} {ns : List Nd} {op : List Nat} {a : Int} {M : Nat → Lab} {name : ByteArray} (hi : i < s.size) (hR : R = readF f s i ns op) (hf : s.size - i ≤ f) (hI : Inv ns op i) (hpc : pieceP nameB s i = .fin name k) (hU : U ≤ 4 * i) (h : BAt W bb ns (inn (shutM ns (inL [name]) (inL []) op op)) 0 a U w' M) : ∃ c a, BR W bb s R k c a w' := by
  have hto := (piece_fact hi).1
  have hk : (pieceP nameB s i).to = k := by rw [hpc]; rfl
  rw [hk] at hto
  have := br_go hi hI hR hf (ns' := ns) (op' := shutM ns (inL [name]) (inL []) op op) (by rw [hpc]; rfl) (by rw [hpc]; rfl) h (by rw [hk]; omega)
  rw [hk] at this
  exact ⟨_, _, this⟩
theorem br_noname {W w' : World} {bb : Nat} {s : ByteArray} {R : Res} {i f U k : Nat} {ns : List Nd} {op : List Nat} {a : Int} {M : Nat → Lab} {name : ByteArray} {l : List (ByteArray × ByteArray)} (hi : i < s.size) (hR : R = readF f s i ns op) (hf : s.size - i ≤ f) (hI : Inv ns op i) (hpc : pieceP nameB s i = .start name l k) (hn : nameB name = false) (hU : U ≤ 4 * i) (h : BAt W bb ns (inn op) 0 a U w' M) : ∃ c a, BR W bb s R k c a w' := by
  have hto := (piece_fact hi).1
  have hk : (pieceP nameB s i).to = k := by rw [hpc]; rfl
  have hr : rawB name = false := by
    cases e : rawB name
    · rfl
    · rw [raw_name e] at hn; cases hn
  rw [hk] at hto
  have := br_go hi hI hR hf (ns' := ns) (op' := op) (by rw [hpc]; unfold pieceM; simp only [hn]; rfl) (by rw [hpc]; show (if rawB name = true then name else (⟨#[]⟩ : ByteArray)) = _; rw [hr]; rfl) h (by rw [hk]; omega)
  rw [hk] at this
  exact ⟨_, _, this⟩
def kq (k : ByteArray) : List Bool := [k.toList == [116, 101, 120, 116], k.toList == [99, 111, 109, 109, 101, 110, 116], k.toList == [101, 110, 100], k.toList == [115, 116, 97, 114, 116]]
theorem kq_of {k : ByteArray} {b1 b2 b3 b4 : Bool} (h : kq k = [b1, b2, b3, b4]) : (k.toList == [116, 101, 120, 116]) = b1 ∧ (k.toList == [99, 111, 109, 109, 101, 110, 116]) = b2 ∧ (k.toList == [101, 110, 100]) = b3 ∧ (k.toList == [115, 116, 97, 114, 116]) = b4 := by
  unfold kq at h
  simp only [List.cons.injEq, and_true] at h
  exact h
theorem kq_text : kq kText = [true, false, false, false] := by unfold kq kText; rw [Lib.toList_data]; decide
theorem kq_com : kq kComment = [false, true, false, false] := by unfold kq kComment; rw [Lib.toList_data]; decide
theorem kq_end : kq kEnd = [false, false, true, false] := by unfold kq kEnd; rw [Lib.toList_data]; decide
theorem kq_start : kq kStart = [false, false, false, true] := by unfold kq kStart; rw [Lib.toList_data]; decide
theorem kq_nothing : kq kNothing = [false, false, false, false] := by unfold kq kNothing; rw [Lib.toList_data]; decide
end Go.Proofs.YtkaeenafejdkfaaGreatDoor

/- What is spelt of a tree: a new last kid; a text that is joined; a raw element's text. -/
namespace Go.Proofs.YtkaeenafejdkfaaGreatDoor

def spellT (ns : List Nd) : List UInt8 := match ns[0]? with
  | some r => spellK ns (ns.length + 1) 0 r.kids
  | none => []
theorem spellT_at {ns : List Nd} {r : Nd} (h : ns[0]? = some r) : spellT ns = spellK ns (ns.length + 1) 0 r.kids := by unfold spellT; rw [h]
theorem spell_grow {ns ns' : List Nd} {op : List Nat} {out extra : List UInt8} {m m' : Nd} (h0 : Cov ns 0 ns.length) (hc : Chain ns op) (ho : OpenO ns op) (hm : ns[inn op]? = some m) (hout : spellT ns = out ++ endsL ns op) (h0' : Cov ns' 0 ns'.length) (hc' : Chain ns' op) (hlen : ns.length ≤ ns'.length) (hm' : ns'[inn op]? = some m') (hs : ∀ j, j < inn op → ns'[j]? = ns[j]?) (hkd : m'.kind = m.kind) (htg : m'.tag = m.tag) (hat : m'.attrs = m.attrs) (hb : spellK ns' (ns'.length + 1) op.length m'.kids = spellK ns (ns.length + 1) op.length m.kids ++ extra) : spellT ns' = out ++ extra ++ endsL ns op := by
  obtain ⟨r, hr, _⟩ := id h0
  obtain ⟨r', hr', _⟩ := id h0'
  obtain ⟨pre, hpre⟩ := spell_ctx h0 hc ho
  have e1 := hpre ns r m m h0 hc (Nat.le_refl _) hr hm hm (fun _ _ => rfl) rfl rfl rfl
  have e2 := hpre ns' r' m m' h0' hc' hlen hr' hm hm' hs hkd htg hat
  rw [spellT_at hr, e1] at hout
  have e3 := List.append_cancel_right hout
  rw [spellT_at hr', e2, hb, ← e3]
  simp only [List.append_assoc]
/-- what is spelt of a node without kids -/
def ownL (d : Nat) (x : Nd) : List UInt8 :=
  if x.kind = 2 then openL x ++ (if (rawB x.tag || (!voidB x.tag && decide (d < 40))) = true then endL x.tag else [])
  else if x.kind = 3 then quoteL 60 x.words.data.toList else if x.kind = 4 then comL x.words else []
theorem node_own {ns : List Nd} {f d : Nat} {x : Nd} (hk : x.kids = []) : nodeL ns f d x = ownL d x := by
  unfold nodeL ownL
  rw [hk, spellK_nil]
  split
  · congr 1
    cases rawB x.tag <;> cases (!voidB x.tag && decide (d < 40)) <;> simp
  · rfl
/-- a node that is the last kid of another one -/
theorem spell_add {ns : List Nd} {op : List Nat} {out : List UInt8} {m x : Nd} (hW : WF ns) (h0 : Cov ns 0 ns.length) (hc : Chain ns op) (ho : OpenO ns op) (hm : ns[inn op]? = some m) (hout : spellT ns = out ++ endsL ns op) (hx : x.kids = []) : spellT (addN ns (inn op) x) = out ++ ownL op.length x ++ endsL ns op := by
  have hlt : inn op < ns.length := (List.getElem?_eq_some_iff.1 hm).1
  have hlen : (addN ns (inn op) x).length = ns.length + 1 := add_len hm
  refine spell_grow (m' := { m with kids := m.kids ++ [(ns.length : Int)] }) h0 hc ho hm hout (cov_add hc hm hx h0) (hc.add hW hm x) (by omega) (by rw [add_get hm, if_neg (by omega), if_pos rfl]) (fun j hj => by rw [add_get hm, if_neg (by omega), if_neg (by omega)]) rfl rfl rfl ?_
  obtain ⟨m2, e1, e2⟩ := cov_inner hc h0
  obtain rfl := Option.some.inj (e1.symm.trans hm)
  show spellK _ _ _ (m2.kids ++ [(ns.length : Int)]) = _
  rw [spellK_app, spellK_cons (n := { x with parent := (inn op : Int) }) (by rw [add_get hm, if_pos rfl]), spellK_nil, List.append_nil, node_own (x := { x with parent := (inn op : Int) }) hx, spell_same e2 (fun j g1 g2 => by rw [add_get hm, if_neg (by omega), if_neg (by omega)]) _ (ns.length + 1) _ (by omega) (by omega)]
  rfl
/-- a text is joined -/
theorem spell_join {ns : List Nd} {op : List Nat} {out : List UInt8} {m n : Nd} {k : Nat} {t : ByteArray} (h0 : Cov ns 0 ns.length) (hc : Chain ns op) (ho : OpenO ns op) (hm : ns[inn op]? = some m) (hout : spellT ns = out ++ endsL ns op) (hl : m.kids.getLast? = some (k : Int)) (hk : ns[k]? = some n) (h3 : n.kind = 3) : spellT (joinT ns k t) = out ++ quoteL 60 t.data.toList ++ endsL ns op := by
  have ej : joinT ns k t = ns.set k { n with words := n.words ++ t } := by unfold joinT; rw [hk]
  rw [ej]
  have hkl : k < ns.length := (List.getElem?_eq_some_iff.1 hk).1
  obtain ⟨m2, e1, e2⟩ := cov_inner hc h0
  obtain rfl := Option.some.inj (e1.symm.trans hm)
  rw [List.getLast?_eq_some_iff] at hl
  obtain ⟨ks, hks⟩ := hl
  rw [hks] at e2
  obtain ⟨c, n2, q1, q2, q3, q4⟩ := e2.last
  obtain rfl : c = k := by omega
  obtain rfl := Option.some.inj (q2.symm.trans hk)
  have l3 := q3.le
  have hne : inn op ≠ c := by omega
  have hsk : ∀ (j : Nat) (y : Nd), ns[j]? = some y → ∃ y' : Nd, (ns.set c { n2 with words := n2.words ++ t })[j]? = some y' ∧ y'.kind = y.kind ∧ y'.parent = y.parent ∧ y'.kids = y.kids := set_same3 hk rfl rfl rfl
  have h0' : Cov (ns.set c { n2 with words := n2.words ++ t }) 0 (ns.set c { n2 with words := n2.words ++ t }).length := by
    obtain ⟨r, hr, hcv⟩ := h0
    obtain ⟨r', g1, _, _, g4⟩ := hsk 0 r hr
    refine ⟨r', g1, ?_⟩
    rw [g4, List.length_set]
    refine hcv.same ?_
    intro j y _ _ hy
    obtain ⟨y', f1, _, _, f4⟩ := hsk j y hy
    exact ⟨y', f1, f4⟩
  refine spell_grow (m' := m2) h0 hc ho hm hout h0' (hc.same hsk) (by simp) (by rw [List.getElem?_set_ne (Ne.symm hne)]; exact hm) (fun j hj => by rw [List.getElem?_set_ne (by omega)]) rfl rfl rfl ?_
  have hself : (ns.set c { n2 with words := n2.words ++ t })[c]? = some { n2 with words := n2.words ++ t } := List.getElem?_set_self hkl
  rw [hks, spellK_app, spellK_app, List.length_set, spellK_cons hself, spellK_cons hk, spellK_nil, spellK_nil, List.append_nil, List.append_nil, spell_same q3 (fun j g1 g2 => by rw [List.getElem?_set_ne (by omega)]) (ns.length + 1) (ns.length + 1) op.length (by omega) (by omega)]
  have e3 : nodeL ns ns.length op.length n2 = quoteL 60 n2.words.data.toList := by
    unfold nodeL; rw [if_neg (by omega), if_pos h3]
  have e4 : nodeL (ns.set c { n2 with words := n2.words ++ t }) ns.length op.length { n2 with words := n2.words ++ t } = quoteL 60 n2.words.data.toList ++ quoteL 60 t.data.toList := by
    unfold nodeL
    rw [if_neg (by show ¬ n2.kind = 2; omega), if_pos (show n2.kind = 3 from h3), ← quoteL_app]
    rw [show (n2.words ++ t).data.toList = n2.words.data.toList ++ t.data.toList by rw [ByteArray.data_append, Array.toList_append]]
  rw [e3, e4, List.append_assoc]
/-- a raw element, and its text -/
theorem spell_raw {ns : List Nd} {op : List Nat} {out : List UInt8} {m x : Nd} {w : ByteArray} (hW : WF ns) (hW1 : WF (addN ns (inn op) x)) (h0 : Cov ns 0 ns.length) (hc : Chain ns op) (ho : OpenO ns op) (hm : ns[inn op]? = some m) (hout : spellT ns = out ++ endsL ns op) (hx : x.kids = []) (hx2 : x.kind = 2) (hxr : rawB x.tag = true) : spellT (addN (addN ns (inn op) x) ns.length (textN w)) = out ++ (openL x ++ (w.data.toList ++ endL x.tag)) ++ endsL ns op := by
  have hlt : inn op < ns.length := (List.getElem?_eq_some_iff.1 hm).1
  have hl1 : (addN ns (inn op) x).length = ns.length + 1 := add_len hm
  have hc1 : Chain (addN ns (inn op) x) (ns.length :: op) := hc.open hW hm x hx2
  have hL : (addN ns (inn op) x)[ns.length]? = some { x with parent := (inn op : Int) } := by rw [add_get hm, if_pos rfl]
  have hcov1 := cov_add hc hm hx h0
  have hl2 : (addN (addN ns (inn op) x) ns.length (textN w)).length = ns.length + 2 := by rw [add_len hL, hl1]
  have hcov2 : Cov (addN (addN ns (inn op) x) ns.length (textN w)) 0 (addN (addN ns (inn op) x) ns.length (textN w)).length := cov_add (x := textN w) hc1 hL rfl hcov1
  have hc2 : Chain (addN (addN ns (inn op) x) ns.length (textN w)) op := by
    have := hc1.add hW1 (m := { x with parent := (inn op : Int) }) hL (textN w)
    cases this with
    | cons _ _ _ _ _ h => exact h
  have hget : ∀ j, j < ns.length → j ≠ inn op → (addN (addN ns (inn op) x) ns.length (textN w))[j]? = ns[j]? := fun j hj hne => by
    rw [add_get hL, if_neg (by omega), if_neg (by omega), add_get hm, if_neg (by omega), if_neg hne]
  have hp2 : (addN (addN ns (inn op) x) ns.length (textN w))[inn op]? = some { m with kids := m.kids ++ [(ns.length : Int)] } := by
    rw [add_get hL, if_neg (by omega), if_neg (by omega), add_get hm, if_neg (by omega), if_pos rfl]
  have hx2' : (addN (addN ns (inn op) x) ns.length (textN w))[ns.length]? = some { x with parent := (inn op : Int), kids := [((ns.length + 1 : Nat) : Int)] } := by
    rw [add_get hL, if_neg (by omega), if_pos rfl, hl1]
    simp [hx]
  have ht : (addN (addN ns (inn op) x) ns.length (textN w))[ns.length + 1]? = some { textN w with parent := (ns.length : Int) } := by
    rw [add_get hL, if_pos hl1.symm]
  refine spell_grow (m' := { m with kids := m.kids ++ [(ns.length : Int)] }) h0 hc ho hm hout hcov2 hc2 (by omega) hp2 (fun j hj => hget j (by omega) (by omega)) rfl rfl rfl ?_
  obtain ⟨m2, e1, e2⟩ := cov_inner hc h0
  obtain rfl := Option.some.inj (e1.symm.trans hm)
  show spellK _ _ _ (m2.kids ++ [(ns.length : Int)]) = _
  rw [spellK_app, spellK_cons hx2', spellK_nil, List.append_nil, spell_same e2 (fun j g1 g2 => hget j g2 (by omega)) _ (ns.length + 1) _ (by omega) (by omega)]
  congr 1
  unfold nodeL
  rw [if_pos (show x.kind = 2 from hx2), if_pos (show rawB x.tag = true from hxr)]
  have e5 : List.flatMap (wordsK (addN (addN ns (inn op) x) ns.length (textN w))) [((ns.length + 1 : Nat) : Int)] = w.data.toList := by
    rw [List.flatMap_cons, List.flatMap_nil, List.append_nil]
    unfold wordsK
    rw [Int.toNat_natCast, ht]
    rfl
  show openL _ ++ (List.flatMap _ [((ns.length + 1 : Nat) : Int)] ++ endL x.tag) = _
  rw [e5]
  rfl
end Go.Proofs.YtkaeenafejdkfaaGreatDoor
