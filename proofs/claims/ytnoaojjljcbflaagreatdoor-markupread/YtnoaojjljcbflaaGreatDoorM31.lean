/- The program: what lies in memory while a text is read. -/
import Derived.Test.YtnoaojjljcbflaaGreatDoorM30
namespace Go.Proofs.YtnoaojjljcbflaaGreatDoor
open Go.RowKit

/-- how many attributes a piece has -/
def Pc.cnt : Pc → Nat
  | .start _ l _ => l.length
  | _ => 0
/-- what a piece may be -/
def PcOk (i : Nat) (pc : Pc) : Prop := match pc with
  | .text t e => i ≤ e ∧ e ≤ 20000 ∧ t.size ≤ e - i
  | .com t _ => t.size ≤ 20000
  | .start _ l _ => l.length ≤ 20000 ∧ ∀ x ∈ l, nameB x.1 = true ∧ x.2.size ≤ 20000
  | _ => True
theorem GDone.more {w w' : World} {gb tb : Nat} {ns : List Nd} {op : List Nat} {tx u v : Nat} {M Mo : Nat → Lab} (h : GDone w gb tb ns op tx u M Mo w') (hv : u ≤ v) : GDone w gb tb ns op tx v M Mo w' := by
  obtain ⟨M', Mo', h1, h2⟩ := h
  obtain ⟨nv, uv, ps, us, g1, g2, g3⟩ := h1.tree
  exact ⟨M', Mo', ⟨⟨nv, uv, ps, us, g1, g2, Nat.le_trans g3 hv⟩, h1.head, h1.gm, h1.gO, h1.apart, h1.fresh, h1.errs, h1.errO⟩, h2⟩
theorem GOut.more {w w' : World} {gb tb : Nat} {r : Option (List Nd × List Nat)} {u v i : Nat} {M Mo : Nat → Lab} {bv : Value} {e : Ending} (h : GOut w gb tb r u M Mo i bv e w') (hv : u ≤ v) : GOut w gb tb r v M Mo i bv e w' := by
  cases r with
  | none => exact h
  | some x =>
    obtain ⟨ns, op⟩ := x
    exact ⟨h.1, h.2.more hv⟩
theorem ptake_any {w : World} {gb tb : Nat} {ns : List Nd} {op : List Nat} {u i B : Nat} {M Mo : Nat → Lab} (h : GS w gb tb ns op (txOf ns op) u M Mo) (hI : Inv ns op i) (hu : u + 20010 ≤ 1000000) {pc : Pc} {v : Value} (hv : PcV w B pc i v) (hok : PcOk i pc) (hB : gb < B ∧ ∀ g, B ≤ g → M g = .other ∧ Mo g = .other) (bv : Value) (hbv : w.cell? ⟨0, 0, none⟩ = some bv) :
    Calls Tryz.prog 72 #[.pointer (some ⟨gb, 0, none⟩), v] w (GOut w gb tb (pieceM ns op pc) (u + 2 + pc.cnt) M Mo i bv) := by
  cases pc with
  | text t e =>
    obtain rfl : v = pcv 1 i ⟨#[]⟩ t (.slice none 0 0) := hv
    exact (take_text h hI (by omega) t hok.1 hok.2.1 hok.2.2 bv hbv).mono fun e w' ho => ho.more (by show u + 1 + 1 ≤ u + 2 + 0; omega)
  | com t e =>
    obtain rfl : v = pcv 2 i ⟨#[]⟩ t (.slice none 0 0) := hv
    exact (take_com h hI (by omega) t hok bv hbv).mono fun e w' ho => ho.more (by show u + 1 + 1 ≤ u + 2 + 0; omega)
  | none e =>
    obtain rfl : v = pcv 0 i ⟨#[]⟩ ⟨#[]⟩ (.slice none 0 0) := hv
    exact (take_none h).mono fun e w' ho => ⟨ho.1, ho.2.more (by omega)⟩
  | fin n e =>
    obtain rfl : v = pcv 4 i n ⟨#[]⟩ (.slice none 0 0) := hv
    exact (take_fin h hI n).mono fun e w' ho => ⟨ho.1, ho.2.more (by omega)⟩
  | start n l e =>
    obtain ⟨av, rfl, a, c, rfl, hA⟩ := hv
    obtain ⟨X, hX, hAX⟩ : ∃ X, Held w M Mo gb X ∧ AttrsX X a l := by
      rcases hA with e1 | ⟨g, cur, t, h1, h2, h3, h4⟩
      · exact ⟨[], (by intro x hx; cases hx), .inl e1⟩
      · refine ⟨[(g, .cells cur t (0, 0))], ?_, .inr ⟨g, cur, t, h2, by simp, h4⟩⟩
        intro x hx
        rw [List.mem_singleton] at hx
        subst hx
        obtain ⟨m1, m2⟩ := hB.2 g h1
        exact ⟨h3, m1, m2, by show g ≠ gb; have := hB.1; omega⟩
    exact take_start h hI hu n l hok.1 hok.2 a c hX hAX bv hbv

/-- what lies in memory while a text is read -/
structure LS (w0 : World) (gb tb sb : Nat) (s : ByteArray) (i : Nat) (raw : ByteArray) (ns : List Nd) (op : List Nat) (u : Nat) (M Mo : Nat → Lab) (wr : World) : Prop where
  gs : GS wr gb tb ns op (txOf ns op) u M Mo
  sc : SC wr sb s i raw
  sM : M sb = .other
  sMo : Mo sb = .other
  sg : sb ≠ gb
  bel : Below w0.heap.size w0 wr
  low : ∀ k, k < w0.heap.size → M k = .other ∧ Mo k = .other
  gl : w0.heap.size ≤ gb
  sl : w0.heap.size ≤ sb
  err : ∀ g, errG g = true → g < w0.heap.size
  eight : 8 < w0.heap.size
section
variable {w0 wr w1 : World} {gb tb sb : Nat} {s : ByteArray} {i j : Nat} {raw raw' : ByteArray} {ns ns' : List Nd} {op op' : List Nat} {u u' : Nat} {M Mo : Nat → Lab}
theorem LS.errSb (h : LS w0 gb tb sb s i raw ns op u M Mo wr) : errG sb = false := by
  cases he : errG sb
  · rfl
  · have := h.err sb he
    have := h.sl
    omega
theorem LS.scan (h : LS w0 gb tb sb s i raw ns op u M Mo wr) (ho : Only sb wr w1) (hs : Sc w1 sb s j raw') : LS w0 gb tb sb s j raw' ns op u M Mo w1 :=
  ⟨h.gs.only ho h.sM h.sMo h.sg h.errSb, h.sc.only ho hs, h.sM, h.sMo, h.sg, ⟨ho.os.trans h.bel.os, ho.tape.trans h.bel.tape, ho.output.trans h.bel.output, Nat.le_trans h.bel.size ho.size, fun k hk => (ho.block k (Nat.lt_of_lt_of_le hk h.bel.size) (by have := h.sl; omega)).trans (h.bel.block k hk)⟩, h.low, h.gl, h.sl, h.err, h.eight⟩
theorem LS.below (h : LS w0 gb tb sb s i raw ns op u M Mo wr) (hb : Below wr.heap.size wr w1) : LS w0 gb tb sb s i raw ns op u M Mo w1 := h.scan (Only.of hb) (h.sc.sc.below h.sc.sc.lt hb)
/-- what a grower's call leaves -/
theorem LS.lowAfter (h : LS w0 gb tb sb s i raw ns op u M Mo wr) {M' Mo' : Nat → Lab} (hV : GMv gb wr M Mo w1 M' Mo') : Below w0.heap.size w0 w1 ∧ ∀ k, k < w0.heap.size → M' k = .other ∧ Mo' k = .other := by
  have hk : ∀ k, k < w0.heap.size → w1.heap[k]? = wr.heap[k]? ∧ M' k = .other ∧ Mo' k = .other := fun k hk => hV.keep k (Nat.lt_of_lt_of_le hk h.bel.size) (h.low k hk).1 (h.low k hk).2 (by have := h.gl; omega)
  exact ⟨⟨hV.os.trans h.bel.os, hV.tape.trans h.bel.tape, hV.output.trans h.bel.output, Nat.le_trans h.bel.size hV.size, fun k hkl => (hk k hkl).1.trans (h.bel.block k hkl)⟩, fun k hkl => (hk k hkl).2⟩
theorem LS.grown (h : LS w0 gb tb sb s i raw ns op u M Mo wr) {M' Mo' : Nat → Lab} (hG : GS w1 gb tb ns' op' (txOf ns' op') u' M' Mo') (hV : GMv gb wr M Mo w1 M' Mo') : LS w0 gb tb sb s i raw ns' op' u' M' Mo' w1 := by
  obtain ⟨b1, b2⟩ := h.lowAfter hV
  obtain ⟨s1, s2, s3⟩ := hV.keep sb h.sc.sc.lt h.sM h.sMo h.sg
  have hS : Sc w1 sb s i raw := by
    have := h.sc.sc
    unfold Sc at this ⊢
    rw [s1]; exact this
  obtain ⟨m, hm⟩ := h.sc.max
  have e8 : w1.heap[8]? = wr.heap[8]? := (hV.keep 8 (Nat.lt_of_lt_of_le h.eight h.bel.size) (h.low 8 h.eight).1 (h.low 8 h.eight).2 (by have := h.gl; have := h.eight; omega)).1
  exact ⟨hG, ⟨hS, h.sc.ne, m, (World.cell?_of_block (a := ⟨8, 0, none⟩) e8).trans hm⟩, s2, s3, h.sg, b1, b2, h.gl, h.sl, h.err, h.eight⟩
end
set_option maxHeartbeats 4000000 in
set_option maxRecDepth 100000 in
theorem next_end {w : World} {b : Nat} {s : ByteArray} {raw : ByteArray} (h : SC w b s s.size raw) :
    Calls Tryz.prog 71 #[.pointer (some ⟨b, 0, none⟩)] w fun e w' => e = .returned (.tuple #[pcv 0 0 ⟨#[]⟩ ⟨#[]⟩ (.slice none 0 0), .bool false]) ∧ Only b w w' ∧ Sc w' b s s.size raw := by
  have hlt0 := h.sc.lt
  have H := hid (h.alloc emptyPiece)
  clear h
  go_enter Tryz.func71, Tryz.ntmps71
  go_wp2_with fail
  refine (atEnd_bel H.out.sc true (at_end rfl)).mono ?_
  rintro e w2 ⟨rfl, hB1⟩
  have hR := res_block hlt0 (Only.of (b := b) hB1)
  obtain ⟨r0, r1, r2, r3, r4, rf⟩ := five_cells hR
  have HO2 := hid (Only.of (b := b) hB1)
  have HS2 := hid (H.out.bel hB1).sc
  have HO1 : Hid (Only b (w.alloc emptyPiece) (w.alloc emptyPiece)) := Only.refl _ _
  clear hB1 hR
  go_wp2_with fail
  obtain ⟨z1, z2⟩ := five_sets hlt0 HO1.out HO2.out HS2.out (.int .i64 0) (.int .i64 0) (.string ⟨#[]⟩) (.string ⟨#[]⟩) (.slice none 0 0)
  refine bodyPost_ret (v := .tuple #[pcv 0 0 ⟨#[]⟩ ⟨#[]⟩ (.slice none 0 0), .bool false]) ?_ rfl ⟨rfl, z1, z2⟩
  simp [results, Tryz.results71, go_sem, r0, r1, r2, r3, r4]
  try rfl
end Go.Proofs.YtnoaojjljcbflaaGreatDoor

/- The program: what lies in memory at the head of the loop that reads a text. -/
namespace Go.Proofs.YtnoaojjljcbflaaGreatDoor
open Go.RowKit

/-- what growing answers -/
def GrowPost (w0 : World) (bv : Value) (R : Res) (e : Ending) (w' : World) : Prop := match R with
  | .ok ns => ∃ tb M nv uv ps, e = .returned (.pointer (some ⟨tb, 0, none⟩)) ∧ Lies w' M tb nv uv ps [] ∧ nodesOf ps = ns ∧ Moved w0 (fun _ => .other) w' M
  | .bad i => Thrown i bv e w' ∧ Below w0.heap.size w0 w'
/-- a state: what is still to be read -/
structure St (s : ByteArray) (R : Res) (i : Nat) (raw : ByteArray) (ns : List Nd) (op : List Nat) (u f : Nat) : Prop where
  res : R = rawThen (readF f s) s i raw ns op
  fuel : s.size - i ≤ f
  le : i ≤ s.size
  inv : Inv ns op i
  few : u + (if raw = ⟨#[]⟩ then 0 else 2) ≤ 6 * i
  raw : raw.size ≤ 100
/-- the piece that comes next lies in a block -/
structure Nx (w0 : World) (gb tb sb : Nat) (s : ByteArray) (i : Nat) (raw : ByteArray) (ns : List Nd) (op : List Nat) (u : Nat) (pb : Nat) (M Mo : Nat → Lab) (B : Nat) (v : Value) (wr : World) : Prop where
  ls : LS w0 gb tb sb s (pcNext s i raw).to (pcNext s i raw).raw ns op u M Mo wr
  gB : gb < B
  free : ∀ x, B ≤ x → M x = .other ∧ Mo x = .other
  pv : PcV wr B (pcNext s i raw) i v
  pM : M pb = .other
  pMo : Mo pb = .other
  pg : pb ≠ gb
  ps : pb ≠ sb
  pl : w0.heap.size ≤ pb
theorem LS.other {w0 wr w1 : World} {gb tb sb : Nat} {s : ByteArray} {i : Nat} {raw : ByteArray} {ns : List Nd} {op : List Nat} {u : Nat} {M Mo : Nat → Lab} (h : LS w0 gb tb sb s i raw ns op u M Mo wr) {pb : Nat} (ho : Only pb wr w1) (p1 : M pb = .other) (p2 : Mo pb = .other) (p3 : pb ≠ gb) (p4 : pb ≠ sb) (p5 : w0.heap.size ≤ pb) : LS w0 gb tb sb s i raw ns op u M Mo w1 := by
  have he : errG pb = false := by
    cases he : errG pb
    · rfl
    · have := h.err pb he; omega
  have hS : Sc w1 sb s i raw := by
    have := h.sc.sc
    unfold Sc at this ⊢
    rw [ho.block sb h.sc.sc.lt (Ne.symm p4)]; exact this
  obtain ⟨m, hm⟩ := h.sc.max
  have h8 := h.eight
  have hs := h.bel.size
  exact ⟨h.gs.only ho p1 p2 p3 he, ⟨hS, h.sc.ne, m, (World.cell?_of_block (a := ⟨8, 0, none⟩) (ho.block 8 (by omega) (by omega))).trans hm⟩, h.sM, h.sMo, h.sg, ⟨ho.os.trans h.bel.os, ho.tape.trans h.bel.tape, ho.output.trans h.bel.output, Nat.le_trans h.bel.size ho.size, fun k hk => (ho.block k (by omega) (by omega)).trans (h.bel.block k hk)⟩, h.low, h.gl, h.sl, h.err, h.eight⟩
theorem read_end {s : ByteArray} {i f : Nat} {raw : ByteArray} {ns : List Nd} {op : List Nat} (hi : s.size ≤ i) : rawThen (readF f s) s i raw ns op = .ok ns := by
  have hk : readF f s i ns op = .ok ns := by
    cases f with
    | zero => rfl
    | succ f => unfold readF; rw [if_neg (by omega)]
  unfold rawThen
  split
  · exact hk
  · rw [rawE_end hi, if_pos rfl]; exact hk
/-- how much is left -/
def left (s : ByteArray) (i : Nat) (raw : ByteArray) : Nat := 2 * (s.size - i) + (if raw = ⟨#[]⟩ then 0 else 1)
theorem raw_small (s : ByteArray) (i : Nat) : (pieceP nameB s i).raw.size ≤ 100 := by
  cases h : pieceP nameB s i with
  | start n l e =>
    show (if rawB n = true then n else (⟨#[]⟩ : ByteArray)).size ≤ 100
    split
    · rename_i hr; exact (rawB_size hr).1
    · exact Nat.zero_le _
  | text t e => exact Nat.zero_le _
  | com t e => exact Nat.zero_le _
  | none e => exact Nat.zero_le _
  | fin n e => exact Nat.zero_le _
theorem cnt_le {s : ByteArray} {i : Nat} {pc : Pc} (h : PcFact s i pc) : pc.cnt ≤ pc.to - i := by
  cases pc with
  | start n l e => exact h.2.2.1
  | text t e => exact Nat.zero_le _
  | com t e => exact Nat.zero_le _
  | none e => exact Nat.zero_le _
  | fin n e => exact Nat.zero_le _
theorem pc_ok {s : ByteArray} {i : Nat} {pc : Pc} (h : PcFact s i pc) (hs : s.size ≤ 20000) : PcOk i pc := by
  obtain ⟨h1, h2, h3⟩ := h
  cases pc with
  | start n l e => exact ⟨Nat.le_trans h3.1 (Nat.le_trans (Nat.sub_le _ _) (Nat.le_trans h2 hs)), fun x hx => ⟨(h3.2 x hx).1, Nat.le_trans (h3.2 x hx).2 hs⟩⟩
  | text t e => exact ⟨Nat.le_of_lt h1, Nat.le_trans h2 hs, h3⟩
  | com t e => exact Nat.le_trans h3 hs
  | none e => trivial
  | fin n e => trivial
theorem pcNext_empty (s : ByteArray) (i : Nat) : pcNext s i ⟨#[]⟩ = pieceP nameB s i := by unfold pcNext; rw [if_pos rfl]
theorem pcNext_raw {s : ByteArray} {i : Nat} {raw : ByteArray} (h : raw ≠ ⟨#[]⟩) : pcNext s i raw = pcRaw s i raw := by unfold pcNext; rw [if_neg h]
theorem next_ok {s : ByteArray} {i : Nat} {raw : ByteArray} (hs : s.size ≤ 20000) (hi : i < s.size) : PcOk i (pcNext s i raw) := by
  by_cases hr : raw = ⟨#[]⟩
  · subst hr; rw [pcNext_empty]; exact pc_ok (piece_fact hi) hs
  · rw [pcNext_raw hr]
    obtain ⟨e, he, h1, h2, _, _⟩ := rawE_is s raw i (Nat.le_of_lt hi)
    unfold pcRaw
    rw [he]
    split
    · trivial
    · exact ⟨h1, Nat.le_trans h2 hs, by rw [ByteArray.size_extract]; omega⟩
/-- a piece was taken -/
theorem St.next {s : ByteArray} {R : Res} {i : Nat} {raw : ByteArray} {ns ns' : List Nd} {op op' : List Nat} {u f : Nat} (h : St s R i raw ns op u f) (hi : i < s.size) (hm : pieceM ns op (pcNext s i raw) = some (ns', op')) : (∃ f', St s R (pcNext s i raw).to (pcNext s i raw).raw ns' op' (u + 2 + (pcNext s i raw).cnt) f') ∧ left s (pcNext s i raw).to (pcNext s i raw).raw < left s i raw := by
  have hfew := h.few
  by_cases hr : raw = ⟨#[]⟩
  · subst hr
    rw [pcNext_empty] at hm ⊢
    have hf := piece_fact hi
    have hc := cnt_le hf
    have h1 := hf.1
    have h2 := hf.2.1
    have hfu := h.fuel
    rw [if_pos rfl] at hfew
    obtain ⟨f', rfl⟩ : ∃ f', f = f' + 1 := ⟨f - 1, by omega⟩
    refine ⟨⟨f', ⟨?_, by omega, h2, piece_inv h.inv hf (com_fact hi) hm, ?_, raw_small s i⟩⟩, ?_⟩
    · rw [h.res]
      unfold rawThen
      rw [if_pos rfl]
      rw [readF, if_pos hi, hm]
      rfl
    · split <;> omega
    · unfold left
      rw [if_pos rfl]
      split <;> omega
  · rw [pcNext_raw hr] at hm ⊢
    rw [if_neg hr] at hfew
    obtain ⟨e, he, h1, h2, _, _⟩ := rawE_is s raw i (Nat.le_of_lt hi)
    have hres := h.res
    unfold rawThen at hres
    rw [if_neg hr, he] at hres
    unfold pcRaw at hm ⊢
    rw [he] at hm ⊢
    have hfu := h.fuel
    by_cases hei : e = i
    · rw [if_pos hei] at hm hres ⊢
      simp [pieceM] at hm
      obtain ⟨rfl, rfl⟩ := hm
      refine ⟨⟨f, ⟨?_, hfu, h.le, h.inv, ?_, Nat.zero_le _⟩⟩, ?_⟩
      · rw [hres]
        unfold rawThen
        show _ = if (⟨#[]⟩ : ByteArray) = ⟨#[]⟩ then _ else _
        rw [if_pos rfl]
        rfl
      · show u + 2 + 0 + (if (⟨#[]⟩ : ByteArray) = ⟨#[]⟩ then 0 else 2) ≤ 6 * i
        rw [if_pos rfl]; omega
      · unfold left
        show 2 * (s.size - i) + (if (⟨#[]⟩ : ByteArray) = ⟨#[]⟩ then 0 else 1) < _
        rw [if_pos rfl, if_neg hr]; omega
    · rw [if_neg hei] at hm hres ⊢
      unfold pieceM at hm
      simp only [Option.map_eq_some_iff] at hm
      obtain ⟨x, hx, e1⟩ := hm
      simp at e1
      obtain ⟨rfl, rfl⟩ := e1
      rw [hx] at hres
      refine ⟨⟨f, ⟨?_, by show s.size - e ≤ f; omega, h2, (text_inv (e := e) h.inv h1 (by rw [ByteArray.size_extract]; omega) hx), ?_, Nat.zero_le _⟩⟩, ?_⟩
      · rw [hres]
        unfold rawThen
        show _ = if (⟨#[]⟩ : ByteArray) = ⟨#[]⟩ then _ else _
        rw [if_pos rfl]
        rfl
      · show u + 2 + 0 + (if (⟨#[]⟩ : ByteArray) = ⟨#[]⟩ then 0 else 2) ≤ 6 * e
        rw [if_pos rfl]; omega
      · unfold left
        show 2 * (s.size - e) + (if (⟨#[]⟩ : ByteArray) = ⟨#[]⟩ then 0 else 1) < _
        rw [if_pos rfl, if_neg hr]; omega
/-- a piece was one too many -/
theorem St.bad {s : ByteArray} {R : Res} {i : Nat} {raw : ByteArray} {ns : List Nd} {op : List Nat} {u f : Nat} (h : St s R i raw ns op u f) (hi : i < s.size) (hm : pieceM ns op (pcNext s i raw) = none) : R = .bad i := by
  by_cases hr : raw = ⟨#[]⟩
  · subst hr
    rw [pcNext_empty] at hm
    have hfu := h.fuel
    obtain ⟨f', rfl⟩ : ∃ f', f = f' + 1 := ⟨f - 1, by omega⟩
    rw [h.res]
    unfold rawThen
    rw [if_pos rfl]
    rw [readF, if_pos hi, hm]
  · rw [pcNext_raw hr] at hm
    have hres := h.res
    unfold rawThen at hres
    unfold pcRaw at hm
    rw [if_neg hr] at hres
    by_cases hei : rawE s raw i = i
    · rw [if_pos hei] at hm
      simp [pieceM] at hm
    · rw [if_neg hei] at hm hres
      unfold pieceM at hm
      simp only [Option.map_eq_none_iff] at hm
      rw [hm] at hres
      exact hres
theorem St.start (s : ByteArray) : St s (readS s) 0 ⟨#[]⟩ [docN] [] 0 s.size := by
  refine ⟨?_, by omega, Nat.zero_le _, inv0, by rw [if_pos rfl]; omega, Nat.zero_le _⟩
  unfold readS rawThen
  rw [if_pos rfl]
end Go.Proofs.YtnoaojjljcbflaaGreatDoor

/- The program: the tree of a text is grown. -/
namespace Go.Proofs.YtnoaojjljcbflaaGreatDoor
open Go.RowKit

def pObj (k : Int) (i : Int) (n t : ByteArray) (a : Option Addr) (l c : Nat) : Obj := .cells #[.int .i64 k, .int .i64 i, .string n, .string t, .slice a l c] 121 (0, 0)
/-- at the loop's head -/
def HeadAt (w0 : World) (gb tb sb : Nat) (s : ByteArray) (R : Res) (pb : Nat) (more : Bool) (g : Nat) (wr : World) : Prop :=
  (more = false ∧ g = 0 ∧ ∃ ns op i raw u M Mo, R = .ok ns ∧ LS w0 gb tb sb s i raw ns op u M Mo wr) ∨
  (more = true ∧ ∃ i raw ns op u f M Mo B k n t a l c, i < s.size ∧ g = 1 + left s i raw ∧ St s R i raw ns op u f ∧ Nx w0 gb tb sb s i raw ns op u pb M Mo B (pcv k i n t (.slice a l c)) wr ∧ wr.heap[pb]? = some (pObj k i n t a l c))
/-- the next piece is laid in a block -/
theorem head_more {w0 w2 w3 w4 : World} {gb tb sb : Nat} {s : ByteArray} {R : Res} {i : Nat} {raw : ByteArray} {ns : List Nd} {op : List Nat} {u f pb : Nat} {M Mo : Nat → Lab} {k : Int} {n t : ByteArray} {a : Option Addr} {l c : Nat} (hL : LS w0 gb tb sb s i raw ns op u M Mo w2) (hS : St s R i raw ns op u f) (hi : i < s.size)
    (hO : Only sb w2 w3) (hSc : Sc w3 sb s (pcNext s i raw).to (pcNext s i raw).raw) (hP : PcV w3 w2.heap.size (pcNext s i raw) i (pcv k i n t (.slice a l c))) (hpo : Only pb w3 w4) (hpb : w4.heap[pb]? = some (pObj k i n t a l c)) (p1 : M pb = .other) (p2 : Mo pb = .other) (p3 : pb ≠ gb) (p4 : pb ≠ sb) (p5 : w0.heap.size ≤ pb) (hfar : ∀ g, w2.heap.size ≤ g → g < w3.heap.size → g ≠ pb) :
    HeadAt w0 gb tb sb s R pb true (1 + left s i raw) w4 := by
  have hL3 := hL.scan hO hSc
  have hL4 := hL3.other hpo p1 p2 p3 p4 p5
  obtain ⟨nv, uv, ps, us, g1, _, _⟩ := hL.gs.tree
  obtain ⟨ga, gc, hg, _⟩ := hL.gs.head
  refine .inr ⟨rfl, i, raw, ns, op, u, f, M, Mo, w2.heap.size, k, n, t, a, l, c, hi, rfl, hS, ⟨hL4, lt_of_heap hg, fun x hx => ⟨g1.fresh x hx, hL.gs.fresh x hx⟩, ?_, p1, p2, p3, p4, p5⟩, hpb⟩
  obtain ⟨k', n', t', a', l', c', e, hF⟩ := hP.form
  unfold pcv at e
  simp at e
  obtain ⟨rfl, rfl, rfl, rfl, rfl, rfl⟩ := e
  exact hF w4 w2.heap.size i (Nat.le_refl _) (fun g hg1 hg2 => hpo.block g hg2 (hfar g hg1 hg2)) i rfl
theorem head_end {w0 w2 w3 w4 : World} {gb tb sb : Nat} {s : ByteArray} {R : Res} {i : Nat} {raw : ByteArray} {ns : List Nd} {op : List Nat} {u f pb : Nat} {M Mo : Nat → Lab} (hL : LS w0 gb tb sb s i raw ns op u M Mo w2) (hS : St s R i raw ns op u f) (hi : s.size ≤ i) (hO : Only sb w2 w3) (hSc : Sc w3 sb s i raw) (hpo : Only pb w3 w4) (p1 : M pb = .other) (p2 : Mo pb = .other) (p3 : pb ≠ gb) (p4 : pb ≠ sb) (p5 : w0.heap.size ≤ pb) : HeadAt w0 gb tb sb s R pb false 0 w4 :=
  .inl ⟨rfl, rfl, ns, op, i, raw, u, M, Mo, by rw [hS.res]; exact read_end hi, (hL.scan hO hSc).other hpo p1 p2 p3 p4 p5⟩
/-- the beginning -/
theorem ls_start {w w1 : World} {M1 : Nat → Lab} {tb : Nat} {nv uv : Value} (s : ByteArray) (hL : Lies w1 M1 tb nv uv [docP] []) (hM : Moved w (fun _ => .other) w1 M1) (hE : Errs w (fun _ => .other)) (m : Int) (h8 : w.cell? ⟨8, 0, none⟩ = some (.int .i64 m)) :
    LS w w1.heap.size tb (w1.heap.size + 1) s 0 ⟨#[]⟩ [docN] [] 0 M1 (fun _ => .other) ((w1.alloc (.cells #[.pointer (some ⟨tb, 0, none⟩), .slice none 0 0, .int .i64 0] 117)).alloc (.cells #[.string s, .int .i64 0, .string ⟨#[]⟩] 119)) := by
  have hsz : (w1.alloc (.cells #[.pointer (some ⟨tb, 0, none⟩), .slice none 0 0, .int .i64 0] 117)).heap.size = w1.heap.size + 1 := by simp
  have hB : Below w1.heap.size w1 ((w1.alloc (.cells #[.pointer (some ⟨tb, 0, none⟩), .slice none 0 0, .int .i64 0] 117)).alloc (.cells #[.string s, .int .i64 0, .string ⟨#[]⟩] 119)) := ((Below.refl _ _).alloc (Nat.le_refl _) _).alloc (by simp) _
  have hw8 : 8 < w.heap.size := World.block_lt_of_cell? w _ h8
  have hle := hM.size
  have hBw : Below w.heap.size w ((w1.alloc (.cells #[.pointer (some ⟨tb, 0, none⟩), .slice none 0 0, .int .i64 0] 117)).alloc (.cells #[.string s, .int .i64 0, .string ⟨#[]⟩] 119)) := ⟨hB.os.trans hM.os, hB.tape.trans hM.tape, hB.output.trans hM.output, Nat.le_trans hle hB.size, fun k hk => (hB.block k (Nat.lt_of_lt_of_le hk hle)).trans (hM.far k hk rfl)⟩
  have herr : ∀ g, errG g = true → g < w.heap.size := fun g hg => by
    obtain ⟨t, x, hc⟩ := hE.cell g hg
    exact World.block_lt_of_cell? w _ hc
  have hgb : ((w1.alloc (.cells #[.pointer (some ⟨tb, 0, none⟩), .slice none 0 0, .int .i64 0] 117)).alloc (.cells #[.string s, .int .i64 0, .string ⟨#[]⟩] 119)).heap[w1.heap.size]? = some (.cells #[.pointer (some ⟨tb, 0, none⟩), .slice none 0 0, .int .i64 0] 117 (0, 0)) := by
    rw [Below.heap_alloc _ _ _ (by omega)]; exact heap_alloc_new w1 _
  have hsb : ((w1.alloc (.cells #[.pointer (some ⟨tb, 0, none⟩), .slice none 0 0, .int .i64 0] 117)).alloc (.cells #[.string s, .int .i64 0, .string ⟨#[]⟩] 119)).heap[w1.heap.size + 1]? = some (.cells #[.string s, .int .i64 0, .string ⟨#[]⟩] 119 (0, 0)) := by
    rw [← hsz]; exact heap_alloc_new _ _
  refine ⟨⟨⟨nv, uv, [docP], [], hL.below hB, rfl, Nat.le_refl _⟩, ⟨none, 0, hgb, Row.nil _ _ _ _ _⟩, hL.fresh _ (Nat.le_refl _), rfl, fun k hk => absurd rfl hk, fun _ _ => rfl, (hE.moved hM).below hB, fun g hg => ⟨rfl, by have := herr g hg; omega⟩⟩, ⟨hsb, by omega, m, (hBw.cell (p := ⟨8, 0, none⟩) hw8).trans h8⟩, hL.fresh _ (by omega), rfl, by omega, hBw, fun k hk => ⟨hM.lab k hk, rfl⟩, hle, by omega, herr, hw8⟩

set_option maxHeartbeats 8000000 in
set_option maxRecDepth 100000 in
theorem grow_any {w : World} (s : ByteArray) (hs : s.size ≤ 20000) (m8 : Int) (h8 : w.cell? ⟨8, 0, none⟩ = some (.int .i64 m8)) (hE : Errs w (fun _ => .other)) (bv : Value) (hbv : w.cell? ⟨0, 0, none⟩ = some bv) :
    Calls Tryz.prog 31 #[.string s] w (GrowPost w bv (readS s)) := by
  have hst := St.start s
  obtain ⟨R, hR⟩ : ∃ R, R = readS s := ⟨_, rfl⟩
  rw [← hR] at hst ⊢
  have HST := hid hst
  have HE := hid hE
  have HB := hid hbv
  have H8 := hid h8
  clear hR hE hbv h8 hst
  go_enter Tryz.func31, Tryz.ntmps31
  go_wp2_with fail
  refine (new_any w).mono ?_
  rintro e w1 ⟨tb, nv, uv, M1, rfl, hL1, hM1⟩
  have HL := hid (ls_start s hL1 hM1 HE.out m8 H8.out)
  have hwle : w.heap.size ≤ w1.heap.size := hM1.size
  have HFR := hid hL1.fresh
  clear hL1 hM1
  go_upto_region 3 with fail
  obtain ⟨gb, hgb⟩ : ∃ gb, gb = w1.heap.size := ⟨_, rfl⟩
  obtain ⟨sb, hsb⟩ : ∃ sb, sb = gb + 1 := ⟨_, rfl⟩
  have hw2 : ((w1.alloc (.cells #[.pointer (some ⟨tb, 0, none⟩), .slice none 0 0, .int .i64 0] 117)).alloc (.cells #[.string s, .int .i64 0, .string ⟨#[]⟩] 119)).heap.size = w1.heap.size + 1 + 1 := by simp
  generalize ((w1.alloc (.cells #[.pointer (some ⟨tb, 0, none⟩), .slice none 0 0, .int .i64 0] 117)).alloc (.cells #[.string s, .int .i64 0, .string ⟨#[]⟩] 119)) = w2 at *
  rw [← hgb, ← hsb] at HL ⊢
  have hq1 : gb < w2.heap.size := by omega
  have hq2 : sb < w2.heap.size := by omega
  have hq3 : w.heap.size ≤ gb := by omega
  have hq4 : w1.heap.size ≤ w2.heap.size := by omega
  clear hgb hsb hw2
  go_cut [5, 6] (fun s5 s6 wx => ∃ pb b g, s5 = .pointer (some ⟨pb, 0, none⟩) ∧ s6 = .bool b ∧ Hid (HeadAt w gb tb sb s R pb b g wx))
  case first =>
    by_cases hi : 0 < s.size
    · go_wp2_with fail
      refine (next_any HL.out.sc (by omega) (Nat.zero_le _) (Nat.zero_le _)).mono ?_
      intro e w3 hpost
      unfold NextPost at hpost
      rw [if_pos hi] at hpost
      obtain ⟨v, rfl, hPV, hO3, hS3⟩ := hpost
      obtain ⟨k, n, t, a, l, c, rfl, hF⟩ := hPV.form
      have hsz3 : w2.heap.size ≤ w3.heap.size := hO3.size
      have HH : Hid (HeadAt w gb tb sb s R w3.heap.size true (1 + left s 0 ⟨#[]⟩) (w3.alloc (pObj k 0 n t a l c))) := head_more HL.out HST.out hi hO3 hS3 hPV (Only.alloc _) (heap_alloc_new w3 _) (HFR.out _ (by omega)) rfl (by omega) (by omega) (by omega) (fun g _ h => by omega)
      clear hPV hO3 hS3 hF
      unfold pcv
      go_wp2_with fail
      go_meet
      exact ⟨_, _, _, rfl, rfl, HH⟩
    · have hz : s.size = 0 := by omega
      have HL2 : Hid (SC w2 sb s s.size ⟨#[]⟩) := by show SC _ _ _ _ _; rw [hz]; exact HL.out.sc
      go_wp2_with fail
      refine (next_end HL2.out).mono ?_
      rintro e w3 ⟨rfl, hO3, hS3⟩
      rw [hz] at hS3
      have hsz3 : w2.heap.size ≤ w3.heap.size := hO3.size
      have HH : Hid (HeadAt w gb tb sb s R w3.heap.size false 0 (w3.alloc (pObj 0 0 ⟨#[]⟩ ⟨#[]⟩ none 0 0))) := head_end HL.out HST.out (by omega) hO3 hS3 (Only.alloc _) (HFR.out _ (by omega)) rfl (by omega) (by omega) (by omega)
      clear hO3 hS3
      unfold pcv
      go_wp2_with fail
      go_meet
      exact ⟨_, _, _, rfl, rfl, HH⟩
  case rest =>
  obtain ⟨w4, hw4⟩ : ∃ w9, w9 = wc := ⟨_, rfl⟩
  subst hw4
  obtain ⟨pb, b, g0, hs5, hs6, HH⟩ := hcut
  subst hs5
  subst hs6
  clear HL HST HFR
  go_wp2_with fail
  go_loopg [5, 6] g0 (fun g v5 v6 wr => ∃ pb b, v5 = .pointer (some ⟨pb, 0, none⟩) ∧ v6 = .bool b ∧ Hid (HeadAt w gb tb sb s R pb b g wr))
  case atStart => exact ⟨pb, b, rfl, rfl, HH⟩
  case round =>
    obtain ⟨pb, b, rfl, rfl, HR⟩ := hrel
    rcases HR.out with ⟨hb, hg, ns, op, i, raw, u, M, Mo, hRes, hLS⟩ | ⟨hb, i, raw, ns, op, u, f, M, Mo, B, k, n, t, a, l, c, hi, hg, hST, hNX, hPB⟩
    · subst hb
      obtain ⟨ga, gc, hgh, _⟩ := hLS.gs.head
      obtain ⟨e0, e1, e2, ef⟩ := three_cells hgh
      obtain ⟨nv', uv', ps, us, hL, hn, _⟩ := hLS.gs.tree
      have HL := hid hL
      have HLS := hid hLS
      have HN := hid hn
      have hgl := lt_of_heap hgh
      have HRS := hid hRes
      clear hgh hL hLS hg hn hRes
      go_wp2_with fail
      refine (settle_any HL.out).mono ?_
      rintro e w5 ⟨rfl, hL5, hm5⟩
      have hg5 : w5.cell? ⟨gb, 0, none⟩ = some (.pointer (some ⟨tb, 0, none⟩)) := (World.cell?_of_block (a := ⟨gb, 0, none⟩) (hm5.far gb hgl HLS.out.gs.gm)).trans e0
      have H5 := hid (And.intro hL5 hm5)
      clear hL5 hm5
      go_wp2_with fail
      go_ret
      rw [HRS.out]
      have hb := HLS.out.bel
      exact ⟨tb, M, _, _, ps, rfl, H5.out.1, HN.out, ⟨H5.out.2.os.trans hb.os, H5.out.2.tape.trans hb.tape, H5.out.2.output.trans hb.output, Nat.le_trans hb.size H5.out.2.size, fun k hk => (H5.out.2.lab k (Nat.lt_of_lt_of_le hk hb.size)).trans (HLS.out.low k hk).1, fun k hk _ => (H5.out.2.far k (Nat.lt_of_lt_of_le hk hb.size) (HLS.out.low k hk).1).trans (hb.block k hk)⟩⟩
    · subst hb
      obtain ⟨d0, d1, d2, d3, d4, df⟩ := five_cells hPB
      have hbw := HB.out
      have hel : 0 < w.heap.size := World.block_lt_of_cell? w _ hbw
      have htake := ptake_any hNX.ls.gs hST.inv (by have := hST.few; have := hST.le; omega) hNX.pv (next_ok hs hi) ⟨hNX.gB, hNX.free⟩ bv ((hNX.ls.bel.cell (p := ⟨0, 0, none⟩) hel).trans hbw)
      unfold pcv at htake
      have HT := hid htake
      have HX := hid hNX
      have HP := hid hPB
      have HS := hid hST
      have HG := hid hg
      clear htake hNX hPB hST hbw hg
      go_wp2_with fail
      refine HT.out.mono ?_
      intro e w5 hout
      clear d0 d1 d2 d3 d4 df HT
      cases hpm : pieceM ns op (pcNext s i raw) with
      | none =>
        rw [hpm] at hout
        obtain ⟨⟨fb, rfl, hfb⟩, M5, Mo5, hV5⟩ := hout
        have hRb := HS.out.bad hi hpm
        rw [hRb]
        exact ⟨rfl, ⟨fb, rfl, hfb⟩, (HX.out.ls.lowAfter hV5).1⟩
      | some x =>
        obtain ⟨ns', op'⟩ := x
        rw [hpm] at hout
        obtain ⟨rfl, M5, Mo5, hG5, hV5⟩ := hout
        obtain ⟨⟨f', hST5⟩, hleft⟩ := HS.out.next hi hpm
        have hL5 := HX.out.ls.grown hG5 hV5
        obtain ⟨hpk, hpm5, hpo5⟩ := hV5.keep pb (lt_of_heap HP.out) HX.out.pM HX.out.pMo HX.out.pg
        have hpb5 := hpk.trans HP.out
        unfold pObj at hpb5
        obtain ⟨d0, d1, d2, d3, d4, df⟩ := five_cells hpb5
        have hB6 : Below w5.heap.size w5 (w5.alloc (pObj k i n t a l c)) := (Below.refl _ _).alloc (Nat.le_refl _) _
        have hL6 := hL5.below hB6
        have hfr5 : M5 w5.heap.size = .other ∧ Mo5 w5.heap.size = .other := by
          obtain ⟨_, _, _, _, q1, _, _⟩ := hL5.gs.tree
          exact ⟨q1.fresh _ (Nat.le_refl _), hL5.gs.fresh _ (Nat.le_refl _)⟩
        obtain ⟨ga5, gc5, hgh5, _⟩ := hL5.gs.head
        have hng : w5.heap.size ≠ gb := by have := lt_of_heap hgh5; omega
        have hns : w5.heap.size ≠ sb := by have := hL5.sc.sc.lt; omega
        have hnl : w.heap.size ≤ w5.heap.size := hL5.bel.size
        have hnew := heap_alloc_new w5 (pObj k i n t a l c)
        have hsz6 : (w5.alloc (pObj k i n t a l c)).heap.size = w5.heap.size + 1 := by simp
        have HL6 := hid hL6
        have HS5 := hid hST5
        have HLT := hid hleft
        have HFR := hid hfr5
        have HNEW := hid hnew
        clear hG5 hV5 hL5 hL6 hST5 hleft hpk hpm5 hpo5 hpb5 hB6 hfr5 hgh5 hnew HX HP HS
        generalize (pcNext s i raw).to = i2 at *
        generalize (pcNext s i raw).raw = raw2 at *
        go_wp2_with fail
        obtain ⟨pb6, hpb6⟩ : ∃ pb6, pb6 = w5.heap.size := ⟨_, rfl⟩
        rw [← hpb6] at HFR HNEW hng hns hnl hsz6 ⊢
        change Calls _ _ _ (w5.alloc (pObj k i n t a l c)) _
        generalize w5.alloc (pObj k i n t a l c) = w6 at *
        clear hpb6 d0 d1 d2 d3 d4 df
        by_cases hi2 : i2 < s.size
        · refine (next_any HL6.out.sc (by omega) (Nat.le_of_lt hi2) HS5.out.raw).mono ?_
          intro e w7 hpost
          unfold NextPost at hpost
          rw [if_pos hi2] at hpost
          obtain ⟨v, rfl, hPV, hO7, hS7⟩ := hpost
          obtain ⟨k2, n2, t2, a2, l2, c2, rfl, hF⟩ := hPV.form
          have hp7 := (hO7.block pb6 (by omega) hns).trans HNEW.out
          unfold pObj at hp7
          obtain ⟨r0, r1, r2, r3, r4, rf⟩ := five_cells hp7
          have hO8 : Only pb6 w7 (((((w7.setCell ⟨pb6, 0, none⟩ (.int .i64 k2)).setCell ⟨pb6, 1, none⟩ (.int .i64 i2)).setCell ⟨pb6, 2, none⟩ (.string n2)).setCell ⟨pb6, 3, none⟩ (.string t2)).setCell ⟨pb6, 4, none⟩ (.slice a2 l2 c2)) := (((((Only.refl _ _).set _ _).set _ _).set _ _).set _ _).set _ _
          have hp8 : (((((w7.setCell ⟨pb6, 0, none⟩ (.int .i64 k2)).setCell ⟨pb6, 1, none⟩ (.int .i64 i2)).setCell ⟨pb6, 2, none⟩ (.string n2)).setCell ⟨pb6, 3, none⟩ (.string t2)).setCell ⟨pb6, 4, none⟩ (.slice a2 l2 c2)).heap[pb6]? = some (pObj k2 i2 n2 t2 a2 l2 c2) := by
            unfold pObj
            simp [World.setCell, Array.getElem?_modify, hp7]
          have HH8 := hid (head_more HL6.out HS5.out hi2 hO7 hS7 hPV hO8 hp8 HFR.out.1 HFR.out.2 hng hns hnl (fun g h1 _ => by omega))
          clear hPV hO7 hS7 hF hp7 hO8 hp8
          unfold pcv
          go_wp2_with fail
          go_roundg (1 + left s i2 raw2)
          case measure => have := HLT.out; have := HG.out; omega
          case rel => exact ⟨pb6, true, rfl, rfl, HH8⟩
        · have hz : i2 = s.size := by have := HS5.out.le; omega
          subst hz
          refine (next_end HL6.out.sc).mono ?_
          rintro e w7 ⟨rfl, hO7, hS7⟩
          have hp7 := (hO7.block pb6 (by omega) hns).trans HNEW.out
          unfold pObj at hp7
          obtain ⟨r0, r1, r2, r3, r4, rf⟩ := five_cells hp7
          have hO8 : Only pb6 w7 (((((w7.setCell ⟨pb6, 0, none⟩ (.int .i64 0)).setCell ⟨pb6, 1, none⟩ (.int .i64 0)).setCell ⟨pb6, 2, none⟩ (.string ⟨#[]⟩)).setCell ⟨pb6, 3, none⟩ (.string ⟨#[]⟩)).setCell ⟨pb6, 4, none⟩ (.slice none 0 0)) := (((((Only.refl _ _).set _ _).set _ _).set _ _).set _ _).set _ _
          have HH8 := hid (head_end HL6.out HS5.out (Nat.le_refl _) hO7 hS7 hO8 HFR.out.1 HFR.out.2 hng hns hnl)
          clear hO7 hS7 hp7 hO8
          unfold pcv
          go_wp2_with fail
          go_roundg 0
          case measure => have := HG.out; omega
          case rel => exact ⟨pb6, false, rfl, rfl, HH8⟩
end Go.Proofs.YtnoaojjljcbflaaGreatDoor
