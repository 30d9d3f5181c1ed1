/- The document's answer: the piece at a place: end tags, and all. -/
import Derived.Test.YtkaeenafejdkfaaGreatDoorM46
import Derived.Test.YtkaeenafejdkfaaGreatDoorM33
namespace Go.Proofs.YtkaeenafejdkfaaGreatDoor
open Go.RowKit

/-- an end tag as a piece, and as the document's answer gives it -/
def finPc (s : ByteArray) : Option (Nat × ByteArray) → Pc
  | some (e, name) => .fin name e
  | none => .none s.size
def fkd : Option (Nat × ByteArray) → ByteArray
  | some _ => kEnd
  | none => kNothing
def fto (s : ByteArray) : Option (Nat × ByteArray) → Nat
  | some (e, _) => e
  | none => s.size
def fnm : Option (Nat × ByteArray) → ByteArray
  | some (_, n) => n
  | none => noS
theorem endV_is (s : ByteArray) (i : Nat) : endV s i = rpv (fkd (endP s i)) i (fto s (endP s i)) (fnm (endP s i)) noS (.slice none 0 0) := by
  unfold endV
  cases endP s i with
  | none => rfl
  | some p => rfl

set_option maxHeartbeats 8000000 in
set_option maxRecDepth 100000 in
theorem rnext_end (s : ByteArray) (i : Nat) (hs : s.size ≤ 100000) (hi : i < s.size) (w : World) (hst : startB s i = true) (hc : ¬ standsAt ⟨#[60, 33, 45, 45]⟩ s i) (h1 : i + 1 < s.size) (c : Nat) (hcc : s[i + 1].toNat = c) (h47 : c = 47) :
    Calls Tryz.prog 22 #[.string s, .int .i64 i] w (RNextPost w i (pieceP nameB s i)) := by
  have hb0 : ∀ w, Calls Tryz.prog 59 #[.string s, .int .i64 i] w fun e w' => e = .returned (.bool true) ∧ w' = w := fun w => by rw [← hst]; exact begins_any s i hs hi w
  have hbt : bt s (i + 1) = c := by rw [bt_lt h1, hcc]
  have hx : i + 4 ≤ s.size → ((s.extract i (i + 4)).toList == [60, 33, 45, 45]) = false := no_com hc
  have b33 : ((c : Int) == 33) = false := by rw [beq_eq_false_iff_ne]; omega
  have b63 : ((c : Int) == 63) = false := by rw [beq_eq_false_iff_ne]; omega
  have b47 : ((c : Int) == 47) = true := by rw [beq_iff_eq]; omega
  obtain ⟨R, hR⟩ : ∃ R, R = endP s i := ⟨_, rfl⟩
  have hpc : pieceP nameB s i = finPc s R := by
    unfold pieceP
    rw [if_neg (by rw [hst]; simp), if_neg hc, if_neg (by rw [hbt]; omega), if_pos (by rw [hbt]; exact h47), ← hR]
    rcases R with _ | ⟨e, n⟩ <;> rfl
  obtain ⟨kd, hkd⟩ : ∃ x, x = fkd R := ⟨_, rfl⟩
  obtain ⟨k2, hk2⟩ : ∃ x, x = fto s R := ⟨_, rfl⟩
  obtain ⟨nm, hnm⟩ : ∃ x, x = fnm R := ⟨_, rfl⟩
  have hsm : ∀ w, Calls Tryz.prog 62 #[.string s, .int .i64 i] w (fun e w' => e = .returned (rpv kd i k2 nm noS (.slice none 0 0)) ∧ Below w.heap.size w w') := fun w => by
    have := rendTag_any s i hs (by omega) w
    rw [endV_is, ← hR, ← hkd, ← hk2, ← hnm] at this
    exact this
  rw [hpc]
  have HP : Hid (∀ w', Below w.heap.size w w' → RNextPost w i (finPc s R) (.returned (rpv kd i k2 nm noS (.slice none 0 0))) w') := hid (by
    intro w' hB
    subst hkd hk2 hnm
    refine ⟨hB, ?_⟩
    rcases R with _ | ⟨e, n⟩ <;> rfl)
  have HX := hid hx
  clear hst hc hpc hbt h47 hR hx hkd hk2 hnm
  generalize finPc s R = pc at HP ⊢
  clear R
  go_enter Tryz.func22, Tryz.ntmps22
  by_cases h4 : i + 4 ≤ s.size
  · have hxx := HX.out h4
    go_wp2_with (go_at_call 59; refine (hb0 _).mono ?_; rintro e w' ⟨rfl, rfl⟩)
    refine (hsm _).mono ?_
    rintro e w1 ⟨rfl, hB⟩
    have hr0 := (hB.block w.heap.size (by simp)).trans (heap_alloc_new w _)
    obtain ⟨r0, r1, r2, r3, r4, r5, rf⟩ := six_cellsR hr0
    have HB : Hid (Below w.heap.size w w1) := ((Below.refl _ _).alloc (Nat.le_refl _) _).trans (hB.mono (by simp))
    clear hB hr0
    unfold rpv
    go_wp2_with fail
    refine bodyPost_ret (v := rpv kd i k2 nm noS (.slice none 0 0)) ?_ rfl (HP.out _ ?_)
    · simp [results, Tryz.results22, go_sem, r0, r1, r2, r3, r4, r5]
      try rfl
    · exact (((((HB.out.setCell (Nat.le_refl _) _).setCell (Nat.le_refl _) _).setCell (Nat.le_refl _) _).setCell (Nat.le_refl _) _).setCell (Nat.le_refl _) _).setCell (Nat.le_refl _) _
  · go_wp2_with (go_at_call 59; refine (hb0 _).mono ?_; rintro e w' ⟨rfl, rfl⟩)
    refine (hsm _).mono ?_
    rintro e w1 ⟨rfl, hB⟩
    have hr0 := (hB.block w.heap.size (by simp)).trans (heap_alloc_new w _)
    obtain ⟨r0, r1, r2, r3, r4, r5, rf⟩ := six_cellsR hr0
    have HB : Hid (Below w.heap.size w w1) := ((Below.refl _ _).alloc (Nat.le_refl _) _).trans (hB.mono (by simp))
    clear hB hr0
    unfold rpv
    go_wp2_with fail
    refine bodyPost_ret (v := rpv kd i k2 nm noS (.slice none 0 0)) ?_ rfl (HP.out _ ?_)
    · simp [results, Tryz.results22, go_sem, r0, r1, r2, r3, r4, r5]
      try rfl
    · exact (((((HB.out.setCell (Nat.le_refl _) _).setCell (Nat.le_refl _) _).setCell (Nat.le_refl _) _).setCell (Nat.le_refl _) _).setCell (Nat.le_refl _) _).setCell (Nat.le_refl _) _

theorem rnext_any (s : ByteArray) (i : Nat) (hs : s.size ≤ 100000) (hi : i < s.size) (w : World) :
    Calls Tryz.prog 22 #[.string s, .int .i64 i] w (RNextPost w i (pieceP nameB s i)) := by
  cases hst : startB s i with
  | false => exact rnext_text s i hs hi w hst
  | true =>
    by_cases hc : standsAt ⟨#[60, 33, 45, 45]⟩ s i
    · exact rnext_com s i hs hi w hst hc
    · have h1 : i + 1 < s.size := by
        apply Classical.byContradiction
        intro hn
        unfold startB at hst
        simp [bt_ge (show s.size ≤ i + 1 by omega)] at hst
        exact absurd hst.2 (by decide)
      by_cases hb : s[i + 1].toNat = 33 ∨ s[i + 1].toNat = 63
      · exact rnext_bang s i hs hi w hst hc h1 _ rfl hb
      · by_cases h47 : s[i + 1].toNat = 47
        · exact rnext_end s i hs hi w hst hc h1 _ rfl h47
        · exact rnext_tag s i hs hi w hst hc h1 _ rfl hb h47
end Go.Proofs.YtkaeenafejdkfaaGreatDoor

/- The program: what lies in memory while a text is read. -/
namespace Go.Proofs.YtkaeenafejdkfaaGreatDoor
open Go.RowKit

/-- how many attributes a piece has -/
def Pc.cnt : Pc → Nat
  | .start _ l _ => l.length
  | _ => 0
/-- what a piece may be -/
def PcOk (i : Nat) (pc : Pc) : Prop := match pc with
  | .text t e => i ≤ e ∧ e ≤ 20000 ∧ t.size ≤ e - i
  | .com t _ => t.size ≤ 20000
  | .start _ l _ => l.length ≤ 20000 ∧ ∀ x ∈ l, nameB x.1 = true ∧ x.2.size ≤ 20000
  | _ => True
theorem GDone.more {w w' : World} {gb tb : Nat} {ns : List Nd} {op : List Nat} {tx u v : Nat} {M Mo : Nat → Lab} (h : GDone w gb tb ns op tx u M Mo w') (hv : u ≤ v) : GDone w gb tb ns op tx v M Mo w' := by
  obtain ⟨M', Mo', h1, h2⟩ := h
  obtain ⟨nv, uv, ps, us, g1, g2, g3⟩ := h1.tree
  exact ⟨M', Mo', ⟨⟨nv, uv, ps, us, g1, g2, Nat.le_trans g3 hv⟩, h1.head, h1.gm, h1.gO, h1.apart, h1.fresh, h1.errs, h1.errO⟩, h2⟩
theorem GOut.more {w w' : World} {gb tb : Nat} {r : Option (List Nd × List Nat)} {u v i : Nat} {M Mo : Nat → Lab} {bv : Value} {e : Ending} (h : GOut w gb tb r u M Mo i bv e w') (hv : u ≤ v) : GOut w gb tb r v M Mo i bv e w' := by
  cases r with
  | none => exact h
  | some x =>
    obtain ⟨ns, op⟩ := x
    exact ⟨h.1, h.2.more hv⟩
theorem ptake_any {w : World} {gb tb : Nat} {ns : List Nd} {op : List Nat} {u i B : Nat} {M Mo : Nat → Lab} (h : GS w gb tb ns op (txOf ns op) u M Mo) (hI : Inv ns op i) (hu : u + 20010 ≤ 1000000) {pc : Pc} {v : Value} (hv : PcV w B pc i v) (hok : PcOk i pc) (hB : gb < B ∧ ∀ g, B ≤ g → M g = .other ∧ Mo g = .other) (bv : Value) (hbv : w.cell? ⟨0, 0, none⟩ = some bv) :
    Calls Tryz.prog 72 #[.pointer (some ⟨gb, 0, none⟩), v] w (GOut w gb tb (pieceM ns op pc) (u + 2 + pc.cnt) M Mo i bv) := by
  cases pc with
  | text t e =>
    obtain rfl : v = pcv 1 i ⟨#[]⟩ t (.slice none 0 0) := hv
    exact (take_text h hI (by omega) t hok.1 hok.2.1 hok.2.2 bv hbv).mono fun e w' ho => ho.more (by show u + 1 + 1 ≤ u + 2 + 0; omega)
  | com t e =>
    obtain rfl : v = pcv 2 i ⟨#[]⟩ t (.slice none 0 0) := hv
    exact (take_com h hI (by omega) t hok bv hbv).mono fun e w' ho => ho.more (by show u + 1 + 1 ≤ u + 2 + 0; omega)
  | none e =>
    obtain rfl : v = pcv 0 i ⟨#[]⟩ ⟨#[]⟩ (.slice none 0 0) := hv
    exact (take_none h).mono fun e w' ho => ⟨ho.1, ho.2.more (by omega)⟩
  | fin n e =>
    obtain rfl : v = pcv 4 i n ⟨#[]⟩ (.slice none 0 0) := hv
    exact (take_fin h hI n).mono fun e w' ho => ⟨ho.1, ho.2.more (by omega)⟩
  | start n l e =>
    obtain ⟨av, rfl, a, c, rfl, hA⟩ := hv
    obtain ⟨X, hX, hAX⟩ : ∃ X, Held w M Mo gb X ∧ AttrsX X a l := by
      rcases hA with e1 | ⟨g, cur, t, h1, h2, h3, h4⟩
      · exact ⟨[], (by intro x hx; cases hx), .inl e1⟩
      · refine ⟨[(g, .cells cur t (0, 0))], ?_, .inr ⟨g, cur, t, h2, by simp, h4⟩⟩
        intro x hx
        rw [List.mem_singleton] at hx
        subst hx
        obtain ⟨m1, m2⟩ := hB.2 g h1
        exact ⟨h3, m1, m2, by show g ≠ gb; have := hB.1; omega⟩
    exact take_start h hI hu n l hok.1 hok.2 a c hX hAX bv hbv

/-- what lies in memory while a text is read -/
structure LS (w0 : World) (gb tb sb : Nat) (s : ByteArray) (i : Nat) (raw : ByteArray) (ns : List Nd) (op : List Nat) (u : Nat) (M Mo : Nat → Lab) (wr : World) : Prop where
  gs : GS wr gb tb ns op (txOf ns op) u M Mo
  sc : SC wr sb s i raw
  sM : M sb = .other
  sMo : Mo sb = .other
  sg : sb ≠ gb
  bel : Below w0.heap.size w0 wr
  low : ∀ k, k < w0.heap.size → M k = .other ∧ Mo k = .other
  gl : w0.heap.size ≤ gb
  sl : w0.heap.size ≤ sb
  err : ∀ g, errG g = true → g < w0.heap.size
  eight : 8 < w0.heap.size
section
variable {w0 wr w1 : World} {gb tb sb : Nat} {s : ByteArray} {i j : Nat} {raw raw' : ByteArray} {ns ns' : List Nd} {op op' : List Nat} {u u' : Nat} {M Mo : Nat → Lab}
theorem LS.errSb (h : LS w0 gb tb sb s i raw ns op u M Mo wr) : errG sb = false := by
  cases he : errG sb
  · rfl
  · have := h.err sb he
    have := h.sl
    omega
theorem LS.scan (h : LS w0 gb tb sb s i raw ns op u M Mo wr) (ho : Only sb wr w1) (hs : Sc w1 sb s j raw') : LS w0 gb tb sb s j raw' ns op u M Mo w1 :=
  ⟨h.gs.only ho h.sM h.sMo h.sg h.errSb, h.sc.only ho hs, h.sM, h.sMo, h.sg, ⟨ho.os.trans h.bel.os, ho.tape.trans h.bel.tape, ho.output.trans h.bel.output, Nat.le_trans h.bel.size ho.size, fun k hk => (ho.block k (Nat.lt_of_lt_of_le hk h.bel.size) (by have := h.sl; omega)).trans (h.bel.block k hk)⟩, h.low, h.gl, h.sl, h.err, h.eight⟩
theorem LS.below (h : LS w0 gb tb sb s i raw ns op u M Mo wr) (hb : Below wr.heap.size wr w1) : LS w0 gb tb sb s i raw ns op u M Mo w1 := h.scan (Only.of hb) (h.sc.sc.below h.sc.sc.lt hb)
/-- what a grower's call leaves -/
theorem LS.lowAfter (h : LS w0 gb tb sb s i raw ns op u M Mo wr) {M' Mo' : Nat → Lab} (hV : GMv gb wr M Mo w1 M' Mo') : Below w0.heap.size w0 w1 ∧ ∀ k, k < w0.heap.size → M' k = .other ∧ Mo' k = .other := by
  have hk : ∀ k, k < w0.heap.size → w1.heap[k]? = wr.heap[k]? ∧ M' k = .other ∧ Mo' k = .other := fun k hk => hV.keep k (Nat.lt_of_lt_of_le hk h.bel.size) (h.low k hk).1 (h.low k hk).2 (by have := h.gl; omega)
  exact ⟨⟨hV.os.trans h.bel.os, hV.tape.trans h.bel.tape, hV.output.trans h.bel.output, Nat.le_trans h.bel.size hV.size, fun k hkl => (hk k hkl).1.trans (h.bel.block k hkl)⟩, fun k hkl => (hk k hkl).2⟩
theorem LS.grown (h : LS w0 gb tb sb s i raw ns op u M Mo wr) {M' Mo' : Nat → Lab} (hG : GS w1 gb tb ns' op' (txOf ns' op') u' M' Mo') (hV : GMv gb wr M Mo w1 M' Mo') : LS w0 gb tb sb s i raw ns' op' u' M' Mo' w1 := by
  obtain ⟨b1, b2⟩ := h.lowAfter hV
  obtain ⟨s1, s2, s3⟩ := hV.keep sb h.sc.sc.lt h.sM h.sMo h.sg
  have hS : Sc w1 sb s i raw := by
    have := h.sc.sc
    unfold Sc at this ⊢
    rw [s1]; exact this
  obtain ⟨m, hm⟩ := h.sc.max
  have e8 : w1.heap[8]? = wr.heap[8]? := (hV.keep 8 (Nat.lt_of_lt_of_le h.eight h.bel.size) (h.low 8 h.eight).1 (h.low 8 h.eight).2 (by have := h.gl; have := h.eight; omega)).1
  exact ⟨hG, ⟨hS, h.sc.ne, m, (World.cell?_of_block (a := ⟨8, 0, none⟩) e8).trans hm⟩, s2, s3, h.sg, b1, b2, h.gl, h.sl, h.err, h.eight⟩
end
set_option maxHeartbeats 4000000 in
set_option maxRecDepth 100000 in
theorem next_end {w : World} {b : Nat} {s : ByteArray} {raw : ByteArray} (h : SC w b s s.size raw) :
    Calls Tryz.prog 71 #[.pointer (some ⟨b, 0, none⟩)] w fun e w' => e = .returned (.tuple #[pcv 0 0 ⟨#[]⟩ ⟨#[]⟩ (.slice none 0 0), .bool false]) ∧ Only b w w' ∧ Sc w' b s s.size raw := by
  have hlt0 := h.sc.lt
  have H := hid (h.alloc emptyPiece)
  clear h
  go_enter Tryz.func71, Tryz.ntmps71
  go_wp2_with fail
  refine (atEnd_bel H.out.sc true (at_end rfl)).mono ?_
  rintro e w2 ⟨rfl, hB1⟩
  have hR := res_block hlt0 (Only.of (b := b) hB1)
  obtain ⟨r0, r1, r2, r3, r4, rf⟩ := five_cells hR
  have HO2 := hid (Only.of (b := b) hB1)
  have HS2 := hid (H.out.bel hB1).sc
  have HO1 : Hid (Only b (w.alloc emptyPiece) (w.alloc emptyPiece)) := Only.refl _ _
  clear hB1 hR
  go_wp2_with fail
  obtain ⟨z1, z2⟩ := five_sets hlt0 HO1.out HO2.out HS2.out (.int .i64 0) (.int .i64 0) (.string ⟨#[]⟩) (.string ⟨#[]⟩) (.slice none 0 0)
  refine bodyPost_ret (v := .tuple #[pcv 0 0 ⟨#[]⟩ ⟨#[]⟩ (.slice none 0 0), .bool false]) ?_ rfl ⟨rfl, z1, z2⟩
  simp [results, Tryz.results71, go_sem, r0, r1, r2, r3, r4]
  try rfl
end Go.Proofs.YtkaeenafejdkfaaGreatDoor

/- The program: what lies in memory at the head of the loop that reads a text. -/
namespace Go.Proofs.YtkaeenafejdkfaaGreatDoor
open Go.RowKit

/-- what growing answers -/
def GrowPost (w0 : World) (bv : Value) (R : Res) (e : Ending) (w' : World) : Prop := match R with
  | .ok ns => ∃ tb M nv uv ps, e = .returned (.pointer (some ⟨tb, 0, none⟩)) ∧ Lies w' M tb nv uv ps [] ∧ nodesOf ps = ns ∧ Moved w0 (fun _ => .other) w' M
  | .bad i => Thrown i bv e w' ∧ Below w0.heap.size w0 w'
/-- a state: what is still to be read -/
structure St (s : ByteArray) (R : Res) (i : Nat) (raw : ByteArray) (ns : List Nd) (op : List Nat) (u f : Nat) : Prop where
  res : R = rawThen (readF f s) s i raw ns op
  fuel : s.size - i ≤ f
  le : i ≤ s.size
  inv : Inv ns op i
  few : u + (if raw = ⟨#[]⟩ then 0 else 2) ≤ 6 * i
  raw : raw.size ≤ 100
/-- the piece that comes next lies in a block -/
structure Nx (w0 : World) (gb tb sb : Nat) (s : ByteArray) (i : Nat) (raw : ByteArray) (ns : List Nd) (op : List Nat) (u : Nat) (pb : Nat) (M Mo : Nat → Lab) (B : Nat) (v : Value) (wr : World) : Prop where
  ls : LS w0 gb tb sb s (pcNext s i raw).to (pcNext s i raw).raw ns op u M Mo wr
  gB : gb < B
  free : ∀ x, B ≤ x → M x = .other ∧ Mo x = .other
  pv : PcV wr B (pcNext s i raw) i v
  pM : M pb = .other
  pMo : Mo pb = .other
  pg : pb ≠ gb
  ps : pb ≠ sb
  pl : w0.heap.size ≤ pb
theorem LS.other {w0 wr w1 : World} {gb tb sb : Nat} {s : ByteArray} {i : Nat} {raw : ByteArray} {ns : List Nd} {op : List Nat} {u : Nat} {M Mo : Nat → Lab} (h : LS w0 gb tb sb s i raw ns op u M Mo wr) {pb : Nat} (ho : Only pb wr w1) (p1 : M pb = .other) (p2 : Mo pb = .other) (p3 : pb ≠ gb) (p4 : pb ≠ sb) (p5 : w0.heap.size ≤ pb) : LS w0 gb tb sb s i raw ns op u M Mo w1 := by
  have he : errG pb = false := by
    cases he : errG pb
    · rfl
    · have := h.err pb he; omega
  have hS : Sc w1 sb s i raw := by
    have := h.sc.sc
    unfold Sc at this ⊢
    rw [ho.block sb h.sc.sc.lt (Ne.symm p4)]; exact this
  obtain ⟨m, hm⟩ := h.sc.max
  have h8 := h.eight
  have hs := h.bel.size
  exact ⟨h.gs.only ho p1 p2 p3 he, ⟨hS, h.sc.ne, m, (World.cell?_of_block (a := ⟨8, 0, none⟩) (ho.block 8 (by omega) (by omega))).trans hm⟩, h.sM, h.sMo, h.sg, ⟨ho.os.trans h.bel.os, ho.tape.trans h.bel.tape, ho.output.trans h.bel.output, Nat.le_trans h.bel.size ho.size, fun k hk => (ho.block k (by omega) (by omega)).trans (h.bel.block k hk)⟩, h.low, h.gl, h.sl, h.err, h.eight⟩
theorem read_end {s : ByteArray} {i f : Nat} {raw : ByteArray} {ns : List Nd} {op : List Nat} (hi : s.size ≤ i) : rawThen (readF f s) s i raw ns op = .ok ns := by
  have hk : readF f s i ns op = .ok ns := by
    cases f with
    | zero => rfl
    | succ f => unfold readF; rw [if_neg (by omega)]
  unfold rawThen
  split
  · exact hk
  · rw [rawE_end hi, if_pos rfl]; exact hk
/-- how much is left -/
def left (s : ByteArray) (i : Nat) (raw : ByteArray) : Nat := 2 * (s.size - i) + (if raw = ⟨#[]⟩ then 0 else 1)
theorem raw_small (s : ByteArray) (i : Nat) : (pieceP nameB s i).raw.size ≤ 100 := by
  cases h : pieceP nameB s i with
  | start n l e =>
    show (if rawB n = true then n else (⟨#[]⟩ : ByteArray)).size ≤ 100
    split
    · rename_i hr; exact (rawB_size hr).1
    · exact Nat.zero_le _
  | text t e => exact Nat.zero_le _
  | com t e => exact Nat.zero_le _
  | none e => exact Nat.zero_le _
  | fin n e => exact Nat.zero_le _
theorem cnt_le {s : ByteArray} {i : Nat} {pc : Pc} (h : PcFact s i pc) : pc.cnt ≤ pc.to - i := by
  cases pc with
  | start n l e => exact h.2.2.1
  | text t e => exact Nat.zero_le _
  | com t e => exact Nat.zero_le _
  | none e => exact Nat.zero_le _
  | fin n e => exact Nat.zero_le _
theorem pc_ok {s : ByteArray} {i : Nat} {pc : Pc} (h : PcFact s i pc) (hs : s.size ≤ 20000) : PcOk i pc := by
  obtain ⟨h1, h2, h3⟩ := h
  cases pc with
  | start n l e => exact ⟨Nat.le_trans h3.1 (Nat.le_trans (Nat.sub_le _ _) (Nat.le_trans h2 hs)), fun x hx => ⟨(h3.2 x hx).1, Nat.le_trans (h3.2 x hx).2 hs⟩⟩
  | text t e => exact ⟨Nat.le_of_lt h1, Nat.le_trans h2 hs, h3⟩
  | com t e => exact Nat.le_trans h3 hs
  | none e => trivial
  | fin n e => trivial
theorem pcNext_empty (s : ByteArray) (i : Nat) : pcNext s i ⟨#[]⟩ = pieceP nameB s i := by unfold pcNext; rw [if_pos rfl]
theorem pcNext_raw {s : ByteArray} {i : Nat} {raw : ByteArray} (h : raw ≠ ⟨#[]⟩) : pcNext s i raw = pcRaw s i raw := by unfold pcNext; rw [if_neg h]
theorem next_ok {s : ByteArray} {i : Nat} {raw : ByteArray} (hs : s.size ≤ 20000) (hi : i < s.size) : PcOk i (pcNext s i raw) := by
  by_cases hr : raw = ⟨#[]⟩
  · subst hr; rw [pcNext_empty]; exact pc_ok (piece_fact hi) hs
  · rw [pcNext_raw hr]
    obtain ⟨e, he, h1, h2, _, _⟩ := rawE_is s raw i (Nat.le_of_lt hi)
    unfold pcRaw
    rw [he]
    split
    · trivial
    · exact ⟨h1, Nat.le_trans h2 hs, by rw [ByteArray.size_extract]; omega⟩
/-- a piece was taken -/
theorem St.next {s : ByteArray} {R : Res} {i : Nat} {raw : ByteArray} {ns ns' : List Nd} {op op' : List Nat} {u f : Nat} (h : St s R i raw ns op u f) (hi : i < s.size) (hm : pieceM ns op (pcNext s i raw) = some (ns', op')) : (∃ f', St s R (pcNext s i raw).to (pcNext s i raw).raw ns' op' (u + 2 + (pcNext s i raw).cnt) f') ∧ left s (pcNext s i raw).to (pcNext s i raw).raw < left s i raw := by
  have hfew := h.few
  by_cases hr : raw = ⟨#[]⟩
  · subst hr
    rw [pcNext_empty] at hm ⊢
    have hf := piece_fact hi
    have hc := cnt_le hf
    have h1 := hf.1
    have h2 := hf.2.1
    have hfu := h.fuel
    rw [if_pos rfl] at hfew
    obtain ⟨f', rfl⟩ : ∃ f', f = f' + 1 := ⟨f - 1, by omega⟩
    refine ⟨⟨f', ⟨?_, by omega, h2, piece_inv h.inv hf (com_fact hi) hm, ?_, raw_small s i⟩⟩, ?_⟩
    · rw [h.res]
      unfold rawThen
      rw [if_pos rfl]
      rw [readF, if_pos hi, hm]
      rfl
    · split <;> omega
    · unfold left
      rw [if_pos rfl]
      split <;> omega
  · rw [pcNext_raw hr] at hm ⊢
    rw [if_neg hr] at hfew
    obtain ⟨e, he, h1, h2, _, _⟩ := rawE_is s raw i (Nat.le_of_lt hi)
    have hres := h.res
    unfold rawThen at hres
    rw [if_neg hr, he] at hres
    unfold pcRaw at hm ⊢
    rw [he] at hm ⊢
    have hfu := h.fuel
    by_cases hei : e = i
    · rw [if_pos hei] at hm hres ⊢
      simp [pieceM] at hm
      obtain ⟨rfl, rfl⟩ := hm
      refine ⟨⟨f, ⟨?_, hfu, h.le, h.inv, ?_, Nat.zero_le _⟩⟩, ?_⟩
      · rw [hres]
        unfold rawThen
        show _ = if (⟨#[]⟩ : ByteArray) = ⟨#[]⟩ then _ else _
        rw [if_pos rfl]
        rfl
      · show u + 2 + 0 + (if (⟨#[]⟩ : ByteArray) = ⟨#[]⟩ then 0 else 2) ≤ 6 * i
        rw [if_pos rfl]; omega
      · unfold left
        show 2 * (s.size - i) + (if (⟨#[]⟩ : ByteArray) = ⟨#[]⟩ then 0 else 1) < _
        rw [if_pos rfl, if_neg hr]; omega
    · rw [if_neg hei] at hm hres ⊢
      unfold pieceM at hm
      simp only [Option.map_eq_some_iff] at hm
      obtain ⟨x, hx, e1⟩ := hm
      simp at e1
      obtain ⟨rfl, rfl⟩ := e1
      rw [hx] at hres
      refine ⟨⟨f, ⟨?_, by show s.size - e ≤ f; omega, h2, (text_inv (e := e) h.inv h1 (by rw [ByteArray.size_extract]; omega) hx), ?_, Nat.zero_le _⟩⟩, ?_⟩
      · rw [hres]
        unfold rawThen
        show _ = if (⟨#[]⟩ : ByteArray) = ⟨#[]⟩ then _ else _
        rw [if_pos rfl]
        rfl
      · show u + 2 + 0 + (if (⟨#[]⟩ : ByteArray) = ⟨#[]⟩ then 0 else 2) ≤ 6 * e
        rw [if_pos rfl]; omega
      · unfold left
        show 2 * (s.size - e) + (if (⟨#[]⟩ : ByteArray) = ⟨#[]⟩ then 0 else 1) < _
        rw [if_pos rfl, if_neg hr]; omega
/-- a piece was one too many -/
theorem St.bad {s : ByteArray} {R : Res} {i : Nat} {raw : ByteArray} {ns : List Nd} {op : List Nat} {u f : Nat} (h : St s R i raw ns op u f) (hi : i < s.size) (hm : pieceM ns op (pcNext s i raw) = none) : R = .bad i := by
  by_cases hr : raw = ⟨#[]⟩
  · subst hr
    rw [pcNext_empty] at hm
    have hfu := h.fuel
    obtain ⟨f', rfl⟩ : ∃ f', f = f' + 1 := ⟨f - 1, by omega⟩
    rw [h.res]
    unfold rawThen
    rw [if_pos rfl]
    rw [readF, if_pos hi, hm]
  · rw [pcNext_raw hr] at hm
    have hres := h.res
    unfold rawThen at hres
    unfold pcRaw at hm
    rw [if_neg hr] at hres
    by_cases hei : rawE s raw i = i
    · rw [if_pos hei] at hm
      simp [pieceM] at hm
    · rw [if_neg hei] at hm hres
      unfold pieceM at hm
      simp only [Option.map_eq_none_iff] at hm
      rw [hm] at hres
      exact hres
theorem St.start (s : ByteArray) : St s (readS s) 0 ⟨#[]⟩ [docN] [] 0 s.size := by
  refine ⟨?_, by omega, Nat.zero_le _, inv0, by rw [if_pos rfl]; omega, Nat.zero_le _⟩
  unfold readS rawThen
  rw [if_pos rfl]
end Go.Proofs.YtkaeenafejdkfaaGreatDoor
