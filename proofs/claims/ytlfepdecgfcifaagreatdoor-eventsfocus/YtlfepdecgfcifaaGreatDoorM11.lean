/- Package events: whether a node takes the focus, and when. -/
import Derived.Test.YtlfepdecgfcifaaGreatDoorM10
import Derived.Test.YtlfepdecgfcifaaGreatDoorShelf
import Derived.Shelf.Strings.SlTrimAscii
import Derived.Test.YtlfepdecgfcifaaGreatDoorRows
import Derived.Test.YtlfepdecgfcifaaGreatDoorM02
import Derived.LaidLaws
import Derived.LaidHandle
import Derived.Stop.LaidErr
namespace Go.Proofs.YtlfepdecgfcifaaGreatDoor
open Go.RowKit
set_option linter.unusedVariables false
attribute [local go_sem] Oper.semAt_some

/-- what strconv's error holds: a value that is one -/
def ErrSx (w : World) : Prop := ∃ ev, w.cell? ⟨4, 0, none⟩ = some ev ∧ (ev = .nilIface ∨ ∃ te pe, ev = .iface te pe)
theorem ErrSx.lt {w : World} (h : ErrSx w) : 4 < w.heap.size := by
  obtain ⟨ev, h1, _⟩ := h
  exact World.block_lt_of_cell? w ⟨4, 0, none⟩ h1
theorem ErrSx.held {w w' : World} (h : ErrSx w) (hb : Below w.heap.size w w') : ErrSx w' := by
  have := h.lt
  obtain ⟨ev, h1, h2⟩ := h
  exact ⟨ev, (hb.cell (p := ⟨4, 0, none⟩) this).trans h1, h2⟩

def digs : List UInt8 := [48, 49, 50, 51, 52, 53, 54, 55, 56, 57]
/-- the whole number that a text is -/
def wholeP (s : ByteArray) : Int × Bool :=
  if 9 < (Lib.trimPrefix s.data.toList [45]).length then (0, false)
  else if Lib.trimS (Lib.trimPrefix s.data.toList [45]) digs = [] then (match Lib.atoi s.data.toList with | some n => (n, true) | none => (0, false))
  else (0, false)

theorem bytes_toList (l : List UInt8) : (⟨l.toArray⟩ : ByteArray).data.toList = l := rfl
theorem size_toArray (l : List UInt8) : (⟨l.toArray⟩ : ByteArray).size = l.length := by simp [ByteArray.size]
theorem trimPrefix_len (l : List UInt8) : l.length ≤ (Lib.trimPrefix l [45]).length + 1 := by
  unfold Lib.trimPrefix
  split
  · rw [List.length_drop]
    show _ ≤ _ - 1 + 1
    omega
  · omega

set_option maxHeartbeats 4000000 in
set_option maxRecDepth 100000 in
theorem whole_any (s : ByteArray) {w : World} (hx : ErrSx w) :
    Calls Tryz.prog 65 #[.string s] w fun e w' => e = .returned (.tuple #[.int .i64 (wholeP s).1, .bool (wholeP s).2]) ∧ Below w.heap.size w w' := by
  have TP := hid (Tryz.strings_TrimPrefix s ⟨#[45]⟩ w)
  have hmx : Tryz.prog.follows Departure.mixedOrders = true := by kernel_rfl
  have HX := hid hx
  obtain ⟨d, hd⟩ : ∃ d, d = Lib.trimPrefix s.data.toList [45] := ⟨_, rfl⟩
  have hsz := size_toArray d
  have hpl := trimPrefix_len s.data.toList
  rw [← hd] at hpl
  have HD := hid hd
  by_cases h9 : 9 < d.length
  · have h9' : (9 : Int) < (d.length : Int) := by omega
    have e : wholeP s = (0, false) := by unfold wholeP; rw [← hd, if_pos h9]
    rw [e]
    clear hd hx
    go_enter Tryz.func65, Tryz.ntmps65
    go_wp2_with fail
    refine TP.out.mono ?_
    rintro e w' ⟨rfl, rfl⟩
    rw [show (Lib.trimPrefix s.data.toList (⟨#[45]⟩ : ByteArray).data.toList) = d from HD.out.symm]
    go_wp2_with fail
    all_goals go_returns
    all_goals exact ⟨rfl, Below.refl _ _⟩
  · have h9' : ¬ (9 : Int) < (d.length : Int) := by omega
    have TR := hid (fun W => Any.strings_Trim_laid Tryz.lays160 (by kernel_rfl) ⟨d.toArray⟩ ⟨#[48, 49, 50, 51, 52, 53, 54, 55, 56, 57]⟩ W (by rw [hsz]; omega) (by decide) (ascii_of_all (by decide)))
    have hs10 : s.size ≤ 18 := by have := Lib.size_eq s; omega
    by_cases ht : Lib.trimS d digs = []
    · have e0 : wholeP s = (match Lib.atoi s.data.toList with | some n => (n, true) | none => (0, false)) := by unfold wholeP; rw [← hd, if_neg h9, if_pos ht]
      have HT := hid ht
      cases ha : Lib.atoi s.data.toList with
      | none =>
        rw [e0, ha]
        obtain ⟨ev, hv1, hv2⟩ := hx
        have AT := hid (fun (W : World) (hb : Below w.heap.size w W) => Tryz.strconv_Atoi_err s hs10 ha ev W ((hb.cell (p := ⟨4, 0, none⟩) (World.block_lt_of_cell? w ⟨4, 0, none⟩ hv1)).trans hv1) hv2)
        clear hd ht e0 ha hv1 hv2
        go_enter Tryz.func65, Tryz.ntmps65
        go_wp2_with fail
        refine TP.out.mono ?_
        rintro e w' ⟨rfl, rfl⟩
        rw [show (Lib.trimPrefix s.data.toList (⟨#[45]⟩ : ByteArray).data.toList) = d from HD.out.symm]
        go_wp2_with fail
        refine (TR.out _).mono ?_
        rintro e w1 ⟨rfl, hb1⟩
        have HB1 := hid hb1
        rw [show (Lib.trimS (⟨d.toArray⟩ : ByteArray).data.toList (⟨#[48, 49, 50, 51, 52, 53, 54, 55, 56, 57]⟩ : ByteArray).data.toList) = [] from HT.out]
        clear hb1
        go_wp2_with fail
        refine (AT.out _ HB1.out).mono ?_
        rintro e w2 ⟨N, rfl, _, _, hb2⟩
        have HB2 := hid (HB1.out.trans (hb2.mono HB1.out.size))
        clear hb2
        go_wp2_with fail
        go_quiet (fail)
        go_wp2_with fail
        go_returns
        exact ⟨rfl, belD HB2.out _⟩
      | some n =>
        rw [e0, ha]
        have AT := hid (fun (W : World) => Tryz.strconv_Atoi s n hs10 ha W)
        clear hd ht e0 ha hx
        go_enter Tryz.func65, Tryz.ntmps65
        go_wp2_with fail
        refine TP.out.mono ?_
        rintro e w' ⟨rfl, rfl⟩
        rw [show (Lib.trimPrefix s.data.toList (⟨#[45]⟩ : ByteArray).data.toList) = d from HD.out.symm]
        go_wp2_with fail
        refine (TR.out _).mono ?_
        rintro e w1 ⟨rfl, hb1⟩
        have HB1 := hid hb1
        rw [show (Lib.trimS (⟨d.toArray⟩ : ByteArray).data.toList (⟨#[48, 49, 50, 51, 52, 53, 54, 55, 56, 57]⟩ : ByteArray).data.toList) = [] from HT.out]
        clear hb1
        go_wp2_with fail
        refine (AT.out _).mono ?_
        rintro e w2 ⟨rfl, t, hw2⟩
        have hb2 : Below w1.heap.size w1 w2 := by rw [hw2]; exact Lib.bytesWorld_below _ _ _
        have HB2 := hid (HB1.out.trans (hb2.mono HB1.out.size))
        clear hw2 hb2
        go_wp2_with fail
        go_quiet (fail)
        go_wp2_with fail
        go_returns
        exact ⟨rfl, belD HB2.out _⟩
    · have e0 : wholeP s = (0, false) := by unfold wholeP; rw [← hd, if_neg h9, if_neg ht]
      rw [e0]
      have HT := hid ht
      obtain ⟨b, l, hbl⟩ : ∃ b l, Lib.trimS d digs = b :: l := by
        cases h : Lib.trimS d digs with
        | nil => exact absurd h ht
        | cons b l => exact ⟨b, l, rfl⟩
      have HBL := hid hbl
      clear hd ht hx hbl
      go_enter Tryz.func65, Tryz.ntmps65
      go_wp2_with fail
      refine TP.out.mono ?_
      rintro e w' ⟨rfl, rfl⟩
      rw [show (Lib.trimPrefix s.data.toList (⟨#[45]⟩ : ByteArray).data.toList) = d from HD.out.symm]
      go_wp2_with fail
      refine (TR.out _).mono ?_
      rintro e w1 ⟨rfl, hb1⟩
      have HB1 := hid hb1
      rw [show (Lib.trimS (⟨d.toArray⟩ : ByteArray).data.toList (⟨#[48, 49, 50, 51, 52, 53, 54, 55, 56, 57]⟩ : ByteArray).data.toList) = b :: l from HBL.out]
      clear hb1
      go_wp2_with fail
      all_goals go_returns
      all_goals exact ⟨rfl, HB1.out⟩

/-! ### of a node -/
def noText : ByteArray := ⟨#[]⟩
/-- an attribute's value, and whether it is there -/
def attrN (n : Nd) (name : ByteArray) : ByteArray × Bool := match findA n.attrs name with
  | some k => ((n.attrs[k]?.getD (noText, noText)).2, true)
  | none => (noText, false)
def takesN (n : Nd) : Bool :=
  if n.tag = ⟨#[98, 117, 116, 116, 111, 110]⟩ ∨ n.tag = ⟨#[105, 110, 112, 117, 116]⟩ ∨ n.tag = ⟨#[115, 101, 108, 101, 99, 116]⟩ then true
  else if n.tag = ⟨#[97]⟩ then (attrN n ⟨#[104, 114, 101, 102]⟩).2 else false
/-- at which turn a node takes the focus -/
def turnN (n : Nd) : Int :=
  if (if (attrN n ⟨#[116, 97, 98, 105, 110, 100, 101, 120]⟩).2 then (wholeP (attrN n ⟨#[116, 97, 98, 105, 110, 100, 101, 120]⟩).1).2 else takesN n) = false ∨ (attrN n ⟨#[100, 105, 115, 97, 98, 108, 101, 100]⟩).2 = true then 0
  else if (wholeP (attrN n ⟨#[116, 97, 98, 105, 110, 100, 101, 120]⟩).1).1 = 0 then 1000000000 else (wholeP (attrN n ⟨#[116, 97, 98, 105, 110, 100, 101, 120]⟩).1).1
theorem findA_lt {l : List (ByteArray × ByteArray)} {name : ByteArray} {k : Nat} (h : findA l name = some k) : k < l.length := by
  unfold findA at h
  exact (List.findIdx?_eq_some_iff_findIdx_eq.1 h).1
set_option maxHeartbeats 2000000 in
set_option maxRecDepth 100000 in
theorem attr_any {w : World} {M : Nat → Lab} {tb : Nat} {nv uv : Value} {ps : List Pn} {us : List Value} (h : Lies w M tb nv uv ps us) {i : Nat} {p : Pn} (hp : ps[i]? = some p) (name : ByteArray) :
    Calls Tryz.prog 64 #[.pointer (some ⟨tb, 0, none⟩), .int .i64 i, .string name] w fun e w' => e = .returned (.tuple #[.string (attrN p.n name).1, .bool (attrN p.n name).2]) ∧ Below w.heap.size w w' := by
  have hb := hasB_of hp
  obtain ⟨nb, cap, rfl, hc, hm, _, hnb, hi⟩ := h.form hp
  have c0 := h.cell0
  have FN := hid (find_any h hp name)
  have HN := hid (hasB_of hp)
  have HH := hid (has_any h (i : Int))
  have hr := (h.node i p hp).1
  have HL := hid h
  have c3 := (h.cellN rfl (f := 3) hp (by omega) rfl).1
  unfold maxLen at hm
  have hi' : (i : Int) < (ps.length : Int) := by omega
  have htb : tb < w.heap.size := World.block_lt_of_cell? w ⟨tb, 0, none⟩ c0
  cases hf : findA p.n.attrs name with
  | none =>
    have e1 : attrN p.n name = (noText, false) := by unfold attrN; rw [hf]
    have e2 : findI p.n.attrs name = -1 := by unfold findI; rw [hf]
    rw [e1]
    rw [e2] at FN
    clear hf hr
    go_enter Tryz.func64, Tryz.ntmps64
    go_wp2_with (go_at_call 54; refine HH.out.mono ?_; rintro e w' ⟨rfl, rfl⟩; rw [hb])
    refine FN.out.mono ?_
    rintro e w1 ⟨rfl, hb1⟩
    have HB1 := hid hb1
    clear hb1
    go_wp2_with fail
    go_returns
    exact ⟨rfl, HB1.out⟩
  | some k =>
    have hk := findA_lt hf
    obtain ⟨x, hx⟩ : ∃ x, p.n.attrs[k]? = some x := ⟨_, List.getElem?_eq_getElem hk⟩
    have e1 : attrN p.n name = (x.2, true) := by unfold attrN; rw [hf]; simp only [hx, Option.getD_some]
    have e2 : findI p.n.attrs name = k := by unfold findI; rw [hf]
    rw [e1]
    rw [e2] at FN
    obtain ⟨_, _, hsh, ha1, ha2⟩ := hr.shape
    obtain ⟨av, acap, hav, hat⟩ := hr.attrsAt
    obtain ⟨g, hao, d0, d1⟩ := hat k x hx
    have hg : g < w.heap.size := World.block_lt_of_cell? w ⟨g, _, none⟩ d1
    subst hao
    have hkl : (k : Int) < (p.n.attrs.length : Int) := by omega
    rw [hav] at c3
    clear hf hr hx hat
    go_enter Tryz.func64, Tryz.ntmps64
    go_wp2_with (go_at_call 54; refine HH.out.mono ?_; rintro e w' ⟨rfl, rfl⟩; rw [hb])
    refine FN.out.mono ?_
    rintro e w1 ⟨rfl, hb1⟩
    have HB1 := hid hb1
    have c3' := (hb1.cell (p := ⟨nb, i * 6 + 3, none⟩) hnb).trans c3
    have d1' := (hb1.cell (p := ⟨g, k * 2 + 1, none⟩) hg).trans d1
    clear hb1
    go_wp2_with fail
    go_returns
    exact ⟨rfl, HB1.out⟩

set_option maxHeartbeats 1000000 in
theorem evHas_any {w : World} {M : Nat → Lab} {tb : Nat} {nv uv : Value} {ps : List Pn} {us : List Value} (h : Lies w M tb nv uv ps us) {i : Nat} {p : Pn} (hp : ps[i]? = some p) (name : ByteArray) :
    Calls Tryz.prog 67 #[.pointer (some ⟨tb, 0, none⟩), .int .i64 i, .string name] w fun e w' => e = .returned (.bool (attrN p.n name).2) ∧ Below w.heap.size w w' := by
  have AT := hid (attr_any h hp name)
  clear h hp
  go_enter Tryz.func67, Tryz.ntmps67
  go_wp2_with fail
  refine AT.out.mono ?_
  rintro e w1 ⟨rfl, hb1⟩
  have HB1 := hid hb1
  clear hb1
  go_wp2_with fail
  go_returns
  exact ⟨rfl, HB1.out⟩
theorem neT {a : ByteArray} {l : List UInt8} (h : ¬ a = ⟨l.toArray⟩) : (a.toList == l) = false := by
  rw [beq_eq_false_iff_ne]
  intro e
  apply h
  rw [Lib.toList_data] at e
  rw [← Lib.mk_data a, e]
set_option maxHeartbeats 2000000 in
set_option maxRecDepth 100000 in
theorem takes_any {w : World} {M : Nat → Lab} {tb : Nat} {nv uv : Value} {ps : List Pn} {us : List Value} (h : Lies w M tb nv uv ps us) {i : Nat} {p : Pn} (hp : ps[i]? = some p) :
    Calls Tryz.prog 66 #[.pointer (some ⟨tb, 0, none⟩), .int .i64 i] w fun e w' => e = .returned (.bool (takesN p.n)) ∧ Below w.heap.size w w' := by
  have TG := hid (tag_any h hp)
  have HA := hid (evHas_any h hp ⟨#[104, 114, 101, 102]⟩)
  clear h hp
  unfold takesN
  by_cases h1 : p.n.tag = ⟨#[98, 117, 116, 116, 111, 110]⟩
  · rw [if_pos (.inl h1)]
    rw [h1] at TG
    clear h1
    go_enter Tryz.func66, Tryz.ntmps66
    go_wp2_with (go_at_call 87; refine TG.out.mono ?_; rintro e w' ⟨rfl, rfl⟩)
    go_returns
    exact ⟨rfl, Below.refl _ _⟩
  by_cases h2 : p.n.tag = ⟨#[105, 110, 112, 117, 116]⟩
  · rw [if_pos (.inr (.inl h2))]
    rw [h2] at TG
    clear h1 h2
    go_enter Tryz.func66, Tryz.ntmps66
    go_wp2_with (go_at_call 87; refine TG.out.mono ?_; rintro e w' ⟨rfl, rfl⟩)
    go_returns
    exact ⟨rfl, Below.refl _ _⟩
  by_cases h3 : p.n.tag = ⟨#[115, 101, 108, 101, 99, 116]⟩
  · rw [if_pos (.inr (.inr h3))]
    rw [h3] at TG
    clear h1 h2 h3
    go_enter Tryz.func66, Tryz.ntmps66
    go_wp2_with (go_at_call 87; refine TG.out.mono ?_; rintro e w' ⟨rfl, rfl⟩)
    go_returns
    exact ⟨rfl, Below.refl _ _⟩
  rw [if_neg (by rintro (h | h | h); exact h1 h; exact h2 h; exact h3 h)]
  by_cases h4 : p.n.tag = ⟨#[97]⟩
  · rw [if_pos h4]
    rw [h4] at TG
    clear h1 h2 h3 h4
    go_enter Tryz.func66, Tryz.ntmps66
    go_wp2_with (go_at_call 87; refine TG.out.mono ?_; rintro e w' ⟨rfl, rfl⟩)
    refine HA.out.mono ?_
    rintro e w1 ⟨rfl, hb1⟩
    have HB1 := hid hb1
    clear hb1
    go_wp2_with fail
    go_returns
    exact ⟨rfl, HB1.out⟩
  · rw [if_neg h4]
    have f1 : (p.n.tag.toList == [98, 117, 116, 116, 111, 110]) = false := neT h1
    have f2 : (p.n.tag.toList == [105, 110, 112, 117, 116]) = false := neT h2
    have f3 : (p.n.tag.toList == [115, 101, 108, 101, 99, 116]) = false := neT h3
    have f4 : (p.n.tag.toList == [97]) = false := neT h4
    clear h1 h2 h3 h4
    go_enter Tryz.func66, Tryz.ntmps66
    go_wp2_with (go_at_call 87; refine TG.out.mono ?_; rintro e w' ⟨rfl, rfl⟩)
    go_returns
    exact ⟨rfl, Below.refl _ _⟩

set_option maxHeartbeats 4000000 in
set_option maxRecDepth 100000 in
theorem turn_any {w : World} {M : Nat → Lab} {tb : Nat} {nv uv : Value} {ps : List Pn} {us : List Value} (h : Lies w M tb nv uv ps us) {i : Nat} {p : Pn} (hp : ps[i]? = some p) (hx : ErrSx w) :
    Calls Tryz.prog 32 #[.pointer (some ⟨tb, 0, none⟩), .int .i64 i] w fun e w' => e = .returned (.int .i64 (turnN p.n)) ∧ Below w.heap.size w w' := by
  have HL := hid (fun (W : World) (hb : Below w.heap.size w W) => h.below hb)
  have HP := hid hp
  have A1 := hid (attr_any h hp ⟨#[116, 97, 98, 105, 110, 100, 101, 120]⟩)
  have A2 := hid (fun (W : World) (hb : Below w.heap.size w W) => evHas_any (h.below hb) hp ⟨#[100, 105, 115, 97, 98, 108, 101, 100]⟩)
  have A3 := hid (fun (W : World) (hb : Below w.heap.size w W) => takes_any (h.below hb) hp)
  unfold turnN
  obtain ⟨⟨tx, told⟩, h1⟩ : ∃ q, attrN p.n ⟨#[116, 97, 98, 105, 110, 100, 101, 120]⟩ = q := ⟨_, rfl⟩
  obtain ⟨dis, h2⟩ : ∃ q, (attrN p.n ⟨#[100, 105, 115, 97, 98, 108, 101, 100]⟩).2 = q := ⟨_, rfl⟩
  obtain ⟨tk, h3⟩ : ∃ q, takesN p.n = q := ⟨_, rfl⟩
  obtain ⟨⟨wn, wp⟩, h4⟩ : ∃ q, wholeP tx = q := ⟨_, rfl⟩
  have A4 := hid (fun (W : World) (hb : Below w.heap.size w W) => whole_any tx (hx.held hb))
  rw [h1] at A1 ⊢
  rw [h2] at A2 ⊢
  rw [h3] at A3 ⊢
  simp only at A1 ⊢
  rw [h4] at A4 ⊢
  simp only at A4 ⊢
  clear h1 h2 h3 h4 h hp hx
  have main : ∀ part : Bool, (if told then wp else tk) = part → Calls Tryz.prog 32 #[.pointer (some ⟨tb, 0, none⟩), .int .i64 i] w fun e w' => e = .returned (.int .i64 (if part = false ∨ dis = true then 0 else if wn = 0 then 1000000000 else wn)) ∧ Below w.heap.size w w' := by
    intro part hpart
    cases told
    · simp only [Bool.false_eq_true, if_false] at hpart
      subst hpart
      go_enter Tryz.func32, Tryz.ntmps32
      go_wp2_with fail
      refine A1.out.mono ?_
      rintro e w1 ⟨rfl, hb1⟩
      have HB1 := hid hb1
      clear hb1
      go_wp2_with fail
      refine (A4.out _ HB1.out).mono ?_
      rintro e w2 ⟨rfl, hb2⟩
      have HB2 := hid (HB1.out.trans (hb2.mono HB1.out.size))
      clear hb2
      go_wp2_with fail
      refine (A3.out _ HB2.out).mono ?_
      rintro e w3 ⟨rfl, hb3⟩
      have HB3 := hid (HB2.out.trans (hb3.mono HB2.out.size))
      clear hb3
      cases tk
      · go_wp2_with fail
        go_returns
        exact ⟨by first | rfl | simp, HB3.out⟩
      · go_wp2_with fail
        refine (A2.out _ HB3.out).mono ?_
        rintro e w4 ⟨rfl, hb4⟩
        have HB4 := hid (HB3.out.trans (hb4.mono HB3.out.size))
        clear hb4
        cases dis
        · by_cases hz : wn = 0
          · have hz' : (wn == 0) = true := by simpa using hz
            go_wp2_with fail
            go_returns
            exact ⟨by first | rfl | (rw [if_pos hz]; rfl) | simp [hz], HB4.out⟩
          · have hz' : (wn == 0) = false := by simpa using hz
            go_wp2_with fail
            go_returns
            exact ⟨by first | rfl | (rw [if_neg hz]; rfl) | simp [hz], HB4.out⟩
        · go_wp2_with fail
          go_returns
          exact ⟨by first | rfl | simp, HB4.out⟩
    · simp only [if_true] at hpart
      subst hpart
      go_enter Tryz.func32, Tryz.ntmps32
      go_wp2_with fail
      refine A1.out.mono ?_
      rintro e w1 ⟨rfl, hb1⟩
      have HB1 := hid hb1
      clear hb1
      go_wp2_with fail
      refine (A4.out _ HB1.out).mono ?_
      rintro e w2 ⟨rfl, hb2⟩
      have HB2 := hid (HB1.out.trans (hb2.mono HB1.out.size))
      clear hb2
      cases wp
      · go_wp2_with fail
        go_returns
        exact ⟨by first | rfl | simp, HB2.out⟩
      · go_wp2_with fail
        refine (A2.out _ HB2.out).mono ?_
        rintro e w4 ⟨rfl, hb4⟩
        have HB4 := hid (HB2.out.trans (hb4.mono HB2.out.size))
        clear hb4
        cases dis
        · by_cases hz : wn = 0
          · have hz' : (wn == 0) = true := by simpa using hz
            go_wp2_with fail
            go_returns
            exact ⟨by first | rfl | (rw [if_pos hz]; rfl) | simp [hz], HB4.out⟩
          · have hz' : (wn == 0) = false := by simpa using hz
            go_wp2_with fail
            go_returns
            exact ⟨by first | rfl | (rw [if_neg hz]; rfl) | simp [hz], HB4.out⟩
        · go_wp2_with fail
          go_returns
          exact ⟨by first | rfl | simp, HB4.out⟩
  exact main _ rfl
end Go.Proofs.YtlfepdecgfcifaaGreatDoor

/- What the listed variables give: four of package api's errors and two of package strconv's lie in memory. -/
namespace Go.Proofs.YtlfepdecgfcifaaGreatDoor
open Go.RowKit Go.ChangeShapes

theorem sentinelsR {P : Program} {W : World} {ti tp te ts : TypeId} {ms : Array (String × TypeId)} {nm : String} {f : Field}
    (hi : P.underlying ti = some (.interface ms)) (hrow : ∀ u, P.typeName? 3 u = some nm → u = tp)
    (hp : P.underlying tp = some (.pointer te)) (he : P.underlying te = some (.struct #[f])) (hft : f.type = ts) (hfo : f.offset = 0) (hs : P.underlying ts = some .string) (hc : P.cellsOf te = 1) (hcs : P.cellsOf ts = 1) :
    ∀ (l : List (String × List UInt8)) (r : List (String × DataW Unit)) (ps : List MemPlace), DataW.LaidVars P W ((l.map fun x => (x.1, .iface nm (.ptr (.agg [.lit (.string x.2)])))) ++ r) ps →
      (∀ x ∈ l, (P.globalNamed x.1).bind (fun g => (P.globals[g]?).map (·.type)) = some ti) →
      (∀ b off, MemPlace.cell b off ∈ ps → (∃ c t, W.heap[b]? = some (.cells c t (0, 0))) ∧ ∀ u v, W.cell? ⟨b, off, none⟩ = some (.iface u v) → Value.okWide P W .any 0 u v) →
      ∃ av : List Addr, av.length = l.length ∧ (∀ i (h : i < l.length) (h' : i < av.length), W.var? P l[i].1 = some #[.iface tp (.pointer (some av[i]))])
  | [], r, ps, _, _, _ => ⟨[], rfl, fun i h => by simp at h⟩
  | x :: l, r, ps, h, ht, hr => by
    obtain ⟨g, t, cs, fuel, p, q, hg, htt, hv, hd, hq, rfl⟩ := h
    have ht0 := ht x (List.mem_cons_self ..)
    rw [hg] at ht0
    simp only [Option.bind_some] at ht0
    obtain rfl := Option.some.inj (ht0.symm.trans htt)
    obtain ⟨l0⟩ := cs
    have ok0 : ∀ u v, l0 = [.iface u v] → Value.okWide P W .any 0 u v := fun u v e => by
      subst e
      exact (hr g 0 (by simp [MemPlace.row])).2 u v (by simpa using World.var?_cell hg hv 0)
    obtain ⟨a, s, rfl, _, _, _, rfl⟩ := errorString_of_trod hi hrow hp he hft hfo hs hc hcs hd ok0
    obtain ⟨av, hl, hvs⟩ := sentinelsR hi hrow hp he hft hfo hs hc hcs l r q hq (fun y hy => ht y (List.mem_cons_of_mem _ hy)) (fun b off hm => hr b off (List.mem_append_right _ hm))
    refine ⟨a :: av, by simp [hl], ?_⟩
    intro i h1 h2
    cases i with
    | zero => exact hv
    | succ i => exact hvs i (by simpa using h1) (by simpa using h2)
theorem laid_drop {P : Program} {W : World} {x : String × DataW Unit} {l : List (String × DataW Unit)} {ps : List MemPlace} (h : DataW.LaidVars P W (x :: l) ps) : ∃ q, DataW.LaidVars P W l q ∧ ∀ m ∈ q, m ∈ ps := by
  obtain ⟨g, t, cs, fuel, p, q, hg, htt, hv, hd, hq, rfl⟩ := h
  exact ⟨q, hq, fun m hm => List.mem_append_right _ hm⟩

theorem star : ("*" ++ "errors.errorString" : String) = "*errors.errorString" := by decide
theorem rowErr (u : TypeId) (h : Tryz.prog.typeName? 3 u = some "*errors.errorString") : u = 156 :=
  typeName_ptr_named (nm := "errors.errorString") (by rw [star]; kernel_rfl) (by kernel_rfl) (by decide) u (by rw [star]; exact h)
theorem cellsErr : Tryz.prog.cellsOf 158 = 1 := by kernel_rfl
theorem cellsS : Tryz.prog.cellsOf 9 = 1 := by kernel_rfl

/-- the six, by name and text -/
def six : List (String × List UInt8) := [("casement/api.ErrBound", [99, 97, 115, 101, 109, 101, 110, 116, 58, 32, 98, 111, 117, 110, 100]), ("casement/api.ErrName", [99, 97, 115, 101, 109, 101, 110, 116, 58, 32, 110, 97, 109, 101]), ("casement/api.ErrNode", [99, 97, 115, 101, 109, 101, 110, 116, 58, 32, 110, 111, 100, 101]), ("casement/api.ErrPlace", [99, 97, 115, 101, 109, 101, 110, 116, 58, 32, 112, 108, 97, 99, 101]), ("strconv.ErrRange", [118, 97, 108, 117, 101, 32, 111, 117, 116, 32, 111, 102, 32, 114, 97, 110, 103, 101]), ("strconv.ErrSyntax", [105, 110, 118, 97, 108, 105, 100, 32, 115, 121, 110, 116, 97, 120])]
theorem tErrs6 : ∀ x ∈ six, (Tryz.prog.globalNamed x.1).bind (fun g => (Tryz.prog.globals[g]?).map (·.type)) = some 47 := by
  have h : (six.all fun x => (Tryz.prog.globalNamed x.1).bind (fun g => (Tryz.prog.globals[g]?).map (·.type)) == some 47) = true := by kernel_rfl
  intro x hx
  exact of_decide_eq_true (by simpa using List.all_eq_true.1 h x hx)
theorem gErrs6 : ∀ g, errG g = true → ∃ (i : Nat) (h : i < six.length), Tryz.prog.globalNamed (six[i]'h).1 = some g := by
  intro g hg
  unfold errG at hg
  simp only [Bool.or_eq_true, beq_iff_eq] at hg
  rcases hg with ((rfl | rfl) | rfl) | rfl
  · exact ⟨1, by decide, (show Tryz.prog.globalNamed "casement/api.ErrName" = some 0 by kernel_rfl)⟩
  · exact ⟨0, by decide, (show Tryz.prog.globalNamed "casement/api.ErrBound" = some 1 by kernel_rfl)⟩
  · exact ⟨2, by decide, (show Tryz.prog.globalNamed "casement/api.ErrNode" = some 2 by kernel_rfl)⟩
  · exact ⟨3, by decide, (show Tryz.prog.globalNamed "casement/api.ErrPlace" = some 3 by kernel_rfl)⟩

theorem errs_of_laidE {W : World} {M : Nat → Lab} (hM : ∀ b, M b = .other) (h : laidMetH Tryz.prog Rows.eventsRoundRow.laid W) : Errs W M ∧ ErrSx W := by
  have h' : laidMet Tryz.prog (("math/bits.deBruijn32tab", Rows.laid_math_bits_deBruijn32tab) :: ("math/bits.deBruijn64tab", Rows.laid_math_bits_deBruijn64tab) :: ("internal/strconv.uint64pow10", Rows.laid_internal_strconv_uint64pow10) :: ("unicode/utf8.acceptRanges", Rows.laid_unicode_utf8_acceptRanges) :: ((six.map fun x => (x.1, .iface "*errors.errorString" (.ptr (.agg [.lit (.string x.2)])))) ++ [("unicode/utf8.first", Rows.laid_unicode_utf8_first)])) W := h
  obtain ⟨ps, hv, hnd, hr⟩ := h'
  obtain ⟨p1, v1, s1⟩ := laid_drop hv
  obtain ⟨p2, v2, s2⟩ := laid_drop v1
  obtain ⟨p3, v3, s3⟩ := laid_drop v2
  obtain ⟨p4, v4, s4⟩ := laid_drop v3
  obtain ⟨av, hl, hvs⟩ := sentinelsR Tryz.underlying47 rowErr Tryz.underlying156 Tryz.underlying158 rfl rfl Tryz.underlying9 cellsErr cellsS six _ p4 v4 tErrs6 (fun b off hm => hr b off (s1 _ (s2 _ (s3 _ (s4 _ hm)))))
  refine ⟨⟨fun g _ => hM g, fun g hg => ?_⟩, ?_⟩
  · obtain ⟨i, h1, h2⟩ := gErrs6 g hg
    have := hvs i h1 (by rw [hl]; exact h1)
    exact ⟨156, av[i]'(by rw [hl]; exact h1), by simpa using World.var?_cell h2 this 0⟩
  · have h5 : 5 < six.length := by decide
    have := hvs 5 h5 (by rw [hl]; exact h5)
    have h2 : Tryz.prog.globalNamed (six[5]'h5).1 = some 4 := (show Tryz.prog.globalNamed "strconv.ErrSyntax" = some 4 by kernel_rfl)
    exact ⟨_, World.var?_cell h2 this 0, .inr ⟨_, _, rfl⟩⟩
end Go.Proofs.YtlfepdecgfcifaaGreatDoor
