/- The program: an element is spelt. -/
import Derived.Test.YtkaeenafejdkfaaGreatDoorM26
import Derived.Test.YtkaeenafejdkfaaGreatDoorM20
import Derived.Test.YtkaeenafejdkfaaGreatDoorM23
namespace Go.Proofs.YtkaeenafejdkfaaGreatDoor
open Go.RowKit

def catB (l : List ByteArray) : List UInt8 := l.flatMap fun s => s.data.toList
theorem catV_byte (l : List ByteArray) : catV l = Lib.byteCells (catB l) := by
  induction l with
  | nil => rfl
  | cons x l ih =>
    have e1 : catV (x :: l) = Lib.strCells x ++ catV l := by simp [catV]
    have e2 : catB (x :: l) = x.data.toList ++ catB l := by simp [catB]
    rw [e1, e2, Lib.byteCells_append, ih, Lib.strCells_eq]
theorem catN_byte (l : List ByteArray) : catN l = (catB l).length := by
  rw [← catV_length, catV_byte, Lib.byteCells_length]
theorem quote_ge (m : UInt8) : ∀ l : List UInt8, l.length ≤ (quoteL m l).length
  | [] => Nat.le_refl _
  | c :: l => by
    have ih := quote_ge m l
    unfold quoteL
    split
    · have := (refOf_len c).2
      rw [List.length_append, List.length_cons]; omega
    · rw [List.length_cons, List.length_cons]; omega

section
variable {w0 : World} {M : Nat → Lab} {tb : Nat} {nv uv : Value} {ps : List Pn} {us : List Value} {b : Nat} {l : List UInt8} {op : Int} {w : World}

theorem WAt.put (h : WAt w0 M tb nv uv ps us b l op w) (parts : List ByteArray) (hlen : l.length + (catB parts).length ≤ 20000) (hpl : parts.length ≤ 1000) {W : World}
    (hW : W = w.alloc (.cells (parts.map Value.string).toArray 9) ∨ W = (w.alloc (.cells (parts.map Value.string).toArray 9)).drew) :
    Calls Tryz.prog 117 #[.pointer (some ⟨b, 0, none⟩), .slice (some ⟨w.heap.size, 0, none⟩) parts.length parts.length] W fun e w' => e = .returned (.tuple #[]) ∧ Hid (WAt w0 M tb nv uv ps us b (l ++ catB parts) op w' ∧ Spk w0.heap.size w w') := by
  refine (spPut_new parts h.sp (Spk.refl _ _) h.kept.below.size (by rw [Lib.byteCells_length, catN_byte]; exact hlen) hpl hW).mono ?_
  rintro e w' ⟨rfl, g⟩
  refine ⟨rfl, hid ⟨⟨h.tree, ?_, h.kept.trans g.out.2⟩, g.out.2⟩⟩
  rw [Lib.byteCells_append, ← catV_byte]
  exact g.out.1
theorem WAt.quote (h : WAt w0 M tb nv uv ps us b l op w) (s : ByteArray) (m : Nat) (hm : m < 256) (hlen : l.length + (quoteL m.toUInt8 s.data.toList).length ≤ 20000) :
    Calls Tryz.prog 116 #[.pointer (some ⟨b, 0, none⟩), .string s, .int .u8 m] w fun e w' => e = .returned (.tuple #[]) ∧ Hid (WAt w0 M tb nv uv ps us b (l ++ quoteL m.toUInt8 s.data.toList) op w' ∧ Spk w0.heap.size w w') := by
  have hz := quote_ge m.toUInt8 s.data.toList
  have hz2 : s.size = s.data.toList.length := rfl
  refine (quote_any _ b _ _ op s m hm w h.sp (by rw [Lib.byteCells_length]; exact hlen) (by omega) h.kept.below.size).mono ?_
  rintro e w' ⟨rfl, g1, g2⟩
  refine ⟨rfl, hid ⟨⟨h.tree, ?_, h.kept.trans g2⟩, g2⟩⟩
  rw [Lib.byteCells_append]
  exact g1
theorem WAt.cells (h : WAt w0 M tb nv uv ps us b l op w) : w.cell? ⟨b, 2, none⟩ = some (.pointer (some ⟨tb, 0, none⟩)) ∧ w.cell? ⟨b, 3, none⟩ = some (.int .i64 op) ∧ w.frozen? ⟨b, 3, none⟩ = false := by
  obtain ⟨p0, v0, hb0, hB0⟩ := h.sp.block
  exact ⟨by rw [Lib.cell_of_heap hb0]; rfl, by rw [Lib.cell_of_heap hb0]; rfl, Lib.frozen_of_heap hb0 3⟩
theorem WAt.opens (h : WAt w0 M tb nv uv ps us b l op w) (q : Int) : WAt w0 M tb nv uv ps us b l q (w.setCell ⟨b, 3, none⟩ (.int .i64 q)) ∧ Spk w0.heap.size w (w.setCell ⟨b, 3, none⟩ (.int .i64 q)) := by
  obtain ⟨p0, v0, hb0, hB0⟩ := h.sp.block
  have hk := (Spk.refl w0.heap.size w).set hB0 hb0 3 (.int .i64 q)
  exact ⟨⟨h.tree, h.sp.elim (fun x => .inl (x.opens q)) (fun x => .inr (x.opens q)), h.kept.trans hk⟩, hk⟩
end

/-- a row of attributes -/
def AttrRow (w : World) (v : Value) (l : List (ByteArray × ByteArray)) : Prop :=
  AttrsAt w v l ∧ ∀ g c, v = .slice (some ⟨g, 0, none⟩) l.length c → ∃ (cur : Array Value) (fr : Nat × Nat), w.heap[g]? = some (.cells cur 81 fr)
theorem AttrRow.of {w : World} {B : Nat} {v : Value} {at_ : List (ByteArray × ByteArray)} (h : w.ownsRow B 81 2 v at_.length (attrCells at_)) : AttrRow w v at_ := by
  refine ⟨own_attrs h, fun g c e => ?_⟩
  rcases h.2 with ⟨e', _⟩ | ⟨g', cap, cur, hv', _, hg, _⟩
  · rw [e] at e'; cases e'
  · rw [e] at hv'
    cases hv'
    exact ⟨cur, _, hg⟩
theorem AttrRow.keep {B : Nat} {w w' : World} {v : Value} {at_ : List (ByteArray × ByteArray)} (h : AttrRow w v at_) (hk : Spk B w w') : AttrRow w' v at_ := by
  obtain ⟨⟨a, c, rfl, h1⟩, h2⟩ := h
  refine ⟨⟨a, c, rfl, fun k x hx => ?_⟩, fun g c' e => ?_⟩
  · obtain ⟨g, rfl, q1, q2⟩ := h1 k x hx
    obtain ⟨cur, fr, hg⟩ := h2 g c rfl
    have hg' := hk.row g _ _ _ hg (by decide) (by decide)
    have hb : w'.heap[g]? = w.heap[g]? := by rw [hg', hg]
    exact ⟨g, rfl, (World.cell?_of_block (a := ⟨g, k * 2, none⟩) hb).trans q1, (World.cell?_of_block (a := ⟨g, k * 2 + 1, none⟩) hb).trans q2⟩
  · obtain ⟨cur, fr, hg⟩ := h2 g c' e
    exact ⟨cur, fr, hk.row g _ _ _ hg (by decide) (by decide)⟩

/-- what is spelt of an element -/
def elL (ns : List Nd) (f d : Nat) (n : Nd) : List UInt8 :=
  openL n ++ (if rawB n.tag = true then n.kids.flatMap (wordsK ns) ++ endL n.tag else if (!voidB n.tag && decide (d < 40)) = true then spellK ns f (d + 1) n.kids ++ endL n.tag else [])
theorem attrs_take {l : List (ByteArray × ByteArray)} {k : Nat} {x : ByteArray × ByteArray} (hx : l[k]? = some x) : attrsL (l.take (k + 1)) = attrsL (l.take k) ++ attrL x := by
  unfold attrsL
  rw [List.take_add_one, hx]
  simp [List.flatMap_append]

set_option maxHeartbeats 4000000 in
set_option maxRecDepth 100000 in
theorem element_any {w0 : World} {M : Nat → Lab} {tb : Nat} {nv uv : Value} {ps : List Pn} {us : List Value} {b : Nat} {l : List UInt8} {d f : Nat} {w : World} (h : WAt w0 M tb nv uv ps us b l d w) {i : Nat} {p : Pn} (hp : ps[i]? = some p) (hd : d ≤ 100000)
    (hkl : p.n.kids.length ≤ 100000) (hal : p.n.attrs.length ≤ 100000) (hks : ∀ x ∈ p.n.kids, ∃ j : Nat, ∃ q, x = j ∧ ps[j]? = some q) (hlen : l.length + (elL (nodesOf ps) f d p.n).length ≤ 20000)
    (IH : rawB p.n.tag = false → (!voidB p.n.tag && decide (d < 40)) = true → ∀ l' w', WAt w0 M tb nv uv ps us b l' ((d + 1 : Nat) : Int) w' → l'.length + (spellK (nodesOf ps) f (d + 1) p.n.kids).length ≤ 20000 →
      Calls Tryz.prog 75 #[.pointer (some ⟨b, 0, none⟩), .int .i64 i] w' fun e w'' => e = .returned (.tuple #[]) ∧ WAt w0 M tb nv uv ps us b (l' ++ spellK (nodesOf ps) f (d + 1) p.n.kids) ((d + 1 : Nat) : Int) w'' ∧ Spk w0.heap.size w' w'') :
    Calls Tryz.prog 115 #[.pointer (some ⟨b, 0, none⟩), .int .i64 i] w fun e w' => e = .returned (.tuple #[]) ∧ WAt w0 M tb nv uv ps us b (l ++ elL (nodesOf ps) f d p.n) d w' ∧ Spk w0.heap.size w w' := by
  have hL : l.length + (1 + p.n.tag.size + (attrsL p.n.attrs).length + 1) ≤ 20000 := by
    unfold elL openL at hlen
    simp only [List.length_append, List.length_cons, List.length_nil] at hlen
    have : p.n.tag.size = p.n.tag.data.toList.length := rfl
    omega
  have HLEN := hid hlen
  have HIH := hid IH
  have HKS := hid hks
  obtain ⟨c2, -, -⟩ := h.cells
  have H := hid h
  clear h hlen IH hks
  go_enter Tryz.func115, Tryz.ntmps115
  go_wp2_with fail
  refine (tag_any H.out.lies hp).mono ?_
  rintro e w1 ⟨rfl, rfl⟩
  go_wp2_with fail
  refine (H.out.put [⟨#[60]⟩, p.n.tag] ?_ (by simp) (.inl rfl)).mono ?_
  · simp [catB]; omega
  rintro e w2 ⟨rfl, H2⟩
  obtain ⟨d2, -, -⟩ := H2.out.1.cells
  clear c2
  go_wp2_with fail
  refine (attrs_any H2.out.1.lies hp (by omega)).mono ?_
  rintro e w3 ⟨v3, rfl, ho, hb3⟩
  have hr3 := AttrRow.of ho
  obtain ⟨⟨a3, k3, rfl, _⟩, _⟩ := id hr3
  have H3 : Hid (WAt w0 M tb nv uv ps us b (l ++ 60 :: p.n.tag.data.toList) d w3 ∧ Spk w0.heap.size w1 w3) := ⟨by simpa [catB] using H2.out.1.below hb3, H2.out.2.trans (Spk.of H2.out.1.kept.below.size hb3)⟩
  have HR3 := hid hr3
  clear ho hb3 hr3 H2 d2
  go_wp2_with fail
  go_loopw [24] (fun v wr => ∃ k : Nat, k ≤ p.n.attrs.length ∧ v = .int .i64 k ∧ Hid (WAt w0 M tb nv uv ps us b (l ++ 60 :: p.n.tag.data.toList ++ attrsL (p.n.attrs.take k)) d wr ∧ Spk w0.heap.size w3 wr)) (fun v _ => p.n.attrs.length - (intOf v).toNat)
  case atStart => exact ⟨0, by omega, rfl, hid ⟨by simpa [attrsL] using H3.out.1, Spk.refl _ _⟩⟩
  case round =>
    obtain ⟨k, hk, rfl, HR⟩ := hrel
    by_cases hlt : k < p.n.attrs.length
    · obtain ⟨x, hx⟩ : ∃ x, p.n.attrs[k]? = some x := ⟨_, List.getElem?_eq_getElem hlt⟩
      have HX := hid (attrs_take hx)
      have hpre : (attrsL (p.n.attrs.take k)).length + (attrL x).length ≤ (attrsL p.n.attrs).length := by
        have e := flat_pre attrL p.n.attrs (k + 1)
        have e2 := HX.out
        unfold attrsL at e2 ⊢
        rw [e2, List.length_append] at e
        exact e
      have hal2 : (attrL x).length = 1 + x.1.size + 2 + (quoteL 34 x.2.data.toList).length + 1 := by
        have : x.1.size = x.1.data.toList.length := rfl
        simp only [attrL, List.length_cons, List.length_append, List.length_nil]; omega
      have htl : p.n.tag.data.toList.length = p.n.tag.size := rfl
      have hxl : x.1.data.toList.length = x.1.size := rfl
      obtain ⟨⟨a', c', e', hcs⟩, _⟩ := HR3.out.keep HR.out.2
      injection e' with e1 _ e3
      subst e1
      subst e3
      obtain ⟨g, rfl, x1, x2⟩ := hcs k x hx
      clear hcs hx
      go_wp2_with fail
      have hB5 : Below wr.heap.size wr (wr.alloc (.cells #[.string x.1, .string x.2] 81)) := (Below.refl _ _).alloc (Nat.le_refl _) _
      have H5 : Hid (WAt w0 M tb nv uv ps us b (l ++ 60 :: p.n.tag.data.toList ++ attrsL (p.n.attrs.take k)) d (wr.alloc (.cells #[.string x.1, .string x.2] 81)) ∧ Spk w0.heap.size w3 (wr.alloc (.cells #[.string x.1, .string x.2] 81))) := ⟨HR.out.1.below hB5, HR.out.2.trans (Spk.of HR.out.1.kept.below.size hB5)⟩
      have hab := heap_alloc_new wr (.cells #[.string x.1, .string x.2] 81)
      have hsz : wr.heap.size + 1 = (wr.alloc (.cells #[.string x.1, .string x.2] 81)).heap.size := by simp
      rw [hsz]
      obtain ⟨ab, hab2⟩ : ∃ ab, ab = wr.heap.size := ⟨_, rfl⟩
      rw [← hab2] at hab ⊢
      generalize wr.alloc (.cells #[.string x.1, .string x.2] 81) = w5 at *
      have HAB := hid hab
      clear hB5 hsz hab hab2 HR x1 x2
      refine (H5.out.1.put [⟨#[32]⟩, x.1, ⟨#[61, 34]⟩] ?_ (by simp) (.inl rfl)).mono ?_
      · simp [catB]; omega
      rintro e w6 ⟨rfl, H6⟩
      have HAB6 := H6.out.2.row ab _ _ _ HAB.out (by decide) (by decide)
      have y1 : w6.cell? ⟨ab, 1, none⟩ = some (.string x.2) := by rw [Lib.cell_of_heap HAB6]; rfl
      clear HAB6
      go_wp2_with fail
      refine (H6.out.1.quote x.2 34 (by decide) ?_).mono ?_
      · simp [catB]; omega
      rintro e w7 ⟨rfl, H7⟩
      clear y1
      go_wp2_with fail
      refine (H7.out.1.put [⟨#[34]⟩] ?_ (by simp) (.inl rfl)).mono ?_
      · simp [catB]; omega
      rintro e w8 ⟨rfl, H8⟩
      have H9 : Hid (WAt w0 M tb nv uv ps us b (l ++ 60 :: p.n.tag.data.toList ++ attrsL (p.n.attrs.take (k + 1))) d w8 ∧ Spk w0.heap.size w3 w8) := by
        refine ⟨?_, ((H5.out.2.trans H6.out.2).trans H7.out.2).trans H8.out.2⟩
        have e := H8.out.1
        rw [HX.out]
        have e2 : l ++ 60 :: p.n.tag.data.toList ++ attrsL (p.n.attrs.take k) ++ catB [⟨#[32]⟩, x.1, ⟨#[61, 34]⟩] ++ quoteL (34 : Nat).toUInt8 x.2.data.toList ++ catB [⟨#[34]⟩] = l ++ 60 :: p.n.tag.data.toList ++ (attrsL (p.n.attrs.take k) ++ attrL x) := by
          simp [catB, attrL]
        rw [e2] at e
        exact e
      clear H5 H6 H7 H8 HAB
      go_wp2_with fail
      refine ⟨⟨k + 1, by omega, by go_num, H9⟩, ?_⟩
      simp [intOf]; omega
    · have hkk : k = p.n.attrs.length := by omega
      subst hkk
      have H4 : Hid (WAt w0 M tb nv uv ps us b (l ++ 60 :: p.n.tag.data.toList ++ attrsL p.n.attrs) d wr ∧ Spk w0.heap.size w1 wr) := by
        have := HR.out
        rw [List.take_length] at this
        exact ⟨this.1, H3.out.2.trans this.2⟩
      clear HR H3 HR3
      have htl : p.n.tag.data.toList.length = p.n.tag.size := rfl
      go_wp2_with fail
      refine (H4.out.1.put [⟨#[62]⟩] ?_ (by simp) (.inl rfl)).mono ?_
      · simp [catB]; omega
      rintro e w5 ⟨rfl, H5⟩
      have H6 : Hid (WAt w0 M tb nv uv ps us b (l ++ openL p.n) d w5 ∧ Spk w0.heap.size w1 w5) := by
        refine ⟨?_, H4.out.2.trans H5.out.2⟩
        have e : l ++ openL p.n = l ++ 60 :: p.n.tag.data.toList ++ attrsL p.n.attrs ++ catB [⟨#[62]⟩] := by simp [openL, catB]
        rw [e]
        exact H5.out.1
      clear H4 H5
      go_wp2_with fail
      refine (praw_any p.n.tag _).mono ?_
      rintro e w6 ⟨rfl, rfl⟩
      cases hraw : rawB p.n.tag with
      | true =>
        have hEL : elL (nodesOf ps) f d p.n = openL p.n ++ (p.n.kids.flatMap (wordsK (nodesOf ps)) ++ endL p.n.tag) := by unfold elL; rw [if_pos hraw]
        have HEL := hid hEL
        clear hEL
        have hl6 : l.length + ((openL p.n).length + ((p.n.kids.flatMap (wordsK (nodesOf ps))).length + (2 + p.n.tag.size + 1))) ≤ 20000 := by
          have := HLEN.out
          rw [HEL.out] at this
          simp only [endL, List.length_append, List.length_cons, List.length_nil] at this
          omega
        go_wp2_with fail
        refine (rawWords_any H6.out.1 hp hkl HKS.out (by rw [List.length_append]; omega)).mono ?_
        rintro e w7 ⟨rfl, h7, hk7⟩
        have H7 := hid h7
        have HK7 := hid (H6.out.2.trans hk7)
        clear h7 hk7 H6
        go_wp2_with fail
        refine (H7.out.put [⟨#[60, 47]⟩, p.n.tag, ⟨#[62]⟩] ?_ (by simp) (.inl rfl)).mono ?_
        · simp [catB] at hl6 ⊢; omega
        rintro e w8 ⟨rfl, H8⟩
        go_wp2_with fail
        go_end0
        refine ⟨rfl, ?_, HK7.out.trans H8.out.2⟩
        have e := H8.out.1
        rw [HEL.out]
        have e2 : l ++ openL p.n ++ p.n.kids.flatMap (wordsK (nodesOf ps)) ++ catB [⟨#[60, 47]⟩, p.n.tag, ⟨#[62]⟩] = l ++ (openL p.n ++ (p.n.kids.flatMap (wordsK (nodesOf ps)) ++ endL p.n.tag)) := by
          simp [catB, endL]
        rw [e2] at e
        exact e
      | false =>
        obtain ⟨-, f3, f4⟩ := H6.out.1.cells
        go_wp2_with fail
        refine (staysOpen_any p.n.tag d _).mono ?_
        rintro e w7 ⟨rfl, rfl⟩
        cases hst : (!voidB p.n.tag && decide (d < 40)) with
        | false =>
          have hEL : elL (nodesOf ps) f d p.n = openL p.n := by unfold elL; rw [if_neg (by rw [hraw]; decide), if_neg (by rw [hst]; decide), List.append_nil]
          have HEL := hid hEL
          clear hEL
          go_wp2_with fail
          go_end0
          rw [HEL.out]
          exact ⟨rfl, H6.out⟩
        | true =>
          have hEL : elL (nodesOf ps) f d p.n = openL p.n ++ (spellK (nodesOf ps) f (d + 1) p.n.kids ++ endL p.n.tag) := by unfold elL; rw [if_neg (by rw [hraw]; decide), if_pos hst]
          have HEL := hid hEL
          clear hEL
          have hl6 : l.length + ((openL p.n).length + ((spellK (nodesOf ps) f (d + 1) p.n.kids).length + (2 + p.n.tag.size + 1))) ≤ 20000 := by
            have := HLEN.out
            rw [HEL.out] at this
            simp only [endL, List.length_append, List.length_cons, List.length_nil] at this
            omega
          have HI := hid (HIH.out hraw hst)
          have hcast : ((d + 1 : Nat) : Int) = (d : Int) + 1 := by omega
          rw [hcast] at HI
          have H8 := hid (H6.out.1.opens ((d : Int) + 1))
          clear hcast
          go_wp2_with fail
          refine (HI.out _ _ H8.out.1 (by rw [List.length_append]; omega)).mono ?_
          rintro e w8 ⟨rfl, h8, hk8⟩
          obtain ⟨-, g3, g4⟩ := h8.cells
          have H9 := hid h8
          have HK9 := hid ((H6.out.2.trans H8.out.2).trans hk8)
          have H10 := hid (H9.out.opens (d : Int))
          clear h8 hk8 H8 f3 f4 H6
          have hback : (d : Int) + 1 - 1 = d := by omega
          go_wp2_with fail
          have hsz : w8.heap.size = (w8.setCell ⟨b, 3, none⟩ (.int .i64 (d : Int))).heap.size := by simp [World.setCell]
          rw [hsz]
          refine (H10.out.1.put [⟨#[60, 47]⟩, p.n.tag, ⟨#[62]⟩] ?_ (by simp) (.inl rfl)).mono ?_
          · simp [catB] at hl6 ⊢; omega
          rintro e w9 ⟨rfl, H11⟩
          clear hsz
          go_wp2_with fail
          go_end0
          refine ⟨rfl, ?_, (HK9.out.trans H10.out.2).trans H11.out.2⟩
          have e := H11.out.1
          rw [HEL.out]
          have e2 : l ++ openL p.n ++ spellK (nodesOf ps) f (d + 1) p.n.kids ++ catB [⟨#[60, 47]⟩, p.n.tag, ⟨#[62]⟩] = l ++ (openL p.n ++ (spellK (nodesOf ps) f (d + 1) p.n.kids ++ endL p.n.tag)) := by
            simp [catB, endL]
          rw [e2] at e
          exact e
end Go.Proofs.YtkaeenafejdkfaaGreatDoor

/- The program: what lies in a node is spelt. -/
namespace Go.Proofs.YtkaeenafejdkfaaGreatDoor
open Go.RowKit

def oneK (ns : List Nd) (f d : Nat) (x : Int) : List UInt8 := match ns[x.toNat]? with
  | none => []
  | some n => nodeL ns f d n
theorem spellK_one (ns : List Nd) (f d : Nat) (ks : List Int) : spellK ns (f + 1) d ks = ks.flatMap (oneK ns f d) := rfl
theorem oneK_at {ns : List Nd} {f d j : Nat} {n : Nd} (h : ns[j]? = some n) : oneK ns f d (j : Int) = nodeL ns f d n := by
  unfold oneK
  rw [Int.toNat_natCast, h]
theorem Cover.mem {ns : List Nd} {ks : List Int} {a b : Nat} (h : Cover ns ks a b) : ∀ x ∈ ks, ∃ (j m : Nat) (n : Nd), x = j ∧ ns[j]? = some n ∧ Cover ns n.kids (j + 1) m ∧ a ≤ j ∧ m ≤ b := by
  induction h with
  | nil => intro x hx; cases hx
  | cons hk h1 h2 i1 i2 =>
    intro x hx
    rcases List.mem_cons.1 hx with rfl | hx
    · exact ⟨_, _, _, rfl, hk, h1, Nat.le_refl _, h2.le⟩
    · obtain ⟨j, m, n, e1, e2, e3, e4, e5⟩ := i2 x hx
      have := h1.le
      exact ⟨j, m, n, e1, e2, e3, by omega, e5⟩
theorem one_take {ns : List Nd} {f d k : Nat} {ks : List Int} {j : Nat} {n : Nd} (hx : ks[k]? = some (j : Int)) (hn : ns[j]? = some n) : (ks.take (k + 1)).flatMap (oneK ns f d) = (ks.take k).flatMap (oneK ns f d) ++ nodeL ns f d n := by
  rw [List.take_add_one, hx]
  simp [List.flatMap_append, oneK_at hn]

def KidsC (w0 : World) (M : Nat → Lab) (tb : Nat) (nv uv : Value) (ps : List Pn) (us : List Value) (b f : Nat) : Prop :=
  ∀ (d i : Nat) (p : Pn) (l : List UInt8) (w : World) (a e : Nat), WAt w0 M tb nv uv ps us b l d w → ps[i]? = some p → Cover (nodesOf ps) p.n.kids a e → e - a < f → d ≤ 40 → l.length + (spellK (nodesOf ps) f d p.n.kids).length ≤ 20000 →
    Calls Tryz.prog 75 #[.pointer (some ⟨b, 0, none⟩), .int .i64 i] w fun e w' => e = .returned (.tuple #[]) ∧ WAt w0 M tb nv uv ps us b (l ++ spellK (nodesOf ps) f d p.n.kids) d w' ∧ Spk w0.heap.size w w'

set_option maxHeartbeats 4000000 in
set_option maxRecDepth 100000 in
theorem kids_step {w0 : World} {M : Nat → Lab} {tb : Nat} {nv uv : Value} {ps : List Pn} {us : List Value} {b f : Nat} (hF : ∀ (j : Nat) (q : Pn), ps[j]? = some q → q.n.kids.length ≤ 100000 ∧ q.n.attrs.length ≤ 100000) (IH : KidsC w0 M tb nv uv ps us b f) : KidsC w0 M tb nv uv ps us b (f + 1) := by
    intro d i p l w a e h hp hcov hf hd hlen
    rw [spellK_one] at hlen ⊢
    have hkl := (hF i p hp).1
    obtain ⟨c2, -, -⟩ := h.cells
    have HC := hid hcov
    have H := hid h
    have HF := hid hF
    have HLEN := hid hlen
    have HIH := hid IH
    clear h hcov hF hlen IH
    go_enter Tryz.func75, Tryz.ntmps75
    go_wp2_with fail
    refine (kids_any H.out.lies hp (by omega)).mono ?_
    rintro e1 w1 ⟨v1, rfl, ho, hb1⟩
    have hr1 := IntRow.of ho
    obtain ⟨a1, k1, rfl, _⟩ := id hr1
    have H1 := hid (H.out.below hb1)
    have HK1 := hid (Spk.of H.out.kept.below.size hb1)
    have HR1 := hid hr1
    clear ho hb1 hr1
    go_wp2_with fail
    go_loopw [13] (fun v wr => ∃ k : Nat, k ≤ p.n.kids.length ∧ v = .int .i64 k ∧ Hid (WAt w0 M tb nv uv ps us b (l ++ (p.n.kids.take k).flatMap (oneK (nodesOf ps) f d)) d wr ∧ Spk w0.heap.size w1 wr)) (fun v _ => p.n.kids.length - (intOf v).toNat)
    case atStart => exact ⟨0, by omega, rfl, hid ⟨by simpa using H1.out, Spk.refl _ _⟩⟩
    case round =>
      obtain ⟨k, hk, rfl, HR⟩ := hrel
      by_cases hlt : k < p.n.kids.length
      · obtain ⟨x, hx⟩ : ∃ x, p.n.kids[k]? = some x := ⟨_, List.getElem?_eq_getElem hlt⟩
        obtain ⟨j, m, n, rfl, hn, hcv, hj1, hj2⟩ := HC.out.mem x (List.mem_of_getElem? hx)
        obtain ⟨q, hq, rfl⟩ := nodesOf_get hn
        have HW := hid (one_take (f := f) (d := d) hx hn)
        have hpre := flat_pre (oneK (nodesOf ps) f d) p.n.kids (k + 1)
        rw [HW.out, List.length_append] at hpre
        have hle : (l ++ (p.n.kids.take k).flatMap (oneK (nodesOf ps) f d)).length + (nodeL (nodesOf ps) f d q.n).length ≤ 20000 := by
          have := HLEN.out
          rw [List.length_append]; omega
        have HLE := hid hle
        have HCV := hid hcv
        obtain ⟨g, rfl, hcell⟩ := (HR1.out.keep HR.out.2).cell hx
        obtain ⟨d2, -, -⟩ := HR.out.1.cells
        have H5 : Hid (∀ w', WAt w0 M tb nv uv ps us b (l ++ (p.n.kids.take k).flatMap (oneK (nodesOf ps) f d) ++ nodeL (nodesOf ps) f d q.n) d w' → WAt w0 M tb nv uv ps us b (l ++ (p.n.kids.take (k + 1)).flatMap (oneK (nodesOf ps) f d)) d w') := by
          intro w' hw'
          rw [HW.out, ← List.append_assoc]
          exact hw'
        generalize hl2 : l ++ (p.n.kids.take k).flatMap (oneK (nodesOf ps) f d) = l2 at *
        clear hx hn hpre hle hcv c2 hl2
        go_wp2_with fail
        refine (kind_any HR.out.1.lies hq).mono ?_
        rintro e2 w2 ⟨rfl, rfl⟩
        by_cases k2 : q.n.kind = 2
        · have HN : Hid (nodeL (nodesOf ps) f d q.n = elL (nodesOf ps) f d q.n) := by
            show _ = _
            unfold nodeL elL
            rw [if_pos k2]
          have HE : Hid (Calls Tryz.prog 115 #[.pointer (some ⟨b, 0, none⟩), .int .i64 j] w2 fun e w' => e = .returned (.tuple #[]) ∧ WAt w0 M tb nv uv ps us b (l2 ++ elL (nodesOf ps) f d q.n) d w' ∧ Spk w0.heap.size w2 w') := by
            refine element_any HR.out.1 hq (by omega) (HF.out j q hq).1 (HF.out j q hq).2 (fun x hx => ?_) (by rw [← HN.out]; exact HLE.out) (fun _ hst l' w' hW hl => ?_)
            · obtain ⟨j', _, n', e1, e2, _⟩ := HCV.out.mem x hx
              obtain ⟨q', e3, _⟩ := nodesOf_get e2
              exact ⟨j', q', e1, e3⟩
            · have hd' : d < 40 := by
                simp only [Bool.and_eq_true, decide_eq_true_eq] at hst
                exact hst.2
              have hle' := HCV.out.le
              exact HIH.out (d + 1) j q l' w' (j + 1) m hW hq HCV.out (by omega) (by omega) hl
          have g2 : (q.n.kind == 2) = true := by rw [beq_iff_eq]; exact k2
          clear k2
          go_wp2_with fail
          refine HE.out.mono ?_
          rintro e3 w3 ⟨rfl, h3, hk3⟩
          have H6 : Hid (WAt w0 M tb nv uv ps us b (l ++ (p.n.kids.take (k + 1)).flatMap (oneK (nodesOf ps) f d)) d w3 ∧ Spk w0.heap.size w1 w3) := ⟨H5.out w3 (by rw [HN.out]; exact h3), HR.out.2.trans hk3⟩
          clear h3 hk3 HR HE hcell d2 H5
          go_wp2_with fail
          refine ⟨⟨k + 1, by omega, by go_num, H6⟩, ?_⟩
          simp [intOf]; omega
        · have g2 : (q.n.kind == 2) = false := by rw [beq_eq_false_iff_ne]; exact k2
          by_cases k3 : q.n.kind = 3
          · have HN : Hid (nodeL (nodesOf ps) f d q.n = quoteL (60 : Nat).toUInt8 q.n.words.data.toList) := by
              show _ = _
              unfold nodeL
              rw [if_neg k2, if_pos k3]
              rfl
            have g3 : (q.n.kind == 3) = true := by rw [beq_iff_eq]; exact k3
            clear k2 k3
            go_wp2_with fail
            refine (words_any HR.out.1.lies hq).mono ?_
            rintro e3 w3 ⟨rfl, rfl⟩
            go_wp2_with fail
            refine (HR.out.1.quote q.n.words 60 (by decide) (by rw [← HN.out]; exact HLE.out)).mono ?_
            rintro e3 w4 ⟨rfl, H4⟩
            have H6 : Hid (WAt w0 M tb nv uv ps us b (l ++ (p.n.kids.take (k + 1)).flatMap (oneK (nodesOf ps) f d)) d w4 ∧ Spk w0.heap.size w1 w4) := ⟨H5.out w4 (by rw [HN.out]; exact H4.out.1), HR.out.2.trans H4.out.2⟩
            clear H4 HR hcell d2 H5
            go_wp2_with fail
            refine ⟨⟨k + 1, by omega, by go_num, H6⟩, ?_⟩
            simp [intOf]; omega
          · have g3 : (q.n.kind == 3) = false := by rw [beq_eq_false_iff_ne]; exact k3
            by_cases k4 : q.n.kind = 4
            · have HN : Hid (nodeL (nodesOf ps) f d q.n = catB [⟨#[60, 33, 45, 45]⟩, q.n.words, ⟨#[45, 45, 62]⟩]) := by
                show _ = _
                unfold nodeL
                rw [if_neg k2, if_neg k3, if_pos k4]
                simp [comL, catB]
              have g4 : (q.n.kind == 4) = true := by rw [beq_iff_eq]; exact k4
              clear k2 k3 k4
              go_wp2_with fail
              refine (words_any HR.out.1.lies hq).mono ?_
              rintro e3 w3 ⟨rfl, rfl⟩
              go_wp2_with fail
              refine (HR.out.1.put [⟨#[60, 33, 45, 45]⟩, q.n.words, ⟨#[45, 45, 62]⟩] (by rw [← HN.out]; exact HLE.out) (by simp) (.inl rfl)).mono ?_
              rintro e3 w4 ⟨rfl, H4⟩
              have H6 : Hid (WAt w0 M tb nv uv ps us b (l ++ (p.n.kids.take (k + 1)).flatMap (oneK (nodesOf ps) f d)) d w4 ∧ Spk w0.heap.size w1 w4) := ⟨H5.out w4 (by rw [HN.out]; exact H4.out.1), HR.out.2.trans H4.out.2⟩
              clear H4 HR hcell d2 H5
              go_wp2_with fail
              refine ⟨⟨k + 1, by omega, by go_num, H6⟩, ?_⟩
              simp [intOf]; omega
            · have HN : Hid (nodeL (nodesOf ps) f d q.n = []) := by
                show _ = _
                unfold nodeL
                rw [if_neg k2, if_neg k3, if_neg k4]
              have g4 : (q.n.kind == 4) = false := by rw [beq_eq_false_iff_ne]; exact k4
              clear k2 k3 k4
              have H6 : Hid (WAt w0 M tb nv uv ps us b (l ++ (p.n.kids.take (k + 1)).flatMap (oneK (nodesOf ps) f d)) d w2 ∧ Spk w0.heap.size w1 w2) := ⟨H5.out w2 (by rw [HN.out, List.append_nil]; exact HR.out.1), HR.out.2⟩
              clear HR hcell d2 H5
              go_wp2_with fail
              refine ⟨⟨k + 1, by omega, by go_num, H6⟩, ?_⟩
              simp [intOf]; omega
      · have hkk : k = p.n.kids.length := by omega
        subst hkk
        go_wp2_with fail
        go_end0
        have := HR.out
        rw [List.take_length] at this
        exact ⟨rfl, this.1, HK1.out.trans this.2⟩

theorem kidsW {w0 : World} {M : Nat → Lab} {tb : Nat} {nv uv : Value} {ps : List Pn} {us : List Value} {b : Nat} (hF : ∀ (j : Nat) (q : Pn), ps[j]? = some q → q.n.kids.length ≤ 100000 ∧ q.n.attrs.length ≤ 100000) : ∀ f, KidsC w0 M tb nv uv ps us b f
  | 0 => fun _ _ _ _ _ _ _ _ _ _ hf => absurd hf (Nat.not_lt_zero _)
  | f + 1 => kids_step hF (kidsW hF f)
end Go.Proofs.YtkaeenafejdkfaaGreatDoor

/- The program: two lists that are the same are found so. -/
namespace Go.Proofs.YtkaeenafejdkfaaGreatDoor
open Go.RowKit

/-- a row of numbers, and what it keeps -/
theorem IntRow.below {w w' : World} {v : Value} {ks : List Int} (h : IntRow w v ks) (hb : Below w.heap.size w w') : IntRow w' v ks := by
  obtain ⟨a, c, rfl, h⟩ := h
  refine ⟨a, c, rfl, fun j x hj => ?_⟩
  obtain ⟨g, cur, fr, h1, h2, h3⟩ := h j x hj
  exact ⟨g, cur, fr, h1, (hb.block g (size_of h2)).trans h2, h3⟩

set_option maxHeartbeats 4000000 in
set_option maxRecDepth 100000 in
theorem equalFunc_same {w : World} {v1 v2 : Value} {ks : List Int} (h1 : IntRow w v1 ks) (h2 : IntRow w v2 ks) (hl : ks.length ≤ 100000) (p q : Value)
    (hc : ∀ x ∈ ks, ∀ W, Below w.heap.size w W → Calls Tryz.prog 78 #[.int .i64 x, .int .i64 x, p, q] W fun e w' => e = .returned (.bool true) ∧ Below W.heap.size W w') :
    Calls Tryz.prog 77 #[v1, v2, .func (.func 78) #[] #[p, q]] w fun e w' => e = .returned (.bool true) ∧ Below w.heap.size w w' := by
  have H1 := hid h1
  have H2 := hid h2
  have HC := hid hc
  obtain ⟨a1, c1, rfl, _⟩ := h1
  obtain ⟨a2, c2, rfl, _⟩ := h2
  clear hc
  go_enter Tryz.func77, Tryz.ntmps77
  go_wp2_with fail
  go_loopw [17] (fun v wr => ∃ k : Nat, k ≤ ks.length ∧ v = .int .i64 k ∧ Hid (Below w.heap.size w wr)) (fun v _ => ks.length - (intOf v).toNat)
  case atStart => exact ⟨0, by omega, rfl, hid (Below.refl _ _)⟩
  case round =>
    obtain ⟨k, hk, rfl, HR⟩ := hrel
    by_cases hlt : k < ks.length
    · obtain ⟨x, hx⟩ : ∃ x, ks[k]? = some x := ⟨_, List.getElem?_eq_getElem hlt⟩
      obtain ⟨g1, rfl, e1⟩ := (H1.out.below HR.out).cell hx
      obtain ⟨g2, rfl, e2⟩ := (H2.out.below HR.out).cell hx
      have HX := hid (HC.out x (List.mem_of_getElem? hx) wr HR.out)
      clear hx
      go_wp2_with fail
      refine HX.out.mono ?_
      rintro e w1 ⟨rfl, hB⟩
      have H3 := hid (HR.out.trans (hB.mono HR.out.size))
      clear hB HR e1 e2 HX
      go_wp2_with fail
      refine ⟨⟨k + 1, by omega, by go_num, H3⟩, ?_⟩
      simp [intOf]; omega
    · have hkk : k = ks.length := by omega
      subst hkk
      go_wp2_with fail
      go_ret
      exact ⟨rfl, HR.out⟩

theorem AttrsAt.belowW {w w' : World} {v : Value} {l : List (ByteArray × ByteArray)} (h : AttrsAt w v l) (hb : Below w.heap.size w w') : AttrsAt w' v l := by
  obtain ⟨a, c, rfl, h⟩ := h
  refine ⟨a, c, rfl, fun k x hx => ?_⟩
  obtain ⟨g, h1, h2, h3⟩ := h k x hx
  have hg := World.block_lt_of_cell? w _ h2
  exact ⟨g, h1, (hb.cell (p := ⟨g, k * 2, none⟩) hg).trans h2, (hb.cell (p := ⟨g, k * 2 + 1, none⟩) hg).trans h3⟩

set_option maxHeartbeats 4000000 in
set_option maxRecDepth 100000 in
theorem equalA_same {w : World} {v1 v2 : Value} {l : List (ByteArray × ByteArray)} (h1 : AttrsAt w v1 l) (h2 : AttrsAt w v2 l) (hl : l.length ≤ 100000) :
    Calls Tryz.prog 79 #[v1, v2] w fun e w' => e = .returned (.bool true) ∧ Below w.heap.size w w' := by
  have H1 := hid h1
  have H2 := hid h2
  obtain ⟨a1, c1, rfl, _⟩ := h1
  obtain ⟨a2, c2, rfl, _⟩ := h2
  go_enter Tryz.func79, Tryz.ntmps79
  go_wp2_with fail
  go_loopw [13] (fun v wr => ∃ k : Nat, k ≤ l.length ∧ v = .int .i64 k ∧ Hid (Below w.heap.size w wr)) (fun v _ => l.length - (intOf v).toNat)
  case atStart => exact ⟨0, by omega, rfl, hid (Below.refl _ _)⟩
  case round =>
    obtain ⟨k, hk, rfl, HR⟩ := hrel
    by_cases hlt : k < l.length
    · obtain ⟨x, hx⟩ : ∃ x, l[k]? = some x := ⟨_, List.getElem?_eq_getElem hlt⟩
      obtain ⟨b1, d1, q1, f1⟩ := H1.out.belowW HR.out
      obtain ⟨b2, d2, q2, f2⟩ := H2.out.belowW HR.out
      cases q1
      cases q2
      obtain ⟨g1, rfl, e1, e1'⟩ := f1 k x hx
      obtain ⟨g2, rfl, e2, e2'⟩ := f2 k x hx
      clear hx f1 f2
      have H3 := hid HR.out.drew
      go_wp2_with fail
      go_region
      all_goals go_wp2_with fail
      all_goals (refine ⟨⟨k + 1, by omega, by go_num, H3⟩, ?_⟩; simp [intOf]; omega)
    · have hkk : k = l.length := by omega
      subst hkk
      go_wp2_with fail
      go_ret
      exact ⟨rfl, HR.out⟩
end Go.Proofs.YtkaeenafejdkfaaGreatDoor
