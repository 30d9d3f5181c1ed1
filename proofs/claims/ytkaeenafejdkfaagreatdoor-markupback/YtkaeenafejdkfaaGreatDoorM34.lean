/- The program: what lies in a raw element is spelt as it stands. -/
import Derived.Test.YtkaeenafejdkfaaGreatDoorM10
import Derived.Test.YtkaeenafejdkfaaGreatDoorM14
import Derived.Test.YtkaeenafejdkfaaGreatDoorM11
import Derived.Test.YtkaeenafejdkfaaGreatDoorM33
import Derived.Test.YtkaeenafejdkfaaGreatDoorM25
import Derived.Test.YtkaeenafejdkfaaGreatDoorM29
namespace Go.Proofs.YtkaeenafejdkfaaGreatDoor
open Go.RowKit

/-- a row of numbers -/
def IntRow (w : World) (v : Value) (ks : List Int) : Prop :=
  ∃ a c, v = .slice a ks.length c ∧ ∀ (j : Nat) (x : Int), ks[j]? = some x → ∃ (g : Nat) (cur : Array Value) (fr : Nat × Nat), a = some ⟨g, 0, none⟩ ∧ w.heap[g]? = some (.cells cur 3 fr) ∧ cur[j]? = some (Value.int .i64 x)
theorem IntRow.keep {B : Nat} {w w' : World} {v : Value} {ks : List Int} (h : IntRow w v ks) (hk : Spk B w w') : IntRow w' v ks := by
  obtain ⟨a, c, rfl, h⟩ := h
  refine ⟨a, c, rfl, fun j x hj => ?_⟩
  obtain ⟨g, cur, fr, h1, h2, h3⟩ := h j x hj
  exact ⟨g, cur, fr, h1, hk.row g _ _ _ h2 (by decide) (by decide), h3⟩
theorem IntRow.of {w : World} {B : Nat} {v : Value} {ks : List Int} (h : w.ownsRow B 3 1 v ks.length (ks.map intV)) : IntRow w v ks := by
  rcases h.2 with ⟨rfl, h0⟩ | ⟨g, cap, cur, rfl, _, hg, _, _, _, ht⟩
  · have e : ks = [] := List.eq_nil_of_length_eq_zero h0
    subst e
    exact ⟨none, 0, rfl, fun j x hj => by simp at hj⟩
  · refine ⟨_, cap, rfl, fun j x hj => ⟨g, cur, _, rfl, hg, ?_⟩⟩
    have hjl : j < ks.length := by
      rcases Nat.lt_or_ge j ks.length with h | h
      · exact h
      · rw [List.getElem?_eq_none h] at hj; cases hj
    have e := congrArg (fun l => l[j]?) ht
    simp only [List.getElem?_take, Nat.mul_one, if_pos hjl, List.getElem?_map, hj, Array.getElem?_toList] at e
    exact e
theorem IntRow.cell {w : World} {a : Option Addr} {c : Nat} {ks : List Int} (h : IntRow w (.slice a ks.length c) ks) {j : Nat} {x : Int} (hj : ks[j]? = some x) : ∃ g, a = some ⟨g, 0, none⟩ ∧ w.cell? ⟨g, j, none⟩ = some (.int .i64 x) := by
  obtain ⟨a', c', e, h⟩ := h
  injection e with e1 _ e2
  subst e1
  obtain ⟨g, cur, fr, rfl, h2, h3⟩ := h j x hj
  exact ⟨g, rfl, by rw [Lib.cell_of_heap h2]; exact h3⟩

/-- the tree lies below, and a speller beside it -/
structure WAt (w0 : World) (M : Nat → Lab) (tb : Nat) (nv uv : Value) (ps : List Pn) (us : List Value) (b : Nat) (l : List UInt8) (op : Int) (w : World) : Prop where
  tree : Lies w0 M tb nv uv ps us
  sp : Sp w0.heap.size b (Lib.byteCells l) (.pointer (some ⟨tb, 0, none⟩)) op w
  kept : Spk w0.heap.size w0 w
theorem WAt.lies {w0 : World} {M : Nat → Lab} {tb : Nat} {nv uv : Value} {ps : List Pn} {us : List Value} {b : Nat} {l : List UInt8} {op : Int} {w : World} (h : WAt w0 M tb nv uv ps us b l op w) : Lies w M tb nv uv ps us := h.tree.below h.kept.below
theorem Sp.block {B b : Nat} {bs : List Value} {tv : Value} {op : Int} {w : World} (h : Sp B b bs tv op w) : ∃ p v, w.heap[b]? = some (.cells #[p, v, tv, .int .i64 op] 132 (0, 0)) ∧ B ≤ b := by
  rcases h with ⟨h0, v, h1, _⟩ | ⟨h0, v, h1, _⟩
  · exact ⟨_, v, h1, h0⟩
  · exact ⟨_, v, h1, h0⟩
theorem SpAt.below {B b : Nat} {p : Value} {bs : List Value} {tv : Value} {op : Int} {w w' : World} (h : SpAt B b p bs tv op w) (hb : Below w.heap.size w w') : SpAt B b p bs tv op w' := by
  have hlt := h.lt
  obtain ⟨hB, v, h1, hown, hne⟩ := h
  refine ⟨hB, v, (hb.block b hlt).trans h1, ?_, hne⟩
  exact hown.kept (row := none) ⟨hb.os, hb.tape, hb.output, hb.size, fun k hk _ => hb.block k hk⟩ (by cases hv : v.ownBlock <;> simp)
theorem Sp.below {B b : Nat} {bs : List Value} {tv : Value} {op : Int} {w w' : World} (h : Sp B b bs tv op w) (hb : Below w.heap.size w w') : Sp B b bs tv op w' := h.elim (fun x => .inl (x.below hb)) (fun x => .inr (x.below hb))
theorem WAt.below {w0 : World} {M : Nat → Lab} {tb : Nat} {nv uv : Value} {ps : List Pn} {us : List Value} {b : Nat} {l : List UInt8} {op : Int} {w w' : World} (h : WAt w0 M tb nv uv ps us b l op w) (hb : Below w.heap.size w w') : WAt w0 M tb nv uv ps us b l op w' :=
  ⟨h.tree, h.sp.below hb, h.kept.trans (Spk.of h.kept.below.size hb)⟩

theorem words_take {ns : List Nd} {ks : List Int} {k : Nat} {x : Int} {n : Nd} (hx : ks[k]? = some x) (hn : ns[x.toNat]? = some n) : (ks.take (k + 1)).flatMap (wordsK ns) = (ks.take k).flatMap (wordsK ns) ++ n.words.data.toList := by
  rw [List.take_add_one, hx]
  simp [List.flatMap_append, wordsK, hn]
theorem flat_pre {α : Type} (f : α → List UInt8) (l : List α) (k : Nat) : ((l.take k).flatMap f).length ≤ (l.flatMap f).length := by
  conv => rhs; rw [← List.take_append_drop k l, List.flatMap_append, List.length_append]
  omega

set_option maxHeartbeats 4000000 in
set_option maxRecDepth 100000 in
theorem rawWords_any {w0 : World} {M : Nat → Lab} {tb : Nat} {nv uv : Value} {ps : List Pn} {us : List Value} {b : Nat} {l : List UInt8} {op : Int} {w : World} (h : WAt w0 M tb nv uv ps us b l op w) {i : Nat} {p : Pn} (hp : ps[i]? = some p)
    (hkl : p.n.kids.length ≤ 100000) (hks : ∀ x ∈ p.n.kids, ∃ j : Nat, ∃ q, x = j ∧ ps[j]? = some q) (hlen : l.length + (p.n.kids.flatMap (wordsK (nodesOf ps))).length ≤ 20000) :
    Calls Tryz.prog 146 #[.pointer (some ⟨b, 0, none⟩), .int .i64 i] w fun e w' => e = .returned (.tuple #[]) ∧ WAt w0 M tb nv uv ps us b (l ++ p.n.kids.flatMap (wordsK (nodesOf ps))) op w' ∧ Spk w0.heap.size w w' := by
  obtain ⟨p0, v0, hb0, hB0⟩ := h.sp.block
  have c2 : w.cell? ⟨b, 2, none⟩ = some (.pointer (some ⟨tb, 0, none⟩)) := by rw [Lib.cell_of_heap hb0]; rfl
  have H := hid h
  clear h hb0
  go_enter Tryz.func146, Tryz.ntmps146
  go_wp2_with fail
  refine (kids_any H.out.lies hp (by omega)).mono ?_
  rintro e w1 ⟨v1, rfl, ho, hb1⟩
  have hr1 := IntRow.of ho
  obtain ⟨a1, k1, rfl, _⟩ := id hr1
  have H1 := hid (H.out.below hb1)
  have HK1 := hid (Spk.of H.out.kept.below.size hb1)
  have HR1 := hid hr1
  clear ho hb1 hr1
  go_wp2_with fail
  go_loopw [13] (fun v wr => ∃ k : Nat, k ≤ p.n.kids.length ∧ v = .int .i64 k ∧ Hid (WAt w0 M tb nv uv ps us b (l ++ (p.n.kids.take k).flatMap (wordsK (nodesOf ps))) op wr ∧ Spk w0.heap.size w1 wr)) (fun v _ => p.n.kids.length - (intOf v).toNat)
  case atStart => exact ⟨0, by omega, rfl, hid ⟨by simpa using H1.out, Spk.refl _ _⟩⟩
  case round =>
    obtain ⟨k, hk, rfl, HR⟩ := hrel
    by_cases hlt : k < p.n.kids.length
    · obtain ⟨x, hx⟩ : ∃ x, p.n.kids[k]? = some x := ⟨_, List.getElem?_eq_getElem hlt⟩
      obtain ⟨j, q, rfl, hq⟩ := hks x (List.mem_of_getElem? hx)
      have HW := hid (words_take (ns := nodesOf ps) (n := q.n) hx (by simpa using nodes_get hq))
      have HP := hid (flat_pre (wordsK (nodesOf ps)) p.n.kids (k + 1))
      obtain ⟨g, rfl, hcell⟩ := (HR1.out.keep HR.out.2).cell hx
      obtain ⟨p2, v2, hb2, _⟩ := HR.out.1.sp.block
      have d2 : wr.cell? ⟨b, 2, none⟩ = some (.pointer (some ⟨tb, 0, none⟩)) := by rw [Lib.cell_of_heap hb2]; rfl
      clear hx hb2 c2
      go_wp2_with fail
      refine (words_any HR.out.1.lies hq).mono ?_
      rintro e w2 ⟨rfl, rfl⟩
      go_wp2_with fail
      refine (spPut_new [q.n.words] HR.out.1.sp (Spk.refl _ _) HR.out.1.kept.below.size ?_ (by simp) (.inl rfl)).mono ?_
      · have h1 := HP.out
        rw [HW.out, List.length_append] at h1
        simp only [catN, Lib.byteCells_length, List.length_append]
        have : q.n.words.size = q.n.words.data.toList.length := rfl
        omega
      rintro e w4 ⟨rfl, g4⟩
      have H4 : Hid (WAt w0 M tb nv uv ps us b (l ++ (p.n.kids.take (k + 1)).flatMap (wordsK (nodesOf ps))) op w4 ∧ Spk w0.heap.size w1 w4) := by
        refine ⟨⟨H1.out.tree, ?_, HR.out.1.kept.trans g4.out.2⟩, HR.out.2.trans g4.out.2⟩
        have e := g4.out.1
        rw [catV_one, ← Lib.byteCells_append, List.append_assoc, ← HW.out] at e
        exact e
      clear g4 HR d2 hcell
      go_wp2_with fail
      refine ⟨⟨k + 1, by omega, by go_num, H4⟩, ?_⟩
      simp [intOf]; omega
    · have hkk : k = p.n.kids.length := by omega
      subst hkk
      go_wp2_with fail
      go_end0
      have := HR.out
      rw [List.take_length] at this
      exact ⟨rfl, this.1, HK1.out.trans this.2⟩
end Go.Proofs.YtkaeenafejdkfaaGreatDoor

/- The program: an element is spelt. -/
namespace Go.Proofs.YtkaeenafejdkfaaGreatDoor
open Go.RowKit

def catB (l : List ByteArray) : List UInt8 := l.flatMap fun s => s.data.toList
theorem catV_byte (l : List ByteArray) : catV l = Lib.byteCells (catB l) := by
  induction l with
  | nil => rfl
  | cons x l ih =>
    have e1 : catV (x :: l) = Lib.strCells x ++ catV l := by simp [catV]
    have e2 : catB (x :: l) = x.data.toList ++ catB l := by simp [catB]
    rw [e1, e2, Lib.byteCells_append, ih, Lib.strCells_eq]
theorem catN_byte (l : List ByteArray) : catN l = (catB l).length := by
  rw [← catV_length, catV_byte, Lib.byteCells_length]
theorem quote_ge (m : UInt8) : ∀ l : List UInt8, l.length ≤ (quoteL m l).length
  | [] => Nat.le_refl _
  | c :: l => by
    have ih := quote_ge m l
    unfold quoteL
    split
    · have := (refOf_len c).2
      rw [List.length_append, List.length_cons]; omega
    · rw [List.length_cons, List.length_cons]; omega

section
variable {w0 : World} {M : Nat → Lab} {tb : Nat} {nv uv : Value} {ps : List Pn} {us : List Value} {b : Nat} {l : List UInt8} {op : Int} {w : World}

theorem WAt.put (h : WAt w0 M tb nv uv ps us b l op w) (parts : List ByteArray) (hlen : l.length + (catB parts).length ≤ 20000) (hpl : parts.length ≤ 1000) {W : World}
    (hW : W = w.alloc (.cells (parts.map Value.string).toArray 9) ∨ W = (w.alloc (.cells (parts.map Value.string).toArray 9)).drew) :
    Calls Tryz.prog 117 #[.pointer (some ⟨b, 0, none⟩), .slice (some ⟨w.heap.size, 0, none⟩) parts.length parts.length] W fun e w' => e = .returned (.tuple #[]) ∧ Hid (WAt w0 M tb nv uv ps us b (l ++ catB parts) op w' ∧ Spk w0.heap.size w w') := by
  refine (spPut_new parts h.sp (Spk.refl _ _) h.kept.below.size (by rw [Lib.byteCells_length, catN_byte]; exact hlen) hpl hW).mono ?_
  rintro e w' ⟨rfl, g⟩
  refine ⟨rfl, hid ⟨⟨h.tree, ?_, h.kept.trans g.out.2⟩, g.out.2⟩⟩
  rw [Lib.byteCells_append, ← catV_byte]
  exact g.out.1
theorem WAt.quote (h : WAt w0 M tb nv uv ps us b l op w) (s : ByteArray) (m : Nat) (hm : m < 256) (hlen : l.length + (quoteL m.toUInt8 s.data.toList).length ≤ 20000) :
    Calls Tryz.prog 116 #[.pointer (some ⟨b, 0, none⟩), .string s, .int .u8 m] w fun e w' => e = .returned (.tuple #[]) ∧ Hid (WAt w0 M tb nv uv ps us b (l ++ quoteL m.toUInt8 s.data.toList) op w' ∧ Spk w0.heap.size w w') := by
  have hz := quote_ge m.toUInt8 s.data.toList
  have hz2 : s.size = s.data.toList.length := rfl
  refine (quote_any _ b _ _ op s m hm w h.sp (by rw [Lib.byteCells_length]; exact hlen) (by omega) h.kept.below.size).mono ?_
  rintro e w' ⟨rfl, g1, g2⟩
  refine ⟨rfl, hid ⟨⟨h.tree, ?_, h.kept.trans g2⟩, g2⟩⟩
  rw [Lib.byteCells_append]
  exact g1
theorem WAt.cells (h : WAt w0 M tb nv uv ps us b l op w) : w.cell? ⟨b, 2, none⟩ = some (.pointer (some ⟨tb, 0, none⟩)) ∧ w.cell? ⟨b, 3, none⟩ = some (.int .i64 op) ∧ w.frozen? ⟨b, 3, none⟩ = false := by
  obtain ⟨p0, v0, hb0, hB0⟩ := h.sp.block
  exact ⟨by rw [Lib.cell_of_heap hb0]; rfl, by rw [Lib.cell_of_heap hb0]; rfl, Lib.frozen_of_heap hb0 3⟩
theorem WAt.opens (h : WAt w0 M tb nv uv ps us b l op w) (q : Int) : WAt w0 M tb nv uv ps us b l q (w.setCell ⟨b, 3, none⟩ (.int .i64 q)) ∧ Spk w0.heap.size w (w.setCell ⟨b, 3, none⟩ (.int .i64 q)) := by
  obtain ⟨p0, v0, hb0, hB0⟩ := h.sp.block
  have hk := (Spk.refl w0.heap.size w).set hB0 hb0 3 (.int .i64 q)
  exact ⟨⟨h.tree, h.sp.elim (fun x => .inl (x.opens q)) (fun x => .inr (x.opens q)), h.kept.trans hk⟩, hk⟩
end

/-- a row of attributes -/
def AttrRow (w : World) (v : Value) (l : List (ByteArray × ByteArray)) : Prop :=
  AttrsAt w v l ∧ ∀ g c, v = .slice (some ⟨g, 0, none⟩) l.length c → ∃ (cur : Array Value) (fr : Nat × Nat), w.heap[g]? = some (.cells cur 81 fr)
theorem AttrRow.of {w : World} {B : Nat} {v : Value} {at_ : List (ByteArray × ByteArray)} (h : w.ownsRow B 81 2 v at_.length (attrCells at_)) : AttrRow w v at_ := by
  refine ⟨own_attrs h, fun g c e => ?_⟩
  rcases h.2 with ⟨e', _⟩ | ⟨g', cap, cur, hv', _, hg, _⟩
  · rw [e] at e'; cases e'
  · rw [e] at hv'
    cases hv'
    exact ⟨cur, _, hg⟩
theorem AttrRow.keep {B : Nat} {w w' : World} {v : Value} {at_ : List (ByteArray × ByteArray)} (h : AttrRow w v at_) (hk : Spk B w w') : AttrRow w' v at_ := by
  obtain ⟨⟨a, c, rfl, h1⟩, h2⟩ := h
  refine ⟨⟨a, c, rfl, fun k x hx => ?_⟩, fun g c' e => ?_⟩
  · obtain ⟨g, rfl, q1, q2⟩ := h1 k x hx
    obtain ⟨cur, fr, hg⟩ := h2 g c rfl
    have hg' := hk.row g _ _ _ hg (by decide) (by decide)
    have hb : w'.heap[g]? = w.heap[g]? := by rw [hg', hg]
    exact ⟨g, rfl, (World.cell?_of_block (a := ⟨g, k * 2, none⟩) hb).trans q1, (World.cell?_of_block (a := ⟨g, k * 2 + 1, none⟩) hb).trans q2⟩
  · obtain ⟨cur, fr, hg⟩ := h2 g c' e
    exact ⟨cur, fr, hk.row g _ _ _ hg (by decide) (by decide)⟩

/-- what is spelt of an element -/
def elL (ns : List Nd) (f d : Nat) (n : Nd) : List UInt8 :=
  openL n ++ (if rawB n.tag = true then n.kids.flatMap (wordsK ns) ++ endL n.tag else if (!voidB n.tag && decide (d < 40)) = true then spellK ns f (d + 1) n.kids ++ endL n.tag else [])
theorem attrs_take {l : List (ByteArray × ByteArray)} {k : Nat} {x : ByteArray × ByteArray} (hx : l[k]? = some x) : attrsL (l.take (k + 1)) = attrsL (l.take k) ++ attrL x := by
  unfold attrsL
  rw [List.take_add_one, hx]
  simp [List.flatMap_append]

set_option maxHeartbeats 4000000 in
set_option maxRecDepth 100000 in
theorem element_any {w0 : World} {M : Nat → Lab} {tb : Nat} {nv uv : Value} {ps : List Pn} {us : List Value} {b : Nat} {l : List UInt8} {d f : Nat} {w : World} (h : WAt w0 M tb nv uv ps us b l d w) {i : Nat} {p : Pn} (hp : ps[i]? = some p) (hd : d ≤ 100000)
    (hkl : p.n.kids.length ≤ 100000) (hal : p.n.attrs.length ≤ 100000) (hks : ∀ x ∈ p.n.kids, ∃ j : Nat, ∃ q, x = j ∧ ps[j]? = some q) (hlen : l.length + (elL (nodesOf ps) f d p.n).length ≤ 20000)
    (IH : rawB p.n.tag = false → (!voidB p.n.tag && decide (d < 40)) = true → ∀ l' w', WAt w0 M tb nv uv ps us b l' ((d + 1 : Nat) : Int) w' → l'.length + (spellK (nodesOf ps) f (d + 1) p.n.kids).length ≤ 20000 →
      Calls Tryz.prog 75 #[.pointer (some ⟨b, 0, none⟩), .int .i64 i] w' fun e w'' => e = .returned (.tuple #[]) ∧ WAt w0 M tb nv uv ps us b (l' ++ spellK (nodesOf ps) f (d + 1) p.n.kids) ((d + 1 : Nat) : Int) w'' ∧ Spk w0.heap.size w' w'') :
    Calls Tryz.prog 115 #[.pointer (some ⟨b, 0, none⟩), .int .i64 i] w fun e w' => e = .returned (.tuple #[]) ∧ WAt w0 M tb nv uv ps us b (l ++ elL (nodesOf ps) f d p.n) d w' ∧ Spk w0.heap.size w w' := by
  have hL : l.length + (1 + p.n.tag.size + (attrsL p.n.attrs).length + 1) ≤ 20000 := by
    unfold elL openL at hlen
    simp only [List.length_append, List.length_cons, List.length_nil] at hlen
    have : p.n.tag.size = p.n.tag.data.toList.length := rfl
    omega
  have HLEN := hid hlen
  have HIH := hid IH
  have HKS := hid hks
  obtain ⟨c2, -, -⟩ := h.cells
  have H := hid h
  clear h hlen IH hks
  go_enter Tryz.func115, Tryz.ntmps115
  go_wp2_with fail
  refine (tag_any H.out.lies hp).mono ?_
  rintro e w1 ⟨rfl, rfl⟩
  go_wp2_with fail
  refine (H.out.put [⟨#[60]⟩, p.n.tag] ?_ (by simp) (.inl rfl)).mono ?_
  · simp [catB]; omega
  rintro e w2 ⟨rfl, H2⟩
  obtain ⟨d2, -, -⟩ := H2.out.1.cells
  clear c2
  go_wp2_with fail
  refine (attrs_any H2.out.1.lies hp (by omega)).mono ?_
  rintro e w3 ⟨v3, rfl, ho, hb3⟩
  have hr3 := AttrRow.of ho
  obtain ⟨⟨a3, k3, rfl, _⟩, _⟩ := id hr3
  have H3 : Hid (WAt w0 M tb nv uv ps us b (l ++ 60 :: p.n.tag.data.toList) d w3 ∧ Spk w0.heap.size w1 w3) := ⟨by simpa [catB] using H2.out.1.below hb3, H2.out.2.trans (Spk.of H2.out.1.kept.below.size hb3)⟩
  have HR3 := hid hr3
  clear ho hb3 hr3 H2 d2
  go_wp2_with fail
  go_loopw [24] (fun v wr => ∃ k : Nat, k ≤ p.n.attrs.length ∧ v = .int .i64 k ∧ Hid (WAt w0 M tb nv uv ps us b (l ++ 60 :: p.n.tag.data.toList ++ attrsL (p.n.attrs.take k)) d wr ∧ Spk w0.heap.size w3 wr)) (fun v _ => p.n.attrs.length - (intOf v).toNat)
  case atStart => exact ⟨0, by omega, rfl, hid ⟨by simpa [attrsL] using H3.out.1, Spk.refl _ _⟩⟩
  case round =>
    obtain ⟨k, hk, rfl, HR⟩ := hrel
    by_cases hlt : k < p.n.attrs.length
    · obtain ⟨x, hx⟩ : ∃ x, p.n.attrs[k]? = some x := ⟨_, List.getElem?_eq_getElem hlt⟩
      have HX := hid (attrs_take hx)
      have hpre : (attrsL (p.n.attrs.take k)).length + (attrL x).length ≤ (attrsL p.n.attrs).length := by
        have e := flat_pre attrL p.n.attrs (k + 1)
        have e2 := HX.out
        unfold attrsL at e2 ⊢
        rw [e2, List.length_append] at e
        exact e
      have hal2 : (attrL x).length = 1 + x.1.size + 2 + (quoteL 34 x.2.data.toList).length + 1 := by
        have : x.1.size = x.1.data.toList.length := rfl
        simp only [attrL, List.length_cons, List.length_append, List.length_nil]; omega
      have htl : p.n.tag.data.toList.length = p.n.tag.size := rfl
      have hxl : x.1.data.toList.length = x.1.size := rfl
      obtain ⟨⟨a', c', e', hcs⟩, _⟩ := HR3.out.keep HR.out.2
      injection e' with e1 _ e3
      subst e1
      subst e3
      obtain ⟨g, rfl, x1, x2⟩ := hcs k x hx
      clear hcs hx
      go_wp2_with fail
      have hB5 : Below wr.heap.size wr (wr.alloc (.cells #[.string x.1, .string x.2] 81)) := (Below.refl _ _).alloc (Nat.le_refl _) _
      have H5 : Hid (WAt w0 M tb nv uv ps us b (l ++ 60 :: p.n.tag.data.toList ++ attrsL (p.n.attrs.take k)) d (wr.alloc (.cells #[.string x.1, .string x.2] 81)) ∧ Spk w0.heap.size w3 (wr.alloc (.cells #[.string x.1, .string x.2] 81))) := ⟨HR.out.1.below hB5, HR.out.2.trans (Spk.of HR.out.1.kept.below.size hB5)⟩
      have hab := heap_alloc_new wr (.cells #[.string x.1, .string x.2] 81)
      have hsz : wr.heap.size + 1 = (wr.alloc (.cells #[.string x.1, .string x.2] 81)).heap.size := by simp
      rw [hsz]
      obtain ⟨ab, hab2⟩ : ∃ ab, ab = wr.heap.size := ⟨_, rfl⟩
      rw [← hab2] at hab ⊢
      generalize wr.alloc (.cells #[.string x.1, .string x.2] 81) = w5 at *
      have HAB := hid hab
      clear hB5 hsz hab hab2 HR x1 x2
      refine (H5.out.1.put [⟨#[32]⟩, x.1, ⟨#[61, 34]⟩] ?_ (by simp) (.inl rfl)).mono ?_
      · simp [catB]; omega
      rintro e w6 ⟨rfl, H6⟩
      have HAB6 := H6.out.2.row ab _ _ _ HAB.out (by decide) (by decide)
      have y1 : w6.cell? ⟨ab, 1, none⟩ = some (.string x.2) := by rw [Lib.cell_of_heap HAB6]; rfl
      clear HAB6
      go_wp2_with fail
      refine (H6.out.1.quote x.2 34 (by decide) ?_).mono ?_
      · simp [catB]; omega
      rintro e w7 ⟨rfl, H7⟩
      clear y1
      go_wp2_with fail
      refine (H7.out.1.put [⟨#[34]⟩] ?_ (by simp) (.inl rfl)).mono ?_
      · simp [catB]; omega
      rintro e w8 ⟨rfl, H8⟩
      have H9 : Hid (WAt w0 M tb nv uv ps us b (l ++ 60 :: p.n.tag.data.toList ++ attrsL (p.n.attrs.take (k + 1))) d w8 ∧ Spk w0.heap.size w3 w8) := by
        refine ⟨?_, ((H5.out.2.trans H6.out.2).trans H7.out.2).trans H8.out.2⟩
        have e := H8.out.1
        rw [HX.out]
        have e2 : l ++ 60 :: p.n.tag.data.toList ++ attrsL (p.n.attrs.take k) ++ catB [⟨#[32]⟩, x.1, ⟨#[61, 34]⟩] ++ quoteL (34 : Nat).toUInt8 x.2.data.toList ++ catB [⟨#[34]⟩] = l ++ 60 :: p.n.tag.data.toList ++ (attrsL (p.n.attrs.take k) ++ attrL x) := by
          simp [catB, attrL]
        rw [e2] at e
        exact e
      clear H5 H6 H7 H8 HAB
      go_wp2_with fail
      refine ⟨⟨k + 1, by omega, by go_num, H9⟩, ?_⟩
      simp [intOf]; omega
    · have hkk : k = p.n.attrs.length := by omega
      subst hkk
      have H4 : Hid (WAt w0 M tb nv uv ps us b (l ++ 60 :: p.n.tag.data.toList ++ attrsL p.n.attrs) d wr ∧ Spk w0.heap.size w1 wr) := by
        have := HR.out
        rw [List.take_length] at this
        exact ⟨this.1, H3.out.2.trans this.2⟩
      clear HR H3 HR3
      have htl : p.n.tag.data.toList.length = p.n.tag.size := rfl
      go_wp2_with fail
      refine (H4.out.1.put [⟨#[62]⟩] ?_ (by simp) (.inl rfl)).mono ?_
      · simp [catB]; omega
      rintro e w5 ⟨rfl, H5⟩
      have H6 : Hid (WAt w0 M tb nv uv ps us b (l ++ openL p.n) d w5 ∧ Spk w0.heap.size w1 w5) := by
        refine ⟨?_, H4.out.2.trans H5.out.2⟩
        have e : l ++ openL p.n = l ++ 60 :: p.n.tag.data.toList ++ attrsL p.n.attrs ++ catB [⟨#[62]⟩] := by simp [openL, catB]
        rw [e]
        exact H5.out.1
      clear H4 H5
      go_wp2_with fail
      refine (praw_any p.n.tag _).mono ?_
      rintro e w6 ⟨rfl, rfl⟩
      cases hraw : rawB p.n.tag with
      | true =>
        have hEL : elL (nodesOf ps) f d p.n = openL p.n ++ (p.n.kids.flatMap (wordsK (nodesOf ps)) ++ endL p.n.tag) := by unfold elL; rw [if_pos hraw]
        have HEL := hid hEL
        clear hEL
        have hl6 : l.length + ((openL p.n).length + ((p.n.kids.flatMap (wordsK (nodesOf ps))).length + (2 + p.n.tag.size + 1))) ≤ 20000 := by
          have := HLEN.out
          rw [HEL.out] at this
          simp only [endL, List.length_append, List.length_cons, List.length_nil] at this
          omega
        go_wp2_with fail
        refine (rawWords_any H6.out.1 hp hkl HKS.out (by rw [List.length_append]; omega)).mono ?_
        rintro e w7 ⟨rfl, h7, hk7⟩
        have H7 := hid h7
        have HK7 := hid (H6.out.2.trans hk7)
        clear h7 hk7 H6
        go_wp2_with fail
        refine (H7.out.put [⟨#[60, 47]⟩, p.n.tag, ⟨#[62]⟩] ?_ (by simp) (.inl rfl)).mono ?_
        · simp [catB] at hl6 ⊢; omega
        rintro e w8 ⟨rfl, H8⟩
        go_wp2_with fail
        go_end0
        refine ⟨rfl, ?_, HK7.out.trans H8.out.2⟩
        have e := H8.out.1
        rw [HEL.out]
        have e2 : l ++ openL p.n ++ p.n.kids.flatMap (wordsK (nodesOf ps)) ++ catB [⟨#[60, 47]⟩, p.n.tag, ⟨#[62]⟩] = l ++ (openL p.n ++ (p.n.kids.flatMap (wordsK (nodesOf ps)) ++ endL p.n.tag)) := by
          simp [catB, endL]
        rw [e2] at e
        exact e
      | false =>
        obtain ⟨-, f3, f4⟩ := H6.out.1.cells
        go_wp2_with fail
        refine (staysOpen_any p.n.tag d _).mono ?_
        rintro e w7 ⟨rfl, rfl⟩
        cases hst : (!voidB p.n.tag && decide (d < 40)) with
        | false =>
          have hEL : elL (nodesOf ps) f d p.n = openL p.n := by unfold elL; rw [if_neg (by rw [hraw]; decide), if_neg (by rw [hst]; decide), List.append_nil]
          have HEL := hid hEL
          clear hEL
          go_wp2_with fail
          go_end0
          rw [HEL.out]
          exact ⟨rfl, H6.out⟩
        | true =>
          have hEL : elL (nodesOf ps) f d p.n = openL p.n ++ (spellK (nodesOf ps) f (d + 1) p.n.kids ++ endL p.n.tag) := by unfold elL; rw [if_neg (by rw [hraw]; decide), if_pos hst]
          have HEL := hid hEL
          clear hEL
          have hl6 : l.length + ((openL p.n).length + ((spellK (nodesOf ps) f (d + 1) p.n.kids).length + (2 + p.n.tag.size + 1))) ≤ 20000 := by
            have := HLEN.out
            rw [HEL.out] at this
            simp only [endL, List.length_append, List.length_cons, List.length_nil] at this
            omega
          have HI := hid (HIH.out hraw hst)
          have hcast : ((d + 1 : Nat) : Int) = (d : Int) + 1 := by omega
          rw [hcast] at HI
          have H8 := hid (H6.out.1.opens ((d : Int) + 1))
          clear hcast
          go_wp2_with fail
          refine (HI.out _ _ H8.out.1 (by rw [List.length_append]; omega)).mono ?_
          rintro e w8 ⟨rfl, h8, hk8⟩
          obtain ⟨-, g3, g4⟩ := h8.cells
          have H9 := hid h8
          have HK9 := hid ((H6.out.2.trans H8.out.2).trans hk8)
          have H10 := hid (H9.out.opens (d : Int))
          clear h8 hk8 H8 f3 f4 H6
          have hback : (d : Int) + 1 - 1 = d := by omega
          go_wp2_with fail
          have hsz : w8.heap.size = (w8.setCell ⟨b, 3, none⟩ (.int .i64 (d : Int))).heap.size := by simp [World.setCell]
          rw [hsz]
          refine (H10.out.1.put [⟨#[60, 47]⟩, p.n.tag, ⟨#[62]⟩] ?_ (by simp) (.inl rfl)).mono ?_
          · simp [catB] at hl6 ⊢; omega
          rintro e w9 ⟨rfl, H11⟩
          clear hsz
          go_wp2_with fail
          go_end0
          refine ⟨rfl, ?_, (HK9.out.trans H10.out.2).trans H11.out.2⟩
          have e := H11.out.1
          rw [HEL.out]
          have e2 : l ++ openL p.n ++ spellK (nodesOf ps) f (d + 1) p.n.kids ++ catB [⟨#[60, 47]⟩, p.n.tag, ⟨#[62]⟩] = l ++ (openL p.n ++ (spellK (nodesOf ps) f (d + 1) p.n.kids ++ endL p.n.tag)) := by
            simp [catB, endL]
          rw [e2] at e
          exact e
end Go.Proofs.YtkaeenafejdkfaaGreatDoor
