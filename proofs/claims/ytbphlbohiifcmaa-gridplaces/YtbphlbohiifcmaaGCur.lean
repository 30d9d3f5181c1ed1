/- standFromCursor: the items stand whose row is not told. -/
import Derived.Test.YtbphlbohiifcmaaGRow
namespace Go.Proofs.Ytbphlbohiifcmaa
open Go.RowKit
set_option linter.unusedVariables false      -- bounds that are for the walk

/-- a cursor in a block of its own -/
def CuAt (w : World) (cb : Nat) (c r : Int) : Prop := w.heap[cb]? = some (.cells #[.int .i64 c, .int .i64 r] 116 (0, 0))
theorem CuAt.cells {w : World} {cb : Nat} {c r : Int} (h : CuAt w cb c r) : cb < w.heap.size ∧ w.cell? ⟨cb, 0, none⟩ = some (.int .i64 c) ∧ w.cell? ⟨cb, 1, none⟩ = some (.int .i64 r) := by
  have hh : w.heap[cb]? = _ := h
  refine ⟨ltH hh, ?_, ?_⟩ <;> rw [cell_of_row w cb _ _ _ _ hh] <;> rfl
theorem CuAt.frz {w : World} {cb : Nat} {c r : Int} (h : CuAt w cb c r) (k : Nat) : w.frozen? ⟨cb, k, none⟩ = false := by
  have hh : w.heap[cb]? = _ := h
  simp [World.frozen?, hh]
theorem CuAt.held {w W : World} {cb : Nat} {c r : Int} (h : CuAt w cb c r) (hb : Below w.heap.size w W) : CuAt W cb c r := (hb.block cb h.cells.1).trans h
theorem CuAt.other {w : World} {cb g k : Nat} {c r : Int} {v : Value} (h : CuAt w cb c r) (hg : cb ≠ g) : CuAt (w.setCell ⟨g, k, none⟩ v) cb c r := (heap_setCell_other w ⟨g, k, none⟩ cb v hg).trans h
/-- both: a table and a cursor -/
structure TcAt (w wr : World) (tb mb cb g n sc : Nat) (F : Tk) (cols : Int) (its : List Gi) (cc cr : Int) : Prop where
  t : TbAt w wr tb mb (.slice (some ⟨g, 0, none⟩) n sc) F cols its
  u : CuAt wr cb cc cr
  ng : cb ≠ g
  nt : cb ≠ tb
  nm : cb ≠ mb
  lo : w.heap.size ≤ cb
theorem TcAt.held {w wr W : World} {tb mb cb g n sc : Nat} {F : Tk} {cols cc cr : Int} {its : List Gi} (h : TcAt w wr tb mb cb g n sc F cols its cc cr) (hb : Below wr.heap.size wr W) : TcAt w W tb mb cb g n sc F cols its cc cr :=
  ⟨h.t.held hb, h.u.held hb, h.ng, h.nt, h.nm, h.lo⟩
/-- an item has been told anew, whole -/
theorem TcAt.put4 {w wr : World} {tb mb cb g n sc : Nat} {F : Tk} {cols cc cr : Int} {its : List Gi} (h : TcAt w wr tb mb cb g n sc F cols its cc cr) (hn : its.length = n) {k : Nat} {i : Gi} (hk : its[k]? = some i) (a b c d : Int) :
    TcAt w ((((wr.setCell ⟨g, k * 4, none⟩ (.int .i64 a)).setCell ⟨g, k * 4 + 1, none⟩ (.int .i64 b)).setCell ⟨g, k * 4 + 2, none⟩ (.int .i64 c)).setCell ⟨g, k * 4 + 3, none⟩ (.int .i64 d)) tb mb cb g n sc F cols (its.set k ⟨a, b, c, d⟩) cc cr := by
  have hkl := (List.getElem?_eq_some_iff.1 hk).1
  have at_ : ∀ q, (its.set k q)[k]? = some q := fun q => by rw [List.getElem?_set, if_pos rfl, if_pos hkl]
  have h1 := h.t.put (f := 0) (i' := ⟨a, i.cs, i.r, i.rs⟩) (v := .int .i64 a) hn hk (by omega) rfl
  have h2 := h1.put (f := 1) (i' := ⟨a, b, i.r, i.rs⟩) (v := .int .i64 b) (by rw [List.length_set]; exact hn) (at_ _) (by omega) rfl
  rw [List.set_set] at h2
  have h3 := h2.put (f := 2) (i' := ⟨a, b, c, i.rs⟩) (v := .int .i64 c) (by rw [List.length_set]; exact hn) (at_ _) (by omega) rfl
  rw [List.set_set] at h3
  have h4 := h3.put (f := 3) (i' := ⟨a, b, c, d⟩) (v := .int .i64 d) (by rw [List.length_set]; exact hn) (at_ _) (by omega) rfl
  rw [List.set_set] at h4
  exact ⟨h4, (((h.u.other h.ng).other h.ng).other h.ng).other h.ng, h.ng, h.nt, h.nm, h.lo⟩
theorem TcAt.setCu {w wr : World} {tb mb cb g n sc : Nat} {F : Tk} {cols cc cr : Int} {its : List Gi} (h : TcAt w wr tb mb cb g n sc F cols its cc cr) (a b : Int) : TcAt w ((wr.setCell ⟨cb, 0, none⟩ (.int .i64 a)).setCell ⟨cb, 1, none⟩ (.int .i64 b)) tb mb cb g n sc F cols its a b := by
  have far : ∀ q, q ≠ cb → ((wr.setCell ⟨cb, 0, none⟩ (.int .i64 a)).setCell ⟨cb, 1, none⟩ (.int .i64 b)).heap[q]? = wr.heap[q]? := fun q hq => by
    rw [heap_setCell_other _ ⟨cb, 1, none⟩ q _ hq, heap_setCell_other _ ⟨cb, 0, none⟩ q _ hq]
  refine ⟨⟨(h.t.below.setCell h.lo _).setCell h.lo _, (far tb (Ne.symm h.nt)).trans h.t.tab, h.t.lot, h.t.lom, ?_, h.t.map.keep (far mb (Ne.symm h.nm)), h.t.ntm, h.t.nst, h.t.nsm⟩, ?_, h.ng, h.nt, h.nm, h.lo⟩
  · obtain ⟨hl, ⟨h0, _⟩ | ⟨g', cap, cur, hv, hg, hh, h1, h2, h3, h4⟩⟩ := h.t.row
    · cases h0
    · refine ⟨hl, .inr ⟨g', cap, cur, hv, hg, (far g' (fun e => ?_)).trans hh, h1, h2, h3, h4⟩⟩
      cases hv
      exact h.ng e.symm
  · unfold CuAt
    rw [heap_setCell_same _ cb 1 _ 116 _ (heap_setCell_same wr cb 0 _ 116 _ h.u)]
    rfl
theorem TcAt.taken {w wr W : World} {tb mb cb g n sc : Nat} {F F' : Tk} {cols cc cr : Int} {its : List Gi} (h : TcAt w wr tb mb cb g n sc F cols its cc cr) (hm : MapF W mb F') (hk : KeepM wr mb W) : TcAt w W tb mb cb g n sc F' cols its cc cr :=
  ⟨h.t.taken hm hk, (hk.block cb h.u.cells.1 h.nm).trans h.u, h.ng, h.nt, h.nm, h.lo⟩

/-- those of a row stand, and those ahead of place k -/
def PCur (l0 : List Gi) (k j : Nat) : Prop := ∃ o, l0[j]? = some o ∧ (0 < o.r ∨ j < k)
theorem PCur.lt {l0 : List Gi} {k j : Nat} (h : PCur l0 k j) : j < l0.length := by
  obtain ⟨o, ho, _⟩ := h
  exact (List.getElem?_eq_some_iff.1 ho).1
theorem GInv.cur_start {l0 its : List Gi} {F : Tk} {cols B : Int} (h : GInv l0 its F cols B (PRow l0 l0.length)) : GInv l0 its F cols B (PCur l0 0) :=
  h.mono (fun j hj => ⟨fun ⟨o, h1, h2⟩ => ⟨o, h1, .inl (by rcases h2 with h2 | ⟨_, h2⟩; exact h2.2; exact h2)⟩, fun ⟨o, h1, h2⟩ => ⟨o, h1, .inr ⟨hj, by rcases h2 with h2 | h2; exact h2; omega⟩⟩⟩) (fun j hj => hj.lt)
theorem GInv.cur_next {l0 its : List Gi} {F : Tk} {cols B : Int} {k : Nat} {o : Gi} {P : Nat → Prop} (h : GInv l0 its F cols B P) (hk : l0[k]? = some o) (hP : ∀ j, P j ↔ (PCur l0 k j ∨ j = k)) : GInv l0 its F cols B (PCur l0 (k + 1)) := by
  refine h.mono (fun j hj => ?_) (fun j hj => hj.lt)
  rw [hP]
  constructor
  · rintro (⟨q, h1, h2⟩ | rfl)
    · exact ⟨q, h1, by rcases h2 with h2 | h2; exact .inl h2; exact .inr (by omega)⟩
    · exact ⟨o, hk, .inr (by omega)⟩
  · rintro ⟨q, h1, h2⟩
    by_cases e : j = k
    · exact .inr e
    · exact .inl ⟨q, h1, by rcases h2 with h2 | h2; exact .inl h2; exact .inr (by omega)⟩
/-- where one comes to stand -/
structure Stp (F : Tk) (cols B : Int) (o i : Gi) : Prop where
  ok : i.Ok
  free : FreeAt F i
  sp : i.cs = o.cs ∧ i.rs = o.rs
  lc : i.lc ≤ B + 21
  lr : i.lr ≤ B + 21
  co : i.lc ≤ cols
theorem stp_col {l0 its : List Gi} {F : Tk} {cols B r r0 : Int} {P : Nat → Prop} (h : GInv l0 its F cols B P) {o : Gi} (ho : o ∈ l0) (hc : 0 < o.c) (hB1 : 220 ≤ B) (hB2 : B ≤ 80000) (r1 : 1 ≤ r0) (r2 : r0 ≤ B + 1) (hr : RowIs F (o.atR r0) B r) : Stp F cols B o (o.atR r) := by
  have hg := h.ok0 o ho
  have h1 := hg.cs2; have h2 := hg.rs2; have h3 := hg.c2
  have hge := hr.ge; have hle := hr.le
  simp only [Gi.atR] at hge hle
  refine ⟨⟨by show 1 ≤ o.c; omega, by show o.c ≤ 100000; omega, hg.cs1, h1, by show 1 ≤ r; omega, by show r ≤ 100000; omega, hg.rs1, h2⟩, hr.free, ⟨rfl, rfl⟩, ?_, ?_, h.co3 o ho hc⟩
  · show o.c + o.cs - 1 ≤ B + 21; omega
  · show r + o.rs - 1 ≤ B + 21; omega
theorem stp_ord {l0 its : List Gi} {F : Tk} {cols B c r cc cr : Int} {P : Nat → Prop} (h : GInv l0 its F cols B P) {o : Gi} (ho : o ∈ l0) (hB2 : B ≤ 80000) (hco : cols ≤ B) (r1 : 1 ≤ cr) (r2 : cr ≤ B) (hr : OrdIs F o.cs o.rs cols B cc cr c r) : Stp F cols B o ⟨c, o.cs, r, o.rs⟩ := by
  have hg := h.ok0 o ho
  have h1 := hg.cs2; have h2 := hg.rs2; have h3 := hg.cs1; have h4 := hg.rs1
  have a1 := hr.within; have a2 := hr.c1; have a3 := hr.r1; have a4 := hr.r2
  refine ⟨⟨a2, by show c ≤ 100000; omega, h3, h1, by show 1 ≤ r; omega, by show r ≤ 100000; omega, h4, h2⟩, hr.free, ⟨rfl, rfl⟩, ?_, ?_, a1⟩
  · show c + o.cs - 1 ≤ B + 21; omega
  · show r + o.rs - 1 ≤ B + 21; omega
end Go.Proofs.Ytbphlbohiifcmaa
