/- A list of twigs as it lies in memory, and what 'few' answers of it. -/
import Derived.Test.YtlfepdecgfcifaaGreatDoorM08
import Derived.Test.YtlfepdecgfcifaaGreatDoorRows
import Derived.Deep.SlicePairs
import Derived.ChangeSlices
import Derived.Test.YtlfepdecgfcifaaGreatDoorM10
namespace Go.Proofs.YtlfepdecgfcifaaGreatDoor
open Go.RowKit

structure TwAt (w : World) (S b c : Nat) (t : Tw) : Prop where
  blk : b < S
  kind : w.cell? ⟨b, c, none⟩ = some (.int .i64 t.kind)
  tag : w.cell? ⟨b, c + 1, none⟩ = some (.string t.tag)
  text : w.cell? ⟨b, c + 2, none⟩ = some (.string t.text)
  attrs : w.cell? ⟨b, c + 3, none⟩ = some (.slice t.aa t.attrs.length t.ac)
  kids : w.cell? ⟨b, c + 4, none⟩ = some (.slice t.ka t.kids.length t.kc)
  al : t.attrs.length ≤ t.ac ∧ t.ac ≤ 9223372036854775807
  kl : t.kids.length ≤ t.kc ∧ t.kc ≤ 9223372036854775807
  tl : t.tag.size ≤ 9223372036854775807
  xl : t.text.size ≤ 9223372036854775807
  att : ∀ j x, t.attrs[j]? = some x → ∃ b' o', t.aa = some ⟨b', o', none⟩ ∧ b' < S ∧ w.cell? ⟨b', o' + j * 2, none⟩ = some (.string x.1) ∧ w.cell? ⟨b', o' + j * 2 + 1, none⟩ = some (.string x.2) ∧ x.1.size ≤ 9223372036854775807 ∧ x.2.size ≤ 9223372036854775807
  kid : ∀ j k, t.kids[j]? = some k → ∃ b' o', t.ka = some ⟨b', o', none⟩ ∧ b' < S ∧ w.cell? ⟨b', o' + j, none⟩ = some (.int .i64 k)

/-- the twigs of a slice -/
def TwigsIn (w : World) (S : Nat) (a : Option Addr) (ts : List Tw) : Prop :=
  ∀ i t, ts[i]? = some t → ∃ b o, a = some ⟨b, o, none⟩ ∧ TwAt w S b (o + i * 5) t

theorem TwAt.same {w w' : World} {S b c : Nat} {t : Tw} (h : TwAt w S b c t) (hs : ∀ b, b < S → w'.heap[b]? = w.heap[b]?) : TwAt w' S b c t := by
  have cc : ∀ b o, b < S → w'.cell? ⟨b, o, none⟩ = w.cell? ⟨b, o, none⟩ := fun b o hb => World.cell?_of_block (a := ⟨b, o, none⟩) (hs b hb)
  refine ⟨h.blk, (cc _ _ h.blk).trans h.kind, (cc _ _ h.blk).trans h.tag, (cc _ _ h.blk).trans h.text, (cc _ _ h.blk).trans h.attrs, (cc _ _ h.blk).trans h.kids, h.al, h.kl, h.tl, h.xl, ?_, ?_⟩
  · intro j x hx
    obtain ⟨b', o', e1, e2, e3, e4, e5⟩ := h.att j x hx
    exact ⟨b', o', e1, e2, (cc _ _ e2).trans e3, (cc _ _ e2).trans e4, e5⟩
  · intro j x hx
    obtain ⟨b', o', e1, e2, e3⟩ := h.kid j x hx
    exact ⟨b', o', e1, e2, (cc _ _ e2).trans e3⟩
theorem TwigsIn.same {w w' : World} {S : Nat} {a : Option Addr} {ts : List Tw} (h : TwigsIn w S a ts) (hs : ∀ b, b < S → w'.heap[b]? = w.heap[b]?) : TwigsIn w' S a ts := fun i t ht => by
  obtain ⟨b, o, e, hT⟩ := h i t ht
  exact ⟨b, o, e, hT.same hs⟩

/-- a twig that is spoken of -/
def FewOne (t : Tw) : Prop := t.text.size ≤ 300 ∧ t.tag.size ≤ 60 ∧ t.attrs.length ≤ 8 ∧ t.kids.length ≤ 60
def Few (ts : List Tw) : Prop := ts.length ≤ 60 ∧ ∀ (j : Nat) (t : Tw), ts[j]? = some t → FewOne t

/-- what 'few' answers -/
def FewPost (ts : List Tw) (e : Ending) : Prop := ∃ r, e = .returned (.bool r) ∧ (r = true → Few ts)
theorem FewPost.no (ts : List Tw) : FewPost ts (.returned (.bool false)) := ⟨false, rfl, fun h => by cases h⟩

end Go.Proofs.YtlfepdecgfcifaaGreatDoor

/- A list of twigs that came in, laid open. -/
namespace Go.Proofs.YtlfepdecgfcifaaGreatDoor
open Go.RowKit Go.Deep Go.ChangeShapes

/-- an address at which something lies is that of a cell -/
theorem addr_of {w : World} {a : Addr} {v : Value} (h : w.cell? (a.add 0) = some v) : a = ⟨a.block, a.off, none⟩ := by
  obtain ⟨b, o, s⟩ := a
  cases s with
  | none => rfl
  | some x =>
    exfalso
    simp only [Addr.add, if_true, World.cell?] at h
    split at h
    · simp at h
    · cases h
theorem addr_add {a : Addr} (h : a = ⟨a.block, a.off, none⟩) (j : Nat) : a.add j = ⟨a.block, a.off + j, none⟩ := by
  generalize a.block = b at h
  generalize a.off = o at h
  subst h
  unfold Addr.add
  split
  · simp_all
  · rfl
theorem blk_lt {w : World} {b o : Nat} {v : Value} (h : w.cell? ⟨b, o, none⟩ = some v) : b < w.heap.size := World.block_lt_of_cell? w ⟨b, o, none⟩ h
theorem five_list {α : Type} {l : List α} (h : l.length = 5) : ∃ a b c d e, l = [a, b, c, d, e] := by
  match l, h with
  | [a, b, c, d, e], _ => exact ⟨a, b, c, d, e, rfl⟩

theorem Tryz.cellsAttr : Tryz.prog.cellsOf 51 = 2 := by kernel_rfl
theorem Tryz.cellsStr : Tryz.prog.cellsOf 9 = 1 := by kernel_rfl
theorem Tryz.cellsInt : Tryz.prog.cellsOf 3 = 1 := by kernel_rfl
theorem Tryz.cellsTwig : Tryz.prog.cellsOf 45 = 5 := by kernel_rfl
theorem Tryz.cellsAttrs : Tryz.prog.cellsOf 43 = 1 := by kernel_rfl
theorem Tryz.cellsInts : Tryz.prog.cellsOf 32 = 1 := by kernel_rfl

theorem bulk_pos {H : Type} (d : DataW H) : 1 ≤ Rows.uptoBulk d := by
  cases d with
  | lit l => cases l <;> simp [Rows.uptoBulk]
  | _ => simp [Rows.uptoBulk]
theorem bulk_part {H : Type} {d : DataW H} : ∀ {l : List (DataW H)}, d ∈ l → Rows.uptoBulk d ≤ Rows.uptoBulkAll l := by
  intro l
  induction l with
  | nil => intro h; cases h
  | cons x r ih =>
    intro h
    simp only [Rows.uptoBulkAll]
    rcases List.mem_cons.1 h with e | e
    · subst e; omega
    · have := ih e; omega
theorem bulk_len {H : Type} (l : List (DataW H)) : l.length ≤ Rows.uptoBulkAll l := by
  induction l with
  | nil => simp [Rows.uptoBulkAll]
  | cons x r ih => have := bulk_pos x; simp only [Rows.uptoBulkAll, List.length_cons]; omega
theorem bulk_slice {H : Type} (l r : List (DataW H)) : l.length ≤ Rows.uptoBulk (.slice l r) := by
  have := bulk_len l
  simp only [Rows.uptoBulk]
  omega
theorem bulk_elem {H : Type} {d : DataW H} {l r : List (DataW H)} (h : d ∈ l) : Rows.uptoBulk d ≤ Rows.uptoBulk (.slice l r) := by
  have := bulk_part h
  simp only [Rows.uptoBulk]
  omega
theorem bulk_agg {H : Type} {d : DataW H} {l : List (DataW H)} (h : d ∈ l) : Rows.uptoBulk d ≤ Rows.uptoBulk (.agg l) := by
  have := bulk_part h
  simp only [Rows.uptoBulk]
  omega

section
variable {H : Type} {enc : TypeId × Value → H} {W : World}

/-- a slice of pairs of texts -/
theorem open_attrs {fuel : Nat} {v : Value} {x : DataW H × List MemPlace} (h : DataW.trod enc Tryz.prog W 0 (fun _ => true) true fuel 43 [v] = some x) :
    ∃ (aa : Option Addr) (ac : Nat) (at_ : List (ByteArray × ByteArray)), at_.length ≤ Rows.uptoBulk x.1 ∧ v = .slice aa at_.length ac ∧ at_.length ≤ ac ∧ ac ≤ 9223372036854775807 ∧
      ∀ j x, at_[j]? = some x → ∃ b' o', aa = some ⟨b', o', none⟩ ∧ b' < W.heap.size ∧ W.cell? ⟨b', o' + j * 2, none⟩ = some (.string x.1) ∧ W.cell? ⟨b', o' + j * 2 + 1, none⟩ = some (.string x.2) ∧ x.1.size ≤ 9223372036854775807 ∧ x.2.size ≤ 9223372036854775807 := by
  rcases open_slice_pairs Tryz.underlying43 Tryz.underlying51 Tryz.cellsAttr rfl rfl Tryz.cellsStr Tryz.cellsStr h with ⟨h0, _⟩ | ⟨a, len, cap, m, n, V0, V1, D0, D1, P0, P1, h0, _, hl, hm, hmm, hxe, hx⟩
  · refine ⟨none, 0, [], by simp, ?_, Nat.le_refl _, by omega, fun j x hj => by simp at hj⟩
    simpa using h0
  · have hlm : len ≤ m := by rw [hmm]; simp; exact hl
    unfold maxLen at hm
    have each : ∀ i, i < len → ∃ q : ByteArray × ByteArray, W.cell? (a.add (i * 2)) = some (.string q.1) ∧ W.cell? (a.add (i * 2 + 1)) = some (.string q.2) ∧ q.1.size ≤ 9223372036854775807 ∧ q.2.size ≤ 9223372036854775807 := by
      intro i hi
      obtain ⟨c0, c1, t0, t1⟩ := hx i (by omega)
      obtain ⟨s0, e0, _, z0⟩ := DataW.trod_string Tryz.underlying9 t0
      obtain ⟨s1, e1, _, z1⟩ := DataW.trod_string Tryz.underlying9 t1
      simp only [List.cons.injEq, and_true] at e0 e1
      unfold maxLen at z0 z1
      exact ⟨(s0, s1), by rw [c0, e0], by rw [c1, e1], by omega, by omega⟩
    obtain ⟨q, hq⟩ := choose_lt each
    refine ⟨some a, cap, (List.range len).map q, by rw [hxe]; exact Nat.le_trans (by simp) (bulk_slice _ _), by simpa using h0, by simpa using hl, by omega, fun j x hj => ?_⟩
    have hjl : j < len := by simpa using (List.getElem?_eq_some_iff.1 hj).1
    have hxq : x = q j := by simpa [List.getElem?_range hjl] using hj.symm
    subst hxq
    obtain ⟨c0, c1, z0, z1⟩ := hq j hjl
    have ea := addr_of (hq 0 (by omega)).1
    rw [addr_add ea] at c0 c1
    exact ⟨a.block, a.off, congrArg some ea, blk_lt c0, c0, by rw [show a.off + j * 2 + 1 = a.off + (j * 2 + 1) by omega]; exact c1, z0, z1⟩

/-- a slice of numbers -/
theorem open_kids {fuel : Nat} {v : Value} {x : DataW H × List MemPlace} (h : DataW.trod enc Tryz.prog W 0 (fun _ => true) true fuel 32 [v] = some x) :
    ∃ (ka : Option Addr) (kc : Nat) (ks : List Int), ks.length ≤ Rows.uptoBulk x.1 ∧ v = .slice ka ks.length kc ∧ ks.length ≤ kc ∧ kc ≤ 9223372036854775807 ∧
      ∀ j k, ks[j]? = some k → ∃ b' o', ka = some ⟨b', o', none⟩ ∧ b' < W.heap.size ∧ W.cell? ⟨b', o' + j, none⟩ = some (.int .i64 k) := by
  rcases open_ints Tryz.underlying32 Tryz.underlying3 Tryz.cellsInt h with ⟨h0, _⟩ | ⟨a, len, cap, zs, h0, _, hl, hm, hz, hxe, hx, _⟩
  · refine ⟨none, 0, [], by simp, ?_, Nat.le_refl _, by omega, fun j x hj => by simp at hj⟩
    simpa using h0
  · have hzl : len ≤ zs.length := by rw [hz]; simp; exact hl
    unfold maxLen at hm
    have hlen : (zs.take len).length = len := by simp; omega
    refine ⟨some a, cap, zs.take len, by rw [hxe]; exact Nat.le_trans (by simp [lits]) (bulk_slice _ _), by rw [hlen]; simpa using h0, by rw [hlen]; exact hl, by omega, fun j k hj => ?_⟩
    have hjl : j < len := by have := (List.getElem?_eq_some_iff.1 hj).1; omega
    have c0 := hx j (by omega)
    have hk : zs.getD j 0 = k := by
      rw [List.getElem?_take, if_pos hjl] at hj
      rw [List.getD_eq_getElem?_getD, hj]
      rfl
    rw [hk] at c0
    have ea := addr_of (hx 0 (by omega))
    rw [addr_add ea] at c0
    exact ⟨a.block, a.off, congrArg some ea, blk_lt c0, c0⟩

set_option maxRecDepth 100000 in
theorem open_twigs {fuel : Nat} {v : Value} {x : DataW H × List MemPlace} (h : DataW.trod enc Tryz.prog W 0 (fun _ => true) true fuel 22 [v] = some x) :
    ∃ (a : Option Addr) (cap : Nat) (ts : List Tw), v = .slice a ts.length cap ∧ TwigsIn W W.heap.size a ts ∧ ts.length ≤ Rows.uptoBulk x.1 ∧ ∀ (j : Nat) (t : Tw), ts[j]? = some t → t.attrs.length ≤ Rows.uptoBulk x.1 ∧ t.kids.length ≤ Rows.uptoBulk x.1 := by
  rcases open_slice Tryz.underlying22 h with ⟨h0, _⟩ | ⟨a, len, cap, m, n, D, Pl, h0, _, hl, hm, hmm, hxe, hx⟩
  · refine ⟨none, 0, [], ?_, fun j x hj => by simp at hj, by simp, fun j t hj => by simp at hj⟩
    simpa using h0
  · have hlm : len ≤ m := by rw [hmm]; simp; exact hl
    have h00 : 0 < len → a = ⟨a.block, a.off, none⟩ := by
      intro hp
      obtain ⟨cs', h1, h2⟩ := hx 0 (by omega)
      rw [Tryz.cellsTwig] at h1
      obtain ⟨_, hlen, hcell⟩ := World.cells?_some h1
      have e0 := hcell 0 (by omega)
      rw [add_add, List.getElem?_eq_getElem (by omega)] at e0
      simp only [Nat.zero_mul, Nat.add_zero] at e0
      exact addr_of e0
    have each : ∀ i, i < len → ∃ t : Tw, TwAt W W.heap.size a.block (a.off + i * 5) t ∧ t.attrs.length ≤ Rows.uptoBulk x.1 ∧ t.kids.length ≤ Rows.uptoBulk x.1 := by
      intro i hi
      have ea := h00 (by omega)
      obtain ⟨cs', h1, h2⟩ := hx i (by omega)
      rw [Tryz.cellsTwig] at h1
      obtain ⟨_, hlen, hcell⟩ := World.cells?_some h1
      obtain ⟨xs, k, hk, hde, _, hxl, hf⟩ := DataW.trod_struct Tryz.underlying45 h2
      obtain ⟨v0, v1, v2, v3, v4, rfl⟩ := five_list hlen
      obtain ⟨y0, y1, y2, y3, y4, rfl⟩ := five_list hxl
      have g0 : DataW.trod enc Tryz.prog W 0 (fun _ => true) true k 3 [v0] = some y0 := by
        have := hf 0 _ rfl
        simpa [Tryz.cellsInt] using this
      have g1 : DataW.trod enc Tryz.prog W 0 (fun _ => true) true k 9 [v1] = some y1 := by
        have := hf 1 _ rfl
        simpa [Tryz.cellsStr] using this
      have g2 : DataW.trod enc Tryz.prog W 0 (fun _ => true) true k 9 [v2] = some y2 := by
        have := hf 2 _ rfl
        simpa [Tryz.cellsStr] using this
      have g3 : DataW.trod enc Tryz.prog W 0 (fun _ => true) true k 43 [v3] = some y3 := by
        have := hf 3 _ rfl
        simpa [Tryz.cellsAttrs] using this
      have g4 : DataW.trod enc Tryz.prog W 0 (fun _ => true) true k 32 [v4] = some y4 := by
        have := hf 4 _ rfl
        simpa [Tryz.cellsInts] using this
      obtain ⟨kd, e0, _, _⟩ := DataW.trod_int Tryz.underlying3 g0
      obtain ⟨tg, e1, _, z1⟩ := DataW.trod_string Tryz.underlying9 g1
      obtain ⟨tx, e2, _, z2⟩ := DataW.trod_string Tryz.underlying9 g2
      obtain ⟨aa, ac, at_, b3, e3, l3, m3, f3⟩ := open_attrs g3
      obtain ⟨ka, kc, ks, b4, e4, l4, m4, f4⟩ := open_kids g4
      simp only [List.cons.injEq, and_true] at e0 e1 e2
      subst e0 e1 e2 e3 e4
      have q : ∀ f, f < 5 → W.cell? ⟨a.block, a.off + i * 5 + f, none⟩ = [Value.int .i64 kd, .string tg, .string tx, .slice aa at_.length ac, .slice ka ks.length kc][f]? := by
        intro f hf5
        have := hcell f hf5
        rw [add_add, addr_add ea] at this
        rw [show a.off + i * 5 + f = a.off + (i * 5 + f) by omega]
        exact this
      unfold maxLen at z1 z2
      have q0 := q 0 (by omega)
      have hD : Rows.uptoBulk (D i) ≤ Rows.uptoBulk x.1 := by
        rw [hxe]
        exact bulk_elem (List.mem_map.2 ⟨i, List.mem_range.2 hi, rfl⟩)
      have hDe : D i = .agg ([y0, y1, y2, y3, y4].map (·.1)) := congrArg Prod.fst hde
      have hb3 : Rows.uptoBulk y3.1 ≤ Rows.uptoBulk (D i) := by rw [hDe]; exact bulk_agg (by simp)
      have hb4 : Rows.uptoBulk y4.1 ≤ Rows.uptoBulk (D i) := by rw [hDe]; exact bulk_agg (by simp)
      refine ⟨⟨kd, tg, tx, at_, ks, aa, ac, ka, kc⟩, ?_, Nat.le_trans b3 (Nat.le_trans hb3 hD), Nat.le_trans b4 (Nat.le_trans hb4 hD)⟩
      exact ⟨blk_lt q0, q0, q 1 (by omega), q 2 (by omega), q 3 (by omega), q 4 (by omega), ⟨l3, m3⟩, ⟨l4, m4⟩, by simpa using z1, by simpa using z2, f3, f4⟩
    have : Inhabited Tw := ⟨⟨0, ⟨#[]⟩, ⟨#[]⟩, [], [], none, 0, none, 0⟩⟩
    obtain ⟨q, hq⟩ := choose_lt each
    refine ⟨some a, cap, (List.range len).map q, by simpa using h0, fun j x hj => ?_, by rw [hxe]; exact Nat.le_trans (by simp) (bulk_slice _ _), fun j t hj => ?_⟩
    · have hjl : j < len := by simpa using (List.getElem?_eq_some_iff.1 hj).1
      have hxq : x = q j := by simpa [List.getElem?_range hjl] using hj.symm
      subst hxq
      exact ⟨a.block, a.off, congrArg some (h00 (by omega)), (hq j hjl).1⟩
    · have hjl : j < len := by simpa using (List.getElem?_eq_some_iff.1 hj).1
      have hxq : t = q j := by simpa [List.getElem?_range hjl] using hj.symm
      subst hxq
      exact (hq j hjl).2
end
end Go.Proofs.YtlfepdecgfcifaaGreatDoor

/- A stable sort by places: tags that tell where things stood, moved by swaps. -/
namespace Go.Proofs.YtlfepdecgfcifaaGreatDoor
open Go.RowKit
set_option linter.unusedVariables false      -- bounds that are for the walk

abbrev Tg := Nat → Nat
/-- by keys, and where these are the same by the places of old -/
def lex (key : Nat → Int) (i j : Nat) : Prop := key i < key j ∨ (key i = key j ∧ i < j)
theorem lex.trans {key : Nat → Int} {i j k : Nat} (h : lex key i j) (h2 : lex key j k) : lex key i k := by unfold lex at *; omega
theorem lex.irr {key : Nat → Int} {i : Nat} (h : lex key i i) : False := by unfold lex at h; omega
theorem lex.le {key : Nat → Int} {i j : Nat} (h : lex key i j) : key i ≤ key j := by unfold lex at h; omega
def Srt (key : Nat → Int) (t : Tg) (a b : Nat) : Prop := ∀ i j, a ≤ i → i < j → j < b → lex key (t i) (t j)
theorem Srt.mono {key : Nat → Int} {t : Tg} {a b c d : Nat} (h : Srt key t a b) (h1 : a ≤ c) (h2 : d ≤ b) : Srt key t c d := fun i j e1 e2 e3 => h i j (by omega) e2 (by omega)
theorem Srt.congr {key : Nat → Int} {t t' : Tg} {a b : Nat} (h : Srt key t a b) (e : ∀ k, a ≤ k → k < b → t' k = t k) : Srt key t' a b := fun i j e1 e2 e3 => by rw [e i e1 (by omega), e j (by omega) e3]; exact h i j e1 e2 e3
theorem Srt.le {key : Nat → Int} {t : Tg} {a b i j : Nat} (h : Srt key t a b) (h1 : a ≤ i) (h2 : i ≤ j) (h3 : j < b) : key (t i) ≤ key (t j) := by
  by_cases e : i = j
  · subst e; exact Int.le_refl _
  · exact (h i j h1 (by omega) h3).le
/-- moved within a range -/
structure Prm (a b : Nat) (t t' : Tg) : Prop where
  out : ∀ k, (k < a ∨ b ≤ k) → t' k = t k
  fro : ∀ k, a ≤ k → k < b → ∃ j, a ≤ j ∧ j < b ∧ t' k = t j
  toB : ∀ k, a ≤ k → k < b → ∃ j, a ≤ j ∧ j < b ∧ t k = t' j
theorem Prm.refl (a b : Nat) (t : Tg) : Prm a b t t := ⟨fun _ _ => rfl, fun k h1 h2 => ⟨k, h1, h2, rfl⟩, fun k h1 h2 => ⟨k, h1, h2, rfl⟩⟩
theorem Prm.trans {a b : Nat} {t t' t'' : Tg} (h : Prm a b t t') (h2 : Prm a b t' t'') : Prm a b t t'' := by
  refine ⟨fun k hk => (h2.out k hk).trans (h.out k hk), fun k e1 e2 => ?_, fun k e1 e2 => ?_⟩
  · obtain ⟨j, j1, j2, j3⟩ := h2.fro k e1 e2
    obtain ⟨i, i1, i2, i3⟩ := h.fro j j1 j2
    exact ⟨i, i1, i2, j3.trans i3⟩
  · obtain ⟨j, j1, j2, j3⟩ := h.toB k e1 e2
    obtain ⟨i, i1, i2, i3⟩ := h2.toB j j1 j2
    exact ⟨i, i1, i2, j3.trans i3⟩
theorem Prm.mono {a b c d : Nat} {t t' : Tg} (h : Prm a b t t') (h1 : c ≤ a) (h2 : b ≤ d) : Prm c d t t' := by
  refine ⟨fun k hk => h.out k (by omega), fun k e1 e2 => ?_, fun k e1 e2 => ?_⟩
  · by_cases e : a ≤ k ∧ k < b
    · obtain ⟨j, j1, j2, j3⟩ := h.fro k e.1 e.2
      exact ⟨j, by omega, by omega, j3⟩
    · exact ⟨k, e1, e2, h.out k (by omega)⟩
  · by_cases e : a ≤ k ∧ k < b
    · obtain ⟨j, j1, j2, j3⟩ := h.toB k e.1 e.2
      exact ⟨j, by omega, by omega, j3⟩
    · exact ⟨k, e1, e2, (h.out k (by omega)).symm⟩
/-- a change that is undone by places -/
theorem Prm.of {a b : Nat} {t t' : Tg} (f g : Nat → Nat) (e : ∀ k, t' k = t (f k)) (h1 : ∀ k, (k < a ∨ b ≤ k) → f k = k) (h2 : ∀ k, a ≤ k → k < b → a ≤ f k ∧ f k < b) (h3 : ∀ k, a ≤ k → k < b → a ≤ g k ∧ g k < b ∧ f (g k) = k) : Prm a b t t' := by
  refine ⟨fun k hk => by rw [e, h1 k hk], fun k e1 e2 => ⟨f k, (h2 k e1 e2).1, (h2 k e1 e2).2, e k⟩, fun k e1 e2 => ⟨g k, (h3 k e1 e2).1, (h3 k e1 e2).2.1, ?_⟩⟩
  rw [e, (h3 k e1 e2).2.2]
def swapT (t : Tg) (x y : Nat) : Tg := fun k => if k = x then t y else if k = y then t x else t k
theorem swapT_prm {a b x y : Nat} (t : Tg) (h1 : a ≤ x) (h2 : x < b) (h3 : a ≤ y) (h4 : y < b) : Prm a b t (swapT t x y) := by
  refine Prm.of (fun k => if k = x then y else if k = y then x else k) (fun k => if k = x then y else if k = y then x else k) (fun k => ?_) (fun k hk => ?_) (fun k e1 e2 => ?_) (fun k e1 e2 => ⟨?_, ?_, ?_⟩)
  · unfold swapT
    repeat' split
    all_goals rfl
  all_goals
    repeat' split
    all_goals omega

/-- while an element is let down: it stands at j, what was ahead of it stands sorted -/
structure Ins (key : Nat → Int) (t0 t : Tg) (a i j : Nat) : Prop where
  le : a ≤ j
  ge : j ≤ i
  srt : ∀ p q, a ≤ p → p < q → q ≤ i → p ≠ j → q ≠ j → lex key (t p) (t q)
  up : ∀ q, j < q → q ≤ i → key (t j) < key (t q)
  prm : Prm a (i + 1) t0 t
  tag : ∀ p, a ≤ p → p ≤ i → p ≠ j → t p < t j
theorem Ins.start {key : Nat → Int} {t0 t : Tg} {a i : Nat} (hs : Srt key t a i) (hp : Prm a i t0 t) (hai : a ≤ i) (hasc : ∀ p q, a ≤ p → p < q → q ≤ i → t0 p < t0 q) : Ins key t0 t a i i := by
  refine ⟨hai, Nat.le_refl _, fun p q e1 e2 e3 e4 e5 => hs p q e1 e2 (by omega), fun q e1 e2 => by omega, hp.mono (Nat.le_refl _) (by omega), fun p e1 e2 e3 => ?_⟩
  rw [hp.out i (.inr (Nat.le_refl _))]
  obtain ⟨j, j1, j2, j3⟩ := hp.fro p e1 (by omega)
  rw [j3]
  exact hasc j i j1 j2 (Nat.le_refl _)
theorem Ins.step {key : Nat → Int} {t0 t : Tg} {a i j : Nat} (h : Ins key t0 t a i j) (hj : a < j) (hk : key (t j) < key (t (j - 1))) : Ins key t0 (swapT t j (j - 1)) a i (j - 1) := by
  have hg := h.ge
  have e1 : swapT t j (j - 1) j = t (j - 1) := by unfold swapT; rw [if_pos rfl]
  have e2 : swapT t j (j - 1) (j - 1) = t j := by unfold swapT; rw [if_neg (by omega), if_pos rfl]
  have e3 : ∀ k, k ≠ j → k ≠ j - 1 → swapT t j (j - 1) k = t k := fun k h1 h2 => by unfold swapT; rw [if_neg h1, if_neg h2]
  refine ⟨by omega, by omega, fun p q h1 h2 h3 h4 h5 => ?_, fun q h1 h2 => ?_, h.prm.trans (swapT_prm t h.le (by omega) (by omega) (by omega)), fun p h1 h2 h3 => ?_⟩
  · by_cases ep : p = j
    · subst ep
      rw [e1, e3 q (by omega) (by omega)]
      exact h.srt (p - 1) q (by omega) (by omega) h3 (by omega) (by omega)
    · by_cases eq : q = j
      · subst eq
        rw [e1, e3 p (by omega) (by omega)]
        exact h.srt p (q - 1) h1 (by omega) (by omega) (by omega) (by omega)
      · rw [e3 p ep h4, e3 q eq h5]
        exact h.srt p q h1 h2 h3 ep eq
  · rw [e2]
    by_cases eq : q = j
    · subst eq; rw [e1]; exact hk
    · rw [e3 q eq (by omega)]
      exact h.up q (by omega) h2
  · rw [e2]
    by_cases ep : p = j
    · subst ep; rw [e1]; exact h.tag (p - 1) (by omega) (by omega) (by omega)
    · rw [e3 p ep h3]
      exact h.tag p h1 h2 ep
theorem Ins.done {key : Nat → Int} {t0 t : Tg} {a i j : Nat} (h : Ins key t0 t a i j) (hj : j = a ∨ ¬ key (t j) < key (t (j - 1))) : Srt key t a (i + 1) := by
  have hle := h.le
  intro p q h1 h2 h3
  by_cases ep : p = j
  · subst ep
    exact .inl (h.up q h2 (by omega))
  · by_cases eq : q = j
    · subst eq
      rcases hj with hj | hj
      · omega
      · have ht := h.tag (q - 1) (by omega) (by have := h.ge; omega) (by omega)
        have hlast : lex key (t (q - 1)) (t q) := by unfold lex; omega
        by_cases e : p = q - 1
        · subst e; exact hlast
        · exact (h.srt p (q - 1) h1 (by omega) (by have := h.ge; omega) ep (by omega)).trans hlast
    · exact h.srt p q h1 h2 (by omega) ep eq

/-- blocks swapped: c places from x on with those from y on -/
def swapR (t : Tg) (x y c : Nat) : Tg := fun k => if x ≤ k ∧ k < x + c then t (k + (y - x)) else if y ≤ k ∧ k < y + c then t (k - (y - x)) else t k
theorem swapR_zero (t : Tg) (x y : Nat) : swapR t x y 0 = t := by
  funext k
  unfold swapR
  repeat' split
  all_goals first | rfl | (exfalso; omega) | (congr 1; omega)
theorem swapR_succ (t : Tg) (x y c : Nat) (h : x + c < y) : swapT (swapR t x y c) (x + c) (y + c) = swapR t x y (c + 1) := by
  funext k
  unfold swapT swapR
  repeat' split
  all_goals first | rfl | (exfalso; omega) | (congr 1; omega)
/-- two blocks beside each other, turned round -/
def rotF (t : Tg) (a m b : Nat) : Tg := fun k => if a ≤ k ∧ k < a + (b - m) then t (k + (m - a)) else if a + (b - m) ≤ k ∧ k < b then t (k - (b - m)) else t k
theorem rot_left (t : Tg) (m i j : Nat) (hi : i ≤ m) (h : j < i) : rotF (swapR t (m - i) m j) (m - (i - j)) m (m + j) = rotF t (m - i) m (m + j) := by
  funext k
  unfold rotF swapR
  repeat' split
  all_goals first | rfl | (exfalso; omega) | (congr 1; omega)
theorem rot_right (t : Tg) (m i j : Nat) (hi : i ≤ m) (h : i < j) : rotF (swapR t (m - i) (m + j - i) i) (m - i) m (m + (j - i)) = rotF t (m - i) m (m + j) := by
  funext k
  unfold rotF swapR
  repeat' split
  all_goals first | rfl | (exfalso; omega) | (congr 1; omega)
theorem rot_same (t : Tg) (m i : Nat) (hi : i ≤ m) : swapR t (m - i) m i = rotF t (m - i) m (m + i) := by
  funext k
  unfold swapR rotF
  repeat' split
  all_goals first | rfl | (exfalso; omega) | (congr 1; omega)
theorem rotF_prm (t : Tg) {a m b : Nat} (h1 : a ≤ m) (h2 : m ≤ b) : Prm a b t (rotF t a m b) := by
  refine Prm.of (fun k => if a ≤ k ∧ k < a + (b - m) then k + (m - a) else if a + (b - m) ≤ k ∧ k < b then k - (b - m) else k) (fun k => if a ≤ k ∧ k < m then k + (b - m) else if m ≤ k ∧ k < b then k - (m - a) else k) (fun k => ?_) (fun k hk => ?_) (fun k e1 e2 => ?_) (fun k e1 e2 => ⟨?_, ?_, ?_⟩)
  · unfold rotF
    repeat' split
    all_goals rfl
  all_goals
    repeat' split
    all_goals omega
end Go.Proofs.YtlfepdecgfcifaaGreatDoor
