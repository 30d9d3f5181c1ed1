/- A list of twigs that came in, laid open. -/
import Derived.Test.YtlfepdecgfcifaaDoorM08
import Derived.Test.YtlfepdecgfcifaaDoorRows
import Derived.Deep.SlicePairs
import Derived.ChangeSlices
namespace Go.Proofs.YtlfepdecgfcifaaDoor
open Go.RowKit Go.Deep Go.ChangeShapes

/-- an address at which something lies is that of a cell -/
theorem addr_of {w : World} {a : Addr} {v : Value} (h : w.cell? (a.add 0) = some v) : a = ⟨a.block, a.off, none⟩ := by
  obtain ⟨b, o, s⟩ := a
  cases s with
  | none => rfl
  | some x =>
    exfalso
    simp only [Addr.add, if_true, World.cell?] at h
    split at h
    · simp at h
    · cases h
theorem addr_add {a : Addr} (h : a = ⟨a.block, a.off, none⟩) (j : Nat) : a.add j = ⟨a.block, a.off + j, none⟩ := by
  generalize a.block = b at h
  generalize a.off = o at h
  subst h
  unfold Addr.add
  split
  · simp_all
  · rfl
theorem blk_lt {w : World} {b o : Nat} {v : Value} (h : w.cell? ⟨b, o, none⟩ = some v) : b < w.heap.size := World.block_lt_of_cell? w ⟨b, o, none⟩ h
theorem five_list {α : Type} {l : List α} (h : l.length = 5) : ∃ a b c d e, l = [a, b, c, d, e] := by
  match l, h with
  | [a, b, c, d, e], _ => exact ⟨a, b, c, d, e, rfl⟩

theorem Tryd.cellsAttr : Tryd.prog.cellsOf 72 = 2 := by kernel_rfl
theorem Tryd.cellsStr : Tryd.prog.cellsOf 9 = 1 := by kernel_rfl
theorem Tryd.cellsInt : Tryd.prog.cellsOf 3 = 1 := by kernel_rfl
theorem Tryd.cellsTwig : Tryd.prog.cellsOf 66 = 5 := by kernel_rfl
theorem Tryd.cellsAttrs : Tryd.prog.cellsOf 64 = 1 := by kernel_rfl
theorem Tryd.cellsInts : Tryd.prog.cellsOf 63 = 1 := by kernel_rfl

theorem bulk_pos {H : Type} (d : DataW H) : 1 ≤ Rows.uptoBulk d := by
  cases d with
  | lit l => cases l <;> simp [Rows.uptoBulk]
  | _ => simp [Rows.uptoBulk]
theorem bulk_part {H : Type} {d : DataW H} : ∀ {l : List (DataW H)}, d ∈ l → Rows.uptoBulk d ≤ Rows.uptoBulkAll l := by
  intro l
  induction l with
  | nil => intro h; cases h
  | cons x r ih =>
    intro h
    simp only [Rows.uptoBulkAll]
    rcases List.mem_cons.1 h with e | e
    · subst e; omega
    · have := ih e; omega
theorem bulk_len {H : Type} (l : List (DataW H)) : l.length ≤ Rows.uptoBulkAll l := by
  induction l with
  | nil => simp [Rows.uptoBulkAll]
  | cons x r ih => have := bulk_pos x; simp only [Rows.uptoBulkAll, List.length_cons]; omega
theorem bulk_slice {H : Type} (l r : List (DataW H)) : l.length ≤ Rows.uptoBulk (.slice l r) := by
  have := bulk_len l
  simp only [Rows.uptoBulk]
  omega
theorem bulk_elem {H : Type} {d : DataW H} {l r : List (DataW H)} (h : d ∈ l) : Rows.uptoBulk d ≤ Rows.uptoBulk (.slice l r) := by
  have := bulk_part h
  simp only [Rows.uptoBulk]
  omega
theorem bulk_agg {H : Type} {d : DataW H} {l : List (DataW H)} (h : d ∈ l) : Rows.uptoBulk d ≤ Rows.uptoBulk (.agg l) := by
  have := bulk_part h
  simp only [Rows.uptoBulk]
  omega

section
variable {H : Type} {enc : TypeId × Value → H} {W : World}

/-- a slice of pairs of texts -/
theorem open_attrs {fuel : Nat} {v : Value} {x : DataW H × List MemPlace} (h : DataW.trod enc Tryd.prog W 0 (fun _ => true) true fuel 64 [v] = some x) :
    ∃ (aa : Option Addr) (ac : Nat) (at_ : List (ByteArray × ByteArray)), at_.length ≤ Rows.uptoBulk x.1 ∧ v = .slice aa at_.length ac ∧ at_.length ≤ ac ∧ ac ≤ 9223372036854775807 ∧
      ∀ j x, at_[j]? = some x → ∃ b' o', aa = some ⟨b', o', none⟩ ∧ b' < W.heap.size ∧ W.cell? ⟨b', o' + j * 2, none⟩ = some (.string x.1) ∧ W.cell? ⟨b', o' + j * 2 + 1, none⟩ = some (.string x.2) ∧ x.1.size ≤ 9223372036854775807 ∧ x.2.size ≤ 9223372036854775807 := by
  rcases open_slice_pairs Tryd.underlying64 Tryd.underlying72 Tryd.cellsAttr rfl rfl Tryd.cellsStr Tryd.cellsStr h with ⟨h0, _⟩ | ⟨a, len, cap, m, n, V0, V1, D0, D1, P0, P1, h0, _, hl, hm, hmm, hxe, hx⟩
  · refine ⟨none, 0, [], by simp, ?_, Nat.le_refl _, by omega, fun j x hj => by simp at hj⟩
    simpa using h0
  · have hlm : len ≤ m := by rw [hmm]; simp; exact hl
    unfold maxLen at hm
    have each : ∀ i, i < len → ∃ q : ByteArray × ByteArray, W.cell? (a.add (i * 2)) = some (.string q.1) ∧ W.cell? (a.add (i * 2 + 1)) = some (.string q.2) ∧ q.1.size ≤ 9223372036854775807 ∧ q.2.size ≤ 9223372036854775807 := by
      intro i hi
      obtain ⟨c0, c1, t0, t1⟩ := hx i (by omega)
      obtain ⟨s0, e0, _, z0⟩ := DataW.trod_string Tryd.underlying9 t0
      obtain ⟨s1, e1, _, z1⟩ := DataW.trod_string Tryd.underlying9 t1
      simp only [List.cons.injEq, and_true] at e0 e1
      unfold maxLen at z0 z1
      exact ⟨(s0, s1), by rw [c0, e0], by rw [c1, e1], by omega, by omega⟩
    obtain ⟨q, hq⟩ := choose_lt each
    refine ⟨some a, cap, (List.range len).map q, by rw [hxe]; exact Nat.le_trans (by simp) (bulk_slice _ _), by simpa using h0, by simpa using hl, by omega, fun j x hj => ?_⟩
    have hjl : j < len := by simpa using (List.getElem?_eq_some_iff.1 hj).1
    have hxq : x = q j := by simpa [List.getElem?_range hjl] using hj.symm
    subst hxq
    obtain ⟨c0, c1, z0, z1⟩ := hq j hjl
    have ea := addr_of (hq 0 (by omega)).1
    rw [addr_add ea] at c0 c1
    exact ⟨a.block, a.off, congrArg some ea, blk_lt c0, c0, by rw [show a.off + j * 2 + 1 = a.off + (j * 2 + 1) by omega]; exact c1, z0, z1⟩

/-- a slice of numbers -/
theorem open_kids {fuel : Nat} {v : Value} {x : DataW H × List MemPlace} (h : DataW.trod enc Tryd.prog W 0 (fun _ => true) true fuel 63 [v] = some x) :
    ∃ (ka : Option Addr) (kc : Nat) (ks : List Int), ks.length ≤ Rows.uptoBulk x.1 ∧ v = .slice ka ks.length kc ∧ ks.length ≤ kc ∧ kc ≤ 9223372036854775807 ∧
      ∀ j k, ks[j]? = some k → ∃ b' o', ka = some ⟨b', o', none⟩ ∧ b' < W.heap.size ∧ W.cell? ⟨b', o' + j, none⟩ = some (.int .i64 k) := by
  rcases open_ints Tryd.underlying63 Tryd.underlying3 Tryd.cellsInt h with ⟨h0, _⟩ | ⟨a, len, cap, zs, h0, _, hl, hm, hz, hxe, hx, _⟩
  · refine ⟨none, 0, [], by simp, ?_, Nat.le_refl _, by omega, fun j x hj => by simp at hj⟩
    simpa using h0
  · have hzl : len ≤ zs.length := by rw [hz]; simp; exact hl
    unfold maxLen at hm
    have hlen : (zs.take len).length = len := by simp; omega
    refine ⟨some a, cap, zs.take len, by rw [hxe]; exact Nat.le_trans (by simp [lits]) (bulk_slice _ _), by rw [hlen]; simpa using h0, by rw [hlen]; exact hl, by omega, fun j k hj => ?_⟩
    have hjl : j < len := by have := (List.getElem?_eq_some_iff.1 hj).1; omega
    have c0 := hx j (by omega)
    have hk : zs.getD j 0 = k := by
      rw [List.getElem?_take, if_pos hjl] at hj
      rw [List.getD_eq_getElem?_getD, hj]
      rfl
    rw [hk] at c0
    have ea := addr_of (hx 0 (by omega))
    rw [addr_add ea] at c0
    exact ⟨a.block, a.off, congrArg some ea, blk_lt c0, c0⟩

set_option maxRecDepth 100000 in
theorem open_twigs {fuel : Nat} {v : Value} {x : DataW H × List MemPlace} (h : DataW.trod enc Tryd.prog W 0 (fun _ => true) true fuel 22 [v] = some x) :
    ∃ (a : Option Addr) (cap : Nat) (ts : List Tw), v = .slice a ts.length cap ∧ TwigsIn W W.heap.size a ts ∧ ts.length ≤ Rows.uptoBulk x.1 ∧ ∀ (j : Nat) (t : Tw), ts[j]? = some t → t.attrs.length ≤ Rows.uptoBulk x.1 ∧ t.kids.length ≤ Rows.uptoBulk x.1 := by
  rcases open_slice Tryd.underlying22 h with ⟨h0, _⟩ | ⟨a, len, cap, m, n, D, Pl, h0, _, hl, hm, hmm, hxe, hx⟩
  · refine ⟨none, 0, [], ?_, fun j x hj => by simp at hj, by simp, fun j t hj => by simp at hj⟩
    simpa using h0
  · have hlm : len ≤ m := by rw [hmm]; simp; exact hl
    have h00 : 0 < len → a = ⟨a.block, a.off, none⟩ := by
      intro hp
      obtain ⟨cs', h1, h2⟩ := hx 0 (by omega)
      rw [Tryd.cellsTwig] at h1
      obtain ⟨_, hlen, hcell⟩ := World.cells?_some h1
      have e0 := hcell 0 (by omega)
      rw [add_add, List.getElem?_eq_getElem (by omega)] at e0
      simp only [Nat.zero_mul, Nat.add_zero] at e0
      exact addr_of e0
    have each : ∀ i, i < len → ∃ t : Tw, TwAt W W.heap.size a.block (a.off + i * 5) t ∧ t.attrs.length ≤ Rows.uptoBulk x.1 ∧ t.kids.length ≤ Rows.uptoBulk x.1 := by
      intro i hi
      have ea := h00 (by omega)
      obtain ⟨cs', h1, h2⟩ := hx i (by omega)
      rw [Tryd.cellsTwig] at h1
      obtain ⟨_, hlen, hcell⟩ := World.cells?_some h1
      obtain ⟨xs, k, hk, hde, _, hxl, hf⟩ := DataW.trod_struct Tryd.underlying66 h2
      obtain ⟨v0, v1, v2, v3, v4, rfl⟩ := five_list hlen
      obtain ⟨y0, y1, y2, y3, y4, rfl⟩ := five_list hxl
      have g0 : DataW.trod enc Tryd.prog W 0 (fun _ => true) true k 3 [v0] = some y0 := by
        have := hf 0 _ rfl
        simpa [Tryd.cellsInt] using this
      have g1 : DataW.trod enc Tryd.prog W 0 (fun _ => true) true k 9 [v1] = some y1 := by
        have := hf 1 _ rfl
        simpa [Tryd.cellsStr] using this
      have g2 : DataW.trod enc Tryd.prog W 0 (fun _ => true) true k 9 [v2] = some y2 := by
        have := hf 2 _ rfl
        simpa [Tryd.cellsStr] using this
      have g3 : DataW.trod enc Tryd.prog W 0 (fun _ => true) true k 64 [v3] = some y3 := by
        have := hf 3 _ rfl
        simpa [Tryd.cellsAttrs] using this
      have g4 : DataW.trod enc Tryd.prog W 0 (fun _ => true) true k 63 [v4] = some y4 := by
        have := hf 4 _ rfl
        simpa [Tryd.cellsInts] using this
      obtain ⟨kd, e0, _, _⟩ := DataW.trod_int Tryd.underlying3 g0
      obtain ⟨tg, e1, _, z1⟩ := DataW.trod_string Tryd.underlying9 g1
      obtain ⟨tx, e2, _, z2⟩ := DataW.trod_string Tryd.underlying9 g2
      obtain ⟨aa, ac, at_, b3, e3, l3, m3, f3⟩ := open_attrs g3
      obtain ⟨ka, kc, ks, b4, e4, l4, m4, f4⟩ := open_kids g4
      simp only [List.cons.injEq, and_true] at e0 e1 e2
      subst e0 e1 e2 e3 e4
      have q : ∀ f, f < 5 → W.cell? ⟨a.block, a.off + i * 5 + f, none⟩ = [Value.int .i64 kd, .string tg, .string tx, .slice aa at_.length ac, .slice ka ks.length kc][f]? := by
        intro f hf5
        have := hcell f hf5
        rw [add_add, addr_add ea] at this
        rw [show a.off + i * 5 + f = a.off + (i * 5 + f) by omega]
        exact this
      unfold maxLen at z1 z2
      have q0 := q 0 (by omega)
      have hD : Rows.uptoBulk (D i) ≤ Rows.uptoBulk x.1 := by
        rw [hxe]
        exact bulk_elem (List.mem_map.2 ⟨i, List.mem_range.2 hi, rfl⟩)
      have hDe : D i = .agg ([y0, y1, y2, y3, y4].map (·.1)) := congrArg Prod.fst hde
      have hb3 : Rows.uptoBulk y3.1 ≤ Rows.uptoBulk (D i) := by rw [hDe]; exact bulk_agg (by simp)
      have hb4 : Rows.uptoBulk y4.1 ≤ Rows.uptoBulk (D i) := by rw [hDe]; exact bulk_agg (by simp)
      refine ⟨⟨kd, tg, tx, at_, ks, aa, ac, ka, kc⟩, ?_, Nat.le_trans b3 (Nat.le_trans hb3 hD), Nat.le_trans b4 (Nat.le_trans hb4 hD)⟩
      exact ⟨blk_lt q0, q0, q 1 (by omega), q 2 (by omega), q 3 (by omega), q 4 (by omega), ⟨l3, m3⟩, ⟨l4, m4⟩, by simpa using z1, by simpa using z2, f3, f4⟩
    have : Inhabited Tw := ⟨⟨0, ⟨#[]⟩, ⟨#[]⟩, [], [], none, 0, none, 0⟩⟩
    obtain ⟨q, hq⟩ := choose_lt each
    refine ⟨some a, cap, (List.range len).map q, by simpa using h0, fun j x hj => ?_, by rw [hxe]; exact Nat.le_trans (by simp) (bulk_slice _ _), fun j t hj => ?_⟩
    · have hjl : j < len := by simpa using (List.getElem?_eq_some_iff.1 hj).1
      have hxq : x = q j := by simpa [List.getElem?_range hjl] using hj.symm
      subst hxq
      exact ⟨a.block, a.off, congrArg some (h00 (by omega)), (hq j hjl).1⟩
    · have hjl : j < len := by simpa using (List.getElem?_eq_some_iff.1 hj).1
      have hxq : t = q j := by simpa [List.getElem?_range hjl] using hj.symm
      subst hxq
      exact (hq j hjl).2
end
end Go.Proofs.YtlfepdecgfcifaaDoor
