/- What the listed variables give: four of package api's errors and two of package strconv's lie in memory. -/
import Derived.Test.YtlfepdecgfcifaaGreatDoorRows
import Derived.Test.YtlfepdecgfcifaaGreatDoorM03
import Derived.Test.YtlfepdecgfcifaaGreatDoorM16
import Derived.LaidLaws
import Derived.LaidHandle
import Derived.Stop.LaidErr
import Derived.Test.YtlfepdecgfcifaaGreatDoorM12
import Derived.Deep.SlicePairs
import Derived.ChangeSlices
namespace Go.Proofs.YtlfepdecgfcifaaGreatDoor
open Go.RowKit Go.ChangeShapes

theorem sentinelsR {P : Program} {W : World} {ti tp te ts : TypeId} {ms : Array (String × TypeId)} {nm : String} {f : Field}
    (hi : P.underlying ti = some (.interface ms)) (hrow : ∀ u, P.typeName? 3 u = some nm → u = tp)
    (hp : P.underlying tp = some (.pointer te)) (he : P.underlying te = some (.struct #[f])) (hft : f.type = ts) (hfo : f.offset = 0) (hs : P.underlying ts = some .string) (hc : P.cellsOf te = 1) (hcs : P.cellsOf ts = 1) :
    ∀ (l : List (String × List UInt8)) (r : List (String × DataW Unit)) (ps : List MemPlace), DataW.LaidVars P W ((l.map fun x => (x.1, .iface nm (.ptr (.agg [.lit (.string x.2)])))) ++ r) ps →
      (∀ x ∈ l, (P.globalNamed x.1).bind (fun g => (P.globals[g]?).map (·.type)) = some ti) →
      (∀ b off, MemPlace.cell b off ∈ ps → (∃ c t, W.heap[b]? = some (.cells c t (0, 0))) ∧ ∀ u v, W.cell? ⟨b, off, none⟩ = some (.iface u v) → Value.okWide P W .any 0 u v) →
      ∃ av : List Addr, av.length = l.length ∧ (∀ i (h : i < l.length) (h' : i < av.length), W.var? P l[i].1 = some #[.iface tp (.pointer (some av[i]))])
  | [], r, ps, _, _, _ => ⟨[], rfl, fun i h => by simp at h⟩
  | x :: l, r, ps, h, ht, hr => by
    obtain ⟨g, t, cs, fuel, p, q, hg, htt, hv, hd, hq, rfl⟩ := h
    have ht0 := ht x (List.mem_cons_self ..)
    rw [hg] at ht0
    simp only [Option.bind_some] at ht0
    obtain rfl := Option.some.inj (ht0.symm.trans htt)
    obtain ⟨l0⟩ := cs
    have ok0 : ∀ u v, l0 = [.iface u v] → Value.okWide P W .any 0 u v := fun u v e => by
      subst e
      exact (hr g 0 (by simp [MemPlace.row])).2 u v (by simpa using World.var?_cell hg hv 0)
    obtain ⟨a, s, rfl, _, _, _, rfl⟩ := errorString_of_trod hi hrow hp he hft hfo hs hc hcs hd ok0
    obtain ⟨av, hl, hvs⟩ := sentinelsR hi hrow hp he hft hfo hs hc hcs l r q hq (fun y hy => ht y (List.mem_cons_of_mem _ hy)) (fun b off hm => hr b off (List.mem_append_right _ hm))
    refine ⟨a :: av, by simp [hl], ?_⟩
    intro i h1 h2
    cases i with
    | zero => exact hv
    | succ i => exact hvs i (by simpa using h1) (by simpa using h2)
theorem laid_drop {P : Program} {W : World} {x : String × DataW Unit} {l : List (String × DataW Unit)} {ps : List MemPlace} (h : DataW.LaidVars P W (x :: l) ps) : ∃ q, DataW.LaidVars P W l q ∧ ∀ m ∈ q, m ∈ ps := by
  obtain ⟨g, t, cs, fuel, p, q, hg, htt, hv, hd, hq, rfl⟩ := h
  exact ⟨q, hq, fun m hm => List.mem_append_right _ hm⟩

theorem star : ("*" ++ "errors.errorString" : String) = "*errors.errorString" := by decide
theorem rowErr (u : TypeId) (h : Tryz.prog.typeName? 3 u = some "*errors.errorString") : u = 156 :=
  typeName_ptr_named (nm := "errors.errorString") (by rw [star]; kernel_rfl) (by kernel_rfl) (by decide) u (by rw [star]; exact h)
theorem cellsErr : Tryz.prog.cellsOf 158 = 1 := by kernel_rfl
theorem cellsS : Tryz.prog.cellsOf 9 = 1 := by kernel_rfl

/-- the six, by name and text -/
def six : List (String × List UInt8) := [("casement/api.ErrBound", [99, 97, 115, 101, 109, 101, 110, 116, 58, 32, 98, 111, 117, 110, 100]), ("casement/api.ErrName", [99, 97, 115, 101, 109, 101, 110, 116, 58, 32, 110, 97, 109, 101]), ("casement/api.ErrNode", [99, 97, 115, 101, 109, 101, 110, 116, 58, 32, 110, 111, 100, 101]), ("casement/api.ErrPlace", [99, 97, 115, 101, 109, 101, 110, 116, 58, 32, 112, 108, 97, 99, 101]), ("strconv.ErrRange", [118, 97, 108, 117, 101, 32, 111, 117, 116, 32, 111, 102, 32, 114, 97, 110, 103, 101]), ("strconv.ErrSyntax", [105, 110, 118, 97, 108, 105, 100, 32, 115, 121, 110, 116, 97, 120])]
theorem tErrs6 : ∀ x ∈ six, (Tryz.prog.globalNamed x.1).bind (fun g => (Tryz.prog.globals[g]?).map (·.type)) = some 47 := by
  have h : (six.all fun x => (Tryz.prog.globalNamed x.1).bind (fun g => (Tryz.prog.globals[g]?).map (·.type)) == some 47) = true := by kernel_rfl
  intro x hx
  exact of_decide_eq_true (by simpa using List.all_eq_true.1 h x hx)
theorem gErrs6 : ∀ g, errG g = true → ∃ (i : Nat) (h : i < six.length), Tryz.prog.globalNamed (six[i]'h).1 = some g := by
  intro g hg
  unfold errG at hg
  simp only [Bool.or_eq_true, beq_iff_eq] at hg
  rcases hg with ((rfl | rfl) | rfl) | rfl
  · exact ⟨1, by decide, (show Tryz.prog.globalNamed "casement/api.ErrName" = some 0 by kernel_rfl)⟩
  · exact ⟨0, by decide, (show Tryz.prog.globalNamed "casement/api.ErrBound" = some 1 by kernel_rfl)⟩
  · exact ⟨2, by decide, (show Tryz.prog.globalNamed "casement/api.ErrNode" = some 2 by kernel_rfl)⟩
  · exact ⟨3, by decide, (show Tryz.prog.globalNamed "casement/api.ErrPlace" = some 3 by kernel_rfl)⟩

theorem errs_of_laidE {W : World} {M : Nat → Lab} (hM : ∀ b, M b = .other) (h : laidMetH Tryz.prog Rows.eventsRoundRow.laid W) : Errs W M ∧ ErrSx W := by
  have h' : laidMet Tryz.prog (("math/bits.deBruijn32tab", Rows.laid_math_bits_deBruijn32tab) :: ("math/bits.deBruijn64tab", Rows.laid_math_bits_deBruijn64tab) :: ("internal/strconv.uint64pow10", Rows.laid_internal_strconv_uint64pow10) :: ("unicode/utf8.acceptRanges", Rows.laid_unicode_utf8_acceptRanges) :: ((six.map fun x => (x.1, .iface "*errors.errorString" (.ptr (.agg [.lit (.string x.2)])))) ++ [("unicode/utf8.first", Rows.laid_unicode_utf8_first)])) W := h
  obtain ⟨ps, hv, hnd, hr⟩ := h'
  obtain ⟨p1, v1, s1⟩ := laid_drop hv
  obtain ⟨p2, v2, s2⟩ := laid_drop v1
  obtain ⟨p3, v3, s3⟩ := laid_drop v2
  obtain ⟨p4, v4, s4⟩ := laid_drop v3
  obtain ⟨av, hl, hvs⟩ := sentinelsR Tryz.underlying47 rowErr Tryz.underlying156 Tryz.underlying158 rfl rfl Tryz.underlying9 cellsErr cellsS six _ p4 v4 tErrs6 (fun b off hm => hr b off (s1 _ (s2 _ (s3 _ (s4 _ hm)))))
  refine ⟨⟨fun g _ => hM g, fun g hg => ?_⟩, ?_⟩
  · obtain ⟨i, h1, h2⟩ := gErrs6 g hg
    have := hvs i h1 (by rw [hl]; exact h1)
    exact ⟨156, av[i]'(by rw [hl]; exact h1), by simpa using World.var?_cell h2 this 0⟩
  · have h5 : 5 < six.length := by decide
    have := hvs 5 h5 (by rw [hl]; exact h5)
    have h2 : Tryz.prog.globalNamed (six[5]'h5).1 = some 4 := (show Tryz.prog.globalNamed "strconv.ErrSyntax" = some 4 by kernel_rfl)
    exact ⟨_, World.var?_cell h2 this 0, .inr ⟨_, _, rfl⟩⟩
end Go.Proofs.YtlfepdecgfcifaaGreatDoor

/- A list of twigs as it lies in memory, and what 'few' answers of it. -/
namespace Go.Proofs.YtlfepdecgfcifaaGreatDoor
open Go.RowKit

structure TwAt (w : World) (S b c : Nat) (t : Tw) : Prop where
  blk : b < S
  kind : w.cell? ⟨b, c, none⟩ = some (.int .i64 t.kind)
  tag : w.cell? ⟨b, c + 1, none⟩ = some (.string t.tag)
  text : w.cell? ⟨b, c + 2, none⟩ = some (.string t.text)
  attrs : w.cell? ⟨b, c + 3, none⟩ = some (.slice t.aa t.attrs.length t.ac)
  kids : w.cell? ⟨b, c + 4, none⟩ = some (.slice t.ka t.kids.length t.kc)
  al : t.attrs.length ≤ t.ac ∧ t.ac ≤ 9223372036854775807
  kl : t.kids.length ≤ t.kc ∧ t.kc ≤ 9223372036854775807
  tl : t.tag.size ≤ 9223372036854775807
  xl : t.text.size ≤ 9223372036854775807
  att : ∀ j x, t.attrs[j]? = some x → ∃ b' o', t.aa = some ⟨b', o', none⟩ ∧ b' < S ∧ w.cell? ⟨b', o' + j * 2, none⟩ = some (.string x.1) ∧ w.cell? ⟨b', o' + j * 2 + 1, none⟩ = some (.string x.2) ∧ x.1.size ≤ 9223372036854775807 ∧ x.2.size ≤ 9223372036854775807
  kid : ∀ j k, t.kids[j]? = some k → ∃ b' o', t.ka = some ⟨b', o', none⟩ ∧ b' < S ∧ w.cell? ⟨b', o' + j, none⟩ = some (.int .i64 k)

/-- the twigs of a slice -/
def TwigsIn (w : World) (S : Nat) (a : Option Addr) (ts : List Tw) : Prop :=
  ∀ i t, ts[i]? = some t → ∃ b o, a = some ⟨b, o, none⟩ ∧ TwAt w S b (o + i * 5) t

theorem TwAt.same {w w' : World} {S b c : Nat} {t : Tw} (h : TwAt w S b c t) (hs : ∀ b, b < S → w'.heap[b]? = w.heap[b]?) : TwAt w' S b c t := by
  have cc : ∀ b o, b < S → w'.cell? ⟨b, o, none⟩ = w.cell? ⟨b, o, none⟩ := fun b o hb => World.cell?_of_block (a := ⟨b, o, none⟩) (hs b hb)
  refine ⟨h.blk, (cc _ _ h.blk).trans h.kind, (cc _ _ h.blk).trans h.tag, (cc _ _ h.blk).trans h.text, (cc _ _ h.blk).trans h.attrs, (cc _ _ h.blk).trans h.kids, h.al, h.kl, h.tl, h.xl, ?_, ?_⟩
  · intro j x hx
    obtain ⟨b', o', e1, e2, e3, e4, e5⟩ := h.att j x hx
    exact ⟨b', o', e1, e2, (cc _ _ e2).trans e3, (cc _ _ e2).trans e4, e5⟩
  · intro j x hx
    obtain ⟨b', o', e1, e2, e3⟩ := h.kid j x hx
    exact ⟨b', o', e1, e2, (cc _ _ e2).trans e3⟩
theorem TwigsIn.same {w w' : World} {S : Nat} {a : Option Addr} {ts : List Tw} (h : TwigsIn w S a ts) (hs : ∀ b, b < S → w'.heap[b]? = w.heap[b]?) : TwigsIn w' S a ts := fun i t ht => by
  obtain ⟨b, o, e, hT⟩ := h i t ht
  exact ⟨b, o, e, hT.same hs⟩

/-- a twig that is spoken of -/
def FewOne (t : Tw) : Prop := t.text.size ≤ 300 ∧ t.tag.size ≤ 60 ∧ t.attrs.length ≤ 8 ∧ t.kids.length ≤ 60
def Few (ts : List Tw) : Prop := ts.length ≤ 60 ∧ ∀ (j : Nat) (t : Tw), ts[j]? = some t → FewOne t

/-- what 'few' answers -/
def FewPost (ts : List Tw) (e : Ending) : Prop := ∃ r, e = .returned (.bool r) ∧ (r = true → Few ts)
theorem FewPost.no (ts : List Tw) : FewPost ts (.returned (.bool false)) := ⟨false, rfl, fun h => by cases h⟩

end Go.Proofs.YtlfepdecgfcifaaGreatDoor

/- A list of twigs that came in, laid open. -/
namespace Go.Proofs.YtlfepdecgfcifaaGreatDoor
open Go.RowKit Go.Deep Go.ChangeShapes

/-- an address at which something lies is that of a cell -/
theorem addr_of {w : World} {a : Addr} {v : Value} (h : w.cell? (a.add 0) = some v) : a = ⟨a.block, a.off, none⟩ := by
  obtain ⟨b, o, s⟩ := a
  cases s with
  | none => rfl
  | some x =>
    exfalso
    simp only [Addr.add, if_true, World.cell?] at h
    split at h
    · simp at h
    · cases h
theorem addr_add {a : Addr} (h : a = ⟨a.block, a.off, none⟩) (j : Nat) : a.add j = ⟨a.block, a.off + j, none⟩ := by
  generalize a.block = b at h
  generalize a.off = o at h
  subst h
  unfold Addr.add
  split
  · simp_all
  · rfl
theorem blk_lt {w : World} {b o : Nat} {v : Value} (h : w.cell? ⟨b, o, none⟩ = some v) : b < w.heap.size := World.block_lt_of_cell? w ⟨b, o, none⟩ h
theorem five_list {α : Type} {l : List α} (h : l.length = 5) : ∃ a b c d e, l = [a, b, c, d, e] := by
  match l, h with
  | [a, b, c, d, e], _ => exact ⟨a, b, c, d, e, rfl⟩

theorem Tryz.cellsAttr : Tryz.prog.cellsOf 51 = 2 := by kernel_rfl
theorem Tryz.cellsStr : Tryz.prog.cellsOf 9 = 1 := by kernel_rfl
theorem Tryz.cellsInt : Tryz.prog.cellsOf 3 = 1 := by kernel_rfl
theorem Tryz.cellsTwig : Tryz.prog.cellsOf 45 = 5 := by kernel_rfl
theorem Tryz.cellsAttrs : Tryz.prog.cellsOf 43 = 1 := by kernel_rfl
theorem Tryz.cellsInts : Tryz.prog.cellsOf 32 = 1 := by kernel_rfl

theorem bulk_pos {H : Type} (d : DataW H) : 1 ≤ Rows.uptoBulk d := by
  cases d with
  | lit l => cases l <;> simp [Rows.uptoBulk]
  | _ => simp [Rows.uptoBulk]
theorem bulk_part {H : Type} {d : DataW H} : ∀ {l : List (DataW H)}, d ∈ l → Rows.uptoBulk d ≤ Rows.uptoBulkAll l := by
  intro l
  induction l with
  | nil => intro h; cases h
  | cons x r ih =>
    intro h
    simp only [Rows.uptoBulkAll]
    rcases List.mem_cons.1 h with e | e
    · subst e; omega
    · have := ih e; omega
theorem bulk_len {H : Type} (l : List (DataW H)) : l.length ≤ Rows.uptoBulkAll l := by
  induction l with
  | nil => simp [Rows.uptoBulkAll]
  | cons x r ih => have := bulk_pos x; simp only [Rows.uptoBulkAll, List.length_cons]; omega
theorem bulk_slice {H : Type} (l r : List (DataW H)) : l.length ≤ Rows.uptoBulk (.slice l r) := by
  have := bulk_len l
  simp only [Rows.uptoBulk]
  omega
theorem bulk_elem {H : Type} {d : DataW H} {l r : List (DataW H)} (h : d ∈ l) : Rows.uptoBulk d ≤ Rows.uptoBulk (.slice l r) := by
  have := bulk_part h
  simp only [Rows.uptoBulk]
  omega
theorem bulk_agg {H : Type} {d : DataW H} {l : List (DataW H)} (h : d ∈ l) : Rows.uptoBulk d ≤ Rows.uptoBulk (.agg l) := by
  have := bulk_part h
  simp only [Rows.uptoBulk]
  omega

section
variable {H : Type} {enc : TypeId × Value → H} {W : World}

/-- a slice of pairs of texts -/
theorem open_attrs {fuel : Nat} {v : Value} {x : DataW H × List MemPlace} (h : DataW.trod enc Tryz.prog W 0 (fun _ => true) true fuel 43 [v] = some x) :
    ∃ (aa : Option Addr) (ac : Nat) (at_ : List (ByteArray × ByteArray)), at_.length ≤ Rows.uptoBulk x.1 ∧ v = .slice aa at_.length ac ∧ at_.length ≤ ac ∧ ac ≤ 9223372036854775807 ∧
      ∀ j x, at_[j]? = some x → ∃ b' o', aa = some ⟨b', o', none⟩ ∧ b' < W.heap.size ∧ W.cell? ⟨b', o' + j * 2, none⟩ = some (.string x.1) ∧ W.cell? ⟨b', o' + j * 2 + 1, none⟩ = some (.string x.2) ∧ x.1.size ≤ 9223372036854775807 ∧ x.2.size ≤ 9223372036854775807 := by
  rcases open_slice_pairs Tryz.underlying43 Tryz.underlying51 Tryz.cellsAttr rfl rfl Tryz.cellsStr Tryz.cellsStr h with ⟨h0, _⟩ | ⟨a, len, cap, m, n, V0, V1, D0, D1, P0, P1, h0, _, hl, hm, hmm, hxe, hx⟩
  · refine ⟨none, 0, [], by simp, ?_, Nat.le_refl _, by omega, fun j x hj => by simp at hj⟩
    simpa using h0
  · have hlm : len ≤ m := by rw [hmm]; simp; exact hl
    unfold maxLen at hm
    have each : ∀ i, i < len → ∃ q : ByteArray × ByteArray, W.cell? (a.add (i * 2)) = some (.string q.1) ∧ W.cell? (a.add (i * 2 + 1)) = some (.string q.2) ∧ q.1.size ≤ 9223372036854775807 ∧ q.2.size ≤ 9223372036854775807 := by
      intro i hi
      obtain ⟨c0, c1, t0, t1⟩ := hx i (by omega)
      obtain ⟨s0, e0, _, z0⟩ := DataW.trod_string Tryz.underlying9 t0
      obtain ⟨s1, e1, _, z1⟩ := DataW.trod_string Tryz.underlying9 t1
      simp only [List.cons.injEq, and_true] at e0 e1
      unfold maxLen at z0 z1
      exact ⟨(s0, s1), by rw [c0, e0], by rw [c1, e1], by omega, by omega⟩
    obtain ⟨q, hq⟩ := choose_lt each
    refine ⟨some a, cap, (List.range len).map q, by rw [hxe]; exact Nat.le_trans (by simp) (bulk_slice _ _), by simpa using h0, by simpa using hl, by omega, fun j x hj => ?_⟩
    have hjl : j < len := by simpa using (List.getElem?_eq_some_iff.1 hj).1
    have hxq : x = q j := by simpa [List.getElem?_range hjl] using hj.symm
    subst hxq
    obtain ⟨c0, c1, z0, z1⟩ := hq j hjl
    have ea := addr_of (hq 0 (by omega)).1
    rw [addr_add ea] at c0 c1
    exact ⟨a.block, a.off, congrArg some ea, blk_lt c0, c0, by rw [show a.off + j * 2 + 1 = a.off + (j * 2 + 1) by omega]; exact c1, z0, z1⟩

/-- a slice of numbers -/
theorem open_kids {fuel : Nat} {v : Value} {x : DataW H × List MemPlace} (h : DataW.trod enc Tryz.prog W 0 (fun _ => true) true fuel 32 [v] = some x) :
    ∃ (ka : Option Addr) (kc : Nat) (ks : List Int), ks.length ≤ Rows.uptoBulk x.1 ∧ v = .slice ka ks.length kc ∧ ks.length ≤ kc ∧ kc ≤ 9223372036854775807 ∧
      ∀ j k, ks[j]? = some k → ∃ b' o', ka = some ⟨b', o', none⟩ ∧ b' < W.heap.size ∧ W.cell? ⟨b', o' + j, none⟩ = some (.int .i64 k) := by
  rcases open_ints Tryz.underlying32 Tryz.underlying3 Tryz.cellsInt h with ⟨h0, _⟩ | ⟨a, len, cap, zs, h0, _, hl, hm, hz, hxe, hx, _⟩
  · refine ⟨none, 0, [], by simp, ?_, Nat.le_refl _, by omega, fun j x hj => by simp at hj⟩
    simpa using h0
  · have hzl : len ≤ zs.length := by rw [hz]; simp; exact hl
    unfold maxLen at hm
    have hlen : (zs.take len).length = len := by simp; omega
    refine ⟨some a, cap, zs.take len, by rw [hxe]; exact Nat.le_trans (by simp [lits]) (bulk_slice _ _), by rw [hlen]; simpa using h0, by rw [hlen]; exact hl, by omega, fun j k hj => ?_⟩
    have hjl : j < len := by have := (List.getElem?_eq_some_iff.1 hj).1; omega
    have c0 := hx j (by omega)
    have hk : zs.getD j 0 = k := by
      rw [List.getElem?_take, if_pos hjl] at hj
      rw [List.getD_eq_getElem?_getD, hj]
      rfl
    rw [hk] at c0
    have ea := addr_of (hx 0 (by omega))
    rw [addr_add ea] at c0
    exact ⟨a.block, a.off, congrArg some ea, blk_lt c0, c0⟩

set_option maxRecDepth 100000 in
theorem open_twigs {fuel : Nat} {v : Value} {x : DataW H × List MemPlace} (h : DataW.trod enc Tryz.prog W 0 (fun _ => true) true fuel 22 [v] = some x) :
    ∃ (a : Option Addr) (cap : Nat) (ts : List Tw), v = .slice a ts.length cap ∧ TwigsIn W W.heap.size a ts ∧ ts.length ≤ Rows.uptoBulk x.1 ∧ ∀ (j : Nat) (t : Tw), ts[j]? = some t → t.attrs.length ≤ Rows.uptoBulk x.1 ∧ t.kids.length ≤ Rows.uptoBulk x.1 := by
  rcases open_slice Tryz.underlying22 h with ⟨h0, _⟩ | ⟨a, len, cap, m, n, D, Pl, h0, _, hl, hm, hmm, hxe, hx⟩
  · refine ⟨none, 0, [], ?_, fun j x hj => by simp at hj, by simp, fun j t hj => by simp at hj⟩
    simpa using h0
  · have hlm : len ≤ m := by rw [hmm]; simp; exact hl
    have h00 : 0 < len → a = ⟨a.block, a.off, none⟩ := by
      intro hp
      obtain ⟨cs', h1, h2⟩ := hx 0 (by omega)
      rw [Tryz.cellsTwig] at h1
      obtain ⟨_, hlen, hcell⟩ := World.cells?_some h1
      have e0 := hcell 0 (by omega)
      rw [add_add, List.getElem?_eq_getElem (by omega)] at e0
      simp only [Nat.zero_mul, Nat.add_zero] at e0
      exact addr_of e0
    have each : ∀ i, i < len → ∃ t : Tw, TwAt W W.heap.size a.block (a.off + i * 5) t ∧ t.attrs.length ≤ Rows.uptoBulk x.1 ∧ t.kids.length ≤ Rows.uptoBulk x.1 := by
      intro i hi
      have ea := h00 (by omega)
      obtain ⟨cs', h1, h2⟩ := hx i (by omega)
      rw [Tryz.cellsTwig] at h1
      obtain ⟨_, hlen, hcell⟩ := World.cells?_some h1
      obtain ⟨xs, k, hk, hde, _, hxl, hf⟩ := DataW.trod_struct Tryz.underlying45 h2
      obtain ⟨v0, v1, v2, v3, v4, rfl⟩ := five_list hlen
      obtain ⟨y0, y1, y2, y3, y4, rfl⟩ := five_list hxl
      have g0 : DataW.trod enc Tryz.prog W 0 (fun _ => true) true k 3 [v0] = some y0 := by
        have := hf 0 _ rfl
        simpa [Tryz.cellsInt] using this
      have g1 : DataW.trod enc Tryz.prog W 0 (fun _ => true) true k 9 [v1] = some y1 := by
        have := hf 1 _ rfl
        simpa [Tryz.cellsStr] using this
      have g2 : DataW.trod enc Tryz.prog W 0 (fun _ => true) true k 9 [v2] = some y2 := by
        have := hf 2 _ rfl
        simpa [Tryz.cellsStr] using this
      have g3 : DataW.trod enc Tryz.prog W 0 (fun _ => true) true k 43 [v3] = some y3 := by
        have := hf 3 _ rfl
        simpa [Tryz.cellsAttrs] using this
      have g4 : DataW.trod enc Tryz.prog W 0 (fun _ => true) true k 32 [v4] = some y4 := by
        have := hf 4 _ rfl
        simpa [Tryz.cellsInts] using this
      obtain ⟨kd, e0, _, _⟩ := DataW.trod_int Tryz.underlying3 g0
      obtain ⟨tg, e1, _, z1⟩ := DataW.trod_string Tryz.underlying9 g1
      obtain ⟨tx, e2, _, z2⟩ := DataW.trod_string Tryz.underlying9 g2
      obtain ⟨aa, ac, at_, b3, e3, l3, m3, f3⟩ := open_attrs g3
      obtain ⟨ka, kc, ks, b4, e4, l4, m4, f4⟩ := open_kids g4
      simp only [List.cons.injEq, and_true] at e0 e1 e2
      subst e0 e1 e2 e3 e4
      have q : ∀ f, f < 5 → W.cell? ⟨a.block, a.off + i * 5 + f, none⟩ = [Value.int .i64 kd, .string tg, .string tx, .slice aa at_.length ac, .slice ka ks.length kc][f]? := by
        intro f hf5
        have := hcell f hf5
        rw [add_add, addr_add ea] at this
        rw [show a.off + i * 5 + f = a.off + (i * 5 + f) by omega]
        exact this
      unfold maxLen at z1 z2
      have q0 := q 0 (by omega)
      have hD : Rows.uptoBulk (D i) ≤ Rows.uptoBulk x.1 := by
        rw [hxe]
        exact bulk_elem (List.mem_map.2 ⟨i, List.mem_range.2 hi, rfl⟩)
      have hDe : D i = .agg ([y0, y1, y2, y3, y4].map (·.1)) := congrArg Prod.fst hde
      have hb3 : Rows.uptoBulk y3.1 ≤ Rows.uptoBulk (D i) := by rw [hDe]; exact bulk_agg (by simp)
      have hb4 : Rows.uptoBulk y4.1 ≤ Rows.uptoBulk (D i) := by rw [hDe]; exact bulk_agg (by simp)
      refine ⟨⟨kd, tg, tx, at_, ks, aa, ac, ka, kc⟩, ?_, Nat.le_trans b3 (Nat.le_trans hb3 hD), Nat.le_trans b4 (Nat.le_trans hb4 hD)⟩
      exact ⟨blk_lt q0, q0, q 1 (by omega), q 2 (by omega), q 3 (by omega), q 4 (by omega), ⟨l3, m3⟩, ⟨l4, m4⟩, by simpa using z1, by simpa using z2, f3, f4⟩
    have : Inhabited Tw := ⟨⟨0, ⟨#[]⟩, ⟨#[]⟩, [], [], none, 0, none, 0⟩⟩
    obtain ⟨q, hq⟩ := choose_lt each
    refine ⟨some a, cap, (List.range len).map q, by simpa using h0, fun j x hj => ?_, by rw [hxe]; exact Nat.le_trans (by simp) (bulk_slice _ _), fun j t hj => ?_⟩
    · have hjl : j < len := by simpa using (List.getElem?_eq_some_iff.1 hj).1
      have hxq : x = q j := by simpa [List.getElem?_range hjl] using hj.symm
      subst hxq
      exact ⟨a.block, a.off, congrArg some (h00 (by omega)), (hq j hjl).1⟩
    · have hjl : j < len := by simpa using (List.getElem?_eq_some_iff.1 hj).1
      have hxq : t = q j := by simpa [List.getElem?_range hjl] using hj.symm
      subst hxq
      exact (hq j hjl).2
end
end Go.Proofs.YtlfepdecgfcifaaGreatDoor
