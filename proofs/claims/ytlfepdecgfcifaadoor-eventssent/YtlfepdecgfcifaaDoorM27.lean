/- The document's ears: in memory; Drop; Add. -/
import Derived.Test.YtlfepdecgfcifaaDoorM26
import Derived.Deep.DeepCutAuto
import Derived.Test.YtlfepdecgfcifaaDoorM17
import Derived.Test.YtlfepdecgfcifaaDoorM04
namespace Go.Proofs.YtlfepdecgfcifaaDoor
open Go.RowKit
set_option linter.unusedVariables false
theorem Tryd.infoQearE : (Tryd.prog.info? 40).map (fun i => (i.zero, i.size, i.bytes)) = some (some (.agg #[.int .i64 0, .string ⟨#[]⟩, .bool false, .bool false, .bool false, .bool false, .bool false, .bool false]), 8, 32) := by kernel_rfl
theorem Tryd.infoBoolE : (Tryd.prog.info? 4).map (fun i => (i.zero, i.size, i.bytes)) = some (some (.bool false), 1, 1) := by kernel_rfl

def earsC (E : List EvS) : List Value := E.flatMap fun x => earC x.e
def goneC (E : List EvS) : List Value := E.map fun x => .bool x.gone
theorem earsC_snoc (E : List EvS) (x : EvS) : earsC (E ++ [x]) = earsC E ++ earC x.e := by simp [earsC]
theorem earsC_get : ∀ (E : List EvS) (k : Nat) (x : EvS), E[k]? = some x → ∀ (j : Nat) (u : Value), (earC x.e)[j]? = some u → (earsC E)[k * 8 + j]? = some u
  | [], k, x, h, _, _, _ => by simp at h
  | y :: E, 0, x, h, j, u, hj => by
    simp only [List.getElem?_cons_zero, Option.some.injEq] at h
    subst h
    have hl : j < (earC y.e).length := (List.getElem?_eq_some_iff.1 hj).1
    rw [Nat.zero_mul, Nat.zero_add]
    show (earC y.e ++ earsC E)[j]? = _
    rw [List.getElem?_append_left hl]
    exact hj
  | y :: E, k + 1, x, h, j, u, hj => by
    show (earC y.e ++ earsC E)[(k + 1) * 8 + j]? = _
    rw [List.getElem?_append_right (by show 8 ≤ _; omega)]
    have : (k + 1) * 8 + j - (earC y.e).length = k * 8 + j := by show (k + 1) * 8 + j - 8 = _; omega
    rw [this]
    exact earsC_get E k x (by simpa using h) j u hj

theorem earsC_set : ∀ (E : List EvS) (k : Nat) (x : EvS), E[k]? = some x → earsC (E.set k ⟨x.e, true⟩) = earsC E
  | [], k, x, h => by simp at h
  | y :: E, 0, x, h => by
    simp only [List.getElem?_cons_zero, Option.some.injEq] at h
    subst h
    rfl
  | y :: E, k + 1, x, h => by
    show earC y.e ++ earsC (E.set k ⟨x.e, true⟩) = earC y.e ++ earsC E
    rw [earsC_set E k x (by simpa using h)]
/-- the document's ears -/
structure QEs (w : World) (wb : Nat) (lv gv : Value) (E : List EvS) : Prop where
  head : w.heap[wb]? = some (.cells #[lv, gv] 38 (0, 0))
  rowL : w.ownsRow 0 40 8 lv E.length (earsC E)
  rowG : w.ownsRow 0 4 1 gv E.length (goneC E)
  n1 : lv.ownBlock ≠ some wb
  n2 : gv.ownBlock ≠ some wb
  n3 : ∀ b, lv.ownBlock = some b → gv.ownBlock ≠ some b
section
variable {w w' : World} {wb : Nat} {lv gv : Value} {E : List EvS}
theorem QEs.far (h : QEs w wb lv gv E) (h1 : w'.heap[wb]? = w.heap[wb]?) (h2 : ∀ b, lv.ownBlock = some b → w'.heap[b]? = w.heap[b]?) (h3 : ∀ b, gv.ownBlock = some b → w'.heap[b]? = w.heap[b]?) : QEs w' wb lv gv E :=
  ⟨h1.trans h.head, own_same h.rowL h2, own_same h.rowG h3, h.n1, h.n2, h.n3⟩
theorem QEs.lt (h : QEs w wb lv gv E) : wb < w.heap.size ∧ (∀ b, lv.ownBlock = some b → b < w.heap.size) ∧ ∀ b, gv.ownBlock = some b → b < w.heap.size :=
  ⟨ltH h.head, fun b hb => (h.rowL.lt b hb).2, fun b hb => (h.rowG.lt b hb).2⟩
theorem QEs.below (h : QEs w wb lv gv E) (hb : Below w.heap.size w w') : QEs w' wb lv gv E :=
  h.far (hb.block _ h.lt.1) (fun b hq => hb.block _ (h.lt.2.1 b hq)) (fun b hq => hb.block _ (h.lt.2.2 b hq))
theorem own_shapeF {w : World} {B n size : Nat} {e : TypeId} {v : Value} {xs : List Value} (h : w.ownsRow B e size v n xs) : ∃ a c, v = .slice a n c ∧ n ≤ c ∧ c ≤ 9223372036854775807 ∧ (0 < n → ∃ g, a = some ⟨g, 0, none⟩) := by
  obtain ⟨hl, ⟨rfl, h0⟩ | ⟨g', cap, cur, rfl, h1, h2, h3, h4, h5⟩⟩ := h
  · exact ⟨none, 0, by rw [h0], by omega, by omega, fun h => by omega⟩
  · unfold maxLen at h4
    exact ⟨_, cap, rfl, h3, by omega, fun _ => ⟨g', rfl⟩⟩
theorem QEs.cells (h : QEs w wb lv gv E) : w.cell? ⟨wb, 0, none⟩ = some lv ∧ w.cell? ⟨wb, 1, none⟩ = some gv ∧ ∀ j, w.frozen? ⟨wb, j, none⟩ = false := by
  have hb := h.head
  refine ⟨?_, ?_, fun j => by simp [World.frozen?, hb]⟩ <;> (rw [cell_of_row _ _ _ _ _ _ hb]; rfl)
theorem QEs.goneAt (h : QEs w wb lv gv E) {g c : Nat} (hv : gv = .slice (some ⟨g, 0, none⟩) E.length c) {k : Nat} {x : EvS} (hk : E[k]? = some x) : w.cell? ⟨g, k, none⟩ = some (.bool x.gone) ∧ w.frozen? ⟨g, k, none⟩ = false := by
  have hkl : k < E.length := (List.getElem?_eq_some_iff.1 hk).1
  have hr := h.rowG
  rw [hv] at hr
  refine ⟨?_, hr.frozenAt k⟩
  rw [hr.cellAt k (by omega)]
  simp [goneC, hk]
theorem QEs.earAt (h : QEs w wb lv gv E) {g c : Nat} (hv : lv = .slice (some ⟨g, 0, none⟩) E.length c) {k : Nat} {x : EvS} (hk : E[k]? = some x) {j : Nat} {u : Value} (hj : (earC x.e)[j]? = some u) : w.cell? ⟨g, k * 8 + j, none⟩ = some u := by
  have hkl : k < E.length := (List.getElem?_eq_some_iff.1 hk).1
  have hjl : j < 8 := (List.getElem?_eq_some_iff.1 hj).1
  have hr := h.rowL
  rw [hv] at hr
  rw [hr.cellAt (k * 8 + j) (by omega)]
  exact earsC_get E k x hk j u hj
theorem QEs.gone (h : QEs w wb lv gv E) {g c : Nat} (hv : gv = .slice (some ⟨g, 0, none⟩) E.length c) {k : Nat} {x : EvS} (hk : E[k]? = some x) : QEs (w.setCell ⟨g, k, none⟩ (.bool true)) wb lv gv (E.set k ⟨x.e, true⟩) := by
  have hkl : k < E.length := (List.getElem?_eq_some_iff.1 hk).1
  have hr := h.rowG
  rw [hv] at hr
  have hs := (hr.stored k (.bool true)).1
  have hg : gv.ownBlock = some g := by rw [hv]; rfl
  have oth : ∀ q, q ≠ g → (w.setCell ⟨g, k, none⟩ (.bool true)).heap[q]? = w.heap[q]? := fun q hq => Below.heap_setCell _ _ _ _ hq
  refine ⟨(oth wb (fun e => h.n2 (by rw [e]; exact hg))).trans h.head, ?_, ?_, h.n1, h.n2, h.n3⟩
  · have e := earsC_set E k x hk
    rw [e, List.length_set]
    exact own_same h.rowL (fun b hb => oth b (fun e => h.n3 b hb (by rw [e]; exact hg)))
  · rw [List.length_set]
    have e : goneC (E.set k ⟨x.e, true⟩) = (goneC E).set k (.bool true) := by
      unfold goneC
      rw [List.map_set]
    rw [e, hv]
    exact hs
end

set_option maxHeartbeats 4000000 in
set_option maxRecDepth 100000 in
theorem qdrop_any {w : World} {wb : Nat} {lv gv : Value} {E : List EvS} (h : QEs w wb lv gv E) (k : Int) :
    Calls Tryd.prog 11 #[.pointer (some ⟨wb, 0, none⟩), .int .i64 k] w fun e w' => e = .returned (.bool (dropR E k).2) ∧ QEs w' wb lv gv (dropR E k).1 ∧ Chg (fun b => gv.ownBlock = some b) w w' := by
  obtain ⟨la, lc, hlv, _, _, _⟩ := own_shapeF h.rowL
  obtain ⟨ga, gc, hgv, hc1, hc2, hga⟩ := own_shapeF h.rowG
  obtain ⟨c0, c1, fz⟩ := h.cells
  have H := hid h
  by_cases hn : k < 0
  · have e : dropR E k = (E, false) := by unfold dropR; rw [if_pos hn]
    rw [e]
    clear h e
    subst hlv
    subst hgv
    go_enter Tryd.func11, Tryd.ntmps11
    go_wp2
    go_ret
    exact ⟨rfl, H.out, Chg.refl _ _⟩
  · obtain ⟨j, rfl⟩ : ∃ j : Nat, k = j := ⟨k.toNat, by omega⟩
    by_cases hj : j < E.length
    · obtain ⟨x, hx⟩ : ∃ x, E[j]? = some x := ⟨_, List.getElem?_eq_getElem hj⟩
      obtain ⟨g, rfl⟩ := hga (by omega)
      obtain ⟨d1, d2⟩ := h.goneAt hgv hx
      have hz : (j : Int) < (E.length : Int) := by omega
      have HG := hid (h.gone hgv hx)
      have HC : Hid (Chg (fun b => gv.ownBlock = some b) w (w.setCell ⟨g, j, none⟩ (.bool true))) := (Chg.refl _ w).set _ _ _ (fun _ => by rw [hgv]; rfl)
      cases hg : x.gone
      · have e : dropR E j = (E.set j ⟨x.e, true⟩, true) := by unfold dropR; rw [if_neg hn, Int.toNat_natCast, hx]; simp [hg]
        rw [e]
        rw [hg] at d1
        clear h e hx hg hga
        subst hlv
        subst hgv
        go_enter Tryd.func11, Tryd.ntmps11
        go_wp2
        go_ret
        exact ⟨rfl, HG.out, HC.out⟩
      · have e : dropR E j = (E, false) := by unfold dropR; rw [if_neg hn, Int.toNat_natCast, hx]; simp [hg]
        rw [e]
        rw [hg] at d1
        clear h e hx hg hga HG HC
        subst hlv
        subst hgv
        go_enter Tryd.func11, Tryd.ntmps11
        go_wp2
        go_ret
        exact ⟨rfl, H.out, Chg.refl _ _⟩
    · have e : dropR E j = (E, false) := by unfold dropR; rw [if_neg hn, Int.toNat_natCast, List.getElem?_eq_none (by omega)]
      rw [e]
      have hz : ¬ (j : Int) < (E.length : Int) := by omega
      clear h e hga
      subst hlv
      subst hgv
      go_enter Tryd.func11, Tryd.ntmps11
      go_wp2
      go_ret
      exact ⟨rfl, H.out, Chg.refl _ _⟩
end Go.Proofs.YtlfepdecgfcifaaDoor

/- The document's Send: its stops. -/
namespace Go.Proofs.YtlfepdecgfcifaaDoor
open Go.RowKit
set_option linter.unusedVariables false
theorem Tryd.infoStopE : (Tryd.prog.info? 96).map (fun i => (i.zero, i.size, i.bytes)) = some (some (.agg #[.int .i64 0, .int .i64 0, .bool false]), 3, 24) := by kernel_rfl

def stC (s : EvP) : List Value := [.int .i64 s.node, .int .i64 s.phase, .bool s.down]
def stsC (l : List EvP) : List Value := l.flatMap stC
theorem stsC_app (a b : List EvP) : stsC (a ++ b) = stsC a ++ stsC b := by simp [stsC]
theorem stsC_one (l : List Value) : ∀ s : EvP, ∀ u ∈ stC s, u.oneCell' = true := fun s u hu => by
  simp only [stC, List.mem_cons, List.not_mem_nil, or_false] at hu
  rcases hu with rfl | rfl | rfl <;> rfl
theorem stsC_all (l : List EvP) : ∀ u ∈ stsC l, u.oneCell' = true := fun u hu => by
  obtain ⟨s, _, h⟩ := List.mem_flatMap.1 hu
  exact stsC_one [] s u h
theorem stsC_len (l : List EvP) : (stsC l).length = l.length * 3 := by
  induction l with
  | nil => rfl
  | cons s l ih => show (stC s ++ stsC l).length = _; rw [List.length_append, ih]; simp [stC]; omega

/-- stops in a row of one's own -/
structure StAt (w wr : World) (v : Value) (l : List EvP) : Prop where
  below : Below w.heap.size w wr
  row : wr.ownsRow w.heap.size 96 3 v l.length (stsC l)
def s1E (z : Int) : EvP := ⟨z, 1, true⟩
def s3E (z : Int) : EvP := ⟨z, 3, false⟩
theorem StAt.app {w wr w2 : World} {v v2 : Value} {l : List EvP} {o : Obj} (h : StAt w wr v l) {s : EvP} (hv : w2.ownsRow w.heap.size 96 3 v2 (l.length + 1) (stsC l ++ stC s)) (hg : (wr.alloc o).grownBy w2 v.ownBlock) : StAt w w2 v2 (l ++ [s]) := by
  refine ⟨(h.below.alloc h.below.size o).grown hg (by have := h.below.size; simp; omega) (fun q hq => (h.row.lt q hq).1), ?_⟩
  rw [stsC_app, List.length_append]
  exact hv
/-- the tree, in whose parents it looks -/
def TqAt (W : World) (B : Nat) (ns : List Nd) : Prop := ∃ (M : Nat → Lab) (nb cap : Nat) (uv : Value), 0 < ns.length ∧ ns.length ≤ cap ∧ cap ≤ 9223372036854775807 ∧ nb < W.heap.size ∧ W.cell? ⟨B, 0, none⟩ = some (.slice (some ⟨nb, 0, none⟩) ns.length cap) ∧ ∀ (i : Nat) (n : Nd), ns[i]? = some n → W.cell? ⟨nb, i * 6 + 4, none⟩ = some (.int .i64 n.parent)
theorem RLies.tq {W : World} {M : Nat → Lab} {B : Nat} {nv uv : Value} {ps : List Pn} {us : List Value} (h : RLies W M B nv uv ps us) (hp : 0 < ps.length) : TqAt W B (nodesOf ps) := by
  obtain ⟨nb, cap, rfl, h1, h2, h3, h4, _⟩ := h.form (List.getElem?_eq_getElem hp)
  unfold maxLen at h2
  have hl : (nodesOf ps).length = ps.length := by simp [nodesOf]
  refine ⟨M, nb, cap, uv, by omega, by omega, by omega, h4, by rw [hl]; exact h.cell0, fun i n hn => ?_⟩
  obtain ⟨p, hp2, rfl⟩ : ∃ p, ps[i]? = some p ∧ p.n = n := by
    unfold nodesOf at hn
    rw [List.getElem?_map] at hn
    cases hq : ps[i]? with
    | none => rw [hq] at hn; cases hn
    | some p => rw [hq] at hn; exact ⟨p, rfl, by simpa using hn⟩
  exact (h.cellN rfl hp2 (f := 4) (by omega) rfl).1
theorem TqAt.below {W W' : World} {B : Nat} {ns : List Nd} (h : TqAt W B ns) (hb : Below W.heap.size W W') : TqAt W' B ns := by
  obtain ⟨M, nb, cap, uv, h1, h2, h3, h4, h5, h6⟩ := h
  have hB : B < W.heap.size := World.block_lt_of_cell? W ⟨B, 0, none⟩ h5
  exact ⟨M, nb, cap, uv, h1, h2, h3, Nat.lt_of_lt_of_le h4 hb.size, (hb.cell (p := ⟨B, 0, none⟩) hB).trans h5, fun i n hn => (hb.cell (p := ⟨nb, i * 6 + 4, none⟩) h4).trans (h6 i n hn)⟩
end Go.Proofs.YtlfepdecgfcifaaDoor
