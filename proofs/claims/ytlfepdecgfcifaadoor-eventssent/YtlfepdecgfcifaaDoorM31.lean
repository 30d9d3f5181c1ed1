/- The document's ears: Add. -/
import Derived.Test.YtlfepdecgfcifaaDoorM30
import Derived.Test.YtlfepdecgfcifaaDoorM26
namespace Go.Proofs.YtlfepdecgfcifaaDoor
open Go.RowKit Go.BigFrame
set_option linter.unusedVariables false
theorem Tryd.infoQearF : (Tryd.prog.info? 40).map (fun i => (i.zero, i.size, i.bytes)) = some (some (.agg #[.int .i64 0, .string ⟨#[]⟩, .bool false, .bool false, .bool false, .bool false, .bool false, .bool false]), 8, 32) := by kernel_rfl
theorem Tryd.infoBoolF : (Tryd.prog.info? 4).map (fun i => (i.zero, i.size, i.bytes)) = some (some (.bool false), 1, 1) := by kernel_rfl
/-- the two rows while Add is under way -/
structure QE2 (w : World) (wb : Nat) (lv gv : Value) (L : List EvE) (G : List Bool) : Prop where
  head : w.heap[wb]? = some (.cells #[lv, gv] 38 (0, 0))
  rowL : w.ownsRow 0 40 8 lv L.length (L.flatMap earC)
  rowG : w.ownsRow 0 4 1 gv G.length (G.map .bool)
  n1 : lv.ownBlock ≠ some wb
  n2 : gv.ownBlock ≠ some wb
  n3 : ∀ b, lv.ownBlock = some b → gv.ownBlock ≠ some b
theorem earsC_map (E : List EvS) : earsC E = (E.map (·.e)).flatMap earC := by
  induction E with
  | nil => rfl
  | cons x E ih => show earC x.e ++ earsC E = _; rw [ih]; rfl
theorem goneC_map (E : List EvS) : goneC E = (E.map (·.gone)).map .bool := by
  induction E with
  | nil => rfl
  | cons x E ih => show Value.bool x.gone :: goneC E = _; rw [ih]; rfl
theorem QEs.two {w : World} {wb : Nat} {lv gv : Value} {E : List EvS} (h : QEs w wb lv gv E) : QE2 w wb lv gv (E.map (·.e)) (E.map (·.gone)) :=
  ⟨h.head, by rw [List.length_map, ← earsC_map]; exact h.rowL, by rw [List.length_map, ← goneC_map]; exact h.rowG, h.n1, h.n2, h.n3⟩
theorem QE2.one {w : World} {wb : Nat} {lv gv : Value} {E : List EvS} (h : QE2 w wb lv gv (E.map (·.e)) (E.map (·.gone))) : QEs w wb lv gv E :=
  ⟨h.head, by have := h.rowL; rw [List.length_map, ← earsC_map] at this; exact this, by have := h.rowG; rw [List.length_map, ← goneC_map] at this; exact this, h.n1, h.n2, h.n3⟩
theorem QE2.lt {w : World} {wb : Nat} {lv gv : Value} {L : List EvE} {G : List Bool} (h : QE2 w wb lv gv L G) : wb < w.heap.size ∧ (∀ b, lv.ownBlock = some b → b < w.heap.size) ∧ ∀ b, gv.ownBlock = some b → b < w.heap.size :=
  ⟨ltH h.head, fun b hb => (h.rowL.lt b hb).2, fun b hb => (h.rowG.lt b hb).2⟩
theorem chg_add {w W6 : World} {wb j : Nat} {lv v6 : Value} {o : Obj} (hwb : wb < w.heap.size) (hr : ∀ b, lv.ownBlock = some b → b < w.heap.size) (hg : (w.alloc o).grownBy W6 lv.ownBlock) (hk : KeepsOthers (w.alloc o) W6) : Chg (fun b => b = wb ∨ lv.ownBlock = some b) w (W6.setCell ⟨wb, j, none⟩ v6) := by
  have hc : Chg (fun b => b = wb ∨ lv.ownBlock = some b) w W6 := ⟨hg.os, hg.tape, hg.output, by have := hg.size; simp at this; omega, fun b hb hn => (hg.block b (by simp; omega) (fun e => hn (.inr e.symm))).trans (Below.heap_alloc _ _ _ hb), (KeepsOthers.alloc _ _).trans hk⟩
  exact hc.set wb j v6 (fun _ => .inl rfl)
theorem QE2.addL {w W6 : World} {wb : Nat} {lv gv v6 : Value} {L : List EvE} {G : List Bool} {o : Obj} {x : EvE} (h : QE2 w wb lv gv L G) (hv : W6.ownsRow 0 40 8 v6 (L.length + 1) (L.flatMap earC ++ earC x)) (hg : (w.alloc o).grownBy W6 lv.ownBlock) (hx : v6.ownBlock = lv.ownBlock ∨ v6.ownBlock = some (w.alloc o).heap.size) :
    QE2 (W6.setCell ⟨wb, 0, none⟩ v6) wb v6 gv (L ++ [x]) G ∧ W6.heap[wb]? = w.heap[wb]? ∧ Chg (fun b => b = wb ∨ lv.ownBlock = some b) w (W6.setCell ⟨wb, 0, none⟩ v6) ∧ (v6.ownBlock = lv.ownBlock ∨ ∃ b, v6.ownBlock = some b ∧ w.heap.size ≤ b) := by
  have hlt := h.lt
  have s1 : (w.alloc o).heap.size = w.heap.size + 1 := by simp
  rw [s1] at hx
  have low : ∀ b, b < w.heap.size → lv.ownBlock ≠ some b → W6.heap[b]? = w.heap[b]? := fun b hb hn => (hg.block b (by simp; omega) (fun e => hn e.symm)).trans (Below.heap_alloc _ _ _ hb)
  have hne : v6.ownBlock ≠ some wb := fun e => by
    rcases hx with q | q
    · exact h.n1 (q.symm.trans e)
    · rw [q] at e; injection e with e; have := hlt.1; omega
  have hh : W6.heap[wb]? = w.heap[wb]? := low wb hlt.1 h.n1
  have oth : ∀ b, b ≠ wb → (W6.setCell ⟨wb, 0, none⟩ v6).heap[b]? = W6.heap[b]? := fun b hb => Below.heap_setCell _ _ _ _ hb
  have hk : KeepsOthers (w.alloc o) W6 := KeepsOthers.of_grownBy hg (fun j o e ho => by
    obtain ⟨_, ⟨e1, _⟩ | ⟨g, cap, cur, e1, _, e2, _⟩⟩ := h.rowL
    · rw [e1] at e; cases e
    · rw [e1] at e
      cases e
      rw [Below.heap_alloc _ _ _ (ltH e2), e2] at ho
      cases ho
      rfl)
  have hch := chg_add (wb := wb) (j := 0) (v6 := v6) hlt.1 (fun b hb => hlt.2.1 b hb) hg hk
  have how : v6.ownBlock = lv.ownBlock ∨ ∃ b, v6.ownBlock = some b ∧ w.heap.size ≤ b := by
    rcases hx with q | q
    · exact .inl q
    · exact .inr ⟨_, q, by omega⟩
  refine ⟨⟨?_, ?_, ?_, hne, h.n2, fun b hb e => ?_⟩, hh, hch, how⟩
  · rw [setCell_heap _ _ _ _ _ _ _ (hh.trans h.head)]; rfl
  · rw [List.length_append, List.flatMap_append]
    have e1 : [x].flatMap earC = earC x := by simp
    rw [e1]
    exact own_same hv (fun b hb => oth b (fun e => hne (by rw [← e]; exact hb)))
  · exact own_same h.rowG (fun b hb => (oth b (fun e => h.n2 (by rw [← e]; exact hb))).trans (low b (hlt.2.2 b hb) (fun e => h.n3 b e hb)))
  · rcases hx with q | q
    · exact h.n3 b (q.symm.trans hb) e
    · rw [q] at hb; injection hb with hb; have := hlt.2.2 b e; omega
theorem QE2.addG {w W6 : World} {wb : Nat} {lv gv v6 : Value} {L : List EvE} {G : List Bool} {o : Obj} {x : Bool} (h : QE2 w wb lv gv L G) (hv : W6.ownsRow 0 4 1 v6 (G.length + 1) (G.map .bool ++ [.bool x])) (hg : (w.alloc o).grownBy W6 gv.ownBlock) (hx : v6.ownBlock = gv.ownBlock ∨ v6.ownBlock = some (w.alloc o).heap.size) :
    QE2 (W6.setCell ⟨wb, 1, none⟩ v6) wb lv v6 L (G ++ [x]) ∧ W6.heap[wb]? = w.heap[wb]? ∧ Chg (fun b => b = wb ∨ gv.ownBlock = some b) w (W6.setCell ⟨wb, 1, none⟩ v6) ∧ (v6.ownBlock = gv.ownBlock ∨ ∃ b, v6.ownBlock = some b ∧ w.heap.size ≤ b) := by
  have hlt := h.lt
  have s1 : (w.alloc o).heap.size = w.heap.size + 1 := by simp
  rw [s1] at hx
  have low : ∀ b, b < w.heap.size → gv.ownBlock ≠ some b → W6.heap[b]? = w.heap[b]? := fun b hb hn => (hg.block b (by simp; omega) (fun e => hn e.symm)).trans (Below.heap_alloc _ _ _ hb)
  have hne : v6.ownBlock ≠ some wb := fun e => by
    rcases hx with q | q
    · exact h.n2 (q.symm.trans e)
    · rw [q] at e; injection e with e; have := hlt.1; omega
  have hh : W6.heap[wb]? = w.heap[wb]? := low wb hlt.1 h.n2
  have oth : ∀ b, b ≠ wb → (W6.setCell ⟨wb, 1, none⟩ v6).heap[b]? = W6.heap[b]? := fun b hb => Below.heap_setCell _ _ _ _ hb
  have hk : KeepsOthers (w.alloc o) W6 := KeepsOthers.of_grownBy hg (fun j o e ho => by
    obtain ⟨_, ⟨e1, _⟩ | ⟨g, cap, cur, e1, _, e2, _⟩⟩ := h.rowG
    · rw [e1] at e; cases e
    · rw [e1] at e
      cases e
      rw [Below.heap_alloc _ _ _ (ltH e2), e2] at ho
      cases ho
      rfl)
  have hch := chg_add (wb := wb) (j := 1) (v6 := v6) hlt.1 (fun b hb => hlt.2.2 b hb) hg hk
  have how : v6.ownBlock = gv.ownBlock ∨ ∃ b, v6.ownBlock = some b ∧ w.heap.size ≤ b := by
    rcases hx with q | q
    · exact .inl q
    · exact .inr ⟨_, q, by omega⟩
  refine ⟨⟨?_, ?_, ?_, h.n1, hne, fun b hb e => ?_⟩, hh, hch, how⟩
  · rw [setCell_heap _ _ _ _ _ _ _ (hh.trans h.head)]; rfl
  · exact own_same h.rowL (fun b hb => (oth b (fun e => h.n1 (by rw [← e]; exact hb))).trans (low b (hlt.2.1 b hb) (fun e => h.n3 b hb e)))
  · rw [List.length_append, List.map_append]
    exact own_same hv (fun b hb => oth b (fun e => hne (by rw [← e]; exact hb)))
  · rcases hx with q | q
    · exact h.n3 b hb (q.symm.trans e)
    · rw [q] at e; injection e with e; have := hlt.2.1 b hb; omega
theorem src_newQ (w : World) (x : EvE) (B : Nat) (hB : w.heap.size = B) : SrcOf (w.alloc (.cells ⟨earC x⟩ 40)) 8 (.slice (some ⟨B, 0, none⟩) 1 1) 1 (earC x) := by
  subst hB
  refine ⟨rfl, fun u hu => ?_, _, _, rfl, .inr ⟨_, rfl, ?_⟩⟩
  · simp only [earC, List.mem_cons, List.not_mem_nil, or_false] at hu
    rcases hu with rfl | rfl | rfl | rfl | rfl | rfl | rfl | rfl <;> rfl
  · exact news_new w ⟨earC x⟩ 40 _ rfl
theorem src_newB (w : World) (B : Nat) (hB : w.heap.size = B) : SrcOf (w.alloc (.cells #[.bool false] 4)) 1 (.slice (some ⟨B, 0, none⟩) 1 1) 1 [.bool false] := by
  subst hB
  refine ⟨rfl, fun u hu => ?_, _, _, rfl, .inr ⟨_, rfl, ?_⟩⟩
  · simp only [List.mem_cons, List.not_mem_nil, or_false] at hu
    subst hu
    rfl
  · exact news_new w #[.bool false] 4 _ rfl
def QAddPost (w : World) (wb : Nat) (lv gv : Value) (E : List EvS) (z : Int) (e : Ending) (w' : World) : Prop :=
  ∃ lv' gv', e = .returned (.int .i64 z) ∧ QEs w' wb lv' gv' E ∧ Chg (fun b => b = wb ∨ lv.ownBlock = some b ∨ gv.ownBlock = some b) w w' ∧ (lv'.ownBlock = lv.ownBlock ∨ ∃ b, lv'.ownBlock = some b ∧ w.heap.size ≤ b) ∧ (gv'.ownBlock = gv.ownBlock ∨ ∃ b, gv'.ownBlock = some b ∧ w.heap.size ≤ b)
set_option maxHeartbeats 8000000 in
set_option maxRecDepth 100000 in
theorem qadd_good {w : World} {wb : Nat} {lv gv : Value} {E : List EvS} (h : QEs w wb lv gv E) (x : EvE) (q1 : ¬ 200 ≤ E.length) (q2 : ¬ x.name.size = 0) (q3 : ¬ 40 < x.name.size) :
    Calls Tryd.prog 9 #[.pointer (some ⟨wb, 0, none⟩), .agg #[.int .i64 x.node, .string x.name, .bool x.down, .bool x.once, .bool x.calm, .bool x.stop, .bool x.now, .bool x.bar]] w (QAddPost w wb lv gv (E ++ [⟨x, false⟩]) E.length) := by
  obtain ⟨i0, hi, hz0, hz1, hz2⟩ := info_parts Tryd.infoQearF
  obtain ⟨i1, hi1, hy0, hy1, hy2⟩ := info_parts Tryd.infoBoolF
  obtain ⟨la, lc, hlv, hl1, hl2, hl3⟩ := own_shapeF h.rowL
  obtain ⟨ga, gc, hgv, hg1, hg2, hg3⟩ := own_shapeF h.rowG
  have hwb := h.lt.1
  have HB : Hid (∀ m, QEs ((w.alloc (.cells ⟨earC x⟩ 40)).drewN m) wb lv gv E) := fun m => (h.below ((Below.refl _ w).alloc (Nat.le_refl _) _)).below ⟨rfl, rfl, rfl, Nat.le_refl _, fun _ _ => rfl⟩
  obtain ⟨c0, c1, cf⟩ := (HB.out 0).cells
  obtain ⟨p0, p1, pf⟩ := h.cells
  have q1' : ¬ (200 : Int) ≤ (E.length : Int) := by omega
  have q2' : (x.name.toList == []) = false := by rw [size_pos_toList]; simpa using q2
  have q3' : ¬ (40 : Int) < (x.name.size : Int) := by omega
  have HOWL : Hid (∀ m (o : Obj), (((w.alloc (.cells ⟨earC x⟩ 40)).drewN m).alloc o).ownsRow 0 40 8 lv E.length (earsC E)) := fun m o => (HB.out m).rowL.alloc o
  clear h
  subst hlv
  subst hgv
  go_enter Tryd.func9, Tryd.ntmps9
  conv => arg 2; dsimp only
  go_upto_region 3 with fail
  obtain ⟨w1, hw1⟩ : ∃ w9, w9 = w.alloc (.cells ⟨earC x⟩ 40) := ⟨_, rfl⟩
  have hW : w.alloc (.cells #[.int .i64 x.node, .string x.name, .bool x.down, .bool x.once, .bool x.calm, .bool x.stop, .bool x.now, .bool x.bar] 40) = w1 := hw1.symm
  rw [hW]
  have hBX : w1.heap[w.heap.size]? = some (.cells ⟨earC x⟩ 40 (0, 0)) := by rw [hw1]; exact heap_alloc_new w _
  obtain ⟨b0, b1, b2, b3, b4, b5, b6, b7⟩ := qear_cells hBX
  have HC1 : Hid (∀ m, Chg (fun b => b = wb ∨ (Value.slice la E.length lc).ownBlock = some b ∨ (Value.slice ga E.length gc).ownBlock = some b) w (w1.drewN m) ∧ w.heap.size ≤ (w1.drewN m).heap.size) := fun m => by
    have h1 := (Chg.refl (fun b => b = wb ∨ (Value.slice la E.length lc).ownBlock = some b ∨ (Value.slice ga E.length gc).ownBlock = some b) w).alloc (.cells ⟨earC x⟩ 40)
    rw [← hw1] at h1
    exact ⟨⟨h1.os, h1.tape, h1.output, h1.size, h1.block, ⟨h1.kept.1, h1.kept.2⟩⟩, h1.size⟩
  rw [← hw1] at HB HOWL c0 c1 cf
  clear hW hw1 p0 p1 pf hBX
  obtain ⟨c0, c1, cf⟩ := (HB.out 1).cells
  obtain ⟨d0, d1, df⟩ : _ := (show QEs w1 wb _ _ _ from HB.out 0).cells
  have hwb1 : wb < w1.heap.size := (show QEs w1 wb _ _ _ from HB.out 0).lt.1
  go_region_law (refine step_app_ownE _ (by rfl) (.tmp 27) (.tmp 29) 35 (by rfl) 0 40 i0 _ 8 32 Tryd.underlying35 hi hz0 hz1 hz2 rfl (by decide) (.slice la E.length lc) E.length (earsC E) (by simp [Act.eval]) (HOWL.out 1 _) (.slice (some ⟨w1.heap.size, 0, none⟩) 1 1) 1 (earC x) (by simp [Act.eval]) (src_newQ _ x _ rfl) (by unfold maxLen; omega) (by omega) (Nat.zero_le _) ?_; intro v6 w6 hv6 hg6 hx6; obtain ⟨a6, c6, rfl, s61, s62, _⟩ := own_shapeF hv6; have HL := hid ((HB.out 1).two.addL (x := x) (by rw [List.length_map, ← earsC_map]; exact hv6) hg6 hx6); have hh6 := HL.out.2.1.trans (HB.out 1).head; have y0 : w6.cell? ⟨wb, 0, none⟩ = some (.slice la E.length lc) := by { rw [cell_of_row _ _ _ _ _ _ hh6]; rfl }; have yf : ∀ j, w6.frozen? ⟨wb, j, none⟩ = false := fun j => by { simp [World.frozen?, hh6] }; clear hv6 hg6 hx6 hh6)
  all_goals
    obtain ⟨w8, hw8⟩ : ∃ w9, w9 = w6.setCell ⟨wb, 0, none⟩ (.slice a6 (E.length + 1) c6) := ⟨_, rfl⟩
    rw [← hw8] at HL
    have hh8 := HL.out.1.head
    have z1 : w8.cell? ⟨wb, 1, none⟩ = some (.slice ga E.length gc) := by rw [cell_of_row _ _ _ _ _ _ hh8]; rfl
    have HOWG : Hid (∀ (o : Obj), (w8.alloc o).ownsRow 0 4 1 (.slice ga E.length gc) E.length ((E.map (·.gone)).map .bool)) := fun o => by have := HL.out.1.rowG; rw [List.length_map] at this; exact this.alloc o
    have hwb8 : wb < w8.heap.size := HL.out.1.lt.1
    clear hh8
    rw [← hw8]
    clear hw8
    go_wp2_with (at_builtin; refine wpList_app_own _ (by rfl) (.tmp 37) (.tmp 38) 36 (by rfl) 0 4 i1 _ 1 1 Tryd.underlying36 hi1 hy0 hy1 hy2 rfl (by decide) (.slice ga E.length gc) E.length ((E.map (·.gone)).map .bool) (by rfl) (HOWG.out _) (.slice (some ⟨w8.heap.size, 0, none⟩) 1 1) 1 [.bool false] (by rfl) (src_newB _ _ rfl) (by unfold maxLen; omega) (by omega) (Nat.zero_le _) ?_; intro v7 w7 hv7 hg7 hx7; obtain ⟨a7, c7, rfl, s71, s72, _⟩ := own_shapeF hv7; have HG := hid (HL.out.1.addG (x := false) (by rw [List.length_map]; exact hv7) hg7 hx7); have hh7 := HG.out.2.1.trans HL.out.1.head; have x0 : w7.cell? ⟨wb, 1, none⟩ = some (.slice ga E.length gc) := by { rw [cell_of_row _ _ _ _ _ _ hh7]; rfl }; have x1 : w7.cell? ⟨wb, 0, none⟩ = some (.slice a6 (E.length + 1) c6) := by { rw [cell_of_row _ _ _ _ _ _ hh7]; rfl }; have xf : ∀ j, w7.frozen? ⟨wb, j, none⟩ = false := fun j => by { simp [World.frozen?, hh7] }; clear hv7 hg7 hx7 hh7)
    all_goals go_ret
    all_goals
      obtain ⟨HC2, hz1⟩ := HC1.out 1
      have C6 := HL.out.2.2.1
      have C7 := HG.out.2.2.1
      have hz8 := C6.size
      have O6 := HL.out.2.2.2
      have O7 := HG.out.2.2.2
      refine ⟨_, _, rfl, QE2.one (by rw [List.map_append, List.map_append]; exact HG.out.1), (HC2.trans C6 (fun q _ hq => ?_)).trans C7 (fun q _ hq => ?_), ?_, ?_⟩
      · rcases hq with hq | hq
        · exact .inl hq
        · exact .inr (.inl hq)
      · rcases hq with hq | hq
        · exact .inl hq
        · exact .inr (.inr hq)
      · rcases O6 with q | ⟨b, q, hb⟩
        · exact .inl q
        · exact .inr ⟨b, q, by omega⟩
      · rcases O7 with q | ⟨b, q, hb⟩
        · exact .inl q
        · exact .inr ⟨b, q, by omega⟩
set_option maxHeartbeats 8000000 in
set_option maxRecDepth 100000 in
theorem qadd_any {w : World} {wb : Nat} {lv gv : Value} {E : List EvS} (h : QEs w wb lv gv E) (x : EvE) (hxs : x.name.size ≤ 9223372036854775807) (hE : E.length ≤ 1000) :
    Calls Tryd.prog 9 #[.pointer (some ⟨wb, 0, none⟩), .agg #[.int .i64 x.node, .string x.name, .bool x.down, .bool x.once, .bool x.calm, .bool x.stop, .bool x.now, .bool x.bar]] w (QAddPost w wb lv gv (addR E x).1 (addR E x).2) := by
  have bad : (200 ≤ E.length ∨ x.name.size = 0 ∨ 40 < x.name.size) → Hid (QAddPost w wb lv gv (addR E x).1 (addR E x).2 (.returned (.int .i64 (-1))) (w.alloc (.cells ⟨earC x⟩ 40))) := fun hb => by
    have e : addR E x = (E, -1) := by unfold addR; rw [if_pos hb]
    rw [e]
    exact ⟨lv, gv, rfl, h.below ((Below.refl _ w).alloc (Nat.le_refl _) _), (Chg.refl _ w).alloc _, .inl rfl, .inl rfl⟩
  obtain ⟨la, lc, hlv, hl1, hl2, hl3⟩ := own_shapeF h.rowL
  obtain ⟨p0, p1, pf⟩ := h.cells
  have hwb := h.lt.1
  have H := hid h
  clear h
  by_cases q1 : 200 ≤ E.length
  · have HB := bad (.inl q1)
    have q1' : (200 : Int) ≤ (E.length : Int) := by omega
    clear bad
    subst hlv
    go_enter Tryd.func9, Tryd.ntmps9
    go_wp2
    go_ret
    exact HB.out
  · have q1' : ¬ (200 : Int) ≤ (E.length : Int) := by omega
    by_cases q2 : x.name.size = 0
    · have HB := bad (.inr (.inl q2))
      have q2' : (x.name.toList == []) = true := by rw [size_pos_toList]; simpa using q2
      have q2i : (x.name.size : Int) = 0 := by omega
      clear bad
      subst hlv
      go_enter Tryd.func9, Tryd.ntmps9
      go_wp2
      go_ret
      exact HB.out
    · by_cases q3 : 40 < x.name.size
      · have HB := bad (.inr (.inr q3))
        have q2i : ¬ (x.name.size : Int) = 0 := by omega
        have q3' : (40 : Int) < (x.name.size : Int) := by omega
        clear bad
        subst hlv
        go_enter Tryd.func9, Tryd.ntmps9
        go_wp2
        go_ret
        exact HB.out
      · have e : addR E x = (E ++ [⟨x, false⟩], (E.length : Int)) := by
          unfold addR
          rw [if_neg (by omega)]
        rw [e]
        exact qadd_good H.out x q1 q2 q3
end Go.Proofs.YtlfepdecgfcifaaDoor

/- The law's sameCalls. -/
namespace Go.Proofs.YtlfepdecgfcifaaDoor
open Go.RowKit Go.BigFrame
set_option linter.unusedVariables false
attribute [local go_sem] Oper.semAt_some
theorem callsC_getE : ∀ (l : List EvC) (k : Nat) (s : EvC), l[k]? = some s → ∀ (j : Nat) (u : Value), (callC s)[j]? = some u → (callsC l)[k * 3 + j]? = some u
  | [], k, s, h, _, _, _ => by simp at h
  | y :: l, 0, s, h, j, u, hj => by
    simp only [List.getElem?_cons_zero, Option.some.injEq] at h
    subst h
    have hl : j < (callC y).length := (List.getElem?_eq_some_iff.1 hj).1
    rw [Nat.zero_mul, Nat.zero_add]
    show (callC y ++ callsC l)[j]? = _
    rw [List.getElem?_append_left hl]
    exact hj
  | y :: l, k + 1, s, h, j, u, hj => by
    show (callC y ++ callsC l)[(k + 1) * 3 + j]? = _
    rw [List.getElem?_append_right (by show 3 ≤ _; omega)]
    have : (k + 1) * 3 + j - (callC y).length = k * 3 + j := by show (k + 1) * 3 + j - 3 = _; omega
    rw [this]
    exact callsC_getE l k s (by simpa using h) j u hj
theorem call_cells {w : World} {B g c : Nat} {t : TypeId} {l : List EvC} (h : w.ownsRow B t 3 (.slice (some ⟨g, 0, none⟩) l.length c) l.length (callsC l)) {k : Nat} {s : EvC} (hs : l[k]? = some s) : w.cell? ⟨g, k * 3, none⟩ = some (.int .i64 s.ear) ∧ w.cell? ⟨g, k * 3 + 1, none⟩ = some (.int .i64 s.node) ∧ w.cell? ⟨g, k * 3 + 2, none⟩ = some (.int .i64 s.phase) := by
  have hl : k < l.length := (List.getElem?_eq_some_iff.1 hs).1
  have g : ∀ j u, (callC s)[j]? = some u → w.cell? ⟨g, k * 3 + j, none⟩ = some u := fun j u hj => by
    have hj3 : j < 3 := (List.getElem?_eq_some_iff.1 hj).1
    rw [h.cellAt (k * 3 + j) (by omega)]
    exact callsC_getE l k s hs j u hj
  exact ⟨g 0 _ rfl, g 1 _ rfl, g 2 _ rfl⟩
set_option maxHeartbeats 4000000 in
set_option maxRecDepth 100000 in
theorem sameCalls_any {w : World} {v u : Value} {l : List EvC} {B B2 : Nat} {t1 t2 : TypeId} (hv : w.ownsRow B t1 3 v l.length (callsC l)) (hu : w.ownsRow B2 t2 3 u l.length (callsC l)) :
    Calls Tryd.prog 14 #[v, u] w fun e w' => e = .returned (.bool true) ∧ Hid (∃ m, w' = w.drewN m) := by
  obtain ⟨a, c, rfl, h1, h2, ha⟩ := own_shapeF hv
  obtain ⟨b, d, rfl, h3, h4, hb⟩ := own_shapeF hu
  have HV := hid hv
  have HU := hid hu
  clear hv hu
  go_enter Tryd.func14, Tryd.ntmps14
  go_wp2_with fail
  go_loopw [5] (fun i wr => ∃ k : Nat, k ≤ l.length ∧ i = .int .i64 k ∧ Hid (∃ m, wr = w.drewN m)) (fun i _ => l.length - (intOf i).toNat)
  case atStart => exact ⟨0, by omega, rfl, 0, rfl⟩
  case round =>
    obtain ⟨k, hk, rfl, HM⟩ := hrel
    obtain ⟨m, rfl⟩ := HM.out
    by_cases hlt : k < l.length
    · obtain ⟨s, hs⟩ : ∃ s, l[k]? = some s := ⟨_, List.getElem?_eq_getElem hlt⟩
      obtain ⟨g, rfl⟩ := ha (by omega)
      obtain ⟨g2, rfl⟩ := hb (by omega)
      obtain ⟨c0, c1, c2⟩ := call_cells HV.out hs
      obtain ⟨e0, e1, e2⟩ := call_cells HU.out hs
      have j1 : (k : Int) < (l.length : Int) := by omega
      have hmx : Tryd.prog.follows Departure.mixedOrders = true := by kernel_rfl
      go_upto_region 6 with fail
      go_cut [53] from 17 to 53 (fun s wx => s = .bool false ∧ Hid (∃ m, wx = w.drewN m))
      case first =>
        go_quiet (fail)
        go_wp2_with fail
        go_meet
        exact ⟨rfl, m + _, by unfold World.drewN; simp only; rw [Nat.add_assoc]⟩
      case rest =>
      obtain ⟨rfl, HM2⟩ := hcut
      obtain ⟨m2, rfl⟩ := HM2.out
      go_wp2_with fail
      go_roundw
      case rel => exact ⟨k + 1, by omega, by go_num, hid ⟨_, rfl⟩⟩
      case measure => simp [intOf]; omega
    · obtain rfl : k = l.length := by omega
      go_wp2_with fail
      go_ret
      exact ⟨rfl, hid ⟨_, rfl⟩⟩
end Go.Proofs.YtlfepdecgfcifaaDoor
