/- Package events: a node is visited: both rows of ears. -/
import Derived.Test.YtlfepdecgfcifaaDoorEvVisit
namespace Go.Proofs.YtlfepdecgfcifaaDoor
open Go.RowKit Go.BigFrame
set_option linter.unusedVariables false
attribute [local go_sem] Oper.semAt_some

set_option maxHeartbeats 32000000 in
set_option maxRecDepth 100000 in
theorem visit2_any {n : Nat} {w : World} {sb eb : Nat} {v cv : Value} {xb : List Nat} {name : ByteArray} {st : EvT} (h : SdAt n w sb eb v xb name st cv) (node ph : Int) {db cap : Nat} (hdb : db < w.heap.size) (hdn : n ≤ db) (hdc : cv.ownBlock ≠ some db) (hd : w.cell? ⟨db, 0, none⟩ = some (.bool true)) (hdd : w.cell? ⟨db, 1, none⟩ = some (.bool false)) (hcap : 2 ≤ cap ∧ cap ≤ 1000) (hc : st.calls.length + 2 * st.E.length ≤ 900000) (hE : st.E.length ≤ 1000) :
    Calls Tryd.prog 53 #[.pointer (some ⟨sb, 0, none⟩), .int .i64 node, .int .i64 ph, .slice (some ⟨db, 0, none⟩) 2 cap] w fun e w' => e = .returned (.tuple #[]) ∧ PostS n w cv sb eb v xb name (visP node ph name [true, false] st) w' := by
  refine (callsIn_wide (n := 5)).1 ?_
  refine callsIn_of_wp_marks Tryd.func53 rfl trivial ?_ rfl
  simp only [Tryd.ntmps53, List.size_toArray, List.length_cons, List.length_nil, Nat.reduceAdd, Nat.reduceSub, Array.replicate_succ, Array.replicate_zero, List.push_toArray, List.append_toArray, List.nil_append, List.cons_append]
  have hmx : Tryd.prog.follows Departure.mixedOrders = true := by kernel_rfl
  have hnle := h.nle
  have hB31 : Below w.heap.size w (((w.alloc (.cells #[.pointer (some ⟨sb, 0, none⟩)] 86)).alloc (.cells #[.int .i64 node] 3)).alloc (.cells #[.int .i64 ph] 3)) := (((Below.refl _ w).alloc (Nat.le_refl _) _).alloc (by simp) _).alloc (by simp; omega) _
  have h31 := h.below hB31
  obtain ⟨c0, c1, c2, c3, c4, fz⟩ := h31.cells
  have hd3 := (hB31.cell (p := ⟨db, 0, none⟩) hdb).trans hd
  have hde := (hB31.cell (p := ⟨db, 1, none⟩) hdb).trans hdd
  cases he : st.ended
  · rw [he] at c4
    gi_wp2
    obtain ⟨W3, hW3⟩ : ∃ W3, W3 = (((w.alloc (.cells #[.pointer (some ⟨sb, 0, none⟩)] 86)).alloc (.cells #[.int .i64 node] 3)).alloc (.cells #[.int .i64 ph] 3)) := ⟨_, rfl⟩
    obtain ⟨k01, k11, k21⟩ := three_newE w (.pointer (some ⟨sb, 0, none⟩)) (.int .i64 node) (.int .i64 ph) 86 3 3
    have s3 : W3.heap.size = w.heap.size + 1 + 1 + 1 := by rw [hW3]; simp
    rw [← hW3] at hB31 h31 c0 c1 c2 c3 c4 fz hd3 k01 k11 k21 hde ⊢
    clear hW3 hd
    have T31 := Tn.of_below sb v cv hB31
    have hco1 : ∀ b, w.heap.size ≤ b → b ≤ w.heap.size + 1 + 1 → cv.ownBlock ≠ some b := fun b hb _ e => by have := (h.own.lt b e).2; omega
    refine wpIn_loop_rounds 3 ?_
    rw [roundsIn_succ]
    gi_wp2
    refine wpIn_region_pre2 10 rfl hmx (by kernel_rfl) (by kernel_rfl) (by kernel_rfl) (by kernel_rfl) ?_
    simp only [List.take_succ_cons, List.take_zero, List.drop_succ_cons, List.drop_zero]
    repeat (gi_big_quiet_step (fail))
    refine wpQuietIn_nil ?_
    rintro _ ⟨nq, rfl⟩
    gi_wp2_with (refine ⟨trivial, ?_⟩; gi_at_call 69; refine (callsIn_wide.2 (evAt_any _ _ _ _ _)).mono ?_; rintro e w' ⟨rfl, rfl⟩)
    obtain ⟨W41, hW4⟩ : ∃ W4, W4 = atW (W3.drewN nq) eb node name true := ⟨_, rfl⟩
    have hB41 : Below W3.heap.size W3 W41 := by
      rw [hW4]
      exact Below.trans (b := W3.drewN nq) ⟨rfl, rfl, rfl, Nat.le_refl _, fun _ _ => rfl⟩ (atW_below (W3.drewN nq) eb node name true)
    have s4 : W41.heap.size = W3.heap.size + 1 + 1 + 1 + 1 := by rw [hW4]; exact atW_size ..
    obtain ⟨m0, m1, m2, m3⟩ : W41.cell? ⟨W3.heap.size, 0, none⟩ = some (.pointer (some ⟨eb, 0, none⟩)) ∧ W41.cell? ⟨W3.heap.size + 1, 0, none⟩ = some (.int .i64 node) ∧ W41.cell? ⟨W3.heap.size + 1 + 1, 0, none⟩ = some (.string name) ∧ W41.cell? ⟨W3.heap.size + 1 + 1 + 1, 0, none⟩ = some (.bool true) := by
      rw [hW4]
      exact four_newE (W3.drewN nq) _ _ _ _ _ _ _ _
    rw [← hW4]
    have h4 := h31.below hB41
    have k4 := (hB41.cell (p := ⟨w.heap.size, 0, none⟩) (by show w.heap.size < _; omega)).trans k01
    have k5 := (hB41.cell (p := ⟨w.heap.size + 1, 0, none⟩) (by show w.heap.size + 1 < _; omega)).trans k11
    have k6 := (hB41.cell (p := ⟨w.heap.size + 1 + 1, 0, none⟩) (by show w.heap.size + 1 + 1 < _; omega)).trans k21
    have hol1 : ∀ b, cv.ownBlock = some b → b < W3.heap.size := fun b hb => (h31.own.lt b hb).2
    clear hW4 c0 c1 c2 c3 c4 fz hd3
    rw [s3] at m0 m1 m2 m3
    refine wpIn_range_q rfl (by omega) (gf := 75) (lb := #[.pointer (some ⟨w.heap.size + 1 + 1 + 1, 0, none⟩), .pointer (some ⟨w.heap.size + 1 + 1 + 1 + 1, 0, none⟩), .pointer (some ⟨w.heap.size + 1 + 1 + 1 + 1 + 1, 0, none⟩), .pointer (some ⟨w.heap.size + 1 + 1 + 1 + 1 + 1 + 1, 0, none⟩)]) rfl trivial (enters_of Tryd.func75 (by kernel_rfl) rfl)
      (at_stops _ (by omega) node ph name true eb v xb (w.heap.size + 1 + 1 + 1) W41.heap.size st (by omega)) (fun _ => rfl)
      (fun pre W => VisI n cv W41 sb eb v xb name st node ph pre W) (fun c pre W => VisX n cv W41 sb eb v xb name st node ph true c pre W)
      (fun pre W hI => ⟨hI.1.choose_spec.1.pe, hI.2, hI.cell (by omega) (fun e => by have := hol1 _ e; omega) m0, hI.cell (by omega) (fun e => by have := hol1 _ e; omega) m1, hI.cell (by omega) (fun e => by have := hol1 _ e; omega) m2, hI.cell (by omega) (fun e => by have := hol1 _ e; omega) m3⟩) (visI_own (Nat.le_refl _)) (visX_own (Nat.le_refl _))
      ⟨⟨cv, h4, Tn.refl sb v W41 cv⟩, by simp⟩
      (fun x a' W => ∃ Bx, W41.heap.size ≤ Bx ∧ W.heap[Bx]? = some (.cells ⟨earC x.2⟩ 44 (0, 0)) ∧ a' = { tmps := #[.pointer (some ⟨sb, 0, none⟩), .int .i64 node, .int .i64 ph, .slice (some ⟨db, 0, none⟩) 2 cap, .pointer (some ⟨w.heap.size, 0, none⟩), .pointer (some ⟨w.heap.size + 1, 0, none⟩), .pointer (some ⟨w.heap.size + 1 + 1, 0, none⟩), undef, undef, .bool true, .int .i64 x.1, .pointer (some ⟨Bx, 0, none⟩), .pointer (some ⟨sb, 0, none⟩), .pointer (some ⟨sb, 0, none⟩), .pointer (some ⟨sb, 4, none⟩), .bool false, .slice (some ⟨db, 0, none⟩) 2 cap, .int .i64 2, .int .i64 0, .bool true, .pointer (some ⟨db, 0, none⟩), .bool true, .pointer (some ⟨sb, 0, none⟩), .pointer (some ⟨sb, 0, none⟩), .pointer (some ⟨sb, 0, none⟩), .pointer (some ⟨eb, 0, none⟩), .int .i64 node, .pointer (some ⟨sb, 0, none⟩), .pointer (some ⟨sb, 0, none⟩), .pointer (some ⟨sb, 1, none⟩), .string name, .bool true, .func (.func 75) #[] #[.pointer (some ⟨w.heap.size + 1 + 1 + 1, 0, none⟩), .pointer (some ⟨w.heap.size + 1 + 1 + 1 + 1, 0, none⟩), .pointer (some ⟨w.heap.size + 1 + 1 + 1 + 1 + 1, 0, none⟩), .pointer (some ⟨w.heap.size + 1 + 1 + 1 + 1 + 1 + 1, 0, none⟩)], .int .i64 x.1, .agg ⟨earC x.2⟩, undef, undef, undef, undef, undef, undef, undef, undef, undef], defers := [] })
      ?hAx1 ?assign1 ?body1 ?done1 ?stop1
    case hAx1 =>
      rintro x a' _ X Y row ⟨Bx, q1, q2, q3⟩ hg hr
      refine ⟨Bx, q1, (hg.block Bx (ltH q2) (fun e => ?_)).trans q2, q3⟩
      obtain ⟨_, o, e1, e2⟩ := hr Bx e.symm
      rw [q2] at e1
      cases e1
      cases e2
    case assign1 =>
      intro l pre x W K hI hK
      obtain ⟨xk, xe⟩ := x
      have hea : ∀ e : EvE, (⟨earC e⟩ : Array Value) = #[.int .i64 e.node, .string e.name, .bool e.down, .bool e.once, .bool e.calm, .bool e.stop, .bool e.now, .bool e.bar] := fun _ => rfl
      have HK := hid hK
      have HI := hid hI
      clear hK hI
      dsimp only
      rw [hea]
      gi_wp2
      obtain ⟨⟨cv', g1, g2⟩, g3⟩ := HI.out
      have hba := (Below.refl W.heap.size W).alloc (Nat.le_refl _) (.cells #[.int .i64 xe.node, .string xe.name, .bool xe.down, .bool xe.once, .bool xe.calm, .bool xe.stop, .bool xe.now, .bool xe.bar] 44)
      exact HK.out _ _ ((KeepsOthers.alloc _ _).from _) ⟨⟨cv', g1.below hba, g2.trans (Tn.of_below sb v cv' hba)⟩, g3⟩ ⟨W.heap.size, g2.kept.size, heap_alloc_new W _, rfl⟩
    case body1 =>
      rintro l pre ⟨xk, xe⟩ a' W hl hI ⟨Bx, hBx, hbx, rfl⟩ hN
      have c4 := hI.cell (by omega) (hco1 _ (Nat.le_refl _) (by omega)) k4
      have c5 := hI.cell (by omega) (hco1 _ (by omega) (by omega)) k5
      have c6 := hI.cell (by omega) (hco1 _ (by omega) (by omega)) k6
      obtain ⟨⟨cv1, g1, g2⟩, g3⟩ := id hI
      have HH : Hid (Calls Tryd.prog 70 #[.pointer (some ⟨sb, 0, none⟩), .int .i64 xk, .int .i64 node, .int .i64 ph, .agg #[.int .i64 xe.node, .string xe.name, .bool xe.down, .bool xe.once, .bool xe.calm, .bool xe.stop, .bool xe.now, .bool xe.bar]] W fun e w' => e = .returned (.tuple #[]) ∧ PostS n W cv1 sb eb v xb name (hearT (evS st node ph pre) xk node ph xe) w') :=
        hear_any g1 xk node ph xe hN.2.2.1 (by have := evS_calls st node ph hN.1 ; omega)
      obtain ⟨e0, e1, e2, e3, e4, e5, e6, e7⟩ := ear_cells hbx
      have hne : cv1.ownBlock ≠ some Bx := fun e => by
        obtain ⟨_, ⟨r1, _⟩ | ⟨g', cap', cur', r1, _, r2, _⟩⟩ := g1.own
        · rw [r1] at e; cases e
        · rw [r1] at e
          cases e
          rw [hbx] at r2
          cases r2
      have HB : Hid (∀ W' cv2, Tn sb v W cv1 W' cv2 → W'.heap[Bx]? = some (.cells ⟨earC xe⟩ 44 (0, 0))) := fun W' cv2 ht => (ht.block Bx (ltH hbx) (by have := g1.lts; have := g1.nle; omega) (fun e => by have := g1.ltv _ e; omega) hne).trans hbx
      have HG := hid (And.intro g2 g3)
      have HN := hid hN
      clear hI g1 g2 g3 hbx hne hN
      gi_wp2_with (refine ⟨trivial, ?_⟩; gi_at_call 70; refine (CallsIn.inRound l (callsIn_wide.2 HH.out)).mono ?_; clear HH; rintro e W5 ⟨rfl, cv2, t1, t2⟩; have HT := hid (And.intro t1 t2); obtain ⟨_, _, _, _, _, _, f6, _⟩ := ear_cells (HB.out _ _ t2); clear t1 t2)
      · have hnow : xe.now = true := by assumption
        refine ⟨HT.out.2.kept.from _, ⟨cv2, ?_, HG.out.1.trans HT.out.2⟩, ?_⟩
        · rw [evS_snoc]; exact HT.out.1
        · rw [evPos.hear HN.out, if_pos hnow]
      · have hnow : xe.now = false := by first | assumption | (simp_all; done)
        refine ⟨HT.out.2.kept.from _, ⟨cv2, ?_, HG.out.1.trans HT.out.2⟩, fun y hy => ?_⟩
        · rw [evS_snoc]; exact HT.out.1
        · rcases List.mem_append.1 hy with hy | hy
          · exact HG.out.2 y hy
          · rw [List.mem_singleton] at hy; subst hy; exact hnow
    case stop1 =>
      rintro D pre W hD _ hX hK
      have HE : Hid (visP node ph name [true, false] st = evS st node ph pre) := by
        show _ = _
        rw [visP2n he hX.2]
      obtain ⟨⟨cv', g1, g2⟩, _⟩ := hX
      have g0 := T31.trans ((Tn.of_below sb v cv hB41).trans g2)
      have p1 : SdAt n (W.putObj D (.deferred none)) sb eb v xb name (evS st node ph pre) cv' := g1.grown (grownBy_putObj' W D (.deferred none)) (fun r e => by cases e; exact ⟨_, hK, rfl⟩)
      have t1 : Tn sb v w cv (W.putObj D (.deferred none)) cv' := Tn.grown g0 (grownBy_putObj' W D (.deferred none)) (fun r e => by cases e; omega)
      have HQ : Hid (PostS n w cv sb eb v xb name (visP node ph name [true, false] st) (W.putObj D (.deferred none))) := by
        rw [HE.out]
        exact ⟨cv', p1, t1⟩
      clear HE g1 g2 g0 p1 t1
      gi_wp2
      refine ⟨by simp, .inl ⟨_, _, rfl, run_takeDeferred hK, ?_⟩⟩
      exact ⟨_, results_none rfl _ _ _, rfl, HQ.out⟩
    case done1 =>
      intro D1 xs W hD1 hS1 hI hK1
      have k02 := hI.cell (by omega) (hco1 _ (Nat.le_refl _) (by omega)) k4
      have k12 := hI.cell (by omega) (hco1 _ (by omega) (by omega)) k5
      have k22 := hI.cell (by omega) (hco1 _ (by omega) (by omega)) k6
      have hd3 := (hI.cell (by omega) hdc ((hB41.cell (p := ⟨db, 1, none⟩) (by show db < _; omega)).trans hde))
      obtain ⟨⟨cvr, h32, g2⟩, _⟩ := hI
      have T32 := T31.trans ((Tn.of_below sb v cv hB41).trans g2)
      have sz2 := g2.kept.size
      have hco2 : ∀ b, w.heap.size ≤ b → b ≤ w.heap.size + 1 + 1 → cvr.ownBlock ≠ some b := fun b hb1 hb2 e => by
        rcases T32.own with q | ⟨q, q1, q2⟩
        · rw [e] at q
          have := (h.own.lt b q.symm).2
          omega
        · rcases g2.own with r | ⟨r, r1, r2⟩
          · exact hco1 b hb1 hb2 (r.symm.trans e)
          · rw [e] at r1; cases r1; omega
      obtain ⟨str, hstr⟩ : ∃ s, s = evS st node ph xs := ⟨_, rfl⟩
      rw [← hstr] at h32 hS1
      have hlr : str.E.length = st.E.length := by rw [hstr]; exact evS_len st node ph xs
      have hcr : str.calls.length ≤ st.calls.length + st.E.length := by
        have := visF_calls node ph name true st.E.length 0 st
        rw [hS1] at this
        exact this
      clear hstr
      obtain ⟨c0, c1, c2, c3, c4, fz⟩ := h32.cells
      obtain ⟨B2, hB2⟩ : ∃ B2, W.heap.size = B2 := ⟨_, rfl⟩
      have hD1l := ltH hK1
      clear k4 k5 k6 m0 m1 m2 m3 h4 g2
      gi_wp2
      rw [roundsIn_succ]
      gi_wp2
      refine wpIn_region_pre2 10 rfl hmx (by kernel_rfl) (by kernel_rfl) (by kernel_rfl) (by kernel_rfl) ?_
      simp only [List.take_succ_cons, List.take_zero, List.drop_succ_cons, List.drop_zero]
      repeat (gi_big_quiet_step (fail))
      refine wpQuietIn_nil ?_
      rintro _ ⟨nq, rfl⟩
      gi_wp2_with (refine ⟨trivial, ?_⟩; gi_at_call 69; refine (callsIn_wide.2 (evAt_any _ _ _ _ _)).mono ?_; rintro e w' ⟨rfl, rfl⟩)
      obtain ⟨W42, hW4⟩ : ∃ W4, W4 = atW (W.drewN nq) eb node name false := ⟨_, rfl⟩
      have hB42 : Below W.heap.size W W42 := by
        rw [hW4]
        exact Below.trans (b := W.drewN nq) ⟨rfl, rfl, rfl, Nat.le_refl _, fun _ _ => rfl⟩ (atW_below (W.drewN nq) eb node name false)
      have s4 : W42.heap.size = W.heap.size + 1 + 1 + 1 + 1 := by rw [hW4]; exact atW_size ..
      obtain ⟨m0, m1, m2, m3⟩ : W42.cell? ⟨W.heap.size, 0, none⟩ = some (.pointer (some ⟨eb, 0, none⟩)) ∧ W42.cell? ⟨W.heap.size + 1, 0, none⟩ = some (.int .i64 node) ∧ W42.cell? ⟨W.heap.size + 1 + 1, 0, none⟩ = some (.string name) ∧ W42.cell? ⟨W.heap.size + 1 + 1 + 1, 0, none⟩ = some (.bool false) := by
        rw [hW4]
        exact four_newE (W.drewN nq) _ _ _ _ _ _ _ _
      rw [← hW4]
      have h4 := h32.below hB42
      have k4 := (hB42.cell (p := ⟨w.heap.size, 0, none⟩) (by show w.heap.size < _; omega)).trans k02
      have k5 := (hB42.cell (p := ⟨w.heap.size + 1, 0, none⟩) (by show w.heap.size + 1 < _; omega)).trans k12
      have k6 := (hB42.cell (p := ⟨w.heap.size + 1 + 1, 0, none⟩) (by show w.heap.size + 1 + 1 < _; omega)).trans k22
      have hol2 : ∀ b, cvr.ownBlock = some b → b < W.heap.size := fun b hb => (h32.own.lt b hb).2
      clear hW4 c0 c1 c2 c3 c4 fz hd3
      rw [hB2] at m0 m1 m2 m3
      refine wpIn_range_q rfl (by omega) (gf := 75) (lb := #[.pointer (some ⟨B2, 0, none⟩), .pointer (some ⟨B2 + 1, 0, none⟩), .pointer (some ⟨B2 + 1 + 1, 0, none⟩), .pointer (some ⟨B2 + 1 + 1 + 1, 0, none⟩)]) rfl trivial (enters_of Tryd.func75 (by kernel_rfl) rfl)
        (at_stops _ (by omega) node ph name false eb v xb (B2) W42.heap.size str (by omega)) (fun _ => rfl)
        (fun pre W => VisI n cvr W42 sb eb v xb name str node ph pre W) (fun c pre W => VisX n cvr W42 sb eb v xb name str node ph false c pre W)
        (fun pre W hI => ⟨hI.1.choose_spec.1.pe, hI.2, hI.cell (by omega) (fun e => by have := hol2 _ e; omega) m0, hI.cell (by omega) (fun e => by have := hol2 _ e; omega) m1, hI.cell (by omega) (fun e => by have := hol2 _ e; omega) m2, hI.cell (by omega) (fun e => by have := hol2 _ e; omega) m3⟩) (visI_own (Nat.le_refl _)) (visX_own (Nat.le_refl _))
        ⟨⟨cvr, h4, Tn.refl sb v W42 cvr⟩, by simp⟩
        (fun x a' W => ∃ Bx, W42.heap.size ≤ Bx ∧ W.heap[Bx]? = some (.cells ⟨earC x.2⟩ 44 (0, 0)) ∧ a' = { tmps := #[.pointer (some ⟨sb, 0, none⟩), .int .i64 node, .int .i64 ph, .slice (some ⟨db, 0, none⟩) 2 cap, .pointer (some ⟨w.heap.size, 0, none⟩), .pointer (some ⟨w.heap.size + 1, 0, none⟩), .pointer (some ⟨w.heap.size + 1 + 1, 0, none⟩), undef, undef, .bool false, .int .i64 x.1, .pointer (some ⟨Bx, 0, none⟩), .pointer (some ⟨sb, 0, none⟩), .pointer (some ⟨sb, 0, none⟩), .pointer (some ⟨sb, 4, none⟩), .bool false, .slice (some ⟨db, 0, none⟩) 2 cap, .int .i64 2, .int .i64 1, .bool true, .pointer (some ⟨db, 1, none⟩), .bool false, .pointer (some ⟨sb, 0, none⟩), .pointer (some ⟨sb, 0, none⟩), .pointer (some ⟨sb, 0, none⟩), .pointer (some ⟨eb, 0, none⟩), .int .i64 node, .pointer (some ⟨sb, 0, none⟩), .pointer (some ⟨sb, 0, none⟩), .pointer (some ⟨sb, 1, none⟩), .string name, .bool false, .func (.func 75) #[] #[.pointer (some ⟨B2, 0, none⟩), .pointer (some ⟨B2 + 1, 0, none⟩), .pointer (some ⟨B2 + 1 + 1, 0, none⟩), .pointer (some ⟨B2 + 1 + 1 + 1, 0, none⟩)], .int .i64 x.1, .agg ⟨earC x.2⟩, undef, undef, undef, undef, undef, undef, undef, undef, .int .i64 1], defers := [] })
        ?hAx2 ?assign2 ?body2 ?done2 ?stop2
      case hAx2 =>
        rintro x a' _ X Y row ⟨Bx, q1, q2, q3⟩ hg hr
        refine ⟨Bx, q1, (hg.block Bx (ltH q2) (fun e => ?_)).trans q2, q3⟩
        obtain ⟨_, o, e1, e2⟩ := hr Bx e.symm
        rw [q2] at e1
        cases e1
        cases e2
      case assign2 =>
        intro l pre x W K hI hK
        obtain ⟨xk, xe⟩ := x
        have hea : ∀ e : EvE, (⟨earC e⟩ : Array Value) = #[.int .i64 e.node, .string e.name, .bool e.down, .bool e.once, .bool e.calm, .bool e.stop, .bool e.now, .bool e.bar] := fun _ => rfl
        have HK := hid hK
        have HI := hid hI
        clear hK hI
        dsimp only
        rw [hea]
        gi_wp2
        obtain ⟨⟨cv', g1, g2⟩, g3⟩ := HI.out
        have hba := (Below.refl W.heap.size W).alloc (Nat.le_refl _) (.cells #[.int .i64 xe.node, .string xe.name, .bool xe.down, .bool xe.once, .bool xe.calm, .bool xe.stop, .bool xe.now, .bool xe.bar] 44)
        exact HK.out _ _ ((KeepsOthers.alloc _ _).from _) ⟨⟨cv', g1.below hba, g2.trans (Tn.of_below sb v cv' hba)⟩, g3⟩ ⟨W.heap.size, g2.kept.size, heap_alloc_new W _, rfl⟩
      case body2 =>
        rintro l pre ⟨xk, xe⟩ a' W hl hI ⟨Bx, hBx, hbx, rfl⟩ hN
        have c4 := hI.cell (by omega) (hco2 _ (Nat.le_refl _) (by omega)) k4
        have c5 := hI.cell (by omega) (hco2 _ (by omega) (by omega)) k5
        have c6 := hI.cell (by omega) (hco2 _ (by omega) (by omega)) k6
        obtain ⟨⟨cv1, g1, g2⟩, g3⟩ := id hI
        have HH : Hid (Calls Tryd.prog 70 #[.pointer (some ⟨sb, 0, none⟩), .int .i64 xk, .int .i64 node, .int .i64 ph, .agg #[.int .i64 xe.node, .string xe.name, .bool xe.down, .bool xe.once, .bool xe.calm, .bool xe.stop, .bool xe.now, .bool xe.bar]] W fun e w' => e = .returned (.tuple #[]) ∧ PostS n W cv1 sb eb v xb name (hearT (evS str node ph pre) xk node ph xe) w') :=
          hear_any g1 xk node ph xe hN.2.2.1 (by have := evS_calls str node ph hN.1 ; omega)
        obtain ⟨e0, e1, e2, e3, e4, e5, e6, e7⟩ := ear_cells hbx
        have hne : cv1.ownBlock ≠ some Bx := fun e => by
          obtain ⟨_, ⟨r1, _⟩ | ⟨g', cap', cur', r1, _, r2, _⟩⟩ := g1.own
          · rw [r1] at e; cases e
          · rw [r1] at e
            cases e
            rw [hbx] at r2
            cases r2
        have HB : Hid (∀ W' cv2, Tn sb v W cv1 W' cv2 → W'.heap[Bx]? = some (.cells ⟨earC xe⟩ 44 (0, 0))) := fun W' cv2 ht => (ht.block Bx (ltH hbx) (by have := g1.lts; have := g1.nle; omega) (fun e => by have := g1.ltv _ e; omega) hne).trans hbx
        have HG := hid (And.intro g2 g3)
        have HN := hid hN
        clear hI g1 g2 g3 hbx hne hN
        gi_wp2_with (refine ⟨trivial, ?_⟩; gi_at_call 70; refine (CallsIn.inRound l (callsIn_wide.2 HH.out)).mono ?_; clear HH; rintro e W5 ⟨rfl, cv2, t1, t2⟩; have HT := hid (And.intro t1 t2); obtain ⟨_, _, _, _, _, _, f6, _⟩ := ear_cells (HB.out _ _ t2); clear t1 t2)
        · have hnow : xe.now = true := by assumption
          refine ⟨HT.out.2.kept.from _, ⟨cv2, ?_, HG.out.1.trans HT.out.2⟩, ?_⟩
          · rw [evS_snoc]; exact HT.out.1
          · rw [evPos.hear HN.out, if_pos hnow]
        · have hnow : xe.now = false := by first | assumption | (simp_all; done)
          refine ⟨HT.out.2.kept.from _, ⟨cv2, ?_, HG.out.1.trans HT.out.2⟩, fun y hy => ?_⟩
          · rw [evS_snoc]; exact HT.out.1
          · rcases List.mem_append.1 hy with hy | hy
            · exact HG.out.2 y hy
            · rw [List.mem_singleton] at hy; subst hy; exact hnow
      case done2 =>
        intro D xs W hD hS hI hK
        have HE : Hid (visP node ph name [true, false] st = evS str node ph xs) := by
          show _ = _
          rw [visP2 he hS1 hS]
        obtain ⟨⟨cv', g1, g2⟩, _⟩ := hI
        have g0 := T32.trans ((Tn.of_below sb v cvr hB42).trans g2)
        have p1 : SdAt n (W.putObj D (.deferred none)) sb eb v xb name (evS str node ph xs) cv' := g1.grown (grownBy_putObj' W D (.deferred none)) (fun r e => by cases e; exact ⟨_, hK, rfl⟩)
        have t1 : Tn sb v w cv (W.putObj D (.deferred none)) cv' := Tn.grown g0 (grownBy_putObj' W D (.deferred none)) (fun r e => by cases e; omega)
        have hk1 : (W.putObj D (.deferred none)).heap[D1]? = some (.deferred (some [])) := (World.putObj_heap_other (by omega)).trans (g2.kept.same D1 _ ((hB42.block D1 (ltH hK1)).trans hK1) rfl)
        have p2 : SdAt n ((W.putObj D (.deferred none)).putObj D1 (.deferred none)) sb eb v xb name (evS str node ph xs) cv' := p1.grown (grownBy_putObj' _ D1 (.deferred none)) (fun r e => by cases e; exact ⟨_, hk1, rfl⟩)
        have t2 : Tn sb v w cv ((W.putObj D (.deferred none)).putObj D1 (.deferred none)) cv' := Tn.grown t1 (grownBy_putObj' _ D1 (.deferred none)) (fun r e => by cases e; omega)
        have HQ : Hid (PostS n w cv sb eb v xb name (visP node ph name [true, false] st) ((W.putObj D (.deferred none)).putObj D1 (.deferred none))) := by
          rw [HE.out]
          exact ⟨cv', p2, t2⟩
        have HK1 := hid hk1
        clear hk1 p2 t2
        clear HE g1 g2 g0 p1 t1
        gi_wp2
        rw [roundsIn_succ]
        gi_wp2
        refine ⟨by simp, .inl ⟨_, _, rfl, run_takeDeferred hK, ?_⟩⟩
        refine ⟨by simp, .inl ⟨_, _, rfl, run_takeDeferred HK1.out, ?_⟩⟩
        exact ⟨_, results_none rfl _ _ _, rfl, HQ.out⟩
      case stop2 =>
        rintro D pre W hD _ hX hK
        have HE : Hid (visP node ph name [true, false] st = evS str node ph pre) := by
          show _ = _
          rw [visP2 he hS1 hX.2]
        obtain ⟨⟨cv', g1, g2⟩, _⟩ := hX
        have g0 := T32.trans ((Tn.of_below sb v cvr hB42).trans g2)
        have p1 : SdAt n (W.putObj D (.deferred none)) sb eb v xb name (evS str node ph pre) cv' := g1.grown (grownBy_putObj' W D (.deferred none)) (fun r e => by cases e; exact ⟨_, hK, rfl⟩)
        have t1 : Tn sb v w cv (W.putObj D (.deferred none)) cv' := Tn.grown g0 (grownBy_putObj' W D (.deferred none)) (fun r e => by cases e; omega)
        have hk1 : (W.putObj D (.deferred none)).heap[D1]? = some (.deferred (some [])) := (World.putObj_heap_other (by omega)).trans (g2.kept.same D1 _ ((hB42.block D1 (ltH hK1)).trans hK1) rfl)
        have p2 : SdAt n ((W.putObj D (.deferred none)).putObj D1 (.deferred none)) sb eb v xb name (evS str node ph pre) cv' := p1.grown (grownBy_putObj' _ D1 (.deferred none)) (fun r e => by cases e; exact ⟨_, hk1, rfl⟩)
        have t2 : Tn sb v w cv ((W.putObj D (.deferred none)).putObj D1 (.deferred none)) cv' := Tn.grown t1 (grownBy_putObj' _ D1 (.deferred none)) (fun r e => by cases e; omega)
        have HQ : Hid (PostS n w cv sb eb v xb name (visP node ph name [true, false] st) ((W.putObj D (.deferred none)).putObj D1 (.deferred none))) := by
          rw [HE.out]
          exact ⟨cv', p2, t2⟩
        have HK1 := hid hk1
        clear hk1 p2 t2
        clear HE g1 g2 g0 p1 t1
        gi_wp2
        refine ⟨by simp, .inl ⟨_, _, rfl, run_takeDeferred hK, ?_⟩⟩
        refine ⟨by simp, .inl ⟨_, _, rfl, run_takeDeferred HK1.out, ?_⟩⟩
        exact ⟨_, results_none rfl _ _ _, rfl, HQ.out⟩
  · rw [he] at c4
    have HP : Hid (PostS n w cv sb eb v xb name (visP node ph name [true, false] st) (((w.alloc (.cells #[.pointer (some ⟨sb, 0, none⟩)] 86)).alloc (.cells #[.int .i64 node] 3)).alloc (.cells #[.int .i64 ph] 3))) := by
      have e : visP node ph name [true, false] st = st := by unfold visP; rw [if_pos he]
      rw [e]
      exact ⟨cv, h31, Tn.of_below sb v cv hB31⟩
    gi_wp2
    refine ⟨_, results_none rfl _ _ _, rfl, ?_⟩
    exact HP.out
end Go.Proofs.YtlfepdecgfcifaaDoor
