/- The document's builder: a start tag. -/
import Derived.Test.YtkaeenafejdkfaaGreatDoorM43
namespace Go.Proofs.YtkaeenafejdkfaaGreatDoor
open Go.RowKit

theorem BAt.cell3 {B w : World} {bb p U : Nat} {ns : List Nd} {c a : Int} {M : Nat → Lab} (h : BAt B bb ns p c a U w M) {nb ln cap : Nat} (hS : w.cell? ⟨bb, 0, none⟩ = some (.slice (some ⟨nb, 0, none⟩) ln cap)) {k : Nat} {n : Nd} (hk : ns[k]? = some n) : (∃ u, w.cell? ⟨nb, k * 6 + 3, none⟩ = some u) ∧ M nb = .nodes := by
  obtain ⟨nv, uv, ps, us, h1, rfl, h3, h4⟩ := h
  obtain ⟨q, hq, rfl⟩ := nodesOf_get hk
  obtain ⟨nb2, cap2, rfl, _, _, hnM, _, _⟩ := RLies.form (EX := bExt p c a) h1 hq
  have e : nb2 = nb := by
    rw [RLies.cell0 (EX := bExt p c a) h1] at hS
    simp at hS
    exact hS.1
  subst e
  exact ⟨⟨_, (RLies.cellN (EX := bExt p c a) h1 rfl (f := 3) hq (by omega) rfl).1⟩, hnM⟩
theorem BAt.tree {B w : World} {bb p U : Nat} {ns : List Nd} {c a : Int} {M : Nat → Lab} (h : BAt B bb ns p c a U w M) : M bb = .tree := by
  obtain ⟨nv, uv, ps, us, h1, _⟩ := h
  exact RLies.tree (EX := bExt p c a) h1
theorem Far.set {w w' : World} {M : Nat → Lab} (h : Far w M w') {bb : Nat} (hM : M bb = .tree) (o : Nat) (v : Value) : Far w M (w'.setCell ⟨bb, o, none⟩ v) :=
  ⟨by have := h.1; simp [World.setCell]; omega, fun b hb hMb => (Below.heap_setCell w' ⟨bb, o, none⟩ v b (by rintro rfl; rw [hM] at hMb; cases hMb)).trans (h.2 b hb hMb)⟩
/-- what is known once the node is put -/
theorem bs_after {B w : World} {bb U : Nat} {ns : List Nd} {a : Int} {M : Nat → Lab} {R : List Nat} {i : Nat} {fr k pb : Nat} {name : ByteArray} {av : Value} {l : List (ByteArray × ByteArray)} (hI : Inv ns R i) (hl : ns.length < 400) (hpb : pb = w.heap.size) {w3 w4 : World} {M4 : Nat → Lab} (h : BS0 B w bb ns (inn R) a U w3 M pb fr k name av l) (hB : BAt B bb (addN ns (inn R) (mkN 2 name)) (inn R) 0 a (U + 2) w4 M4) (hV : Moved w3 M w4 M4) :
    ∃ nb4 cap4 u3, w4.cell? ⟨bb, 0, none⟩ = some (.slice (some ⟨nb4, 0, none⟩) (ns.length + 1) cap4) ∧ w4.cell? ⟨bb, 3, none⟩ = some (.int .i64 0) ∧ ns.length + 1 ≤ cap4 ∧ cap4 ≤ 9223372036854775807 ∧ bb < w4.heap.size ∧ nb4 < w4.heap.size ∧ w4.cell? ⟨nb4, ns.length * 6 + 3, none⟩ = some u3 ∧ w4.frozen? ⟨nb4, ns.length * 6 + 3, none⟩ = false ∧ w4.cell? ⟨pb, 3, none⟩ = some (.string name) ∧ w4.cell? ⟨pb, 5, none⟩ = some av ∧ nb4 ≠ pb ∧ pb < w4.heap.size ∧
      ∀ w5, Below w4.heap.size w4 w5 → ∃ M5, BAt B bb (addN ns (inn R) (elN name l)) (inn R) 0 a (U + 2) (w5.setCell ⟨nb4, ns.length * 6 + 3, none⟩ av) M5 ∧ Far w M (w5.setCell ⟨nb4, ns.length * 6 + 3, none⟩ av) := by
  obtain ⟨m, hm, _⟩ := hI.chain.inner hI.wf
  obtain ⟨n, hn, hset⟩ := add_attrs hm name l
  have hWA : WF (addN ns (inn R) (mkN 2 name)) := hI.wf.added hl hm _ rfl rfl
  obtain ⟨nb4, cap4, hS⟩ := hB.see hWA
  have hlen : (addN ns (inn R) (mkN 2 name)).length = ns.length + 1 := add_len hm
  have c0 := hS.c0
  have hle := hS.le
  rw [hlen] at c0 hle
  obtain ⟨⟨u3, hu3⟩, hnM⟩ := hB.cell3 c0 hn
  have hpl := lt_of_heap h.pc
  have hp4 : M4 pb = .other := (hV.lab pb hpl).trans h.pM
  have hpc : w4.heap[pb]? = some (rpObj kStart fr k name noS av) := (hV.far pb hpl h.pM).trans h.pc
  obtain ⟨_, _, _, p3, _, p5, _⟩ := six_cellsR hpc
  refine ⟨nb4, cap4, u3, c0, hS.c3, hle, hS.mx, hS.lt, hS.nlt, hu3, hS.nf _ _ 3 hn (by omega), p3, p5, ?_, lt_of_heap hpc, ?_⟩
  · rintro rfl
    rw [hnM] at hp4
    cases hp4
  · intro w5 hb
    obtain ⟨M5, q1, q2⟩ := (hB.below hb).attrs ((hb.cell (p := ⟨bb, 0, none⟩) hS.lt).trans c0) hn ((h.av.moved hV).below hb)
    rw [hset] at q1
    have hf4 : Far w M w4 := h.far.trans hV.toFar (fun _ _ h => h)
    have hlab : ∀ b, b < w.heap.size → M b = .other → M4 b = .other := fun b hb' hM => (hV.lab b (Nat.lt_of_lt_of_le hb' h.far.1)).trans hM
    exact ⟨M5, q1, (hf4.trans (Below.toFar M4 hb) hlab).trans q2 hlab⟩

set_option maxHeartbeats 8000000 in
set_option maxRecDepth 100000 in
theorem bstart_good {B w : World} {bb U : Nat} {ns : List Nd} {a : Int} {M : Nat → Lab} {op : List Nat} {i : Nat} (h : BAt B bb ns (inn op) 0 a U w M) (hI : Inv ns op i) (hi : i ≤ 20000) (hU : U ≤ 1000000) (hl : ns.length < 400) (name : ByteArray) (hn : nameB name = true) (l0 : List (ByteArray × ByteArray)) (av : Value) (hA : AttrsV B w M av l0) (hll : l0.length ≤ 20000) (fr k : Nat) :
    Calls Tryz.prog 27 #[.pointer (some ⟨bb, 0, none⟩), rpv kStart fr k name noS av] w fun e w' => e = .returned (.tuple #[]) ∧ Far w M w' ∧ ∃ M', BAt B bb (addN ns (inn (opAfter ns op name)) (elN name l0)) (inn (opThen ns (opAfter ns op name) name)) 0 a (U + 2) w' M' := by
  obtain ⟨R, hR⟩ : ∃ R, R = opAfter ns op name := ⟨_, rfl⟩
  rw [← hR]
  have hIR : Inv ns R i := by rw [hR]; exact hI.shut _ _
  have hIA := elN_inv hIR hl name l0 hll hi
  have haf := fun w3 w4 M4 h0 hB hV => bs_after (w := w) (fr := fr) (k := k) (pb := w.heap.size) (name := name) (av := av) (l := l0) (B := B) (bb := bb) (U := U) (a := a) (M := M) (w3 := w3) (w4 := w4) (M4 := M4) hIR hl rfl h0 hB hV
  have HAF := hid haf
  have HIR := hid hIR
  have HWA := hid hIA.wf
  have HCA := hid hIA.chain
  have hfew := hIR.few
  obtain ⟨OP, hOP⟩ : ∃ OP, OP = inn (opThen ns R name) := ⟨_, rfl⟩
  have HOP : Hid (OP = if (!voidB name && decide (R.length < 40)) = true then ns.length else inn R) := hid (by rw [hOP]; unfold opThen; split <;> rfl)
  rw [← hOP]
  unfold opAfter at hR
  obtain ⟨CL, hCL⟩ : ∃ CL, CL = closesL name := ⟨_, rfl⟩
  obtain ⟨UP, hUP⟩ : ∃ UP, UP = upToL name := ⟨_, rfl⟩
  rw [← hCL, ← hUP] at hR
  have htab := table_any name (w.alloc (rpObj kStart fr k name noS av))
  rw [show (closeT name).1 = CL from hCL.symm, show (closeT name).2 = UP from hUP.symm] at htab
  obtain ⟨p, hp⟩ : ∃ p, p = inn op := ⟨_, rfl⟩
  rw [← hp] at h
  have hstart := fun w2 hb => BS0.start (name := name) (w2 := w2) h hA fr k hb
  have HST := hid hstart
  have HTB := hid htab
  have HR := hid hR
  have hw4 := hI.wf.len
  have HW := hid hI.wf
  have HC := hid hI.chain
  have HP := hid hp
  have hav : ∃ aa an ac, av = .slice aa an ac := by obtain ⟨aa, ac, e, _⟩ := hA; exact ⟨aa, _, ac, e⟩
  obtain ⟨aa, an, ac, rfl⟩ := hav
  unfold rpv
  unfold rpObj at HTB
  have hbw : bb < w.heap.size := by
    obtain ⟨nb, cap, hS⟩ := h.see hI.wf
    exact hS.lt
  have e1 : bb ≠ w.heap.size := by omega
  have e2 : w.heap.size ≠ bb := by omega
  have HLB := hid h.tree
  have HN4 := hid hl
  have i2 : (ns.length : Int) < (ns.length : Int) + 1 := by omega
  have i3 : (0 : Int) ≤ (ns.length : Int) := by omega
  clear h hA hI hp hR hCL hUP htab hstart haf hIR hIA hOP
  go_enter Tryz.func27, Tryz.ntmps27
  go_wp2_with (go_at_call 64; refine HTB.out.mono ?_; rintro e w2 ⟨a1, n1, c1, a2, n2, c2, rfl, hs1, hs2, hb2⟩
               have hbs := HST.out _ hb2
               obtain ⟨nb, cap, hS⟩ := hbs.bat.see HW.out
               have HA1 : Hid (∀ x, Calls Tryz.prog 65 #[.string x, .slice a1 n1 c1] w2 fun e w' => e = .returned (.bool (inL CL x)) ∧ w' = w2) := hid (fun x => among_any hs1 x)
               have HA2 : Hid (∀ x, Calls Tryz.prog 65 #[.string x, .slice a2 n2 c2] w2 fun e w' => e = .returned (.bool (inL UP x)) ∧ w' = w2) := hid (fun x => among_any hs2 x)
               have c0 := hS.c0
               have c2' := hS.c2
               have hfr := hS.fr 2
               have hle := hS.le
               have hmx := hS.mx
               have hbl := hS.lt
               have hnl := hS.nlt
               have HN := hid hS.nd
               have HBS := hid hbs
               clear hs1 hs2 hb2 hbs hS)
  clear HTB HST
  go_loopg [6] op.length (fun g k wr => wr = w2 ∧ ∃ (l : List Nat) (x : Nat), k = .int .i64 x ∧ l.length = g ∧ Hid (x = inn l) ∧ Hid (Chain ns l) ∧ Hid (R = shutM ns (inL CL) (inL UP) op l))
  case atStart => exact ⟨rfl, op, p, rfl, rfl, HP, HC, HR⟩
  case round =>
    obtain ⟨rfl, l, x, rfl, hg, hx, hcl, hrl⟩ := hrel
    cases l with
    | nil =>
      have ex : x = 0 := hx.out
      subst ex
      have HE : Hid (inn R = p) := hid (by rw [hrl.out]; exact HP.out.symm)
      have HB2 : Hid (BS0 B w bb ns (inn R) a U wr M w.heap.size fr k name (.slice aa an ac) l0) := hid (by rw [HE.out]; exact HBS.out)
      obtain ⟨p0, p1, p2, p3, p4, p5, pf⟩ := six_cellsR HB2.out.pc
      clear hx hcl hrl HA1 HA2 HN p0 p2 p4
      go_wp2_with (go_at_call 24; refine (bput_good HB2.out.bat HIR.out hi hU hl 2 _ (.inl ⟨rfl, hn⟩) _).mono ?_; rintro e w4 ⟨rfl, M4, hB4, hV4⟩; obtain ⟨nb4, cap4, u3, g0, g1, g2, g3, g4, g5, g6, g7, g8, g9, g10, g12, hx⟩ := HAF.out _ _ _ HB2.out hB4 hV4; have g11 := Ne.symm g10; have HX := hid hx; clear hB4 hV4 hx)
      go_still_tail 10, (by kernel_rfl)
      go_wp2_with fail
      obtain ⟨M5, hB5, hF5⟩ := HX.out w4 (Below.refl _ _)
      generalize w4.setCell _ _ = w5 at hB5 hF5 ⊢
      refine (rvoid_any _ _).mono ?_
      rintro e w6 ⟨rfl, hb6⟩
      have hb7 : Below w5.heap.size w5 w6 := ((Below.refl _ _).drew).trans hb6
      have hB6 := hB5.below hb7
      have HF6 := hid (hF5.trans (Below.toFar M hb7) (fun _ _ h => h))
      obtain ⟨nb6, cap6, hS6⟩ := hB6.see HWA.out
      have m2 := hS6.c2
      have mf := hS6.fr 2
      have ml := hS6.lt
      have HB6 := hid hB6
      clear hb6 hb7 hB5 hF5 hS6 hB6 HX g0 g1 g2 g3 g4 g5 g6 g7 g8 g9 g10 g11 g12 HAF HB2
      cases hv : voidB name with
      | true =>
        have HE2 : Hid (OP = inn R) := hid (by rw [HOP.out, hv]; rfl)
        go_wp2_with fail
        go_end0
        exact ⟨rfl, HF6.out, M5, by rw [HE2.out]; exact HB6.out⟩
      | false =>
        have hdp := deep_any HB6.out HWA.out HCA.out hfew
        by_cases hd : R.length < 40
        · have HE2 : Hid (OP = ns.length) := hid (by rw [HOP.out, hv]; simp [hd])
          have hd1 : (R.length : Int) < 40 := by omega
          obtain ⟨q1, q2⟩ := BL.setIn HB6.out ns.length
          have HQ := hid (And.intro (HF6.out.set HLB.out 2 (.int .i64 ns.length)) q1)
          have HD := hid hdp
          clear hdp q1 q2
          go_wp2_with (go_at_call 67; refine HD.out.mono ?_; rintro e w7 ⟨rfl, rfl⟩)
          go_end0
          exact ⟨rfl, HQ.out.1, M5, by rw [HE2.out]; exact HQ.out.2⟩
        · have HE2 : Hid (OP = inn R) := hid (by rw [HOP.out, hv]; simp [hd])
          have hd1 : ¬ (R.length : Int) < 40 := by omega
          have HD := hid hdp
          clear hdp
          go_wp2_with (go_at_call 67; refine HD.out.mono ?_; rintro e w7 ⟨rfl, rfl⟩)
          go_end0
          exact ⟨rfl, HF6.out, M5, by rw [HE2.out]; exact HB6.out⟩
    | cons y l =>
      have ex : x = y := hx.out
      subst ex
      have hpos := chain_pos HW.out hcl.out
      cases hcl.out with
      | cons hk h2 hpar hm2 hl2 hc2 =>
        rename_i n m2
        obtain ⟨k0, k1, k2, c4⟩ := HN.out _ _ hk
        clear k0 k2
        rw [hpar] at c4
        obtain ⟨y2, hy2⟩ : ∃ y2, y2 = inn l := ⟨_, rfl⟩
        rw [← hy2] at c4
        obtain ⟨tg, htg⟩ : ∃ tg, tg = n.tag := ⟨_, rfl⟩
        rw [← htg] at k1
        have htag : tagOf ns x = tg := by unfold tagOf; rw [hk, htg]
        have hxl : x < ns.length := (List.getElem?_eq_some_iff.1 hk).1
        have HY := hid hy2
        have HC2 := hid hc2
        have q1 : (0 : Int) < (x : Int) := by omega
        rw [List.length_cons] at hg
        have hrl' := hrl.out
        rw [shutM, htag] at hrl'
        obtain ⟨p0, p1, p2, p3, p4, p5, pf⟩ := six_cellsR HBS.out.pc
        cases hq1 : inL CL tg with
        | true =>
          rw [if_pos hq1] at hrl'
          have HB2 : Hid (BS0 B w bb ns (inn R) a U (wr.setCell ⟨bb, 2, none⟩ (.int .i64 y2)) M w.heap.size fr k name (.slice aa an ac) l0) := hid (by rw [hrl', ← HY.out]; exact HBS.out.set y2)
          clear hk h2 hpar hm2 hl2 hc2 hy2 hx hcl htg htag hrl hrl' n m2 p0 p2 p4 hg HA2
          go_wp2_with fail
          refine (HA1.out _).mono ?_
          rintro e w' ⟨rfl, hw'⟩
          rw [hw', hq1]
          clear hw'
          go_wp2_with (go_at_call 24; refine (bput_good HB2.out.bat HIR.out hi hU hl 2 _ (.inl ⟨rfl, hn⟩) _).mono ?_; rintro e w4 ⟨rfl, M4, hB4, hV4⟩; obtain ⟨nb4, cap4, u3, g0, g1, g2, g3, g4, g5, g6, g7, g8, g9, g10, g12, hx⟩ := HAF.out _ _ _ HB2.out hB4 hV4; have g11 := Ne.symm g10; have HX := hid hx; clear hB4 hV4 hx)
          go_still_tail 10, (by kernel_rfl)
          go_wp2_with fail
          obtain ⟨M5, hB5, hF5⟩ := HX.out w4 (Below.refl _ _)
          generalize w4.setCell _ _ = w5 at hB5 hF5 ⊢
          refine (rvoid_any _ _).mono ?_
          rintro e w6 ⟨rfl, hb6⟩
          have hb7 : Below w5.heap.size w5 w6 := ((Below.refl _ _).drew).trans hb6
          have hB6 := hB5.below hb7
          have HF6 := hid (hF5.trans (Below.toFar M hb7) (fun _ _ h => h))
          obtain ⟨nb6, cap6, hS6⟩ := hB6.see HWA.out
          have m2 := hS6.c2
          have mf := hS6.fr 2
          have ml := hS6.lt
          have HB6 := hid hB6
          clear hb6 hb7 hB5 hF5 hS6 hB6 HX g0 g1 g2 g3 g4 g5 g6 g7 g8 g9 g10 g11 g12 HAF HB2
          cases hv : voidB name with
          | true =>
            have HE2 : Hid (OP = inn R) := hid (by rw [HOP.out, hv]; rfl)
            go_wp2_with fail
            go_end0
            exact ⟨rfl, HF6.out, M5, by rw [HE2.out]; exact HB6.out⟩
          | false =>
            have hdp := deep_any HB6.out HWA.out HCA.out hfew
            by_cases hd : R.length < 40
            · have HE2 : Hid (OP = ns.length) := hid (by rw [HOP.out, hv]; simp [hd])
              have hd1 : (R.length : Int) < 40 := by omega
              obtain ⟨q1, q2⟩ := BL.setIn HB6.out ns.length
              have HQ := hid (And.intro (HF6.out.set HLB.out 2 (.int .i64 ns.length)) q1)
              have HD := hid hdp
              clear hdp q1 q2
              go_wp2_with (go_at_call 67; refine HD.out.mono ?_; rintro e w7 ⟨rfl, rfl⟩)
              go_end0
              exact ⟨rfl, HQ.out.1, M5, by rw [HE2.out]; exact HQ.out.2⟩
            · have HE2 : Hid (OP = inn R) := hid (by rw [HOP.out, hv]; simp [hd])
              have hd1 : ¬ (R.length : Int) < 40 := by omega
              have HD := hid hdp
              clear hdp
              go_wp2_with (go_at_call 67; refine HD.out.mono ?_; rintro e w7 ⟨rfl, rfl⟩)
              go_end0
              exact ⟨rfl, HF6.out, M5, by rw [HE2.out]; exact HB6.out⟩
        | false =>
          rw [if_neg (by rw [hq1]; simp)] at hrl'
          cases hq2 : inL UP tg with
          | true =>
            rw [if_pos hq2] at hrl'
            have HB2 : Hid (BS0 B w bb ns (inn R) a U wr M w.heap.size fr k name (.slice aa an ac) l0) := hid (by rw [hrl', ← HP.out]; exact HBS.out)
            clear hk h2 hpar hm2 hl2 hc2 hy2 hx hcl htg htag hrl hrl' n m2 p0 p2 p4 hg
            go_wp2_with fail
            refine (HA1.out _).mono ?_
            rintro e w' ⟨rfl, hw'⟩
            rw [hw', hq1]
            clear hw'
            go_wp2_with fail
            refine (HA2.out _).mono ?_
            rintro e w' ⟨rfl, hw'⟩
            rw [hw', hq2]
            clear hw'
            go_wp2_with (go_at_call 24; refine (bput_good HB2.out.bat HIR.out hi hU hl 2 _ (.inl ⟨rfl, hn⟩) _).mono ?_; rintro e w4 ⟨rfl, M4, hB4, hV4⟩; obtain ⟨nb4, cap4, u3, g0, g1, g2, g3, g4, g5, g6, g7, g8, g9, g10, g12, hx⟩ := HAF.out _ _ _ HB2.out hB4 hV4; have g11 := Ne.symm g10; have HX := hid hx; clear hB4 hV4 hx)
            go_still_tail 10, (by kernel_rfl)
            go_wp2_with fail
            obtain ⟨M5, hB5, hF5⟩ := HX.out w4 (Below.refl _ _)
            generalize w4.setCell _ _ = w5 at hB5 hF5 ⊢
            refine (rvoid_any _ _).mono ?_
            rintro e w6 ⟨rfl, hb6⟩
            have hb7 : Below w5.heap.size w5 w6 := ((Below.refl _ _).drew).trans hb6
            have hB6 := hB5.below hb7
            have HF6 := hid (hF5.trans (Below.toFar M hb7) (fun _ _ h => h))
            obtain ⟨nb6, cap6, hS6⟩ := hB6.see HWA.out
            have m2 := hS6.c2
            have mf := hS6.fr 2
            have ml := hS6.lt
            have HB6 := hid hB6
            clear hb6 hb7 hB5 hF5 hS6 hB6 HX g0 g1 g2 g3 g4 g5 g6 g7 g8 g9 g10 g11 g12 HAF HB2
            cases hv : voidB name with
            | true =>
              have HE2 : Hid (OP = inn R) := hid (by rw [HOP.out, hv]; rfl)
              go_wp2_with fail
              go_end0
              exact ⟨rfl, HF6.out, M5, by rw [HE2.out]; exact HB6.out⟩
            | false =>
              have hdp := deep_any HB6.out HWA.out HCA.out hfew
              by_cases hd : R.length < 40
              · have HE2 : Hid (OP = ns.length) := hid (by rw [HOP.out, hv]; simp [hd])
                have hd1 : (R.length : Int) < 40 := by omega
                obtain ⟨q1, q2⟩ := BL.setIn HB6.out ns.length
                have HQ := hid (And.intro (HF6.out.set HLB.out 2 (.int .i64 ns.length)) q1)
                have HD := hid hdp
                clear hdp q1 q2
                go_wp2_with (go_at_call 67; refine HD.out.mono ?_; rintro e w7 ⟨rfl, rfl⟩)
                go_end0
                exact ⟨rfl, HQ.out.1, M5, by rw [HE2.out]; exact HQ.out.2⟩
              · have HE2 : Hid (OP = inn R) := hid (by rw [HOP.out, hv]; simp [hd])
                have hd1 : ¬ (R.length : Int) < 40 := by omega
                have HD := hid hdp
                clear hdp
                go_wp2_with (go_at_call 67; refine HD.out.mono ?_; rintro e w7 ⟨rfl, rfl⟩)
                go_end0
                exact ⟨rfl, HF6.out, M5, by rw [HE2.out]; exact HB6.out⟩
          | false =>
            rw [if_neg (by rw [hq2]; simp)] at hrl'
            have HRR := hid hrl'
            clear hk h2 hpar hm2 hl2 hc2 hy2 hx hcl htg htag hrl hrl' n m2 p0 p1 p2 p3 p4 p5 pf
            go_wp2_with fail
            refine (HA1.out _).mono ?_
            rintro e w' ⟨rfl, hw'⟩
            rw [hw', hq1]
            clear hw'
            go_wp2_with fail
            refine (HA2.out _).mono ?_
            rintro e w' ⟨rfl, hw'⟩
            rw [hw', hq2]
            clear hw'
            go_wp2_with fail
            go_roundg l.length
            case measure => omega
            case rel => exact ⟨rfl, l, y2, rfl, rfl, HY, HC2, HRR⟩
end Go.Proofs.YtkaeenafejdkfaaGreatDoor
