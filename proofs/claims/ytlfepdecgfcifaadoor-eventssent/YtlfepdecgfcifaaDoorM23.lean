/- Package events: a list from its end on (slices.Backward); the makers. -/
import Derived.Test.YtlfepdecgfcifaaDoorM22
import Derived.Test.YtlfepdecgfcifaaDoorEvVisit
namespace Go.Proofs.YtlfepdecgfcifaaDoor
open Go.RowKit Go.BigFrame
set_option linter.unusedVariables false
attribute [local go_sem] Oper.semAt_some

/-- whole numbers that are read -/
def RdI (W : World) (a : Option Addr) (zs : List Int) : Prop := ∀ (j : Nat) (x : Int), zs[j]? = some x → ∃ b o, a = some ⟨b, o, none⟩ ∧ W.cell? ⟨b, o + j, none⟩ = some (.int .i64 x)
def bkE (zs : List Int) (k : Nat) : Int × Int := ((zs.length : Int) - 1 - k, zs[zs.length - 1 - k]?.getD 0)
def uptoE {α : Type} (f : Nat → α) (k : Nat) : List α := (List.range k).map f
theorem uptoE_succ {α : Type} (f : Nat → α) (k : Nat) : uptoE f (k + 1) = uptoE f k ++ [f k] := by simp [uptoE, List.range_succ]
structure BkQ (zs : List Int) (a : Option Addr) (cap Bs : Nat) (W : World) : Prop where
  box : W.cell? ⟨Bs, 0, none⟩ = some (.slice a zs.length cap)
  rd : RdI W a zs

set_option maxHeartbeats 4000000 in
set_option maxRecDepth 100000 in
theorem evBack_stops (n : Nat) (hn : 1 ≤ n) (zs : List Int) (hlen : zs.length ≤ 1000000) (a : Option Addr) (cap Bs B : Nat) :
    SeqQ Fence.wide n Tryd.prog 68 #[.pointer (some ⟨Bs, 0, none⟩)] (fun x : Int × Int => #[.int .i64 x.1, .int .i64 x.2]) (fun _ W => BkQ zs a cap Bs W)
      (fun pre x => ∃ k, k < zs.length ∧ pre = uptoE (bkE zs) k ∧ x = bkE zs k) (fun xs => xs = uptoE (bkE zs) zs.length) (fun _ => True) B := fun l J Jx W _ hQ hD hDx hY h0 => by
  have HQ := hid hQ
  have HY := hid hY
  have c0 := (hQ _ _ h0).box
  clear hQ hY hD hDx
  refine callsIn_of_wp Tryd.func68 rfl trivial ?_ rfl
  simp only [Tryd.ntmps68, List.size_toArray, List.length_cons, List.length_nil, Nat.reduceAdd, Nat.reduceSub, Array.replicate_succ, Array.replicate_zero, List.push_toArray, List.append_toArray, List.nil_append, List.cons_append]
  gi_wp2
  gi_loopw [3] (fun i wr => ∃ k : Nat, k ≤ zs.length ∧ i = .int .i64 ((zs.length : Int) - 1 - k) ∧ Hid (J (uptoE (bkE zs) k) wr)) (fun i _ => (intOf i + 1).toNat)
  case atStart => exact ⟨0, Nat.zero_le _, by simp, h0⟩
  case round =>
    obtain ⟨k, hk, rfl, HJ⟩ := hrel
    by_cases hlt : k < zs.length
    · have q := HQ.out _ _ HJ.out
      have c1 := q.box
      obtain ⟨b, o, rfl, hcx⟩ := q.rd (zs.length - 1 - k) _ (List.getElem?_eq_getElem (by omega))
      have hbk : bkE zs k = ((zs.length : Int) - 1 - k, zs[zs.length - 1 - k]) := by
        unfold bkE
        rw [List.getElem?_eq_getElem (by omega)]
        rfl
      obtain ⟨fn, tmps, assign, body, hy, hR⟩ := HY.out _ (bkE zs k) wr HJ.out ⟨k, hlt, rfl, rfl⟩
      rw [hbk] at hy
      obtain ⟨zz, hzz⟩ : ∃ z, z = zs[zs.length - 1 - k] := ⟨_, rfl⟩
      rw [← hzz] at hy hcx
      obtain ⟨m, hm⟩ : ∃ m : Nat, m = zs.length - 1 - k := ⟨_, rfl⟩
      have hmi : (zs.length : Int) - 1 - k = (m : Int) := by omega
      rw [← hm] at hcx
      rw [hmi] at hy ⊢
      have hge : (0 : Int) ≤ (m : Int) := by omega
      have hlt2 : (m : Int) < (zs.length : Int) := by omega
      have HMI := hid hmi
      clear q hbk hzz hm hmi
      gi_wp2
      refine hR.mono ?_
      rintro e W3 (⟨rfl, hJ3⟩ | ⟨rfl, hJx3⟩)
      · have HJ3 := hid hJ3
        clear hJ3
        gi_wp2
        go_roundw
        case rel => exact ⟨k + 1, by omega, by first | (have := HMI.out; simp; omega; done) | (have := HMI.out; simp; done) | (simp; have := HMI.out; omega), by rw [uptoE_succ]; exact HJ3.out⟩
        case measure => have := HMI.out; simp [intOf] <;> omega
      · gi_wp2
        refine bodyPost_ret (results_none rfl _ _ _) rfl ?_
        exact ⟨⟨_, rfl⟩, .inr ⟨_, trivial, hJx3⟩⟩
    · obtain rfl : k = zs.length := by omega
      have hneg : ¬ (0 : Int) ≤ (zs.length : Int) - 1 - zs.length := by omega
      gi_wp2
      go_end0
      exact ⟨⟨_, rfl⟩, .inl (by first | exact HJ.out | exact ⟨_, rfl, HJ.out⟩)⟩

set_option maxHeartbeats 1000000 in
theorem evBackward_any (a : Option Addr) (len cap : Nat) (w : World) :
    Calls Tryd.prog 52 #[.slice a len cap] w fun e w' => e = .returned (.func (.func 68) #[] #[.pointer (some ⟨w.heap.size, 0, none⟩)]) ∧ w' = w.alloc (.cells #[.slice a len cap] 63) := by
  go_enter Tryd.func52, Tryd.ntmps52
  go_wp2
  go_ret
  exact ⟨rfl, rfl⟩
set_option maxHeartbeats 1000000 in
theorem evWay_any (tv : Value) (htv : tv = .pointer none ∨ ∃ tb, tv = .pointer (some ⟨tb, 0, none⟩)) (z : Int) (w : World) :
    Calls Tryd.prog 33 #[tv, .int .i64 z] w fun e w' => e = .returned (.func (.func 55) #[] #[.pointer (some ⟨w.heap.size, 0, none⟩), .pointer (some ⟨w.heap.size + 1, 0, none⟩)]) ∧ w' = (w.alloc (.cells #[tv] 27)).alloc (.cells #[.int .i64 z] 3) := by
  rcases htv with rfl | ⟨tb, rfl⟩
  all_goals go_enter Tryd.func33, Tryd.ntmps33
  all_goals go_wp2
  all_goals go_ret
  all_goals exact ⟨rfl, rfl⟩
set_option maxHeartbeats 2000000 in
set_option maxRecDepth 100000 in
theorem collect_any {w0 : World} {ns : List Nd} {tv : Value} {z : Int} {B : Nat} (hA : ns ≠ [] → Asc ns) (htv : tv = .pointer none ∨ ∃ tb, tv = .pointer (some ⟨tb, 0, none⟩)) (hlen : ns.length ≤ 100000) (hq : WyQ ns tv z B w0) :
    Calls Tryd.prog 32 #[.func (.func 55) #[] #[.pointer (some ⟨B, 0, none⟩), .pointer (some ⟨B + 1, 0, none⟩)]] w0 fun e w' => ∃ sv, e = .returned sv ∧ w'.ownsRow w0.heap.size 3 1 sv (wayI ns z).length ((wayI ns z).map (Value.int .i64)) ∧ Below w0.heap.size w0 w' := by
  have H := hid (appendSeq_any hA htv hlen hq)
  clear hq
  go_enter Tryd.func32, Tryd.ntmps32
  go_wp2_with fail
  refine H.out.mono ?_
  rintro e w' ⟨sv, rfl, h1, h2⟩
  obtain ⟨sa, sc, rfl⟩ : ∃ a c, sv = .slice a (wayI ns z).length c := by
    obtain ⟨hl, ⟨rfl, h0⟩ | ⟨g', cap, cur, rfl, _⟩⟩ := h1
    · exact ⟨none, 0, by rw [h0]⟩
    · exact ⟨_, cap, rfl⟩
  have H1 := hid (And.intro h1 h2)
  clear h1 h2 H
  go_wp2_with fail
  refine bodyPost_ret (v := .slice sa (wayI ns z).length sc) ?_ rfl ⟨_, rfl, H1.out⟩
  simp [results, Tryd.results32, go_sem]
end Go.Proofs.YtlfepdecgfcifaaDoor

/- Package events: a node is visited: one row of ears. -/
namespace Go.Proofs.YtlfepdecgfcifaaDoor
open Go.RowKit Go.BigFrame
set_option linter.unusedVariables false
attribute [local go_sem] Oper.semAt_some

set_option maxHeartbeats 32000000 in
set_option maxRecDepth 100000 in
theorem visit1_any {n : Nat} {w : World} {sb eb : Nat} {v cv : Value} {xb : List Nat} {name : ByteArray} {st : EvT} (h : SdAt n w sb eb v xb name st cv) (node ph : Int) (d : Bool) {db cap : Nat} (hdb : db < w.heap.size) (hd : w.cell? ⟨db, 0, none⟩ = some (.bool d)) (hcap : 1 ≤ cap ∧ cap ≤ 1000) (hc : st.calls.length + st.E.length ≤ 900000) (hE : st.E.length ≤ 1000) :
    Calls Tryd.prog 53 #[.pointer (some ⟨sb, 0, none⟩), .int .i64 node, .int .i64 ph, .slice (some ⟨db, 0, none⟩) 1 cap] w fun e w' => e = .returned (.tuple #[]) ∧ PostS n w cv sb eb v xb name (visP node ph name [d] st) w' := by
  refine (callsIn_wide (n := 5)).1 ?_
  refine callsIn_of_wp_marks Tryd.func53 rfl trivial ?_ rfl
  simp only [Tryd.ntmps53, List.size_toArray, List.length_cons, List.length_nil, Nat.reduceAdd, Nat.reduceSub, Array.replicate_succ, Array.replicate_zero, List.push_toArray, List.append_toArray, List.nil_append, List.cons_append]
  have hmx : Tryd.prog.follows Departure.mixedOrders = true := by kernel_rfl
  have hnle := h.nle
  have hB31 : Below w.heap.size w (((w.alloc (.cells #[.pointer (some ⟨sb, 0, none⟩)] 86)).alloc (.cells #[.int .i64 node] 3)).alloc (.cells #[.int .i64 ph] 3)) := (((Below.refl _ w).alloc (Nat.le_refl _) _).alloc (by simp) _).alloc (by simp; omega) _
  have h31 := h.below hB31
  obtain ⟨c0, c1, c2, c3, c4, fz⟩ := h31.cells
  have hd3 := (hB31.cell (p := ⟨db, 0, none⟩) hdb).trans hd
  cases he : st.ended
  · rw [he] at c4
    gi_wp2
    obtain ⟨W3, hW3⟩ : ∃ W3, W3 = (((w.alloc (.cells #[.pointer (some ⟨sb, 0, none⟩)] 86)).alloc (.cells #[.int .i64 node] 3)).alloc (.cells #[.int .i64 ph] 3)) := ⟨_, rfl⟩
    obtain ⟨k01, k11, k21⟩ := three_newE w (.pointer (some ⟨sb, 0, none⟩)) (.int .i64 node) (.int .i64 ph) 86 3 3
    have s3 : W3.heap.size = w.heap.size + 1 + 1 + 1 := by rw [hW3]; simp
    rw [← hW3] at hB31 h31 c0 c1 c2 c3 c4 fz hd3 k01 k11 k21 ⊢
    clear hW3 hd
    have T31 := Tn.of_below sb v cv hB31
    have hco1 : ∀ b, w.heap.size ≤ b → b ≤ w.heap.size + 1 + 1 → cv.ownBlock ≠ some b := fun b hb _ e => by have := (h.own.lt b e).2; omega
    refine wpIn_loop_rounds 2 ?_
    rw [roundsIn_succ]
    gi_wp2
    refine wpIn_region_pre2 10 rfl hmx (by kernel_rfl) (by kernel_rfl) (by kernel_rfl) (by kernel_rfl) ?_
    simp only [List.take_succ_cons, List.take_zero, List.drop_succ_cons, List.drop_zero]
    repeat (gi_big_quiet_step (fail))
    refine wpQuietIn_nil ?_
    rintro _ ⟨nq, rfl⟩
    gi_wp2_with (refine ⟨trivial, ?_⟩; gi_at_call 69; refine (callsIn_wide.2 (evAt_any _ _ _ _ _)).mono ?_; rintro e w' ⟨rfl, rfl⟩)
    obtain ⟨W41, hW4⟩ : ∃ W4, W4 = atW (W3.drewN nq) eb node name d := ⟨_, rfl⟩
    have hB41 : Below W3.heap.size W3 W41 := by
      rw [hW4]
      exact Below.trans (b := W3.drewN nq) ⟨rfl, rfl, rfl, Nat.le_refl _, fun _ _ => rfl⟩ (atW_below (W3.drewN nq) eb node name d)
    have s4 : W41.heap.size = W3.heap.size + 1 + 1 + 1 + 1 := by rw [hW4]; exact atW_size ..
    obtain ⟨m0, m1, m2, m3⟩ : W41.cell? ⟨W3.heap.size, 0, none⟩ = some (.pointer (some ⟨eb, 0, none⟩)) ∧ W41.cell? ⟨W3.heap.size + 1, 0, none⟩ = some (.int .i64 node) ∧ W41.cell? ⟨W3.heap.size + 1 + 1, 0, none⟩ = some (.string name) ∧ W41.cell? ⟨W3.heap.size + 1 + 1 + 1, 0, none⟩ = some (.bool d) := by
      rw [hW4]
      exact four_newE (W3.drewN nq) _ _ _ _ _ _ _ _
    rw [← hW4]
    have h4 := h31.below hB41
    have k4 := (hB41.cell (p := ⟨w.heap.size, 0, none⟩) (by show w.heap.size < _; omega)).trans k01
    have k5 := (hB41.cell (p := ⟨w.heap.size + 1, 0, none⟩) (by show w.heap.size + 1 < _; omega)).trans k11
    have k6 := (hB41.cell (p := ⟨w.heap.size + 1 + 1, 0, none⟩) (by show w.heap.size + 1 + 1 < _; omega)).trans k21
    have hol1 : ∀ b, cv.ownBlock = some b → b < W3.heap.size := fun b hb => (h31.own.lt b hb).2
    clear hW4 c0 c1 c2 c3 c4 fz hd3
    rw [s3] at m0 m1 m2 m3
    refine wpIn_range_q rfl (by omega) (gf := 75) (lb := #[.pointer (some ⟨w.heap.size + 1 + 1 + 1, 0, none⟩), .pointer (some ⟨w.heap.size + 1 + 1 + 1 + 1, 0, none⟩), .pointer (some ⟨w.heap.size + 1 + 1 + 1 + 1 + 1, 0, none⟩), .pointer (some ⟨w.heap.size + 1 + 1 + 1 + 1 + 1 + 1, 0, none⟩)]) rfl trivial (enters_of Tryd.func75 (by kernel_rfl) rfl)
      (at_stops _ (by omega) node ph name d eb v xb (w.heap.size + 1 + 1 + 1) W41.heap.size st (by omega)) (fun _ => rfl)
      (fun pre W => VisI n cv W41 sb eb v xb name st node ph pre W) (fun c pre W => VisX n cv W41 sb eb v xb name st node ph d c pre W)
      (fun pre W hI => ⟨hI.1.choose_spec.1.pe, hI.2, hI.cell (by omega) (fun e => by have := hol1 _ e; omega) m0, hI.cell (by omega) (fun e => by have := hol1 _ e; omega) m1, hI.cell (by omega) (fun e => by have := hol1 _ e; omega) m2, hI.cell (by omega) (fun e => by have := hol1 _ e; omega) m3⟩) (visI_own (Nat.le_refl _)) (visX_own (Nat.le_refl _))
      ⟨⟨cv, h4, Tn.refl sb v W41 cv⟩, by simp⟩
      (fun x a' W => ∃ Bx, W41.heap.size ≤ Bx ∧ W.heap[Bx]? = some (.cells ⟨earC x.2⟩ 44 (0, 0)) ∧ a' = { tmps := #[.pointer (some ⟨sb, 0, none⟩), .int .i64 node, .int .i64 ph, .slice (some ⟨db, 0, none⟩) 1 cap, .pointer (some ⟨w.heap.size, 0, none⟩), .pointer (some ⟨w.heap.size + 1, 0, none⟩), .pointer (some ⟨w.heap.size + 1 + 1, 0, none⟩), undef, undef, .bool d, .int .i64 x.1, .pointer (some ⟨Bx, 0, none⟩), .pointer (some ⟨sb, 0, none⟩), .pointer (some ⟨sb, 0, none⟩), .pointer (some ⟨sb, 4, none⟩), .bool false, .slice (some ⟨db, 0, none⟩) 1 cap, .int .i64 1, .int .i64 0, .bool true, .pointer (some ⟨db, 0, none⟩), .bool d, .pointer (some ⟨sb, 0, none⟩), .pointer (some ⟨sb, 0, none⟩), .pointer (some ⟨sb, 0, none⟩), .pointer (some ⟨eb, 0, none⟩), .int .i64 node, .pointer (some ⟨sb, 0, none⟩), .pointer (some ⟨sb, 0, none⟩), .pointer (some ⟨sb, 1, none⟩), .string name, .bool d, .func (.func 75) #[] #[.pointer (some ⟨w.heap.size + 1 + 1 + 1, 0, none⟩), .pointer (some ⟨w.heap.size + 1 + 1 + 1 + 1, 0, none⟩), .pointer (some ⟨w.heap.size + 1 + 1 + 1 + 1 + 1, 0, none⟩), .pointer (some ⟨w.heap.size + 1 + 1 + 1 + 1 + 1 + 1, 0, none⟩)], .int .i64 x.1, .agg ⟨earC x.2⟩, undef, undef, undef, undef, undef, undef, undef, undef, undef], defers := [] })
      ?hAx1 ?assign1 ?body1 ?done1 ?stop1
    case hAx1 =>
      rintro x a' _ X Y row ⟨Bx, q1, q2, q3⟩ hg hr
      refine ⟨Bx, q1, (hg.block Bx (ltH q2) (fun e => ?_)).trans q2, q3⟩
      obtain ⟨_, o, e1, e2⟩ := hr Bx e.symm
      rw [q2] at e1
      cases e1
      cases e2
    case assign1 =>
      intro l pre x W K hI hK
      obtain ⟨xk, xe⟩ := x
      have hea : ∀ e : EvE, (⟨earC e⟩ : Array Value) = #[.int .i64 e.node, .string e.name, .bool e.down, .bool e.once, .bool e.calm, .bool e.stop, .bool e.now, .bool e.bar] := fun _ => rfl
      have HK := hid hK
      have HI := hid hI
      clear hK hI
      dsimp only
      rw [hea]
      gi_wp2
      obtain ⟨⟨cv', g1, g2⟩, g3⟩ := HI.out
      have hba := (Below.refl W.heap.size W).alloc (Nat.le_refl _) (.cells #[.int .i64 xe.node, .string xe.name, .bool xe.down, .bool xe.once, .bool xe.calm, .bool xe.stop, .bool xe.now, .bool xe.bar] 44)
      exact HK.out _ _ ((KeepsOthers.alloc _ _).from _) ⟨⟨cv', g1.below hba, g2.trans (Tn.of_below sb v cv' hba)⟩, g3⟩ ⟨W.heap.size, g2.kept.size, heap_alloc_new W _, rfl⟩
    case body1 =>
      rintro l pre ⟨xk, xe⟩ a' W hl hI ⟨Bx, hBx, hbx, rfl⟩ hN
      have c4 := hI.cell (by omega) (hco1 _ (Nat.le_refl _) (by omega)) k4
      have c5 := hI.cell (by omega) (hco1 _ (by omega) (by omega)) k5
      have c6 := hI.cell (by omega) (hco1 _ (by omega) (by omega)) k6
      obtain ⟨⟨cv1, g1, g2⟩, g3⟩ := id hI
      have HH : Hid (Calls Tryd.prog 70 #[.pointer (some ⟨sb, 0, none⟩), .int .i64 xk, .int .i64 node, .int .i64 ph, .agg #[.int .i64 xe.node, .string xe.name, .bool xe.down, .bool xe.once, .bool xe.calm, .bool xe.stop, .bool xe.now, .bool xe.bar]] W fun e w' => e = .returned (.tuple #[]) ∧ PostS n W cv1 sb eb v xb name (hearT (evS st node ph pre) xk node ph xe) w') :=
        hear_any g1 xk node ph xe hN.2.2.1 (by have := evS_calls st node ph hN.1 ; omega)
      obtain ⟨e0, e1, e2, e3, e4, e5, e6, e7⟩ := ear_cells hbx
      have hne : cv1.ownBlock ≠ some Bx := fun e => by
        obtain ⟨_, ⟨r1, _⟩ | ⟨g', cap', cur', r1, _, r2, _⟩⟩ := g1.own
        · rw [r1] at e; cases e
        · rw [r1] at e
          cases e
          rw [hbx] at r2
          cases r2
      have HB : Hid (∀ W' cv2, Tn sb v W cv1 W' cv2 → W'.heap[Bx]? = some (.cells ⟨earC xe⟩ 44 (0, 0))) := fun W' cv2 ht => (ht.block Bx (ltH hbx) (by have := g1.lts; have := g1.nle; omega) (fun e => by have := g1.ltv _ e; omega) hne).trans hbx
      have HG := hid (And.intro g2 g3)
      have HN := hid hN
      clear hI g1 g2 g3 hbx hne hN
      gi_wp2_with (refine ⟨trivial, ?_⟩; gi_at_call 70; refine (CallsIn.inRound l (callsIn_wide.2 HH.out)).mono ?_; clear HH; rintro e W5 ⟨rfl, cv2, t1, t2⟩; have HT := hid (And.intro t1 t2); obtain ⟨_, _, _, _, _, _, f6, _⟩ := ear_cells (HB.out _ _ t2); clear t1 t2)
      · have hnow : xe.now = true := by assumption
        refine ⟨HT.out.2.kept.from _, ⟨cv2, ?_, HG.out.1.trans HT.out.2⟩, ?_⟩
        · rw [evS_snoc]; exact HT.out.1
        · rw [evPos.hear HN.out, if_pos hnow]
      · have hnow : xe.now = false := by first | assumption | (simp_all; done)
        refine ⟨HT.out.2.kept.from _, ⟨cv2, ?_, HG.out.1.trans HT.out.2⟩, fun y hy => ?_⟩
        · rw [evS_snoc]; exact HT.out.1
        · rcases List.mem_append.1 hy with hy | hy
          · exact HG.out.2 y hy
          · rw [List.mem_singleton] at hy; subst hy; exact hnow
    case done1 =>
      intro D xs W hD hS hI hK
      have HE : Hid (visP node ph name [d] st = evS st node ph xs) := by
        show _ = _
        rw [visP1 he hS]
      obtain ⟨⟨cv', g1, g2⟩, _⟩ := hI
      have g0 := T31.trans ((Tn.of_below sb v cv hB41).trans g2)
      have p1 : SdAt n (W.putObj D (.deferred none)) sb eb v xb name (evS st node ph xs) cv' := g1.grown (grownBy_putObj' W D (.deferred none)) (fun r e => by cases e; exact ⟨_, hK, rfl⟩)
      have t1 : Tn sb v w cv (W.putObj D (.deferred none)) cv' := Tn.grown g0 (grownBy_putObj' W D (.deferred none)) (fun r e => by cases e; omega)
      have HQ : Hid (PostS n w cv sb eb v xb name (visP node ph name [d] st) (W.putObj D (.deferred none))) := by
        rw [HE.out]
        exact ⟨cv', p1, t1⟩
      clear HE g1 g2 g0 p1 t1
      gi_wp2
      rw [roundsIn_succ]
      gi_wp2
      refine ⟨by simp, .inl ⟨_, _, rfl, run_takeDeferred hK, ?_⟩⟩
      exact ⟨_, results_none rfl _ _ _, rfl, HQ.out⟩
    case stop1 =>
      rintro D pre W hD _ hX hK
      have HE : Hid (visP node ph name [d] st = evS st node ph pre) := by
        show _ = _
        rw [visP1 he hX.2]
      obtain ⟨⟨cv', g1, g2⟩, _⟩ := hX
      have g0 := T31.trans ((Tn.of_below sb v cv hB41).trans g2)
      have p1 : SdAt n (W.putObj D (.deferred none)) sb eb v xb name (evS st node ph pre) cv' := g1.grown (grownBy_putObj' W D (.deferred none)) (fun r e => by cases e; exact ⟨_, hK, rfl⟩)
      have t1 : Tn sb v w cv (W.putObj D (.deferred none)) cv' := Tn.grown g0 (grownBy_putObj' W D (.deferred none)) (fun r e => by cases e; omega)
      have HQ : Hid (PostS n w cv sb eb v xb name (visP node ph name [d] st) (W.putObj D (.deferred none))) := by
        rw [HE.out]
        exact ⟨cv', p1, t1⟩
      clear HE g1 g2 g0 p1 t1
      gi_wp2
      refine ⟨by simp, .inl ⟨_, _, rfl, run_takeDeferred hK, ?_⟩⟩
      exact ⟨_, results_none rfl _ _ _, rfl, HQ.out⟩
  · rw [he] at c4
    have HP : Hid (PostS n w cv sb eb v xb name (visP node ph name [d] st) (((w.alloc (.cells #[.pointer (some ⟨sb, 0, none⟩)] 86)).alloc (.cells #[.int .i64 node] 3)).alloc (.cells #[.int .i64 ph] 3))) := by
      have e : visP node ph name [d] st = st := by unfold visP; rw [if_pos he]
      rw [e]
      exact ⟨cv, h31, Tn.of_below sb v cv hB31⟩
    gi_wp2
    refine ⟨_, results_none rfl _ _ _, rfl, ?_⟩
    exact HP.out
end Go.Proofs.YtlfepdecgfcifaaDoor
