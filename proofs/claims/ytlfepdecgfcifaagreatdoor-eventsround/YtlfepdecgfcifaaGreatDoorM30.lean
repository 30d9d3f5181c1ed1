/- EventsRound, walked: going on comes round, past each once, and back again. -/
import Derived.Test.YtlfepdecgfcifaaGreatDoorM25
import Derived.Test.YtlfepdecgfcifaaGreatDoorM26
import Derived.Test.YtlfepdecgfcifaaGreatDoorM29
namespace Go.Proofs.YtlfepdecgfcifaaGreatDoor
open Go.RowKit
set_option linter.unusedVariables false
attribute [local go_sem] Oper.semAt_some

theorem TwAt.wideE {w : World} {S S' b c : Nat} {t : Tw} (h : TwAt w S b c t) (hs : S ≤ S') : TwAt w S' b c t := by
  refine ⟨Nat.lt_of_lt_of_le h.blk hs, h.kind, h.tag, h.text, h.attrs, h.kids, h.al, h.kl, h.tl, h.xl, ?_, ?_⟩
  · intro j x hx
    obtain ⟨b', o', e1, e2, e3⟩ := h.att j x hx
    exact ⟨b', o', e1, Nat.lt_of_lt_of_le e2 hs, e3⟩
  · intro j x hx
    obtain ⟨b', o', e1, e2, e3⟩ := h.kid j x hx
    exact ⟨b', o', e1, Nat.lt_of_lt_of_le e2 hs, e3⟩
theorem TwigsIn.wideE {w : World} {S S' : Nat} {a : Option Addr} {ts : List Tw} (h : TwigsIn w S a ts) (hs : S ≤ S') : TwigsIn w S' a ts := fun i t ht => by
  obtain ⟨b, o, e, hT⟩ := h i t ht
  exact ⟨b, o, e, hT.wideE hs⟩

set_option maxHeartbeats 8000000 in
set_option maxRecDepth 100000 in
theorem eventsRound_any {W : World} {cap : Nat} {ad : Option Addr} {ts : List Tw} (h : TwigsIn W W.heap.size ad ts) (hE : Errs W M0) (hx : ErrSx W) :
    Calls Tryz.prog 4 #[.slice ad ts.length cap] W fun e w' => e = .returned (.bool true) ∧ Below W.heap.size W w' := by
  have H := hidF h
  have HE := hidF hE
  have HX := hidF hx
  have hmx : Tryz.prog.follows Departure.mixedOrders = true := by kernel_rfl
  clear h hE hx
  go_enter Tryz.func4, Tryz.ntmps4
  go_wp2_with fail
  refine (fewTwigsE_any H.out (Nat.le_refl _)).mono ?_
  rintro e W2 ⟨⟨⟨r, rfl, hr⟩, hr24⟩, hB2⟩
  have HB2 := hidF hB2
  have hs2 : W.heap.size ≤ W2.heap.size := hB2.size
  clear hB2
  cases r
  · clear hr hr24
    go_wp2_with fail
    all_goals go_ret
    all_goals exact ⟨rfl, HB2.out⟩
  have HFew := hidF (hr rfl)
  have HF : Hid (Fair ts) := ⟨by have := HFew.out.1; omega, fun j t ht => by have := HFew.out.2 j t ht; exact ⟨by have := this.2.2.1; omega, by have := this.2.2.2; omega⟩⟩
  have h24 := hr24 rfl
  clear hr hr24
  go_wp2_with fail
  refine (treeG_any ((H.out.same (w' := W2) (fun b hb => HB2.out.block b hb)).wideE (by omega)) (HE.out.below HB2.out) HF.out).mono ?_
  intro e W3 hq
  rcases hq with ⟨_, hnf, _⟩ | ⟨tb, M, nv, uv, ps, us, rfl, hL, hmv, hns, hlen, hsz⟩
  · exact absurd HFew.out hnf
  have hB3 : Below W2.heap.size W2 W3 := ⟨hmv.os, hmv.tape, hmv.output, hmv.size, fun b hb => hmv.far b hb rfl⟩
  have HB3 := hidF (HB2.out.trans (hB3.mono (by omega)))
  have hs3 : W2.heap.size ≤ W3.heap.size := hB3.size
  have hsN : ps.length = ts.length + 1 := by have := congrArg List.length hns; rw [show (treeS ts).length = ts.length + 1 from lastS_length ts _] at this; simpa [nodesOf] using this
  have hs : Sound (nodesOf ps) := hns ▸ lastS_sound ts _
  have hn : Neat (nodesOf ps) := hns ▸ lastS_neat ts _
  obtain ⟨l, hl⟩ : ∃ l, orderP (nodesOf ps) (undZ (nodesOf ps) 0) = l := ⟨_, rfl⟩
  have OR : Hid (∀ V, Below W3.heap.size W3 V → Calls Tryz.prog 9 #[.pointer (some ⟨tb, 0, none⟩), .int .i64 0] V (UndPost V l)) := fun V hV => by
    rw [← hl]
    exact order_any (hL.below hV) hs hn (by omega) ((HX.out.held HB3.out).held hV) 0
  have hll : l.length ≤ 100 := by
    rw [← hl]
    refine Nat.le_trans (orderP_len _ _) (Nat.le_trans (undZ_len hs hn 0) ?_)
    simp [nodesOf]
    omega
  have NX : Hid (∀ V, Below W3.heap.size W3 V → ∀ z back, Calls Tryz.prog 11 #[.pointer (some ⟨tb, 0, none⟩), .int .i64 0, .int .i64 z, .bool back] V fun e w' => e = .returned (.int .i64 (nextP l z back)) ∧ Below V.heap.size V w') := fun V hV z back => next_any (by omega) (OR.out V hV) z back
  have HND : Hid l.Nodup := by rw [← hl]; exact orderP_nodup (undZ_nodup hs hn 0)
  have HLO : Hid (∀ x ∈ l, 0 ≤ x) := fun x hx => by rw [← hl] at hx; exact orderP_low hs hx
  clear hL hmv hns hsz hB3 hs hn hl hsN
  go_wp2_with fail
  refine (OR.out W3 (Below.refl _ _)).mono ?_
  rintro e W4 ⟨v, rfl, hv, hb4⟩
  have HB4 := hidF hb4
  have hs4 : W3.heap.size ≤ W4.heap.size := hb4.size
  have HV := hidF hv
  obtain ⟨va, vc, rfl, _, _, _⟩ := own_shapeG hv
  clear hv hb4
  have N0 := hidF (NX.out W4 HB4.out (-1) false)
  go_wp2_with fail
  refine N0.out.mono ?_
  rintro e W5 ⟨rfl, hb5⟩
  have HB5 := hidF (HB4.out.trans (hb5.mono hs4))
  have HB45 := hidF hb5
  have hs5 : W4.heap.size ≤ W5.heap.size := hb5.size
  clear hb5 N0
  by_cases hl0 : l.length = 0
  · have e0 : nextP l (-1) false = -1 := by unfold nextP; rw [if_pos hl0]
    rw [e0, hl0]
    go_wp2_with fail
    go_ret
    exact ⟨rfl, HB3.out.trans (HB5.out.mono (by omega))⟩
  have hz' : ((l.length : Int) == 0) = false := by rw [beq_eq_false_iff_ne]; omega
  have hz2 : ¬ (l.length : Int) = 0 := by omega
  obtain ⟨A, hA⟩ : ∃ A : Nat → Int, (fun i => l.getD i 0) = A := ⟨_, rfl⟩
  have hA' : ∀ i, l.getD i 0 = A i := fun i => congrFun hA i
  have e0 : nextP l (-1) false = A 0 := by rw [← hA' 0]; exact next_start (by omega) (fun q => by have := HLO.out _ q; omega)
  have F1 : Hid (∀ i, i < l.length → nextP l (A i) false = A ((i + 1) % l.length)) := fun i hi => by rw [← hA', ← hA']; exact next_fwd HND.out hi
  have F2 : Hid (∀ i, i < l.length → nextP l (A ((i + 1) % l.length)) true = A i) := fun i hi => by rw [← hA', ← hA']; exact next_back HND.out hi
  have F3 : Hid (∀ i j, i < l.length → j < l.length → A i = A j → i = j) := fun i j hi hj e => getD_inj HND.out hi hj (by rw [hA', hA']; exact e)
  rw [e0]
  clear e0
  obtain ⟨g, c, hvv, hg0, hg1, hg2, hg3⟩ := own_cells HV.out (by omega)
  cases hvv
  have HG : Hid (∀ j, j < l.length → W4.cell? ⟨g, j, none⟩ = some (.int .i64 (A j))) := fun j hj => by
    have := hg3 j hj
    rw [Nat.zero_add, hA'] at this
    exact this
  obtain ⟨n, hn⟩ : ∃ n, l.length = n := ⟨_, rfl⟩
  rw [hn] at hz' hz2 hll hl0 F1 F2 F3 HG ⊢
  clear hg2 hg3 hA hA' hn HND HLO HV
  go_wp2_with fail
  go_loopw [8, 7, 9, 10] (fun iv av _ _ wr => ∃ k : Nat, k ≤ n ∧ iv = .int .i64 k ∧ av = .int .i64 (A (k % n)) ∧ Hid (Below W4.heap.size W4 wr)) (fun iv _ _ _ _ => n - (intOf iv).toNat)
  case atStart => exact ⟨0, by omega, rfl, by rw [Nat.zero_mod], HB45⟩
  case round =>
    obtain ⟨k, hk, rfl, rfl, HR⟩ := hrel
    by_cases hlt : k < n
    · have hlt' : (k : Int) < (n : Int) := by omega
      have hgr := Nat.lt_of_lt_of_le hg1 HR.out.size
      have c0 := (HR.out.cell (p := ⟨g, k, none⟩) hg1).trans (HG.out k hlt)
      have ek : k % n = k := Nat.mod_eq_of_lt hlt
      rw [ek]
      have j1 : (A k != A k) = false := by simp
      go_wp2_with fail
      go_loopw [9] (fun jv wx => ∃ j : Nat, j ≤ k ∧ jv = .int .i64 j ∧ Hid (Below W4.heap.size W4 wx)) (fun jv _ => k - (intOf jv).toNat)
      case atStart => exact ⟨0, by omega, rfl, HR⟩
      case round =>
        obtain ⟨j, hj, rfl, HS⟩ := hrel
        by_cases hjk : j < k
        · have hjk' : (j : Int) < (k : Int) := by omega
          have hjn : (j : Int) < (n : Int) := by omega
          have d0 := (HS.out.cell (p := ⟨g, k, none⟩) hg1).trans (HG.out k hlt)
          have d1 := (HS.out.cell (p := ⟨g, j, none⟩) hg1).trans (HG.out j (by omega))
          have hne : (A j == A k) = false := by
            rw [beq_eq_false_iff_ne]
            intro e
            have := F3.out j k (by omega) hlt e
            omega
          have hne2 : ¬ A j = A k := by simpa using hne
          clear c0
          go_wp2_with fail
          go_quiet (fail)
          go_wp2_with fail
          go_roundw
          case rel => go_light; exact ⟨j + 1, by omega, by go_num, belD HS.out _⟩
          case measure => simp [intOf]; omega
        · obtain rfl : j = k := by omega
          have hs6 := HS.out.size
          have N1 := hidF (NX.out _ (HB4.out.trans (HS.out.mono hs4)) (A j) false)
          rw [F1.out j hlt] at N1
          go_wp2_with fail
          refine N1.out.mono ?_
          rintro e W6 ⟨rfl, hb6⟩
          have HB6 := hidF (HS.out.trans (hb6.mono hs6))
          clear hb6 N1
          have hs7 := HB6.out.size
          have N2 := hidF (NX.out _ (HB4.out.trans (HB6.out.mono hs4)) (A ((j + 1) % n)) true)
          rw [F2.out j hlt] at N2
          go_wp2_with fail
          refine N2.out.mono ?_
          rintro e W7 ⟨rfl, hb7⟩
          have HB7 := hidF (HB6.out.trans (hb7.mono hs7))
          clear hb7 N2
          go_wp2_with fail
          go_roundw
          case rel => exact ⟨j + 1, by omega, by go_num, rfl, HB7.out⟩
          case measure => simp [intOf]; omega
    · obtain rfl : k = n := by omega
      have c0 := (HR.out.cell (p := ⟨g, 0, none⟩) hg1).trans (HG.out 0 (by omega))
      have ek : k % k = 0 := Nat.mod_self k
      rw [ek]
      have j1 : (A 0 == A 0) = true := by simp
      have hk0 : (0 : Int) < (k : Int) := by omega
      go_wp2_with fail
      go_ret
      exact ⟨rfl, HB3.out.trans ((HB4.out.mono (by omega)).trans (HR.out.mono (by omega)))⟩
end Go.Proofs.YtlfepdecgfcifaaGreatDoor
