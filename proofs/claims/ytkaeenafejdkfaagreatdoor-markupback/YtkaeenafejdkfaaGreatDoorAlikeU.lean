/- A tree of the program's and one of the document's that have the same nodes: 'alike' answers true. -/
import Derived.Test.YtkaeenafejdkfaaGreatDoorM41
import Derived.Test.YtkaeenafejdkfaaGreatDoorM10
import Derived.Deep.DeepCutAuto
namespace Go.Proofs.YtkaeenafejdkfaaGreatDoor
open Go.RowKit

theorem getSU {ps qs : List Pn} (h : nodesOf ps = nodesOf qs) {i : Nat} {q : Pn} (hq : qs[i]? = some q) : ∃ p, ps[i]? = some p ∧ p.n = q.n := by
  have h1 := nodes_get hq
  rw [← h] at h1
  exact nodesOf_get h1

set_option maxHeartbeats 20000000 in
set_option maxRecDepth 100000 in
theorem alikeU_any {EX : Ext} {w : World} {M M2 : Nat → Lab} {tb tb2 : Nat} {nv uv nv2 uv2 : Value} {ps qs : List Pn} {us us2 : List Value} (h : Lies w M tb nv uv ps us) (h2 : RLies (EX := EX) w M2 tb2 nv2 uv2 qs us2) (he : nodesOf ps = nodesOf qs) (hs : WF (nodesOf ps)) {K : Nat} (hz : Few (nodesOf ps) K) (hK : K ≤ 100000) :
    Calls Tryz.prog 14 #[.pointer (some ⟨tb, 0, none⟩), .pointer (some ⟨tb2, 0, none⟩)] w fun e w' => e = .returned (.bool true) ∧ Below w.heap.size w w' := by
  have hlen : ps.length = qs.length := by have := congrArg List.length he; simpa [nodesOf] using this
  have hlt : tb2 < w.heap.size := lt_of_heap h2.head
  obtain ⟨a2, cap2, rfl, hc2, hm2⟩ := h2.nodes.shape
  have c0 := h2.cell0
  have H : Hid (∀ w', Below w.heap.size w w' → Lies w' M tb nv uv ps us ∧ RLies (EX := EX) w' M2 tb2 (.slice a2 qs.length cap2) uv2 qs us2) := fun w' hb => ⟨h.below hb, h2.below hb⟩
  have hlp : ps.length ≤ 400 := by have := hs.len; simpa [nodesOf] using this
  have HE : Hid (nodesOf ps = nodesOf qs ∧ WF (nodesOf ps) ∧ Few (nodesOf ps) K) := ⟨he, hs, hz⟩
  have SZ : Hid (∀ w', Below w.heap.size w w' → Calls Tryz.prog 49 #[.pointer (some ⟨tb, 0, none⟩)] w' fun e w'' => e = .returned (.int .i64 qs.length) ∧ w'' = w') := fun w' hb => hlen ▸ size_any (H.out w' hb).1
  unfold maxLen at hm2
  clear h h2 he hs hz
  go_enter Tryz.func14, Tryz.ntmps14
  go_wp2
  go_quiet ((go_at_call 49; exact Calls.quiet_of_same (SZ.out _ (below_drewN (Below.refl _ _) _))))
  go_wp2_with fail
  go_loopw [5] (fun iv wr => ∃ k : Nat, k ≤ qs.length ∧ iv = .int .i64 k ∧ Hid (Below w.heap.size w wr)) (fun iv _ => qs.length - (intOf iv).toNat)
  case atStart => exact ⟨0, by omega, rfl, below_drewN (Below.refl _ _) _⟩
  case round =>
    obtain ⟨k, hk, rfl, hbel⟩ := hrel
    have hsz := hbel.out.size
    have d0 := (hbel.out.cell (p := ⟨tb2, 0, none⟩) hlt).trans c0
    have htl := Nat.lt_of_lt_of_le hlt hsz
    by_cases hkl : k < qs.length
    · obtain ⟨q, hq⟩ : ∃ q, qs[k]? = some q := ⟨_, List.getElem?_eq_getElem hkl⟩
      obtain ⟨p, hp, hpq⟩ := getSU HE.out.1 hq
      have hR := (H.out wr hbel.out).2
      obtain ⟨nb2, cc, hv2, _, _, _, hnl2, _⟩ := hR.form hq
      cases hv2
      have k0 := (hR.cellN rfl (f := 0) hq (by omega) rfl).1
      rw [Nat.add_zero] at k0
      have k1 := (hR.cellN rfl (f := 1) hq (by omega) rfl).1
      have k2 := (hR.cellN rfl (f := 2) hq (by omega) rfl).1
      have k3 := (hR.cellN rfl (f := 3) hq (by omega) rfl).1
      have k4 := (hR.cellN rfl (f := 4) hq (by omega) rfl).1
      have k5 := (hR.cellN rfl (f := 5) hq (by omega) rfl).1
      have HA : Hid (AttrsAt wr q.av q.n.attrs ∧ IntsAt wr q.kv q.n.kids) := ⟨(hR.node k q hq).1.attrsAt, (hR.node k q hq).2.ints⟩
      have za := HE.out.2.2 k p.n (nodes_get hp)
      have zk := HE.out.2.1.few (nodes_get hp)
      have HP : Hid (ps[k]? = some p) := hp
      obtain ⟨pn, pav, pkv⟩ := p
      obtain ⟨qn, qav, qkv⟩ := q
      dsimp only at hpq k0 k1 k2 k3 k4 k5 za zk HA
      subst hpq
      have hkp : k < ps.length := by omega
      obtain ⟨aa, ac, ha1, _⟩ := id HA.out.1
      obtain ⟨ka, kc, ha2, _⟩ := id HA.out.2
      subst ha1
      subst ha2
      have HBx : Hid (∀ o n, Below w.heap.size w ((wr.alloc o).drewN n)) := fun o n => below_drewN (hbel.out.alloc hsz o) n
      clear hq hp hR
      go_wp2_with fail
      go_quiet ((first
        | (go_at_call 32; exact Calls.quiet_of_same (kind_any (H.out _ (HBx.out _ _)).1 HP.out))
        | (go_at_call 50; exact Calls.quiet_of_same (tag_any (H.out _ (HBx.out _ _)).1 HP.out))
        | (go_at_call 51; exact Calls.quiet_of_same (words_any (H.out _ (HBx.out _ _)).1 HP.out))
        | (go_at_call 42; exact Calls.quiet_of_same (parent_any (H.out _ (HBx.out _ _)).1 HP.out))))
      go_wp2_with fail
      have z3 : ((wr.alloc (.cells #[.int .i64 pn.kind, .string pn.tag, .string pn.words, .slice aa pn.attrs.length ac, .int .i64 pn.parent, .slice ka pn.kids.length kc] 50)).drewN nq).cell? ⟨wr.heap.size, 3, none⟩ = some (.slice aa pn.attrs.length ac) := by simp
      have z5 : ((wr.alloc (.cells #[.int .i64 pn.kind, .string pn.tag, .string pn.words, .slice aa pn.attrs.length ac, .int .i64 pn.parent, .slice ka pn.kids.length kc] 50)).drewN nq).cell? ⟨wr.heap.size, 5, none⟩ = some (.slice ka pn.kids.length kc) := by simp
      have hb7 : Hid (Below w.heap.size w ((wr.alloc (.cells #[.int .i64 pn.kind, .string pn.tag, .string pn.words, .slice aa pn.attrs.length ac, .int .i64 pn.parent, .slice ka pn.kids.length kc] 50)).drewN nq)) := HBx.out _ _
      have bx : Below wr.heap.size wr ((wr.alloc (.cells #[.int .i64 pn.kind, .string pn.tag, .string pn.words, .slice aa pn.attrs.length ac, .int .i64 pn.parent, .slice ka pn.kids.length kc] 50)).drewN nq) := below_drewN ((Below.refl _ _).alloc (Nat.le_refl _) _) _
      have HA7 : Hid (AttrsAt ((wr.alloc (.cells #[.int .i64 pn.kind, .string pn.tag, .string pn.words, .slice aa pn.attrs.length ac, .int .i64 pn.parent, .slice ka pn.kids.length kc] 50)).drewN nq) (.slice aa pn.attrs.length ac) pn.attrs ∧ IntsAt ((wr.alloc (.cells #[.int .i64 pn.kind, .string pn.tag, .string pn.words, .slice aa pn.attrs.length ac, .int .i64 pn.parent, .slice ka pn.kids.length kc] 50)).drewN nq) (.slice ka pn.kids.length kc) pn.kids) := ⟨HA.out.1.below bx, HA.out.2.below bx⟩
      have b7 : wr.heap.size < ((wr.alloc (.cells #[.int .i64 pn.kind, .string pn.tag, .string pn.words, .slice aa pn.attrs.length ac, .int .i64 pn.parent, .slice ka pn.kids.length kc] 50)).drewN nq).heap.size := World.block_lt_of_cell? _ _ z3
      generalize ((wr.alloc (.cells #[.int .i64 pn.kind, .string pn.tag, .string pn.words, .slice aa pn.attrs.length ac, .int .i64 pn.parent, .slice ka pn.kids.length kc] 50)).drewN nq) = w7 at *
      clear HA bx HBx k0 k1 k2 k3 k4 k5
      have s7 := hb7.out.size
      go_cut [7] (fun s7 wx => s7 = .bool true ∧ Hid (Below w7.heap.size w7 wx))
      case first =>
        go_region_with
          ((first
            | (go_at_call 53; refine (attrs_any (H.out _ hb7.out.drew).1 HP.out (by show pn.attrs.length ≤ _; omega)).mono ?_; rintro e w8 ⟨v8, rfl, ho8, hB8⟩
               obtain ⟨a8, e8, hv8⟩ := own_shape ho8
               subst hv8
               have z8 := (hB8.cell (p := ⟨wr.heap.size, 3, none⟩) (by show wr.heap.size < _; exact b7)).trans (by simpa using z3)
               have H8 : Hid (AttrsAt w8 (.slice a8 pn.attrs.length e8) pn.attrs ∧ Below w7.heap.size w7 w8) := ⟨own_attrs ho8, (Below.refl _ _).drew.trans hB8⟩
               clear ho8 hB8)
            | (go_at_call 52; refine (sameAttrs_any H8.out.1 (HA7.out.1.below H8.out.2) (by omega)).mono ?_; rintro e w9 ⟨rfl, hB9⟩
               have H9 : Hid (Below w7.heap.size w7 w9) := H8.out.2.trans (hB9.mono H8.out.2.size)
               clear hB9)))
        all_goals (go_wp2_with fail; go_meet; exact ⟨rfl, H9⟩)
      case rest =>
      obtain ⟨w9, hw9⟩ : ∃ w9, w9 = wc := ⟨_, rfl⟩
      subst hw9
      obtain ⟨hs7, H9⟩ := hcut
      subst hs7
      have zz5 := (H9.out.cell (p := ⟨wr.heap.size, 5, none⟩) b7).trans z5
      have b9 := Nat.lt_of_lt_of_le b7 H9.out.size
      have s9 := H9.out.size
      have HB9 : Hid (Below w.heap.size w w9) := hb7.out.trans (H9.out.mono s7)
      have HA9 : Hid (IntsAt w9 (.slice ka pn.kids.length kc) pn.kids) := HA7.out.2.below H9.out
      clear HA7 z3
      go_upto_region 10 with fail
      go_cut [8] (fun s8 wx => s8 = .bool true ∧ Hid (Below w9.heap.size w9 wx))
      case first =>
        go_region_with
          ((first
            | (go_at_call 44; refine (kids_any (H.out _ HB9.out.drew).1 HP.out (by show pn.kids.length ≤ _; omega)).mono ?_; rintro e w10 ⟨v10, rfl, ho10, hB10⟩
               obtain ⟨a10, e10, hv10⟩ := own_shape ho10
               subst hv10
               have z10 := (hB10.cell (p := ⟨wr.heap.size, 5, none⟩) (by show wr.heap.size < _; exact b9)).trans (by simpa using zz5)
               have H10 : Hid (IntsAt w10 (.slice a10 pn.kids.length e10) pn.kids ∧ Below w9.heap.size w9 w10) := ⟨own_ints ho10, (Below.refl _ _).drew.trans hB10⟩
               clear ho10 hB10)
            | (go_at_call 54; refine (sameInts_any H10.out.1 (HA9.out.below H10.out.2) (by omega)).mono ?_; rintro e w11 ⟨rfl, hB11⟩
               have H11 : Hid (Below w9.heap.size w9 w11) := H10.out.2.trans (hB11.mono H10.out.2.size)
               clear hB11)))
        all_goals (go_wp2_with fail; go_meet; exact ⟨rfl, H11⟩)
      case rest =>
      obtain ⟨w11, hw11⟩ : ∃ w11, w11 = wc := ⟨_, rfl⟩
      subst hw11
      obtain ⟨hs8, H11⟩ := hcut
      subst hs8
      have HB11 : Hid (Below w.heap.size w w11) := HB9.out.trans (H11.out.mono (Nat.le_trans s7 s9))
      have hnq : (nodesOf ps).length = ps.length := by simp [nodesOf]
      have rk : rkU (nodesOf ps) k < ps.length + 1 := by have := rkU_le (nodesOf ps) k; omega
      have hU : (und (nodesOf ps) (ps.length + 1) k).length ≤ 1000000000 := Nat.le_trans (und_short HE.out.2.1 _ k (by omega)) (by omega)
      have CU : Hid (Calls Tryz.prog 55 #[.pointer (some ⟨tb, 0, none⟩), .int .i64 k] w11 (UndPost w11 (und (nodesOf ps) (ps.length + 1) k))) := Under_any (H.out _ HB11.out).1 HE.out.2.1 (ps.length + 1) k hkp rk
      have CR : Hid (∀ w', Below w.heap.size w w' → Calls Tryz.prog 56 #[.pointer (some ⟨tb2, 0, none⟩), .int .i64 k] w' (UndPost w' (und (nodesOf ps) (ps.length + 1) k))) := by
        intro w' hb'
        have e1 := HE.out.1
        have e2 := HE.out.2.1
        rw [e1] at e2
        have rk2 := rk
        have hU2 := hU
        rw [e1] at rk2 hU2
        have := runder_any (H.out _ hb').2 e2 (ps.length + 1) k hkl rk2 w' k rfl (Below.refl _ _) hU2
        rw [e1]
        exact this
      generalize und (nodesOf ps) (ps.length + 1) k = U at *
      clear zz5 b9 s9 H11 HA9 HB9 z5 H9 hb7 rk hnq
      go_wp2_with (first
        | (go_at_call 55; refine CU.out.mono ?_; rintro e w12 ⟨v12, rfl, ho12, hB12⟩
           obtain ⟨a12, e12, hv12⟩ := own_shape ho12
           subst hv12
           have H12 : Hid (IntsAt w12 (.slice a12 U.length e12) U ∧ Below w.heap.size w w12) := ⟨own_ints ho12, HB11.out.trans (hB12.mono HB11.out.size)⟩
           clear ho12 hB12)
        | (go_at_call 56; refine (CR.out _ H12.out.2).mono ?_; rintro e w13 ⟨v13, rfl, ho13, hB13⟩
           obtain ⟨a13, e13, hv13⟩ := own_shape ho13
           subst hv13
           have H13 : Hid (IntsAt w13 (.slice a12 U.length e12) U ∧ IntsAt w13 (.slice a13 U.length e13) U ∧ Below w.heap.size w w13) := ⟨H12.out.1.below hB13, own_ints ho13, H12.out.2.trans (hB13.mono H12.out.2.size)⟩
           clear ho13 hB13)
        | (go_at_call 54; refine (sameInts_any H13.out.1 H13.out.2.1 (by omega)).mono ?_; rintro e w14 ⟨rfl, hB14⟩
           have H14 : Hid (Below w.heap.size w w14) := H13.out.2.2.trans (hB14.mono H13.out.2.2.size)
           clear hB14))
      go_roundw
      case rel => go_light; exact ⟨k + 1, by omega, by go_num, H14⟩
      case measure => go_light; simp [intOf]; omega
    · go_wp2
      go_ret
      exact ⟨rfl, hbel.out⟩
end Go.Proofs.YtkaeenafejdkfaaGreatDoor
