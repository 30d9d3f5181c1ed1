/- Share: a row that is shared. -/
import Derived.Test.YtdjagdifemhkpaaSRowOf
import Derived.Test.YtdjagdifemhkpaaSDealP
import Derived.Test.YtdjagdifemhkpaaSShPure
namespace Go.Proofs.Ytdjagdifemhkpaa
open Go.RowKit
set_option linter.unusedVariables false      -- bounds that are for the walk

def countN (l : List It) : List It := (l.take 200).map itN
theorem countN_ok (l : List It) : ItsOk (countN l) := by
  refine ⟨by unfold countN; rw [List.length_map, List.length_take]; omega, fun i hi => ?_⟩
  obtain ⟨j, _, rfl⟩ := List.mem_map.1 hi
  exact itN_ok j
/-- how wide each is -/
def sharedN (l : List It) (room gap : Int) : List Int :=
  (shareL (growN (countN l) (heldN room) (heldN gap)) (roomN (countN l) (heldN room) (heldN gap)) (startN (countN l) (heldN room) (heldN gap)) (countN l).length (partsN (countN l) (heldN room) (heldN gap))).map Pr.size

theorem ItsOk.room {its : List It} (h : ItsOk its) {room gap : Int} (r1 : -16777216 ≤ room) (r2 : room ≤ 16777216) (g1 : -16777216 ≤ gap) (g2 : gap ≤ 16777216) : -9000000000 ≤ roomN its room gap ∧ roomN its room gap ≤ 9000000000 := by
  have := gapsN_bd its.length gap h.len g1 g2
  have := h.ars its.length
  unfold roomN; omega
theorem ItsOk.parts {its : List It} (h : ItsOk its) (grow : Bool) : RowOk (its.map (mkP grow)) := by
  have := parts_ok h grow its.length
  rwa [List.take_of_length_le (Nat.le_refl _)] at this
theorem ItsOk.start {its : List It} (h : ItsOk its) {room gap : Int} (r1 : -16777216 ≤ room) (r2 : room ≤ 16777216) (g1 : -16777216 ≤ gap) (g2 : gap ≤ 16777216) : -13000000000 ≤ startN its room gap ∧ startN its room gap ≤ 13000000000 := by
  have := h.room r1 r2 g1 g2
  have := (h.parts (growN its room gap)).free (roomN its room gap) its.length
  unfold startN partsN; omega

def lenV : Value → Nat | .slice _ n _ => n | _ => 0
theorem cell_one_newL (w : World) (x : Value) (t : TypeId) (B : Nat) (hB : w.heap.size = B := by simp) : ∀ j u, [x][j]? = some u → (w.alloc (.cells #[x] t)).cell? ((⟨B, 0, none⟩ : Addr).add j) = some u := by
  subst hB
  exact cell_one_new w x t
/-- between two rounds -/
structure ShRow (w wr : World) (rb : Nat) (pv ov : Value) (ps : List Pr) (grow : Bool) (room start : Int) (fin : List Pr) : Prop where
  below : Below w.heap.size w wr
  row : ∃ B, w.heap.size ≤ B ∧ RwAt wr B rb pv ps grow room start
  ptr : PtrL wr ov (blkOf pv) (openL ps)
  ne : openL ps ≠ [] → ov.ownBlock ≠ some (blkOf pv)
  ok : openL ps = [] ∨ RowOk ps
  len : ps.length ≤ 200
  fuel : ∃ f, (openL ps).length ≤ f ∧ shareL grow room start f ps = fin

set_option maxHeartbeats 4000000 in
set_option maxRecDepth 100000 in
theorem share_any {w : World} {v : Value} {l : List It} (h : ItemsL w v l) (room gap : Int) :
    Calls Try.prog 9 #[v, .int .i64 room, .int .i64 gap] w fun e w' => ∃ v', e = .returned v' ∧ IntL w' v' (sharedN l room gap) ∧ Below w.heap.size w w' := by
  obtain ⟨i0, hi, hz0, hz1, hz2⟩ := info_parts Try.infoInt
  obtain ⟨r1, r2⟩ := heldN_bd room
  obtain ⟨g1, g2⟩ := heldN_bd gap
  have HI := hidF h
  unfold sharedN
  have HO := hidF (countN_ok l)
  have HR := hidF (rfl : heldN room = heldN room)
  obtain ⟨rm, hrm⟩ : ∃ r, heldN room = r := ⟨_, rfl⟩
  obtain ⟨gp, hgp⟩ : ∃ r, heldN gap = r := ⟨_, rfl⟩
  have HRM := hidF hrm
  have HGP := hidF hgp
  rw [hrm] at r1 r2 ⊢
  rw [hgp] at g1 g2 ⊢
  obtain ⟨its, hits⟩ : ∃ x, countN l = x := ⟨_, rfl⟩
  rw [hits] at HO ⊢
  have IT := hidF (fun (W : World) (hb : Below w.heap.size w W) => itemsOf_any (h.below hb))
  rw [show (l.take 200).map itN = its from hits] at IT
  have RO := hidF (fun (W : World) (u : Value) (hu : ItemsL W u its) => rowOf_any hu HO.out rm gp r1 r2 g1 g2)
  obtain ⟨rb1, rb2⟩ := HO.out.room r1 r2 g1 g2
  obtain ⟨sb1, sb2⟩ := HO.out.start r1 r2 g1 g2
  have OK0 := hidF (HO.out.parts (growN its rm gp))
  have hlen : (partsN its rm gp).length = its.length := by unfold partsN; rw [List.length_map]
  rw [show its.map (mkP (growN its rm gp)) = partsN its rm gp from rfl] at OK0
  have LE := hidF (And.intro hlen HO.out.len)
  obtain ⟨ps0, hps0⟩ : ∃ x, partsN its rm gp = x := ⟨_, rfl⟩
  obtain ⟨gr, hgr⟩ : ∃ x, growN its rm gp = x := ⟨_, rfl⟩
  obtain ⟨ra, hra⟩ : ∃ x, roomN its rm gp = x := ⟨_, rfl⟩
  obtain ⟨st, hst⟩ : ∃ x, startN its rm gp = x := ⟨_, rfl⟩
  rw [hps0, hgr, hra, hst] at RO
  rw [hps0] at OK0 LE
  rw [hra] at rb1 rb2
  rw [hst] at sb1 sb2
  rw [hps0, hgr, hra, hst]
  obtain ⟨fin, hfin⟩ : ∃ x, shareL gr ra st its.length ps0 = x := ⟨_, rfl⟩
  have HFIN := hidF hfin
  rw [hfin]
  obtain ⟨a, cap, rfl, _, _, _⟩ := h
  clear hrm hgp hits hps0 hgr hra hst hfin hlen HR
  go_enter Try.func9, Try.ntmps9
  go_wp2_with fail
  refine (hold_pre [(⟨w.heap.size, 0, none⟩, room), (⟨w.heap.size + 1, 0, none⟩, gap)] _ _ _ _ rfl (by simp) (by simp [HoldPre, go_sem]; omega)).mono ?_
  rintro e w1 ⟨rfl, hw1⟩
  simp only [holdAll, HRM.out, HGP.out] at hw1
  have hb1 : Below w.heap.size w w1 := by rw [hw1]; go_grown
  have hz : w.heap.size + 1 < w1.heap.size := by rw [hw1]; simp
  have hzz : w.heap.size < w1.heap.size := by omega
  have q1 : w1.cell? ⟨w.heap.size, 0, none⟩ = some (.int .i64 rm) := by rw [hw1]; go_simp
  have q2 : w1.cell? ⟨w.heap.size + 1, 0, none⟩ = some (.int .i64 gp) := by rw [hw1]; go_simp
  have B1 := hidF hb1
  clear hw1 hb1
  go_upto_region 2 with fail
  go_cut [7] (fun s wx => ∃ (rb : Nat) (pv : Value), s = .pointer (some ⟨rb, 0, none⟩) ∧ Hid (Below w.heap.size w wx ∧ ∃ B, w.heap.size ≤ B ∧ RwAt wx B rb pv ps0 gr ra st))
  case first =>
    go_region_held3 (fun wx => wx.cell? ⟨w.heap.size, 0, none⟩ = some (.int .i64 rm) ∧ wx.cell? ⟨w.heap.size + 1, 0, none⟩ = some (.int .i64 gp)) (go_keep)
      (first
        | (go_at_call 26; refine (IT.out _ (by first | exact B1.out | exact B1.out.drew)).mono ?_; rintro e w5 ⟨v5, rfl, hI5, hb5⟩; have IL5 := hidF hI5; have m0 := (hb5.cell (p := ⟨w.heap.size, 0, none⟩) hzz).trans q1; have m1 := (hb5.cell (p := ⟨w.heap.size + 1, 0, none⟩) hz).trans q2; have B5 := hidF (B1.out.trans ((Below.refl w1.heap.size w1).drew.trans hb5 |>.mono B1.out.size)); have k5 := hb5.size; clear hb5 hI5)
        | (go_at_call 25; refine (RO.out _ _ IL5.out).mono ?_; rintro e w6 ⟨rb, pv, rfl, hR6, hb6⟩; have R6 := hidF (show Below w.heap.size w w6 ∧ ∃ B, w.heap.size ≤ B ∧ RwAt w6 B rb pv ps0 gr ra st from ⟨B5.out.trans (hb6.mono B5.out.size), _, B5.out.size, hR6⟩); have mm0 := (hb6.cell (p := ⟨w.heap.size, 0, none⟩) (Nat.lt_of_lt_of_le hzz k5)).trans m0; have mm1 := (hb6.cell (p := ⟨w.heap.size + 1, 0, none⟩) (Nat.lt_of_lt_of_le hz k5)).trans m1; clear hb6 hR6))
    all_goals
      go_wp2_with fail
      go_meet
      case rel => go_light; exact ⟨_, pv, rfl, R6.out⟩
  case rest =>
  obtain ⟨rb, pv, rfl, H0⟩ := hcut
  obtain ⟨hb0, B, hB, hR0⟩ := H0.out
  have OP := hidF (openR_any hR0 (by have := LE.out; omega))
  have hrl := hR0.cells.1
  have HB0 := hidF hb0
  have HR0 := hidF hR0
  clear H0 hb0 hR0 q1 q2
  go_wp2_with fail
  refine OP.out.mono ?_
  rintro e w2 ⟨ov, rfl, ho2, hb2⟩
  have S0 : Hid (ShRow w w2 rb pv ov ps0 gr ra st fin) := by
    obtain ⟨p1, p2⟩ := own_ptrs ho2
    refine ⟨HB0.out.trans (hb2.mono HB0.out.size), ⟨B, hB, HR0.out.below hb2⟩, p1, fun hne e => ?_, .inr OK0.out, by have := LE.out; omega, its.length, ?_, HFIN.out⟩
    · have h1 := p2 _ e
      obtain ⟨k, hk⟩ := List.exists_mem_of_ne_nil _ hne
      obtain ⟨m, hm⟩ := List.getElem?_of_mem hk
      obtain ⟨p, hp, _⟩ := openL_at hm
      obtain ⟨b, c, hv, _, _, _, bl, _⟩ := HR0.out.at hp
      rw [hv] at h1
      exact Nat.lt_irrefl _ (Nat.lt_of_lt_of_le bl h1)
    · have := openL_le ps0
      have := LE.out
      omega
  clear ho2 hb2 OP
  obtain ⟨oa, oc, hov, _, _, _⟩ := S0.out.ptr
  subst hov
  go_wp2_with fail
  go_loopw [8] (fun ov wr => ∃ (ps : List Pr) (oa : Option Addr) (n oc : Nat), ov = .slice oa n oc ∧ Hid (n = (openL ps).length ∧ ShRow w wr rb pv ov ps gr ra st fin)) (fun ov _ => lenV ov)
  case atStart => exact ⟨ps0, oa, _, oc, rfl, rfl, S0.out⟩
  case round =>
    obtain ⟨ps, oa2, n, oc2, rfl, HZ⟩ := hrel
    clear S0 HR0 HB0
    by_cases hn : 0 < n
    · have hne : openL ps ≠ [] := fun e => by have := HZ.out.1; rw [e] at this; simp at this; omega
      obtain ⟨B2, hB2, hR2⟩ := HZ.out.2.row
      have hok : RowOk ps := by
        rcases HZ.out.2.ok with e | e
        · exact absurd e hne
        · exact e
      have DE := hidF (dealR_any hR2 HZ.out.2.ptr (HZ.out.2.ne hne) hok hne rb1 rb2 sb1 sb2)
      have NX : Hid (∀ w3, RwAt w3 B2 rb pv (roundN gr ra st ps) gr ra st → wr.grownBy w3 (some (blkOf pv)) → Below w.heap.size w w3 ∧ (openL (roundN gr ra st ps)).length < n ∧ ∀ (w4 : World) (ov' : Value), w4.ownsRow w3.heap.size 106 1 ov' (openL (roundN gr ra st ps)).length (ptrs (blkOf pv) (openL (roundN gr ra st ps))) → Below w3.heap.size w3 w4 → ShRow w w4 rb pv ov' (roundN gr ra st ps) gr ra st fin) := by
        intro w3 h3 hg3
        have hb : w.heap.size ≤ blkOf pv := by
          obtain ⟨k, hk⟩ := List.exists_mem_of_ne_nil _ hne
          obtain ⟨m, hm⟩ := List.getElem?_of_mem hk
          obtain ⟨p, hp, _⟩ := openL_at hm
          obtain ⟨b, c, hv, _, _, hBb, _, _⟩ := hR2.at hp
          rw [hv]; exact Nat.le_trans hB2 hBb
        have hbw : Below w.heap.size w w3 := HZ.out.2.below.grown hg3 HZ.out.2.below.size (fun k hk => by cases hk; exact hb)
        refine ⟨hbw, by rw [HZ.out.1]; exact round_less gr ra st hne, fun w4 ov' ho4 hb4 => ?_⟩
        obtain ⟨p1, p2⟩ := own_ptrs ho4
        obtain ⟨f, hf1, hf2⟩ := HZ.out.2.fuel
        obtain ⟨f2, hf3, hf4⟩ := shareL_step (grow := gr) (room := ra) (start := st) hne hf1
        refine ⟨hbw.trans (hb4.mono hbw.size), ⟨B2, hB2, h3.below hb4⟩, p1, fun hne2 e => ?_, ?_, by rw [roundN_len]; exact HZ.out.2.len, f2, hf3, by rw [← hf4, hf2]⟩
        · have h1 := p2 _ e
          obtain ⟨k, hk⟩ := List.exists_mem_of_ne_nil _ hne2
          obtain ⟨m, hm⟩ := List.getElem?_of_mem hk
          obtain ⟨p, hp, _⟩ := openL_at hm
          obtain ⟨b, c, hv, _, _, _, bl, _⟩ := h3.at hp
          rw [hv] at h1
          exact Nat.lt_irrefl _ (Nat.lt_of_lt_of_le bl h1)
        · rcases round_ok gr ra st hok with e | e
          · exact .inl (open_none e)
          · exact .inr e
      have hlr := HZ.out.2.len
      have hn' : (0 : Int) < (n : Int) := by omega
      clear hR2 hok hne
      go_wp2_with fail
      refine DE.out.mono ?_
      rintro e w3 ⟨rfl, h3, hg3⟩
      obtain ⟨hbw, hlt, hnx⟩ := NX.out w3 h3 hg3
      have HNX := hidF hnx
      have OP := hidF (openR_any h3 (by rw [roundN_len]; exact hlr))
      have HLT := hidF hlt
      clear h3 hg3 hbw hlt hnx NX DE
      go_wp2_with fail
      refine OP.out.mono ?_
      rintro e w4 ⟨ov', rfl, ho4, hb4⟩
      have S4 := hidF (HNX.out w4 ov' ho4 hb4)
      clear ho4 hb4 HNX OP
      obtain ⟨oa3, oc3, hov3, _, _, _⟩ := S4.out.ptr
      subst hov3
      go_wp2_with fail
      go_roundw
      case rel => go_light; exact ⟨_, oa3, _, oc3, rfl, rfl, S4.out⟩
      case measure => show lenV _ < lenV _; simp only [lenV]; exact HLT.out
    · have hn0 : ¬ (0 : Int) < (n : Int) := by omega
      have hop : openL ps = [] := List.eq_nil_of_length_eq_zero (by have := HZ.out.1; omega)
      obtain ⟨f, _, hf2⟩ := HZ.out.2.fuel
      rw [shareL_done hop] at hf2
      subst hf2
      obtain ⟨B2, hB2, hR2⟩ := HZ.out.2.row
      have HB2 := hidF HZ.out.2.below
      have HR2 := hidF hR2
      obtain ⟨d0, d1, _, _, _⟩ := hR2.cells
      obtain ⟨pa, pc, hpv, pc1, pc2⟩ := own_shape9 hR2.row
      subst hpv
      have hll := HZ.out.2.len
      obtain ⟨m, hm⟩ : ∃ m, ps.length = m := ⟨_, rfl⟩
      have HM := hidF hm
      rw [hm] at pc1 d1 hll HR2
      clear hR2 hop HZ hm hn
      obtain ⟨w2, e2⟩ : ∃ w2, w2 = wr := ⟨_, rfl⟩
      subst e2
      go_wp2_with fail
      go_loopw [9, 34] (fun sv i wr => ∃ (k : Nat), k ≤ m ∧ i = .int .i64 k ∧ Hid (Below w2.heap.size w2 wr ∧ wr.ownsRow w2.heap.size 3 1 sv k (((ps.take k).map Pr.size).map (Value.int .i64)))) (fun _ i _ => m - (intV i).toNat)
      case atStart => exact ⟨0, Nat.zero_le _, rfl, Below.refl _ _, World.ownsRow_nil _ _ _ _⟩
      case round =>
        obtain ⟨k, hk, rfl, HZ⟩ := hrel
        by_cases hlt : k < m
        · obtain ⟨p, hp⟩ : ∃ p, ps[k]? = some p := ⟨_, List.getElem?_eq_getElem (by rw [HM.out]; exact hlt)⟩
          obtain ⟨b, c9, hv, _, _, _, bl, _, pa9⟩ := (HR2.out.below HZ.out.1).at hp
          have hvv : pa = some ⟨b, 0, none⟩ := by cases hv; rfl
          subst hvv
          clear hv
          obtain ⟨⟨p0, p1, p2, p3, p4, p5, p6⟩, p7, p8, p9, _, _, _⟩ := pa9
          have HT : Hid (((ps.take (k + 1)).map Pr.size).map (Value.int .i64) = ((ps.take k).map Pr.size).map (Value.int .i64) ++ [.int .i64 p.size]) := by
            show _ = _
            rw [List.take_add_one, hp]; simp
          have i1 : (0 : Int) ≤ (k : Int) := by omega
          have i2 : (k : Int) < (m : Int) := by omega
          have bl2 : b < wr.heap.size + 1 := by omega
          have H2 := hidF (fun ob => And.intro (HZ.out.1.alloc (o := ob) HZ.out.1.size) (HZ.out.2.alloc ob))
          clear hp
          obtain ⟨⟨xb, xmn, xmx, xar, xgr, xsh⟩, sz, mv, sb⟩ := p
          simp only at p1 p2 p3 p4 p5 p6 p7 p8 p9 HT
          go_wp2_with (at_builtin; refine wpList_append_own_at _ rfl (.tmp 38) (.tmp 41) 23 rfl w2.heap.size 3 i0 (.int .i64 0) 1 8 Try.underlying23 hi hz0 hz1 hz2 rfl (by decide) _ _ _ rfl ((H2.out _).2.alloc _) ⟨_, 0, none⟩ 1 1 [.int .i64 sz] rfl rfl (cell_one_newL _ _ _ _) (by simp [Value.oneCell']) (by unfold maxLen; omega) (by omega) (by have := HZ.out.1.size; simp; omega) ?_; intro v1 w1 hv1 hg1 hx1 hx2; clear hx1 hx2; have H3 := hidF (And.intro (((H2.out _).1.alloc (H2.out _).1.size _).grown hg1 (by have := HZ.out.1.size; simp; omega) (fun q hq => (HZ.out.2.lt q hq).1)) hv1); clear hv1 hg1)
          go_roundw
          case rel =>
            go_light
            refine ⟨k + 1, by omega, by go_num, H3.out.1, ?_⟩
            rw [HT.out]
            exact H3.out.2
          case measure => simp [intV]; omega
        · obtain rfl : k = m := by omega
          have hr : wr.ownsRow w2.heap.size 3 1 u9 (ps.map Pr.size).length ((ps.map Pr.size).map (Value.int .i64)) := by
            have := HZ.out.2
            rw [List.take_of_length_le (by rw [HM.out]; exact Nat.le_refl _)] at this
            rw [List.length_map, HM.out]
            exact this
          have HF := hidF (own_intL hr)
          have BF := hidF (HB2.out.trans (HZ.out.1.mono HB2.out.size))
          clear hr HZ
          go_wp2_with fail
          go_returns
          exact ⟨_, rfl, HF.out, BF.out⟩
end Go.Proofs.Ytdjagdifemhkpaa
