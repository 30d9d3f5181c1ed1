/- deal, walked. -/
import Derived.Test.YtdjagdifemhkpaaSMix
import Derived.Test.YtdjagdifemhkpaaSShares
namespace Go.Proofs.Ytdjagdifemhkpaa
open Go.RowKit
set_option linter.unusedVariables false      -- bounds that are for the walk

theorem RwAt.grown {w w' : World} {B rb b c : Nat} {ps : List Pr} {grow : Bool} {room start : Int} (h : RwAt w B rb (.slice (some ⟨b, 0, none⟩) ps.length c) ps grow room start) (hb : Below w.heap.size w w') : RwAt w' B rb (.slice (some ⟨b, 0, none⟩) ps.length c) ps grow room start := h.below hb
theorem grownBy_set {w w' : World} {b : Nat} (h : w.grownBy w' (some b)) {a : Addr} (ha : a.block = b) (u : Value) : w.grownBy (w'.setCell a u) (some b) :=
  ⟨h.os, h.tape, h.output, by simpa using h.size, fun k hk hne => (Below.heap_setCell w' a u k (fun e => hne (by rw [e, ha]))).trans (h.block k hk hne)⟩
theorem grownBy_below {w w' w'' : World} {b : Nat} (h : w.grownBy w' (some b)) (hb : Below w'.heap.size w' w'') : w.grownBy w'' (some b) :=
  ⟨hb.os.trans h.os, hb.tape.trans h.tape, hb.output.trans h.output, Nat.le_trans h.size hb.size, fun k hk hne => (hb.block k (Nat.lt_of_lt_of_le hk h.size)).trans (h.block k hk hne)⟩

theorem RwAt.drewW {w : World} {B rb : Nat} {pv : Value} {ps : List Pr} {grow : Bool} {room start : Int} (h : RwAt w B rb pv ps grow room start) : RwAt w.drew B rb pv ps grow room start := ⟨h.head, h.lo, h.row, h.ne⟩
theorem addr_ne {b i j : Nat} (h : i ≠ j) : (⟨b, i, none⟩ : Addr) ≠ ⟨b, j, none⟩ := fun e => h (by cases e; rfl)
/-- shares told by weights of the open ones -/
theorem shareN_open {ps : List Pr} (grow : Bool) (a : Int) {m k : Nat} {p : Pr} (h : (openL ps)[m]? = some k) (hp : ps[k]? = some p) :
    shareN a ((openL ps).map (atF (wtP grow) ps)) m = partN a (sumO (wtP grow) ps k) (wtP grow p) (sumO (wtP grow) ps ps.length) := by
  unfold shareN
  rw [← List.map_take, openL_sumF _ h, openL_allF, List.getD_eq_getElem?_getD, List.getElem?_map, h]
  simp only [Option.map_some, Option.getD_some, atF_at hp]

set_option maxHeartbeats 4000000 in
set_option maxRecDepth 100000 in
theorem dealR_any {w : World} {B rb : Nat} {pv ov : Value} {ps : List Pr} {grow : Bool} {room start : Int} (h : RwAt w B rb pv ps grow room start) (hp : PtrL w ov (blkOf pv) (openL ps)) (hob : ov.ownBlock ≠ some (blkOf pv)) (ho : RowOk ps) (hne : openL ps ≠ []) (r1 : -9000000000 ≤ room) (r2 : room ≤ 9000000000) (t1 : -13000000000 ≤ start) (t2 : start ≤ 13000000000) :
    Calls Try.prog 28 #[.pointer (some ⟨rb, 0, none⟩), ov] w fun e w' => e = .returned (.tuple #[]) ∧ RwAt w' B rb pv (roundN grow room start ps) grow room start ∧ w.grownBy w' (some (blkOf pv)) := by
  obtain ⟨i0, hi, hz0, hz1, hz2⟩ := info_parts Try.infoInt
  have hl9 := openL_le ps
  have hl8 := ho.len
  have OL := hidF (fun m k (e : (openL ps)[m]? = some k) => openL_at e)
  -- the parts' block
  obtain ⟨b, c, hv, cb1, cb2, bB, bl, brb⟩ : ∃ b c, pv = .slice (some ⟨b, 0, none⟩) ps.length c ∧ ps.length ≤ c ∧ c ≤ 9223372036854775807 ∧ B ≤ b ∧ b < w.heap.size ∧ b ≠ rb := by
    obtain ⟨k, hk⟩ := List.exists_mem_of_ne_nil _ hne
    obtain ⟨m, hm⟩ := List.getElem?_of_mem hk
    obtain ⟨p, hp, _⟩ := OL.out m k hm
    obtain ⟨b, c, h1, h2, h3, h4, h5, h6, _⟩ := h.at hp
    exact ⟨b, c, h1, h2, h3, h4, h5, h6⟩
  subst hv
  rw [show blkOf (.slice (some ⟨b, 0, none⟩) ps.length c) = b from rfl] at hp hob ⊢
  obtain ⟨is, his⟩ : ∃ is, openL ps = is := ⟨_, rfl⟩
  have HIS := hidF his
  have ND := hidF (openL_nodup ps)
  rw [his] at hp hl9 OL ND
  have hil : is.length ≤ 200 := by omega
  have AM := hidF (fun (W : World) (hb : Below w.heap.size w W) => amountR_any (h.below hb) (ov := ov) (by rw [his]; exact hp.below hb) ho r1 r2 t1 t2)
  obtain ⟨a, ha⟩ : ∃ a, amountP grow room start ps = a := ⟨_, rfl⟩
  have HA := hidF ha
  have ab : a.natAbs ≤ 13000000000 := by
    have := amountN_bd (freeN room ps ps.length) start (sumO (facP grow) ps ps.length)
    have := ho.free room ps.length
    rw [← ha]; unfold amountP; omega
  rw [ha] at AM
  obtain ⟨oa, oc, rfl, o1, o2, hor⟩ := hp
  have HP := hidF hor
  have H := hidF h
  have HO := hidF ho
  have hrl := h.cells.1
  have HOB := hidF hob
  clear his hor h hl9 hl8 ho ha hob hne
  obtain ⟨n, hn⟩ : ∃ n, is.length = n := ⟨_, rfl⟩
  have HN := hidF hn
  rw [hn] at o1 hil ⊢ AM HOB
  clear hn
  go_enter Try.func28, Try.ntmps28
  go_wp2_with fail
  go_loopw [4, 15] (fun wv i wr => ∃ (m : Nat), m ≤ n ∧ i = .int .i64 m ∧ Hid (Below w.heap.size w wr ∧ wr.ownsRow w.heap.size 3 1 wv m (((is.take m).map (atF (wtP grow) ps)).map (Value.int .i64)))) (fun _ i _ => n - (intV i).toNat)
  case atStart => exact ⟨0, Nat.zero_le _, rfl, Below.refl _ _, World.ownsRow_nil _ _ _ _⟩
  case round =>
    obtain ⟨m, hm, rfl, HZ⟩ := hrel
    by_cases hlt : m < n
    · obtain ⟨k, hk⟩ : ∃ k, is[m]? = some k := ⟨_, List.getElem?_eq_getElem (by rw [HN.out]; exact hlt)⟩
      obtain ⟨p, hp, _⟩ := OL.out m k hk
      obtain ⟨g, rfl, gl, gc⟩ := HP.out m k hk
      obtain ⟨b9, c9, hv, _, _, _, bl9, _, pa⟩ := (H.out.below HZ.out.1).at hp
      obtain rfl : b = b9 := by cases hv; rfl
      have gc2 := (HZ.out.1.cell (p := ⟨g, m, none⟩) gl).trans gc
      obtain ⟨⟨p0, p1, p2, p3, p4, p5, p6⟩, _, _, _, _, _, _⟩ := pa
      have FC := hidF (weightR_any (H.out.below HZ.out.1) (HO.out.ok p (List.mem_of_getElem? hp)))
      have HT : Hid (((is.take (m + 1)).map (atF (wtP grow) ps)).map (Value.int .i64) = ((is.take m).map (atF (wtP grow) ps)).map (Value.int .i64) ++ [.int .i64 (wtG grow p.i)]) := by
        show _ = _
        rw [List.take_add_one, hk]
        simp [atF_at hp, wtP]
      have i1 : (0 : Int) ≤ (m : Int) := by omega
      have i2 : (m : Int) < (n : Int) := by omega
      have bz := HZ.out.1.size
      obtain ⟨fg, hfg⟩ : ∃ f, wtG grow p.i = f := ⟨_, rfl⟩
      rw [hfg] at FC HT
      clear hk hp hv gc hfg
      obtain ⟨⟨xb, xmn, xmx, xar, xgr, xsh⟩, sz, mv, st⟩ := p
      unfold itV at FC
      simp only at p1 p2 p3 p4 p5 p6 FC
      go_wp2_with fail
      refine FC.out.mono ?_
      rintro e w2 ⟨rfl, hb2⟩
      have H2 := hidF (And.intro (HZ.out.1.trans (hb2.mono bz)) (World.ownsRow.kept HZ.out.2 (row := none) ⟨hb2.os, hb2.tape, hb2.output, hb2.size, fun k hk _ => hb2.block k hk⟩ (by cases u4.ownBlock <;> simp)))
      clear hb2
      go_wp2_with (at_builtin; refine wpList_append_own_at _ rfl (.tmp 19) (.tmp 26) 23 rfl w.heap.size 3 i0 (.int .i64 0) 1 8 Try.underlying23 hi hz0 hz1 hz2 rfl (by decide) _ _ _ rfl (H2.out.2.alloc _) ⟨_, 0, none⟩ 1 1 [.int .i64 fg] rfl rfl (cell_one_new _ _ _) (by simp [Value.oneCell']) (by unfold maxLen; omega) (by omega) (by have := H2.out.1.size; simp; omega) ?_; intro v1 w1 hv1 hg1 hx1 hx2; clear hx1 hx2; have H3 := hidF (And.intro ((H2.out.1.alloc H2.out.1.size _).grown hg1 (by have := H2.out.1.size; simp; omega) (fun q hq => (H2.out.2.lt q hq).1)) hv1); clear hv1 hg1)
      go_roundw
      case rel =>
        go_light
        refine ⟨m + 1, by omega, by go_num, H3.out.1, ?_⟩
        rw [HT.out]
        exact H3.out.2
      case measure => simp [intV]; omega
    · obtain rfl : m = n := by omega
      have hws : wr.ownsRow w.heap.size 3 1 u4 (is.map (atF (wtP grow) ps)).length ((is.map (atF (wtP grow) ps)).map (Value.int .i64)) := by
        have := HZ.out.2
        rw [List.take_of_length_le (by rw [HN.out]; exact Nat.le_refl _)] at this
        rw [List.length_map, HN.out]
        exact this
      have IW := hidF (own_intL hws)
      have B1 := hidF HZ.out.1
      have AMW := hidF (AM.out wr HZ.out.1)
      have SHW := hidF (fun (W : World) (hb : Below wr.heap.size wr W) => shares_any (IW.out.below hb) a (by omega) (by omega) (by rw [List.length_map, HN.out]; exact hil) (fun x hx => by
        obtain ⟨k, hk, rfl⟩ := List.mem_map.1 hx
        obtain ⟨m9, hm9⟩ := List.getElem?_of_mem hk
        obtain ⟨p, hp, _⟩ := OL.out m9 k hm9
        rw [atF_at hp]
        exact wtG_bd grow (HO.out.ok p (List.mem_of_getElem? hp))))
      clear hws HZ hlt hm IW AM
      obtain ⟨w1, e1⟩ : ∃ w1, w1 = wr := ⟨_, rfl⟩
      subst e1
      go_wp2_with fail
      refine AMW.out.mono ?_
      rintro e w2 ⟨rfl, hb2⟩
      have SHW2 := hidF (SHW.out w2 hb2)
      have B2 := hidF (B1.out.trans (hb2.mono B1.out.size))
      clear hb2 SHW AMW
      go_wp2_with fail
      refine SHW2.out.mono ?_
      rintro e w3 ⟨v3, rfl, hi3, hg3, hb3⟩
      have B3 := hidF (B2.out.trans (hb3.mono B2.out.size))
      have hw23 : w.heap.size ≤ w2.heap.size := B2.out.size
      obtain ⟨sa, sc, rfl, sc1, sc2, hsr⟩ := hi3
      have hsl : ((List.range (is.map (atF (wtP grow) ps)).length).map (shareN a (is.map (atF (wtP grow) ps)))).length = m := by
        rw [List.length_map, List.length_range, List.length_map, HN.out]
      rw [hsl] at sc1 ⊢
      -- what is read while parts are changed
      have RD : Hid (∀ (j k : Nat) (p : Pr), is[j]? = some k → ps[k]? = some p → ∃ gs os, sa = some ⟨gs, os, none⟩ ∧ gs < w3.heap.size ∧ gs ≠ b ∧ w3.cell? ⟨gs, os + j, none⟩ = some (.int .i64 (partN a (sumO (wtP grow) ps k) (wtP grow p) (sumO (wtP grow) ps ps.length)))) := by
        intro j k p hj hpk
        have hjl : j < m := by rw [← HN.out]; exact (List.getElem?_eq_some_iff.1 hj).1
        obtain ⟨gs, os, e1, e2, e3⟩ := hsr j (shareN a (is.map (atF (wtP grow) ps)) j) (by rw [List.getElem?_map, List.getElem?_range (by rw [List.length_map, HN.out]; exact hjl)]; rfl)
        refine ⟨gs, os, e1, e2, ?_, ?_⟩
        · have := hg3 gs (by rw [e1]; rfl)
          omega
        · rw [e3, ← HIS.out, shareN_open grow a (by rw [HIS.out]; exact hj) hpk]
      have RP : Hid (∀ (j k : Nat), is[j]? = some k → ∃ g, oa = some ⟨g, 0, none⟩ ∧ g < w3.heap.size ∧ g ≠ b ∧ w3.cell? ⟨g, j, none⟩ = some (.pointer (some ⟨b, k * 9, none⟩))) := by
        intro j k hj
        obtain ⟨g, e1, e2, e3⟩ := HP.out j k hj
        refine ⟨g, e1, Nat.lt_of_lt_of_le e2 B3.out.size, fun e => HOB.out (by rw [e1, e]; rfl), (B3.out.cell (p := ⟨g, j, none⟩) e2).trans e3⟩
      have R3 := hidF (H.out.below B3.out)
      clear hsr hg3 hi hz0 hz1 hz2 HP HOB hb3 hsl SHW2 H
      have DB : Hid (∀ (k : Nat) (p : Pr), ps[k]? = some p → p.settled = false → -(26000000000 : Int) ≤ partN a (sumO (wtP grow) ps k) (wtP grow p) (sumO (wtP grow) ps ps.length) ∧ partN a (sumO (wtP grow) ps k) (wtP grow p) (sumO (wtP grow) ps ps.length) ≤ 26000000000) := by
        intro k p hk hs
        obtain ⟨e1, e2⟩ := HO.out.here grow hk hs
        have e3 := (HO.out.wt grow k (by have := (List.getElem?_eq_some_iff.1 hk).1; omega)).1
        have := partN_bd a _ _ _ e3 e1 e2
        omega
      go_wp2_with fail
      go_loopw [7, 35] (fun mvv i wr => ∃ (j : Nat) (mv : Int), j ≤ m ∧ i = .int .i64 j ∧ mvv = .int .i64 mv ∧ -(j : Int) * 30000000000 ≤ mv ∧ mv ≤ (j : Int) * 30000000000 ∧ Hid (mv = ((is.take j).map (atF Pr.moved (dealtL grow a ps))).sum ∧ w3.grownBy wr (some b) ∧ RwAt wr B rb (.slice (some ⟨b, 0, none⟩) (mixL (dealtAt grow a ps) is j ps).length c) (mixL (dealtAt grow a ps) is j ps) grow room start)) (fun _ i _ => m - (intV i).toNat)
      case atStart =>
        refine ⟨0, 0, Nat.zero_le _, rfl, rfl, by omega, by omega, by simp, ⟨rfl, rfl, rfl, Nat.le_refl _, fun _ _ _ => rfl⟩, ?_⟩
        rw [mixL_zero]
        exact R3.out
      case round =>
        obtain ⟨j, mv, hj, rfl, rfl, mb1, mb2, HZ⟩ := hrel
        by_cases hlt : j < m
        · obtain ⟨k, hk⟩ : ∃ k, is[j]? = some k := ⟨_, List.getElem?_eq_getElem (by rw [HN.out]; exact hlt)⟩
          obtain ⟨p, hp, hs⟩ := OL.out j k hk
          obtain ⟨g, rfl, gl, gb, gc⟩ := RP.out j k hk
          obtain ⟨gs, os, rfl, gsl, gsb, gsc⟩ := RD.out j k p hk hp
          obtain ⟨d1, d2⟩ := DB.out k p hp hs
          have HM := hidF (mixL_here (f := dealtAt grow a ps) ND.out hk hp)
          obtain ⟨b9, c9, hv, _, _, _, bl9, _, pa⟩ := HZ.out.2.2.at HM.out
          obtain rfl : b = b9 := by cases hv; rfl
          have gc2 := HZ.out.2.1.cell gc (by simpa using gb)
          have gsc2 := HZ.out.2.1.cell gsc (by simpa using gsb)
          have gl2 : g < wr.heap.size := Nat.lt_of_lt_of_le gl HZ.out.2.1.size
          have gsl2 : gs < wr.heap.size := Nat.lt_of_lt_of_le gsl HZ.out.2.1.size
          obtain ⟨⟨p0, p1, p2, p3, p4, p5, p6⟩, p7, p8, p9, f6, f7, f8⟩ := pa
          have hok := HO.out.ok p (List.mem_of_getElem? hp)
          obtain ⟨pt, hpt⟩ : ∃ t, partN a (sumO (wtP grow) ps k) (wtP grow p) (sumO (wtP grow) ps ps.length) = t := ⟨_, rfl⟩
          rw [hpt] at d1 d2 gsc2
          have HDE : Hid (dealtAt grow a ps k p = { p with size := bndI p.i (p.i.b + pt), moved := bndI p.i (p.i.b + pt) - p.i.b - pt }) := by
            show _ = _
            unfold dealtAt dealP
            rw [if_neg (by rw [hs]; simp), hpt]
          have hb0 := hok.b0
          have hb1 := hok.b1
          obtain ⟨z1, z2⟩ := bndI_bd hok (p.i.b + pt) (by omega)
          have z3 : bndI p.i (p.i.b + pt) ≤ 27000000000 := by
            have := hok.mn1; have := hok.mx1
            unfold bndI capN; split <;> omega
          have z4 : -30000000000 ≤ bndI p.i (p.i.b + pt) - p.i.b - pt ∧ bndI p.i (p.i.b + pt) - p.i.b - pt ≤ 30000000000 := by
            have := hok.mn1; have := hok.mx1; have := hok.mn0; have := hok.mx0
            unfold bndI capN; split <;> omega
          have WI := hidF (fun W => within_any p.i (p.i.b + pt) W)
          obtain ⟨sz, hsz⟩ : ∃ s, bndI p.i (p.i.b + pt) = s := ⟨_, rfl⟩
          rw [hsz] at z1 z2 z3 z4 WI HDE
          obtain ⟨z4, z5⟩ := z4
          have i1 : (0 : Int) ≤ (j : Int) := by omega
          have i2 : (j : Int) < (m : Int) := by omega
          have HK := hidF hk
          have HPK := hidF hp
          have W1 : IntKind.i64.wrap (p.i.b + pt) = p.i.b + pt := wrapJ (by omega) (by omega)
          clear hk hp hs hv gc gsc hpt hsz hok
          obtain ⟨⟨xb, xmn, xmx, xar, xgr, xsh⟩, sz0, mv0, st⟩ := p
          unfold itV at WI
          simp only at p1 p2 p3 p4 p5 p6 p7 p8 p9 WI HDE hb0 hb1 W1 z4 z5
          have W2 : IntKind.i64.wrap (sz - xb) = sz - xb := wrapJ (by omega) (by omega)
          have W3 : IntKind.i64.wrap (sz - xb - pt) = sz - xb - pt := wrapJ (by omega) (by omega)
          go_upto_region 11 with fail
          go_cut [] (fun wx => Hid (w3.grownBy wx (some b) ∧ RwAt wx B rb (.slice (some ⟨b, 0, none⟩) ((mixL (dealtAt grow a ps) is j ps).set k ⟨⟨xb, xmn, xmx, xar, xgr, xsh⟩, sz, mv0, st⟩).length c) ((mixL (dealtAt grow a ps) is j ps).set k ⟨⟨xb, xmn, xmx, xar, xgr, xsh⟩, sz, mv0, st⟩) grow room start))
          case first =>
            go_region_held3 (fun wx => wx.cell? ⟨b, k * 9, none⟩ = some (.int .i64 xb) ∧ wx.cell? ⟨b, k * 9 + 1, none⟩ = some (.int .i64 xmn) ∧ wx.cell? ⟨b, k * 9 + 2, none⟩ = some (.int .i64 xmx) ∧ wx.cell? ⟨b, k * 9 + 3, none⟩ = some (.int .i64 xar) ∧ wx.cell? ⟨b, k * 9 + 4, none⟩ = some (.int .i64 xgr) ∧ wx.cell? ⟨b, k * 9 + 5, none⟩ = some (.int .i64 xsh)) (first | go_keep | (refine ⟨?_, ?_, ?_, ?_, ?_, ?_⟩ <;> (rw [setCell_cell _ _ _ _ (addr_ne (by omega))]; assumption)))
              ((go_at_call 58; refine (WI.out _).mono ?_; rintro e w7 ⟨rfl, hb7⟩
                have m0 := (hb7.cell (p := ⟨b, k * 9, none⟩) bl9).trans p1
                have m1 := (hb7.cell (p := ⟨b, k * 9 + 1, none⟩) bl9).trans p2
                have m2 := (hb7.cell (p := ⟨b, k * 9 + 2, none⟩) bl9).trans p3
                have m3 := (hb7.cell (p := ⟨b, k * 9 + 3, none⟩) bl9).trans p4
                have m4 := (hb7.cell (p := ⟨b, k * 9 + 4, none⟩) bl9).trans p5
                have m5 := (hb7.cell (p := ⟨b, k * 9 + 5, none⟩) bl9).trans p6
                have m6 := (hb7.cell (p := ⟨b, k * 9 + 6, none⟩) bl9).trans p7
                have n6 := (hb7.frozen (p := ⟨b, k * 9 + 6, none⟩) bl9).trans f6
                have R7 := hidF (And.intro (grownBy_below HZ.out.2.1 ((Below.refl wr.heap.size wr).drew.trans hb7)) (RwAt.below HZ.out.2.2 ((Below.refl wr.heap.size wr).drew.trans hb7)))
                clear hb7))
            all_goals
              go_wp2_with fail
              go_meet
              case rel => go_light; exact ⟨grownBy_set R7.out.1 rfl _, R7.out.2.put HM.out (by omega) rfl⟩
          case rest =>
          have HM2 : Hid (((mixL (dealtAt grow a ps) is j ps).set k ⟨⟨xb, xmn, xmx, xar, xgr, xsh⟩, sz, mv0, st⟩)[k]? = some ⟨⟨xb, xmn, xmx, xar, xgr, xsh⟩, sz, mv0, st⟩) := by
            show _ = _
            rw [List.getElem?_set, if_pos rfl, if_pos (List.getElem?_eq_some_iff.1 HM.out).1]
          obtain ⟨b8, c8, hv8, _, _, _, bl8, _, pa8⟩ := hcut.out.2.at HM2.out
          obtain rfl : b = b8 := by cases hv8; rfl
          obtain ⟨⟨_, s1, _, _, _, _, _⟩, s7, s8, _, _, t7, _⟩ := pa8
          simp only at s1 s7 s8
          obtain ⟨mn, hmn⟩ : ∃ t, sz - xb - pt = t := ⟨_, rfl⟩
          rw [hmn] at z4 z5 HDE W3
          have HR2 : Hid (RwAt (wc.setCell ⟨b, k * 9 + 7, none⟩ (.int .i64 mn)) B rb (.slice (some ⟨b, 0, none⟩) (mixL (dealtAt grow a ps) is (j + 1) ps).length c) (mixL (dealtAt grow a ps) is (j + 1) ps) grow room start) := by
            have h1 := hcut.out.2.put (f := 7) (u := .int .i64 mn) (q := ⟨⟨xb, xmn, xmx, xar, xgr, xsh⟩, sz, mn, st⟩) HM2.out (by omega) rfl
            rw [List.set_set] at h1
            have h2 := mixL_next (f := dealtAt grow a ps) HK.out HPK.out
            rw [HDE.out] at h2
            rw [h2] at h1
            exact h1
          have HG2 := hidF (grownBy_set hcut.out.1 (a := ⟨b, k * 9 + 7, none⟩) rfl (.int .i64 mn))
          have HSN : Hid (((is.take (j + 1)).map (atF Pr.moved (dealtL grow a ps))).sum = mv + mn) := by
            show _ = _
            rw [sum_take_next HK.out, ← HZ.out.1, atF_at (dealtL_at HPK.out), HDE.out]
          clear hv8 p1 p2 p3 p4 p5 p6 p7 p8 p9 f6 f7 f8 gc2 gsc2
          go_wp2_with fail
          go_still_tail 15, (by kernel_rfl)
          go_wp2_with fail
          go_roundw
          case rel =>
            go_light
            refine ⟨j + 1, mv + mn, by omega, by go_num, rfl, by rw [Int.natCast_add]; omega, by rw [Int.natCast_add]; omega, HSN.out.symm, ?_, ?_⟩
            · exact ⟨HG2.out.os, HG2.out.tape, HG2.out.output, HG2.out.size, HG2.out.block⟩
            · exact RwAt.drewW HR2.out
          case measure => simp [intV]; omega
        · obtain rfl : j = m := by omega
          obtain ⟨hz1, hz2, hz3⟩ := HZ.out
          have e1 : mixL (dealtAt grow a ps) is j ps = dealtL grow a ps := by
            have := mixL_dealt grow a ps
            rw [HIS.out, HN.out] at this
            exact this
          rw [e1] at hz3
          have HMV : Hid (mv = movedN (dealtL grow a ps)) := by
            show _ = _
            rw [hz1, List.take_of_length_le (by rw [HN.out]; exact Nat.le_refl _)]
            unfold movedN
            rw [← openL_allF, openL_dealt, HIS.out]
          have OD : Hid (openL (dealtL grow a ps) = is) := by
            show _ = _
            rw [openL_dealt, HIS.out]
          have OLD : Hid (∀ (m k : Nat), is[m]? = some k → ∃ p, (dealtL grow a ps)[k]? = some p ∧ p.settled = false) := by
            intro m k hk
            rw [← OD.out] at hk
            exact openL_at hk
          have HRD : Hid (roundN grow room start ps = (dealtL grow a ps).map (settleP mv)) := by
            show _ = _
            unfold roundN
            rw [HA.out, ← HMV.out]
          have HDL : Hid ((dealtL grow a ps).length = ps.length) := dealtL_len grow a ps
          obtain ⟨ds, hds⟩ : ∃ ds, dealtL grow a ps = ds := ⟨_, rfl⟩
          rw [hds] at hz3 OD OLD HRD HDL
          have HG4 := hidF hz2
          have HR4 := hidF hz3
          clear hz1 hz2 hz3 e1 hds HZ hj hlt
          obtain ⟨w4, e4⟩ : ∃ w4, w4 = wr := ⟨_, rfl⟩
          subst e4
          go_wp2_with fail
          go_loopw [83] (fun i wr => ∃ (q : Nat), q ≤ j ∧ i = .int .i64 q ∧ Hid (w3.grownBy wr (some b) ∧ RwAt wr B rb (.slice (some ⟨b, 0, none⟩) (mixL (fun _ p => settleP mv p) is q ds).length c) (mixL (fun _ p => settleP mv p) is q ds) grow room start)) (fun i _ => j - (intV i).toNat)
          case atStart =>
            refine ⟨0, Nat.zero_le _, rfl, HG4.out, ?_⟩
            rw [mixL_zero]
            exact HR4.out
          case round =>
            obtain ⟨q, hq, rfl, HZ⟩ := hrel
            by_cases hlt : q < j
            · obtain ⟨k, hk⟩ : ∃ k, is[q]? = some k := ⟨_, List.getElem?_eq_getElem (by rw [HN.out]; exact hlt)⟩
              obtain ⟨p, hp, hs⟩ := OLD.out q k hk
              obtain ⟨g, rfl, gl, gb, gc⟩ := RP.out q k hk
              have HM := hidF (mixL_here (f := fun _ p => settleP mv p) ND.out hk hp)
              obtain ⟨b9, c9, hv, _, _, _, bl9, _, pa⟩ := HZ.out.2.at HM.out
              obtain rfl : b = b9 := by cases hv; rfl
              have gc2 := HZ.out.1.cell gc (by simpa using gb)
              have gl2 : g < wr.heap.size := Nat.lt_of_lt_of_le gl HZ.out.1.size
              have p8 := pa.c7
              have p9 := pa.c8
              have f8 := pa.f8
              have HSP : Hid (settleP mv p = { p with settled := settledP mv p }) := by
                show _ = _
                unfold settleP
                rw [if_neg (by rw [hs]; simp)]
              have HNX := hidF (mixL_next (f := fun _ p => settleP mv p) hk hp)
              simp only [HSP.out] at HNX
              have i1 : (0 : Int) ≤ (q : Int) := by omega
              have i2 : (q : Int) < (j : Int) := by omega
              clear hk hp hv gc pa hs HSP
              obtain ⟨it, sz, pm, st⟩ := p
              simp only at p8 p9 HNX
              obtain ⟨sb, hsb⟩ : ∃ s, settledP mv ⟨it, sz, pm, st⟩ = s := ⟨_, rfl⟩
              rw [hsb] at HNX
              have HR5 : Hid (RwAt (wr.setCell ⟨b, k * 9 + 8, none⟩ (.bool sb)) B rb (.slice (some ⟨b, 0, none⟩) (mixL (fun _ p => settleP mv p) is (q + 1) ds).length c) (mixL (fun _ p => settleP mv p) is (q + 1) ds) grow room start) := by
                have h1 := HZ.out.2.put (f := 8) (u := .bool sb) (q := ⟨it, sz, pm, sb⟩) HM.out (by omega) rfl
                rw [HNX.out] at h1
                exact h1
              have HG5 := hidF (grownBy_set HZ.out.1 (a := ⟨b, k * 9 + 8, none⟩) rfl (.bool sb))
              by_cases hmv : mv = 0
              · have hsb2 : sb = true := by rw [← hsb]; simp [settledP, hmv]
                subst hsb2
                have hmv' : (mv == 0) = true := by simpa using hmv
                clear hsb hmv
                go_wp2_with fail
                go_roundw
                case rel => go_light; exact ⟨q + 1, by omega, by go_num, HG5.out, HR5.out⟩
                case measure => simp [intV]; omega
              · have hmv' : (mv == 0) = false := by simpa using hmv
                have hc1 : ∀ x : Int, Lib.compareInt x 0 = sgnN x := fun x => by unfold Lib.compareInt sgnN; (repeat' split) <;> omega
                have C1 := hidF (fun W => Try.cmp_Compare_int pm 0 W)
                have C2 := hidF (fun W => Try.cmp_Compare_int mv 0 W)
                rw [hc1] at C1 C2
                have hsb2 : (sgnN pm == sgnN mv) = sb := by
                  rw [← hsb]
                  simp only [settledP, hmv, decide_false, Bool.false_or]
                  by_cases e : sgnN pm = sgnN mv <;> simp [e]
                obtain ⟨x1, hx1⟩ : ∃ x, sgnN pm = x := ⟨_, rfl⟩
                obtain ⟨x2, hx2⟩ : ∃ x, sgnN mv = x := ⟨_, rfl⟩
                rw [hx1] at C1 hsb2
                rw [hx2] at C2 hsb2
                have HSB := hidF hsb2
                clear hsb hmv hc1 hx1 hx2 hsb2
                go_wp2_with fail
                refine (C1.out _).mono ?_
                rintro e w5 ⟨rfl, hw5⟩
                rw [hw5]
                clear hw5
                go_wp2_with fail
                refine (C2.out _).mono ?_
                rintro e w6 ⟨rfl, hw6⟩
                rw [hw6]
                clear hw6
                go_wp2_with fail
                go_roundw
                case rel =>
                  go_light
                  refine ⟨q + 1, by omega, by go_num, ?_⟩
                  rw [HSB.out]
                  exact ⟨HG5.out, HR5.out⟩
                case measure => simp [intV]; omega
            · obtain rfl : q = j := by omega
              have e1 : mixL (fun _ p => settleP mv p) is q ds = roundN grow room start ps := by
                have := mixL_settle mv ds
                rw [OD.out, HN.out] at this
                rw [this, HRD.out]
              have hR := HZ.out.2
              rw [e1] at hR
              have hlen : (roundN grow room start ps).length = ps.length := roundN_len ..
              rw [hlen] at hR
              have HRF := hidF hR
              have HGF : Hid (w.grownBy wr (some b)) := by
                have hg := HZ.out.1
                exact ⟨hg.os.trans B3.out.os, hg.tape.trans B3.out.tape, hg.output.trans B3.out.output, Nat.le_trans B3.out.size hg.size, fun k hk hne => (hg.block k (Nat.lt_of_lt_of_le hk B3.out.size) hne).trans (B3.out.block k hk)⟩
              clear hR hlen e1 HZ
              go_wp2_with fail
              go_returns
              exact ⟨rfl, HRF.out, HGF.out⟩
end Go.Proofs.Ytdjagdifemhkpaa
