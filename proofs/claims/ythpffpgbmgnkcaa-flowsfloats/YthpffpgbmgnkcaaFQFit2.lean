/- The document's Fit: the least height that does. -/
import Derived.Test.YthpffpgbmgnkcaaFQEdges
import Derived.Test.YthpffpgbmgnkcaaFAPure
namespace Go.Proofs.Ythpffpgbmgnkcaa
open Go.RowKit
set_option linter.unusedVariables false      -- bounds that are for the walk

/-- the heights that are tried, in their order -/
def tries (fs : List Fl) (fr : Int) : List Int := fr :: fs.flatMap fun o => [o.y, foot o]
theorem flat_at : ∀ (fs : List Fl) (m : Nat) (o : Fl), fs[m]? = some o → (fs.flatMap fun o => [o.y, foot o])[2 * m]? = some o.y ∧ (fs.flatMap fun o => [o.y, foot o])[2 * m + 1]? = some (foot o)
  | [], m, o, h => by simp at h
  | p :: r, 0, o, h => by
    obtain rfl : p = o := by simpa using h
    simp
  | p :: r, m + 1, o, h => by
    have := flat_at r m o (by simpa using h)
    rw [show 2 * (m + 1) = 2 * m + 2 by omega]
    simpa using this
theorem tries_len (fs : List Fl) (fr : Int) : (tries fs fr).length = 2 * fs.length + 1 := by
  unfold tries
  rw [List.length_cons]
  congr 1
  induction fs with
  | nil => rfl
  | cons p r ih => simp only [List.flatMap_cons, List.length_append, ih, List.length_cons, List.length_nil]; omega
theorem tries_mem {fs : List Fl} {fr c : Int} (h : c ∈ tries fs fr) (ht : ∀ o ∈ fs, o.y ≤ fr) (hc : fr ≤ c) : c ∈ cands fs fr := by
  unfold tries at h
  unfold cands
  rcases List.mem_cons.1 h with rfl | h
  · exact List.mem_cons_self ..
  · obtain ⟨o, ho, hm⟩ := List.mem_flatMap.1 h
    have h1 := ht o ho
    by_cases e : c = fr
    · subst e; exact List.mem_cons_self ..
    · refine List.mem_cons_of_mem _ (List.mem_filter.2 ⟨List.mem_map.2 ⟨o, ho, ?_⟩, by simp; omega⟩)
      simp only [List.mem_cons, List.not_mem_nil, or_false] at hm
      rcases hm with hm | hm
      · omega
      · exact hm.symm
theorem cands_tries {fs : List Fl} {fr c : Int} (h : c ∈ cands fs fr) : c ∈ tries fs fr := by
  unfold cands at h
  unfold tries
  rcases List.mem_cons.1 h with rfl | h
  · exact List.mem_cons_self ..
  · obtain ⟨h1, _⟩ := List.mem_filter.1 h
    obtain ⟨o, ho, rfl⟩ := List.mem_map.1 h1
    exact List.mem_cons_of_mem _ (List.mem_flatMap.2 ⟨o, ho, by simp⟩)

structure TrAt (lo hi : Int) (fs : List Fl) (w h fr : Int) (j : Nat) (best : Int) (found : Bool) : Prop where
  is : found = true → fits lo hi fs w h best = true ∧ fr ≤ best ∧ best ∈ (tries fs fr).take j
  all : ∀ c ∈ (tries fs fr).take j, fr ≤ c → fits lo hi fs w h c = true → found = true ∧ best ≤ c
theorem TrAt.skip {lo hi : Int} {fs : List Fl} {w h fr : Int} {j : Nat} {best : Int} {found : Bool} (t : TrAt lo hi fs w h fr j best found) {c : Int} (hc : (tries fs fr)[j]? = some c) (hs : fr ≤ c → fits lo hi fs w h c = true → found = true ∧ best ≤ c) : TrAt lo hi fs w h fr (j + 1) best found := by
  have e : (tries fs fr).take (j + 1) = (tries fs fr).take j ++ [c] := by rw [List.take_add_one, hc]; rfl
  refine ⟨fun hf => ⟨(t.is hf).1, (t.is hf).2.1, by rw [e]; exact List.mem_append_left _ (t.is hf).2.2⟩, fun d hd h1 h2 => ?_⟩
  rw [e] at hd
  rcases List.mem_append.1 hd with hd | hd
  · exact t.all d hd h1 h2
  · obtain rfl : d = c := by simpa using hd
    exact hs h1 h2
theorem TrAt.hit {lo hi : Int} {fs : List Fl} {w h fr : Int} {j : Nat} {best : Int} {found : Bool} (t : TrAt lo hi fs w h fr j best found) {c : Int} (hc : (tries fs fr)[j]? = some c) (h1 : fr ≤ c) (h2 : fits lo hi fs w h c = true) (h3 : found = true → c < best) : TrAt lo hi fs w h fr (j + 1) c true := by
  have e : (tries fs fr).take (j + 1) = (tries fs fr).take j ++ [c] := by rw [List.take_add_one, hc]; rfl
  refine ⟨fun _ => ⟨h2, h1, by rw [e]; simp⟩, fun d hd g1 g2 => ⟨rfl, ?_⟩⟩
  rw [e] at hd
  rcases List.mem_append.1 hd with hd | hd
  · obtain ⟨hf, hle⟩ := t.all d hd g1 g2
    have := h3 hf
    omega
  · obtain rfl : d = c := by simpa using hd
    exact Int.le_refl _
theorem TrAt.done {lo hi : Int} {fs : List Fl} {w h fr : Int} {j : Nat} {best y : Int} {found : Bool} (t : TrAt lo hi fs w h fr j best found) (hj : 2 * fs.length + 1 ≤ j) (ht : ∀ o ∈ fs, o.y ≤ fr) (hy : FitAt lo hi fs w h fr y) : best = y := by
  have e : (tries fs fr).take j = tries fs fr := List.take_of_length_le (by rw [tries_len]; exact hj)
  obtain ⟨hf, hle⟩ := t.all y (by rw [e]; exact cands_tries hy.mem) (cands_ge fs fr y hy.mem) hy.fit
  obtain ⟨h1, h2, h3⟩ := t.is hf
  rw [e] at h3
  have := hy.least best (tries_mem h3 ht h2) h1
  omega

set_option maxHeartbeats 4000000 in
set_option maxRecDepth 100000 in
theorem qfit_any {w : World} {B rb : Nat} {lv : Value} {fs : List Fl} {lo hi : Int} (h : QfAt w B rb lv fs lo hi) (hl : fs.length ≤ 200) (hb : Bd fs) (l1 : -16777216 ≤ lo) (l2 : lo ≤ 16777216) (l3 : -16777216 ≤ hi) (l4 : hi ≤ 16777216) (wd ht fr y0 : Int) (w1 : 0 ≤ wd) (w2 : wd ≤ 16777216) (t1 : 0 ≤ ht) (t2 : ht ≤ 16777216) (f1 : -10000000000 ≤ fr) (f2 : fr ≤ 10000000000) (htp : ∀ o ∈ fs, o.y ≤ fr) (hy : FitAt lo hi fs wd ht fr y0) :
    Calls Try.prog 22 #[.pointer (some ⟨rb, 0, none⟩), .int .i64 wd, .int .i64 ht, .int .i64 fr] w fun e w' => e = .returned (.tuple #[.int .i64 y0, .int .i64 (gapN lo hi fs y0 ht).l, .int .i64 (gapN lo hi fs y0 ht).r]) ∧ Below w.heap.size w w' := by
  obtain ⟨rl, c0, c1, c2⟩ := h.cells
  have ED := hidF (fun (W : World) (hbw : Below w.heap.size w W) (y : Int) (y1 : -20000000000 ≤ y) (y2 : y ≤ 20000000000) => qedges_any (h.below hbw) hl hb y ht y1 y2 (by omega) t2)
  have GB := hidF (fun y => gapN_bd lo hi 20000000000 fs y ht (by omega) (by omega) (by omega) (by omega) (fun o ho => by have := hb.at hl ho; omega))
  obtain ⟨a, c, rfl, q1, q2⟩ := own_shapeQ h.row
  have H := hidF h
  have HB := hidF hb
  obtain ⟨n, hn⟩ : ∃ n, fs.length = n := ⟨_, rfl⟩
  have HN := hidF hn
  rw [hn] at q1 c2 H hl
  have DN := hidF (fun (j : Nat) (best : Int) (found : Bool) (t : TrAt lo hi fs wd ht fr j best found) (hj : 2 * n + 1 ≤ j) => t.done (by rw [hn]; exact hj) htp hy)
  have yb : -20000000000 ≤ y0 ∧ y0 ≤ 20000000000 := by
    have hm := hy.mem
    unfold cands at hm
    rcases List.mem_cons.1 hm with e | e
    · omega
    · obtain ⟨h1, _⟩ := List.mem_filter.1 e
      obtain ⟨o, ho, rfl⟩ := List.mem_map.1 h1
      have := HB.out.at (by rw [hn]; exact hl) ho
      unfold foot
      omega
  have ED0 := hidF (fun (W : World) (hbw : Below w.heap.size w W) => ED.out W hbw y0 yb.1 yb.2)
  obtain ⟨g0, hg0⟩ : ∃ g, gapN lo hi fs y0 ht = g := ⟨_, rfl⟩
  rw [hg0] at ED0 ⊢
  clear hg0
  obtain ⟨gl0, gr0, gw0⟩ := g0
  simp only at ED0 ⊢
  have TL := tries_len fs fr
  rw [hn] at TL
  have HTL := hidF TL
  clear h hb hn hy TL
  go_enter Try.func22, Try.ntmps22
  go_wp2_with fail
  go_loopw [11, 12, 13] (fun bv fv i wr => ∃ (j : Nat) (iv best : Int) (found : Bool), j ≤ 2 * n + 1 ∧ i = .int .i64 iv ∧ iv = (j : Int) - 1 ∧ bv = .int .i64 best ∧ fv = .bool found ∧ Hid (TrAt lo hi fs wd ht fr j best found ∧ Below w.heap.size w wr)) (fun _ _ i _ => (2 * (n : Int) - intV i).toNat)
  case atStart => exact ⟨0, -1, 0, false, Nat.zero_le _, rfl, rfl, rfl, rfl, ⟨fun e => by simp at e, fun c hc => by simp at hc⟩, Below.refl _ _⟩
  case round =>
    obtain ⟨j, iv, best, found, hj, rfl, hiv, rfl, rfl, HZ⟩ := hrel
    have d2 := (HZ.out.2.cell (p := ⟨rb, 2, none⟩) rl).trans c2
    have d0 : rb < wr.heap.size := Nat.lt_of_lt_of_le rl HZ.out.2.size
    by_cases hlt : j < 2 * n + 1
    · obtain ⟨cd, hcd⟩ : ∃ x, (tries fs fr)[j]? = some x := ⟨_, List.getElem?_eq_getElem (by rw [HTL.out]; exact hlt)⟩
      have HCD := hidF hcd
      have hiv2 : iv < 2 * (n : Int) := by omega
      have hiv3 : -1 ≤ iv := by omega
      have hiv4 : iv ≤ 400 := by omega
      go_upto_if 34 with fail
      go_cut [14] (fun s wx => s = .int .i64 cd ∧ Hid (-20000000000 ≤ cd ∧ cd ≤ 20000000000 ∧ Below w.heap.size w wx))
      case first =>
        by_cases hj0 : j = 0
        · subst hj0
          have e : cd = fr := by unfold tries at hcd; simpa using hcd.symm
          subst e
          obtain rfl : iv = -1 := by omega
          clear hcd HCD
          go_wp2_with fail
          go_meet
          case rel => go_light; exact ⟨rfl, by omega, by omega, HZ.out.2⟩
        · have hiv5 : 0 ≤ iv := by omega
          obtain ⟨m, hm⟩ : ∃ m, j = 2 * m + 1 ∨ j = 2 * m + 2 := ⟨(j - 1) / 2, by omega⟩
          have hml : m < n := by omega
          obtain ⟨o, ho⟩ : ∃ o, fs[m]? = some o := ⟨_, List.getElem?_eq_getElem (by rw [HN.out]; exact hml)⟩
          obtain ⟨b, c9, hv, bl, e0, e1, e2, e3, e4⟩ := (H.out.below HZ.out.2).at ho
          have hvv : a = some ⟨b, 0, none⟩ := by cases hv; rfl
          subst hvv
          clear hv
          obtain ⟨ub1, ub2, ub3, ub4, ub5, ub6, ub7, ub8⟩ := HB.out.at (by rw [HN.out]; exact hl) (List.mem_of_getElem? ho)
          have hd1 : iv / 2 = (m : Int) := by omega
          have hd2 : iv.tdiv 2 = (m : Int) := by rw [Int.tdiv_eq_ediv_of_nonneg hiv5]; exact hd1
          have i1 : (0 : Int) ≤ (m : Int) := by omega
          have i2 : (m : Int) < (n : Int) := by omega
          have bl2 : b < wr.heap.size + 1 := by omega
          have B2 := hidF (fun ob => HZ.out.2.alloc (o := ob) HZ.out.2.size)
          obtain ⟨ta, tb⟩ := flat_at fs m o ho
          rcases hm with hm | hm
          · have hcy : cd = o.y := by
              unfold tries at hcd
              rw [hm, List.getElem?_cons_succ, ta] at hcd
              simpa using hcd.symm
            have hr1 : iv % 2 = 0 := by omega
            have hr2 : iv.tmod 2 = 0 := by rw [Int.tmod_eq_emod_of_nonneg hiv5]; exact hr1
            subst hcy
            clear hcd HCD ta tb ho hm hiv
            obtain ⟨orr, ox, oy, ow, oh⟩ := o
            simp only at e0 e1 e2 e3 e4 ub3 ub4 ub7 ub8 ⊢
            go_wp2_with fail
            go_meet
            case rel => go_light; exact ⟨rfl, by omega, by omega, B2.out _⟩
          · have hcy : cd = foot o := by
              unfold tries at hcd
              rw [hm, List.getElem?_cons_succ, tb] at hcd
              simpa using hcd.symm
            have hr1 : iv % 2 = 1 := by omega
            have hr2 : iv.tmod 2 = 1 := by rw [Int.tmod_eq_emod_of_nonneg hiv5]; exact hr1
            have MS := hidF (fun W => most_any o.h 1 W)
            unfold foot at hcy
            have cb : -20000000000 ≤ cd ∧ cd ≤ 20000000000 := by omega
            have HCY := hidF hcy
            clear hcd HCD ta tb ho hm hiv
            obtain ⟨orr, ox, oy, ow, oh⟩ := o
            simp only at e0 e1 e2 e3 e4 ub3 ub4 ub7 ub8 MS HCY hcy
            obtain ⟨mo, hmo⟩ : ∃ m, max oh 1 = m := ⟨_, rfl⟩
            rw [hmo] at MS HCY
            have W1 : IntKind.i64.wrap (oy + mo) = oy + mo := by rw [IntKind.wrap_i64]; omega
            clear hmo hcy
            go_wp2_with fail
            go_quiet (exact Calls.quiet_of_same (MS.out _))
            go_wp2_with fail
            go_meet
            case rel => go_light; exact ⟨by rw [HCY.out], cb.1, cb.2, belD (B2.out _) _⟩
      case rest =>
      obtain ⟨rfl, hcw⟩ := hcut
      obtain ⟨cb1, cb2, hbw⟩ := hcw.out
      have BW := hidF hbw
      clear hcw hbw d2 d0 hcd
      have T0 := hidF HZ.out.1
      clear HZ
      by_cases hcf : cd < fr
      · have TS := hidF (T0.out.skip HCD.out (fun e => by omega))
        go_wp2_with fail
        go_roundw
        case rel => go_light; exact ⟨j + 1, _, best, found, by omega, rfl, by omega, rfl, rfl, TS.out, BW.out⟩
        case measure => simp [intV]; omega
      · by_cases hcb : found = true ∧ best ≤ cd
        · obtain ⟨rfl, hcb⟩ := hcb
          have TS := hidF (T0.out.skip HCD.out (fun _ _ => ⟨rfl, hcb⟩))
          go_wp2_with fail
          go_roundw
          case rel => go_light; exact ⟨j + 1, _, best, true, by omega, rfl, by omega, rfl, rfl, TS.out, BW.out⟩
          case measure => simp [intV]; omega
        · have hfb : found = true → cd < best := fun e => by
            by_cases hh : best ≤ cd
            · exact absurd ⟨e, hh⟩ hcb
            · omega
          have ED2 := hidF (ED.out _ BW.out cd cb1 cb2)
          have gbd := GB.out cd
          have HFT : Hid (fits lo hi fs wd ht cd = ((gapN lo hi fs cd ht).whole || decide (wd ≤ (gapN lo hi fs cd ht).r - (gapN lo hi fs cd ht).l))) := rfl
          obtain ⟨g, hg⟩ : ∃ g, gapN lo hi fs cd ht = g := ⟨_, rfl⟩
          rw [hg] at ED2 gbd HFT
          have HIT := hidF (fun (e : fits lo hi fs wd ht cd = true) => T0.out.hit HCD.out (by omega) e hfb)
          have MISS := hidF (fun (e : fits lo hi fs wd ht cd = false) => T0.out.skip HCD.out (fun _ e2 => by rw [e] at e2; cases e2))
          obtain ⟨gl, gr, gw⟩ := g
          simp only at ED2 gbd HFT
          have HFB := hidF hfb
          clear hg hcb hfb
          have bz := BW.out.size
          cases found
          · go_wp2_with fail
            refine ED2.out.mono ?_
            rintro e w2 ⟨rfl, hb2⟩
            have B2 := hidF (BW.out.trans (hb2.mono bz))
            clear hb2 ED2
            cases gw
            · by_cases hw : wd ≤ gr - gl
              · have e9 := HIT.out (by rw [HFT.out]; simp; exact hw)
                have E9 := hidF e9
                clear e9
                go_wp2_with fail
                go_roundw
                case rel => go_light; exact ⟨j + 1, _, cd, true, by omega, rfl, by omega, rfl, rfl, E9.out, B2.out⟩
                case measure => simp [intV]; omega
              · have e9 := MISS.out (by rw [HFT.out]; simp; omega)
                have E9 := hidF e9
                clear e9
                go_wp2_with fail
                go_roundw
                case rel => go_light; exact ⟨j + 1, _, best, false, by omega, rfl, by omega, rfl, rfl, E9.out, B2.out⟩
                case measure => simp [intV]; omega
            · have e9 := HIT.out (by rw [HFT.out]; rfl)
              have E9 := hidF e9
              clear e9
              go_wp2_with fail
              go_roundw
              case rel => go_light; exact ⟨j + 1, _, cd, true, by omega, rfl, by omega, rfl, rfl, E9.out, B2.out⟩
              case measure => simp [intV]; omega
          · have hlt9 : cd < best := HFB.out rfl
            have hlt8 : ¬ cd ≥ best := by omega
            go_wp2_with fail
            refine ED2.out.mono ?_
            rintro e w2 ⟨rfl, hb2⟩
            have B2 := hidF (BW.out.trans (hb2.mono bz))
            clear hb2 ED2
            cases gw
            · by_cases hw : wd ≤ gr - gl
              · have e9 := HIT.out (by rw [HFT.out]; simp; exact hw)
                have E9 := hidF e9
                clear e9
                go_wp2_with fail
                go_roundw
                case rel => go_light; exact ⟨j + 1, _, cd, true, by omega, rfl, by omega, rfl, rfl, E9.out, B2.out⟩
                case measure => simp [intV]; omega
              · have e9 := MISS.out (by rw [HFT.out]; simp; omega)
                have E9 := hidF e9
                clear e9
                go_wp2_with fail
                go_roundw
                case rel => go_light; exact ⟨j + 1, _, best, true, by omega, rfl, by omega, rfl, rfl, E9.out, B2.out⟩
                case measure => simp [intV]; omega
            · have e9 := HIT.out (by rw [HFT.out]; rfl)
              have E9 := hidF e9
              clear e9
              go_wp2_with fail
              go_roundw
              case rel => go_light; exact ⟨j + 1, _, cd, true, by omega, rfl, by omega, rfl, rfl, E9.out, B2.out⟩
              case measure => simp [intV]; omega
    · have hbe := DN.out j best found HZ.out.1 (by omega)
      subst hbe
      have hiv2 : ¬ iv < 2 * (n : Int) := by omega
      have ED2 := hidF (ED0.out _ HZ.out.2)
      have BZ := hidF HZ.out.2
      have bz := BZ.out.size
      clear HZ ED0
      go_wp2_with fail
      refine ED2.out.mono ?_
      rintro e w2 ⟨rfl, hb2⟩
      have B2 := hidF (BZ.out.trans (hb2.mono bz))
      clear hb2 ED2
      go_wp2_with fail
      refine bodyPost_ret (v := .tuple #[.int .i64 best, .int .i64 gl0, .int .i64 gr0]) ?_ rfl ⟨rfl, B2.out⟩
      simp [results, Try.results22, go_sem]
end Go.Proofs.Ythpffpgbmgnkcaa
