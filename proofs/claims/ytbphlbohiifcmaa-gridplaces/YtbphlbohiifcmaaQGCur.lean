/- The document's PlaceCells: those whose row is not told. -/
import Derived.Test.YtbphlbohiifcmaaQGRws
import Derived.Test.YtbphlbohiifcmaaQGCu
namespace Go.Proofs.Ytbphlbohiifcmaa
open Go.RowKit
set_option linter.unusedVariables false      -- bounds that are for the walk

set_option maxHeartbeats 8000000 in
set_option maxRecDepth 100000 in
theorem qp_cur {w wl : World} {l0 l1 its2 : List Gi} {lv : Value} {sb n : Nat} {st : Nat → Bool} {cols cc2 cr2 : Int} (hP : PcAt w wl lv sb n l1 st) (hn : n ≤ 200) (h0 : ∀ i ∈ l0, GOk i) (hl0 : l0.length = n) (h1 : ∀ i ∈ l1, i.Sm) (hun : ∀ (j : Nat) (o : Gi), l0[j]? = some o → o.r = 0 → l1[j]? = some o) (hst : StP n st (PCur l0 0)) (hcols : cols ≤ 5000) (hC : CurS l0 l1 cols n its2 cc2 cr2)
    (u0 u2 u3 u4 u5 u6 u8 u9 u10 u12 u13 u14 u16 u17 u18 u19 u20 u21 u22 u23 u24 u25 u26 u27 u28 u29 u30 u31 u32 u33 u34 u35 u36 u37 u38 u39 u40 u41 u42 u43 u44 u45 u46 u47 u48 u49 u50 u51 u52 u53 u54 u55 u56 u57 u58 u59 u60 u61 u62 u63 u64 u65 u66 u67 u68 u69 u70 u71 u72 u73 u74 u75 u76 u77 u78 u79 u80 u81 u82 u83 u84 u85 u86 u87 u88 u89 u90 u91 u92 u93 u94 u95 u96 u97 u98 u99 u100 u101 u102 u103 u104 u105 u106 u107 u108 u109 u110 u111 u112 u113 u114 u115 u116 u117 u118 u119 u120 u121 u122 u123 u124 u125 u126 u127 u128 u129 u130 u131 u132 u133 u134 u135 u136 u137 u138 u139 u140 u141 u142 u143 u144 u145 u146 u147 u148 u149 u150 u151 u152 u153 u154 u155 u156 u157 u158 u159 u160 u161 u162 u163 u164 u165 u166 u167 u168 u169 u170 u171 u172 u173 u174 u175 u176 u177 u178 u179 u180 u181 u182 u183 u184 u185 u186 u187 u188 u189 u190 u191 u192 u193 u194 u195 u196 u197 u198 u199 u200 u201 u202 u203 u204 u205 u206 u207 u208 u209 u210 u211 u212 u213 u214 u215 u216 u217 u218 u219 u220 u221 u222 u223 u224 u225 u226 u227 u228 u229 u230 u231 u232 u233 u234 u235 u236 u237 u238 u239 u240 u241 : Value) :
    Code.wp Try.prog (restG 8 (bodyG Try.f21)) (bodyPost Try.prog Try.f21 (PcPost w its2 cols)) { tmps := #[u0, .int .i64 cols, u2, u3, u4, u5, u6, lv, u8, u9, u10, .slice (some ⟨sb, 0, none⟩) n n, u12, u13, u14, .int .i64 1, u16, u17, u18, u19, u20, u21, u22, u23, u24, u25, u26, u27, u28, u29, u30, u31, u32, u33, u34, u35, u36, u37, u38, u39, u40, u41, u42, u43, u44, u45, u46, u47, u48, u49, u50, u51, u52, u53, u54, u55, u56, u57, u58, u59, u60, u61, u62, u63, u64, u65, u66, u67, u68, u69, u70, u71, u72, u73, u74, u75, u76, u77, u78, u79, u80, u81, u82, u83, u84, u85, u86, u87, u88, u89, u90, u91, u92, u93, u94, u95, u96, u97, u98, u99, u100, u101, u102, u103, u104, u105, u106, u107, u108, u109, u110, u111, u112, u113, u114, u115, u116, u117, u118, u119, u120, u121, u122, u123, u124, u125, u126, u127, u128, u129, u130, u131, u132, u133, u134, u135, u136, u137, u138, u139, u140, u141, u142, u143, u144, u145, u146, u147, u148, u149, u150, u151, u152, u153, u154, u155, u156, u157, u158, u159, u160, u161, u162, u163, u164, u165, u166, u167, u168, u169, u170, u171, u172, u173, u174, u175, u176, u177, u178, u179, u180, u181, u182, u183, u184, u185, u186, u187, u188, u189, u190, u191, u192, u193, u194, u195, u196, u197, u198, u199, u200, u201, u202, u203, u204, u205, u206, u207, u208, u209, u210, u211, u212, u213, u214, u215, u216, u217, u218, u219, u220, u221, u222, u223, u224, u225, u226, u227, u228, u229, u230, u231, u232, u233, u234, u235, u236, u237, u238, u239, u240, u241], defers := [] } wl := by
  obtain ⟨a, c, rfl, c1, c2⟩ := hP.shape
  have HP := hidF hP
  have H0 := hidF h0
  have HL0 := hidF hl0
  have H1 := hidF h1
  have HUN := hidF hun
  have HST := hidF hst
  have HC := hidF hC
  clear hP h0 hl0 h1 hun hst hC
  conv => arg 2; dsimp only [restG, bodyG, Try.f21]
  conv => arg 4; dsimp only
  go_wp2_with fail
  go_loopw [15, 16, 17] (fun rv cv iv wr => ∃ (k : Nat) (cc cr : Int) (its : List Gi) (st : Nat → Bool), k ≤ n ∧ iv = .int .i64 k ∧ rv = .int .i64 cr ∧ cv = .int .i64 cc ∧ Hid (PcAt w wr (.slice a n c) sb n its st ∧ CurS l0 l1 cols k its cc cr ∧ StP n st (PCur l0 k))) (fun _ _ iv _ => n - (intV iv).toNat)
  case atStart => exact ⟨0, 1, 1, l1, st, Nat.zero_le _, rfl, rfl, rfl, HP.out, .start, HST.out⟩
  case round =>
    obtain ⟨k, cc, cr, its, st, hk, rfl, rfl, rfl, HZ⟩ := hrel
    obtain ⟨p1, p2, p3, p4⟩ := HZ.out.2.1.cu H0.out
    have HSM := hidF (HZ.out.2.1.sm (by omega) H0.out H1.out)
    by_cases hlt : k < n
    · obtain ⟨o, ho⟩ : ∃ o, l0[k]? = some o := ⟨_, List.getElem?_eq_getElem (by rw [HL0.out]; exact hlt)⟩
      have hgo := H0.out o (List.mem_of_getElem? ho)
      have HO := hidF ho
      have HGO := hidF hgo
      have y1 := HZ.out.1.std.cell hlt
      have y2 := HZ.out.1.std.lt
      have i1 : (0 : Int) ≤ (k : Int) := by omega
      have i2 : (k : Int) < (n : Int) := by omega
      by_cases hor : 0 < o.r
      · have hsk : st k = true := (HZ.out.2.2 k hlt).2 ⟨o, ho, .inl hor⟩
        rw [hsk] at y1
        have HN : Hid (StP n st (PCur l0 (k + 1))) := fun j hj => by
          rw [HZ.out.2.2 j hj, PCur.succ HO.out]
          constructor
          · exact .inl
          · rintro (h | rfl)
            · exact h
            · exact ⟨o, HO.out, .inl hor⟩
        have HN2 := hidF (CurS.skip HZ.out.2.1 HO.out hor)
        clear ho hgo hor hsk
        go_wp2_with fail
        go_roundw
        case rel => go_light; exact ⟨k + 1, cc, cr, its, st, by omega, by go_num, rfl, rfl, HZ.out.1, HN2.out, HN.out⟩
        case measure => simp [intV]; omega
      · have hnP : ¬ PCur l0 k k := by
          rintro ⟨q, e1, e2⟩
          rw [ho] at e1
          cases e1
          omega
        have hsk : st k = false := by
          cases e : st k with
          | false => rfl
          | true => exact absurd ((HZ.out.2.2 k hlt).1 e) hnP
        rw [hsk] at y1
        have hik : its[k]? = some o := by
          rw [HZ.out.2.1.un (Nat.le_refl k)]
          exact HUN.out k o ho (by have := hgo.r0; omega)
        obtain ⟨g, c9, hsv, _, _, gl, x1, x2, x3, x4, fz, gsb⟩ := HZ.out.1.at hik
        cases hsv
        have HIK := hidF hik
        have HNP := hidF hnP
        have HOR := hidF hor
        have s1 := hgo.cs1; have s2 := hgo.cs2; have s3 := hgo.rs1; have s4 := hgo.rs2; have s5 := hgo.c0; have s6 := hgo.c2
        have HNW := hidF (CuSt.new HZ.out.1 o)
        clear ho hgo hor hsk hik hnP fz
        obtain ⟨oc, ocs, orr, ors⟩ := o
        simp only at x1 x2 x3 x4 s1 s2 s3 s4 s5 s6 HNW
        obtain ⟨w5, hw5⟩ : ∃ w5, w5 = wr := ⟨_, rfl⟩
        subst hw5
        go_upto_region 34 with fail
        go_cut [18] (fun p wx => p = .pointer (some ⟨w5.heap.size, 0, none⟩) ∧ Hid (CuSt w wx (.slice (some ⟨g, 0, none⟩) n c) sb n w5.heap.size its st ⟨oc, ocs, orr, ors⟩))
        case first =>
          go_wp2_with fail
          go_meet
          case rel => go_light; exact ⟨rfl, HNW.out⟩
        case rest =>
        obtain ⟨rfl, HN0⟩ := hcut
        obtain ⟨xb, hxb⟩ : ∃ x, w5.heap.size = x := ⟨_, rfl⟩
        rw [hxb] at HN0 ⊢
        clear hxb HNW x1 x2 x3 x4 y1 y2 gl
        have HNW := HN0
        clear HN0
        obtain ⟨z0, z1, z2, z3, z4⟩ := HNW.out.x.cells
        simp only at z1 z2 z3 z4
        obtain ⟨w6, hw6⟩ : ∃ w6, w6 = wc := ⟨_, rfl⟩
        subst hw6
        go_upto_if 176 with fail
        go_cut [] (fun wx => Hid (∃ i' : Gi, CuSt w wx (.slice (some ⟨g, 0, none⟩) n c) sb n xb its st i' ∧ CurS l0 l1 cols (k + 1) (its.set k i') i'.c i'.r))
        case first =>
          by_cases hoc : 0 < oc
          · obtain ⟨r, hr, hr9⟩ := HC.out.next_col hlt HZ.out.2.1 HO.out HOR.out hoc
            have HR := hidF hr
            obtain ⟨r0, hr0⟩ : ∃ r0, (if oc < cc then cr + 1 else cr) = r0 := ⟨_, rfl⟩
            have HR0 := hidF hr0
            have r01 : 1 ≤ r0 := by rw [← hr0]; split <;> omega
            have rge : r0 ≤ r := by have := hr.ge; simp only at this; rw [hr0] at this; exact this
            have HNX := hidF (CurS.col HZ.out.2.1 HO.out HOR.out hoc hr hr9)
            have HLE : Hid (∀ y, r0 ≤ y → y < r → ¬ FreeL its (fun j => st j = true) ⟨oc, ocs, y, ors⟩) := fun y h1 h2 hf => hr.least y (by simp only; rw [hr0]; exact h1) h2 ((HZ.out.2.2.free HZ.out.1.len).1 hf)
            have HIS : Hid (FreeL its (fun j => st j = true) ⟨oc, ocs, r, ors⟩) := (HZ.out.2.2.free HZ.out.1.len).2 hr.is
            have HSMY : Hid (∀ y : Int, r0 ≤ y → y ≤ r → (Gi.mk oc ocs y ors).Sm) := fun y h1 h2 => ⟨s5, by show oc ≤ 1000000; omega, s1, s2, by show 0 ≤ y; omega, by show y ≤ 1000000; omega, s3, s4⟩
            clear hr hr0 HR
            go_upto_if 180 with fail
            go_cut [15] (fun rv wx => rv = .int .i64 r0 ∧ Hid (CuSt w wx (.slice (some ⟨g, 0, none⟩) n c) sb n xb its st ⟨oc, ocs, orr, ors⟩))
            case first =>
              by_cases hcc : oc < cc
              · have E := hidF (show cr + 1 = r0 by have := HR0.out; rw [if_pos hcc] at this; exact this)
                go_wp2_with fail
                go_meet
                case rel => go_light; exact ⟨by rw [← E.out], HNW.out⟩
              · have E := hidF (show cr = r0 by have := HR0.out; rw [if_neg hcc] at this; exact this)
                go_wp2_with fail
                go_meet
                case rel => go_light; exact ⟨by rw [← E.out], HNW.out⟩
            case rest =>
            obtain ⟨rfl, HCU⟩ := hcut
            obtain ⟨v0, v1, v2, v3, v4⟩ := HCU.out.x.cells
            have vf := HCU.out.x.frz 2
            have H2 := hidF (HCU.out.setR r0)
            unfold Gi.atR at H2
            simp only at H2 v1 v2 v3 v4
            obtain ⟨k0, k1, k2, k3, k4⟩ := H2.out.x.cells
            simp only at k1 k2 k3 k4
            have HFR := hidF (H2.out.p.free hn HSM.out (HSMY.out r0 (by omega) rge))
            unfold gV at HFR
            simp only at HFR
            clear z0 z1 z2 z3 z4 HNW
            go_wp2_with fail
            refine HFR.out.mono ?_
            rintro e w7 ⟨v, rfl, hb, hb7⟩
            have H3 := hidF (And.intro (H2.out.held hb7) hb)
            clear hb hb7 HFR H2 HCU v0 v1 v2 v3 v4 vf k0 k1 k2 k3 k4
            go_wp2_with fail
            go_loopw [19] (fun ov wx => ∃ y : Int, r0 ≤ y ∧ y ≤ r ∧ Hid (CuSt w wx (.slice (some ⟨g, 0, none⟩) n c) sb n xb its st ⟨oc, ocs, y, ors⟩ ∧ IsB ov (FreeL its (fun j => st j = true) ⟨oc, ocs, y, ors⟩))) (fun _ wx => (r - rowAt wx xb).toNat)
            case atStart => exact ⟨r0, by omega, rge, H3.out.1, H3.out.2⟩
            case round =>
              obtain ⟨y, y1, y2, HY⟩ := hrel
              obtain ⟨v0, v1, v2, v3, v4⟩ := HY.out.1.x.cells
              have vf := HY.out.1.x.frz 2
              simp only at v1 v2 v3 v4
              by_cases hf : FreeL its (fun j => st j = true) ⟨oc, ocs, y, ors⟩
              · obtain rfl : u19 = .bool true := by
                  rcases HY.out.2 with h | h
                  · exact h.1
                  · exact absurd hf h.2
                obtain rfl : y = r := by
                  by_cases e : y = r
                  · exact e
                  · exact absurd hf (HLE.out y y1 (by omega))
                clear hf
                go_wp2_with fail
                go_meet
                case rel => go_light; exact ⟨_, HY.out.1, HNX.out⟩
              · obtain rfl : u19 = .bool false := by
                  rcases HY.out.2 with h | h
                  · exact absurd h.2 hf
                  · exact h.1
                have hyr : y < r := by
                  by_cases e : y = r
                  · subst e; exact absurd HIS.out hf
                  · omega
                have HRA : Hid (rowAt wr xb = y) := by show _ = _; unfold rowAt; rw [v3]
                have H4 := hidF (HY.out.1.setR (y + 1))
                unfold Gi.atR at H4
                simp only at H4
                obtain ⟨k0, k1, k2, k3, k4⟩ := H4.out.x.cells
                simp only at k1 k2 k3 k4
                have HFR := hidF (H4.out.p.free hn HSM.out (HSMY.out (y + 1) (by omega) (by omega)))
                unfold gV at HFR
                simp only at HFR
                clear hf
                go_wp2_with fail
                refine HFR.out.mono ?_
                rintro e w8 ⟨v, rfl, hb, hb7⟩
                have H5 := hidF (And.intro (H4.out.held hb7) hb)
                have HRB : Hid (rowAt w8 xb = y + 1) := by
                  show _ = _
                  obtain ⟨_, _, _, q3, _⟩ := (H4.out.held hb7).x.cells
                  unfold rowAt
                  rw [q3]
                clear hb hb7 k0 k1 k2 k3 k4 v0 v1 v2 v3 v4 vf
                go_wp2_with fail
                go_roundw
                case rel => go_light; exact ⟨y + 1, by omega, by omega, H5.out.1, H5.out.2⟩
                case measure => rw [HRB.out, HRA.out]; omega
          · obtain ⟨c', r', hO, hr9⟩ := HC.out.next_ord hlt HZ.out.2.1 HO.out HOR.out hoc
            have HNX := hidF (CurS.ord HZ.out.2.1 HO.out HOR.out hoc hO hr9)
            have HFD := hidF (HNW.out.p.found hn HSM.out (i := ⟨oc, ocs, orr, ors⟩) HGO.out.sm (HZ.out.2.2.ord HZ.out.1.len hO) p1 (by omega) p3 hr9 (by omega))
            unfold gV at HFD
            simp only at HFD
            clear hO
            go_wp2_with fail
            refine HFD.out.mono ?_
            rintro e w7 ⟨rfl, hb7⟩
            have H3 := hidF (HNW.out.held hb7)
            obtain ⟨v0, v1, v2, v3, v4⟩ := H3.out.x.cells
            have f0 := H3.out.x.frz 0
            have f1 := H3.out.x.frz 1
            have f2 := H3.out.x.frz 2
            have f3 := H3.out.x.frz 3
            simp only at v1 v2 v3 v4
            clear hb7 z0 z1 z2 z3 z4
            go_wp2_with fail
            go_meet
            case rel => go_light; exact ⟨_, H3.out.set4 _ _ _ _, HNX.out⟩
        case rest =>
        obtain ⟨⟨jc, jcs, jr, jrs⟩, hcs, hcu⟩ := hcut.out
        have H2 := hidF (And.intro hcs hcu)
        obtain ⟨v0, v1, v2, v3, v4⟩ := hcs.x.cells
        obtain ⟨g', c9, hsv, _, _, gl2, m1, m2, m3, m4, fz, gsb2⟩ := hcs.p.at HIK.out
        cases hsv
        have f0 := fz (k * 4)
        have f1 := fz (k * 4 + 1)
        have f2 := fz (k * 4 + 2)
        have f3 := fz (k * 4 + 3)
        have sf := hcs.p.std.frz k
        have sc := hcs.p.std.cell hlt
        have sl := hcs.p.std.lt
        have HNS : Hid (StP n (fun j => if j = k then true else st j) (PCur l0 (k + 1))) := HZ.out.2.2.more (fun j _ => PCur.succ HO.out j)
        simp only at v1 v2 v3 v4 m1 m2 m3 m4
        clear hcut hcs hcu fz z0 z1 z2 z3 z4 HNW
        go_wp2_with fail
        go_roundw
        case rel => go_light; exact ⟨k + 1, jc, jr, its.set k ⟨jc, jcs, jr, jrs⟩, _, by omega, by go_num, rfl, rfl, (H2.out.1.p.put4 HIK.out jc jcs jr jrs).setSt k true, H2.out.2, HNS.out⟩
        case measure => simp [intV]; omega
    · obtain rfl : k = n := by omega
      have hl2 : ¬ (k : Int) < (k : Int) := by omega
      have HE : Hid (its = its2) := (HZ.out.2.1.unique HC.out).1
      obtain ⟨w5, hw5⟩ : ∃ w5, w5 = wr := ⟨_, rfl⟩
      subst hw5
      go_upto_region 49 with fail
      go_cut [20] (fun s wx => s = .int .i64 0 ∧ wx = w5)
      case first =>
        go_wp2_with fail
        go_meet
        case rel => go_light; exact ⟨rfl, rfl⟩
      case rest =>
      obtain ⟨rfl, hwx⟩ := hcut
      have hwy := hwx.symm
      clear hwx
      subst hwy
      have hp := HZ.out.1
      rw [HE.out] at hp
      have hs := HSM.out
      rw [HE.out] at hs
      refine (by assumption : ∀ (a : Act) (w : World), Code.wp _ _ _ a w → _) _ _ ?_
      exact qp_rws hp hn hs _ _ _ _ _ _ _ _ _ _ _ _ _ _ _ _ _ _ _ _ _ _ _ _ _ _ _ _ _ _ _ _ _ _ _ _ _ _ _ _ _ _ _ _ _ _ _ _ _ _ _ _ _ _ _ _ _ _ _ _ _ _ _ _ _ _ _ _ _ _ _ _ _ _ _ _ _ _ _ _ _ _ _ _ _ _ _ _ _ _ _ _ _ _ _ _ _ _ _ _ _ _ _ _ _ _ _ _ _ _ _ _ _ _ _ _ _ _ _ _ _ _ _ _ _ _ _ _ _ _ _ _ _ _ _ _ _ _ _ _ _ _ _ _ _ _ _ _ _ _ _ _ _ _ _ _ _ _ _ _ _ _ _ _ _ _ _ _ _ _ _ _ _ _ _ _ _ _ _ _ _ _ _ _ _ _ _ _ _ _ _ _ _ _ _ _ _ _ _ _ _ _ _ _ _ _ _ _ _ _ _ _ _ _ _ _ _ _ _ _ _ _ _ _ _ _ _ _ _ _ _ _ _ _ _ _ _ _ _
end Go.Proofs.Ytbphlbohiifcmaa
