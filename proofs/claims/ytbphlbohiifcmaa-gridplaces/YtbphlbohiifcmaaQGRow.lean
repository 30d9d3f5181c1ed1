/- The document's PlaceCells: those whose row alone is told. -/
import Derived.Test.YtbphlbohiifcmaaQGCur
namespace Go.Proofs.Ytbphlbohiifcmaa
open Go.RowKit
set_option linter.unusedVariables false      -- bounds that are for the walk

set_option maxHeartbeats 8000000 in
set_option maxRecDepth 100000 in
theorem qp_row {w wl : World} {l0 l1 its2 : List Gi} {lv : Value} {sb n : Nat} {c0 cols cc2 cr2 : Int} (hP : PcAt w wl lv sb n l0 (fun _ => false)) (hn : n ≤ 200) (h0 : ∀ i ∈ l0, GOk i) (hcols : cols ≤ 5000) (hR : RowS l0 c0 n l1 cols) (hC : CurS l0 l1 cols n its2 cc2 cr2)
    (u0 u2 u3 u4 u5 u6 u8 u9 u10 u12 u13 u14 u15 u16 u17 u18 u19 u20 u21 u22 u23 u24 u25 u26 u27 u28 u29 u30 u31 u32 u33 u34 u35 u36 u37 u38 u39 u40 u41 u42 u43 u44 u45 u46 u47 u48 u49 u50 u51 u52 u53 u54 u55 u56 u57 u58 u59 u60 u61 u62 u63 u64 u65 u66 u67 u68 u69 u70 u71 u72 u73 u74 u75 u76 u77 u78 u79 u80 u81 u82 u83 u84 u85 u86 u87 u88 u89 u90 u91 u92 u93 u94 u95 u96 u97 u98 u99 u100 u101 u102 u103 u104 u105 u106 u107 u108 u109 u110 u111 u112 u113 u114 u115 u116 u117 u118 u119 u120 u121 u122 u123 u124 u125 u126 u127 u128 u129 u130 u131 u132 u133 u134 u135 u136 u137 u138 u139 u140 u141 u142 u143 u144 u145 u146 u147 u148 u149 u150 u151 u152 u153 u154 u155 u156 u157 u158 u159 u160 u161 u162 u163 u164 u165 u166 u167 u168 u169 u170 u171 u172 u173 u174 u175 u176 u177 u178 u179 u180 u181 u182 u183 u184 u185 u186 u187 u188 u189 u190 u191 u192 u193 u194 u195 u196 u197 u198 u199 u200 u201 u202 u203 u204 u205 u206 u207 u208 u209 u210 u211 u212 u213 u214 u215 u216 u217 u218 u219 u220 u221 u222 u223 u224 u225 u226 u227 u228 u229 u230 u231 u232 u233 u234 u235 u236 u237 u238 u239 u240 u241 : Value) :
    Code.wp Try.prog (restG 5 (bodyG Try.f21)) (bodyPost Try.prog Try.f21 (PcPost w its2 cols)) { tmps := #[u0, .int .i64 c0, u2, u3, u4, u5, u6, lv, u8, u9, u10, .slice (some ⟨sb, 0, none⟩) n n, u12, u13, u14, u15, u16, u17, u18, u19, u20, u21, u22, u23, u24, u25, u26, u27, u28, u29, u30, u31, u32, u33, u34, u35, u36, u37, u38, u39, u40, u41, u42, u43, u44, u45, u46, u47, u48, u49, u50, u51, u52, u53, u54, u55, u56, u57, u58, u59, u60, u61, u62, u63, u64, u65, u66, u67, u68, u69, u70, u71, u72, u73, u74, u75, u76, u77, u78, u79, u80, u81, u82, u83, u84, u85, u86, u87, u88, u89, u90, u91, u92, u93, u94, u95, u96, u97, u98, u99, u100, u101, u102, u103, u104, u105, u106, u107, u108, u109, u110, u111, u112, u113, u114, u115, u116, u117, u118, u119, u120, u121, u122, u123, u124, u125, u126, u127, u128, u129, u130, u131, u132, u133, u134, u135, u136, u137, u138, u139, u140, u141, u142, u143, u144, u145, u146, u147, u148, u149, u150, u151, u152, u153, u154, u155, u156, u157, u158, u159, u160, u161, u162, u163, u164, u165, u166, u167, u168, u169, u170, u171, u172, u173, u174, u175, u176, u177, u178, u179, u180, u181, u182, u183, u184, u185, u186, u187, u188, u189, u190, u191, u192, u193, u194, u195, u196, u197, u198, u199, u200, u201, u202, u203, u204, u205, u206, u207, u208, u209, u210, u211, u212, u213, u214, u215, u216, u217, u218, u219, u220, u221, u222, u223, u224, u225, u226, u227, u228, u229, u230, u231, u232, u233, u234, u235, u236, u237, u238, u239, u240, u241], defers := [] } wl := by
  obtain ⟨a, c, rfl, c1, c2⟩ := hP.shape
  have HP := hidF hP
  have H0 := hidF h0
  have HL0 : Hid (l0.length = n) := hP.len
  have HR := hidF hR
  have HC := hidF hC
  clear hP h0 hR hC
  conv => arg 2; dsimp only [restG, bodyG, Try.f21]
  conv => arg 4; dsimp only
  go_wp2_with fail
  go_loopw [12] (fun iv wr => ∃ (k : Nat) (st : Nat → Bool), k ≤ n ∧ iv = .int .i64 k ∧ Hid (PcAt w wr (.slice a n c) sb n l0 st ∧ ∀ j, j < k → (st j = true ↔ PRow l0 0 j))) (fun iv _ => n - (intV iv).toNat)
  case atStart => exact ⟨0, _, Nat.zero_le _, rfl, HP.out, fun j hj => by omega⟩
  case round =>
    obtain ⟨k, st, hk, rfl, HZ⟩ := hrel
    by_cases hlt : k < n
    · obtain ⟨o, ho⟩ : ∃ o, l0[k]? = some o := ⟨_, List.getElem?_eq_getElem (by rw [HL0.out]; exact hlt)⟩
      obtain ⟨g, c9, hsv, _, _, gl, x1, x2, x3, x4, fz, gsb⟩ := HZ.out.1.at ho
      cases hsv
      have y1 := HZ.out.1.std.cell hlt
      have y2 := HZ.out.1.std.lt
      have y3 := HZ.out.1.std.frz k
      have i1 : (0 : Int) ≤ (k : Int) := by omega
      have i2 : (k : Int) < (n : Int) := by omega
      have HN : Hid (∀ b : Bool, (b = true ↔ o.told) → ∀ j, j < k + 1 → ((if j = k then b else st j) = true ↔ PRow l0 0 j)) := by
        intro b hb j hj
        by_cases e : j = k
        · subst e
          rw [if_pos rfl, hb]
          constructor
          · exact fun h => ⟨o, ho, .inl h⟩
          · rintro ⟨q, e1, e2⟩
            rw [ho] at e1
            cases e1
            rcases e2 with e2 | e2
            · exact e2
            · omega
        · rw [if_neg e]
          exact HZ.out.2 j (by omega)
      clear ho fz
      obtain ⟨oc, ocs, orr, ors⟩ := o
      simp only at x1 x2 x3 x4
      by_cases t1 : 0 < oc
      · by_cases t2 : 0 < orr
        · have HN2 := hidF (HN.out true ⟨fun _ => ⟨t1, t2⟩, fun _ => rfl⟩)
          go_wp2_with fail
          go_roundw
          case rel => go_light; exact ⟨k + 1, _, by omega, by go_num, HZ.out.1.setSt k true, HN2.out⟩
          case measure => simp [intV]; omega
        · have HN2 := hidF (HN.out false ⟨fun h => by (cases h), fun h => absurd h.2 t2⟩)
          go_wp2_with fail
          go_roundw
          case rel => go_light; exact ⟨k + 1, _, by omega, by go_num, HZ.out.1.setSt k false, HN2.out⟩
          case measure => simp [intV]; omega
      · have HN2 := hidF (HN.out false ⟨fun h => by (cases h), fun h => absurd h.1 t1⟩)
        go_wp2_with fail
        go_roundw
        case rel => go_light; exact ⟨k + 1, _, by omega, by go_num, HZ.out.1.setSt k false, HN2.out⟩
        case measure => simp [intV]; omega
    · obtain rfl : k = n := by omega
      have hl2 : ¬ (k : Int) < (k : Int) := by omega
      obtain ⟨st0, hst0⟩ : ∃ s, s = st := ⟨_, rfl⟩
      subst hst0
      have HST : Hid (StP k st0 (PRow l0 0)) := fun j hj => HZ.out.2 j hj
      have HPA := hidF HZ.out.1
      clear HZ HP
      go_wp2_with fail
      go_loopw [1, 13] (fun cv iv wr => ∃ (m : Nat) (cs : Int) (its : List Gi) (st : Nat → Bool), m ≤ k ∧ iv = .int .i64 m ∧ cv = .int .i64 cs ∧ Hid (PcAt w wr (.slice a k c) sb k its st ∧ RowS l0 c0 m its cs ∧ StP k st (PRow l0 m))) (fun _ iv _ => k - (intV iv).toNat)
      case atStart => exact ⟨0, c0, l0, st0, Nat.zero_le _, rfl, rfl, HPA.out, .start, HST.out⟩
      case round =>
        obtain ⟨m, cs, its, st, hm, rfl, rfl, HZ⟩ := hrel
        have HSM := hidF (HZ.out.2.1.sm H0.out)
        by_cases hlt : m < k
        · obtain ⟨o, ho⟩ : ∃ o, l0[m]? = some o := ⟨_, List.getElem?_eq_getElem (by rw [HL0.out]; exact hlt)⟩
          have hgo := H0.out o (List.mem_of_getElem? ho)
          have HO := hidF ho
          have HGO := hidF hgo
          have hik : its[m]? = some o := by rw [HZ.out.2.1.un (.inl (Nat.le_refl m))]; exact ho
          have HIK := hidF hik
          obtain ⟨g, c9, hsv, _, _, gl, x1, x2, x3, x4, fz, gsb⟩ := HZ.out.1.at hik
          cases hsv
          have y1 := HZ.out.1.std.cell hlt
          have y2 := HZ.out.1.std.lt
          have i1 : (0 : Int) ≤ (m : Int) := by omega
          have i2 : (m : Int) < (k : Int) := by omega
          have s1 := hgo.cs1; have s2 := hgo.cs2; have s3 := hgo.rs1; have s4 := hgo.rs2; have s5 := hgo.c0; have s6 := hgo.c2; have s7 := hgo.r0; have s8 := hgo.r2
          have HSK : Hid (st m = true ↔ o.told) := by
            show _ ↔ _
            rw [HZ.out.2.2 m hlt]
            constructor
            · rintro ⟨q, e1, e2⟩
              rw [ho] at e1
              cases e1
              rcases e2 with e2 | e2
              · exact e2
              · omega
            · exact fun h => ⟨o, ho, .inl h⟩
          by_cases hc : o.r = 0 ∨ 0 < o.c
          · have HN : Hid (StP k st (PRow l0 (m + 1))) := fun j hj => by
              rw [HZ.out.2.2 j hj, PRow.skip HO.out HGO.out.r0 hc]
            have HN2 := hidF (RowS.skip HZ.out.2.1 HO.out hc)
            clear ho hgo hik fz
            obtain ⟨oc, ocs, orr, ors⟩ := o
            simp only at x1 x2 x3 x4 s5 s7 hc HSK
            by_cases hst : st m = true
            · rw [hst] at y1
              clear hst hc
              go_wp2_with fail
              go_roundw
              case rel => go_light; exact ⟨m + 1, cs, its, st, by omega, by go_num, rfl, HZ.out.1, HN2.out, HN.out⟩
              case measure => simp [intV]; omega
            · have hst' : st m = false := by simpa using hst
              rw [hst'] at y1
              have hr0 : (orr == 0) = true := by
                have hnt : ¬ (0 < oc ∧ 0 < orr) := fun h => hst (HSK.out.2 h)
                have : orr = 0 := by omega
                simpa using this
              clear hst hst' hc
              go_wp2_with fail
              go_roundw
              case rel => go_light; exact ⟨m + 1, cs, its, st, by omega, by go_num, rfl, HZ.out.1, HN2.out, HN.out⟩
              case measure => simp [intV]; omega
          · obtain ⟨x, hx, hx9⟩ := HR.out.next hlt HZ.out.2.1 ho hc
            have HNX := hidF (RowS.put HZ.out.2.1 HO.out hc hx hx9)
            have hst' : st m = false := by
              cases e : st m with
              | false => rfl
              | true => exact absurd (.inr (HSK.out.1 e).1) hc
            rw [hst'] at y1
            have HSF := hidF hst'
            have HNS : Hid (StP k (fun j => if j = m then true else st j) (PRow l0 (m + 1))) := HZ.out.2.2.more (fun j _ => PRow.succ HO.out (by have := HGO.out.r0; omega) j)
            have hr0 : (o.r == 0) = false := by simp; omega
            have hxg := hx.ge
            clear ho hgo hik hst'
            obtain ⟨oc, ocs, orr, ors⟩ := o
            have HLE : Hid (∀ z, 1 ≤ z → z < x → ¬ FreeL its (fun j => st j = true) ⟨z, ocs, orr, ors⟩) := fun z h1 h2 hf => hx.least z h1 h2 ((HZ.out.2.2.free HZ.out.1.len).1 hf)
            have HIS : Hid (FreeL its (fun j => st j = true) ⟨x, ocs, orr, ors⟩) := (HZ.out.2.2.free HZ.out.1.len).2 hx.is
            have HSMZ : Hid (∀ z : Int, 1 ≤ z → z ≤ x → (Gi.mk z ocs orr ors).Sm) := fun z h1 h2 => ⟨by show 0 ≤ z; omega, by show z ≤ 1000000; omega, s1, s2, s7, by show orr ≤ 1000000; simp only at s8; omega, s3, s4⟩
            have HFS : Hid (∀ q y : Gi, FreeL (its.set m q) (fun j => st j = true) y ↔ FreeL its (fun j => st j = true) y) := fun q y => FreeL.set (by show ¬ st m = true; rw [HSF.out]; simp)
            have HKS : Hid (∀ q : Gi, (its.set m q)[m]? = some q) := fun q => by rw [List.getElem?_set, if_pos rfl, if_pos (List.getElem?_eq_some_iff.1 HIK.out).1]
            simp only at x1 x2 x3 x4 s1 s2 s3 s4 s5 s6 s7 s8 hr0
            have HP1 := hidF (HZ.out.1.put (f := 0) (i' := ⟨1, ocs, orr, ors⟩) (v := .int .i64 1) HIK.out (by omega) rfl)
            have fz0 := fz (m * 4)
            obtain ⟨w5, hw5⟩ : ∃ w5, w5 = wr := ⟨_, rfl⟩
            subst hw5
            clear hx hc fz
            go_upto_region 21 with fail
            go_cut [] (fun wx => Hid (PcAt w wx (.slice (some ⟨g, 0, none⟩) k c) sb k (its.set m ⟨1, ocs, orr, ors⟩) st))
            case first =>
              go_wp2_with fail
              go_meet
              case rel => go_light; exact HP1.out
            case rest =>
            have H1 := hidF hcut.out
            obtain ⟨g', c9, hsv, _, _, gl1, v1, v2, v3, v4, fy, gsb1⟩ := H1.out.at (HKS.out _)
            cases hsv
            have sl1 := H1.out.std.lt
            simp only at v1 v2 v3 v4
            have HFR := hidF (H1.out.free hn (sm_set HSM.out (HSMZ.out 1 (by omega) hxg)) (HSMZ.out 1 (by omega) hxg))
            unfold gV at HFR
            simp only at HFR
            clear hcut fy x1 x2 x3 x4 y1 y2 fz0 HP1
            go_wp2_with fail
            refine HFR.out.mono ?_
            rintro e w7 ⟨v, rfl, hb, hb7⟩
            have H3 : Hid (PcAt w w7 (.slice (some ⟨g, 0, none⟩) k c) sb k (its.set m ⟨1, ocs, orr, ors⟩) st ∧ IsB v (FreeL its (fun j => st j = true) ⟨1, ocs, orr, ors⟩)) := by
              rw [HFS.out] at hb
              exact ⟨H1.out.held hb7, hb⟩
            clear hb hb7 HFR H1 v1 v2 v3 v4
            go_wp2_with fail
            go_loopw [14] (fun ov wx => ∃ z : Int, 1 ≤ z ∧ z ≤ x ∧ Hid (PcAt w wx (.slice (some ⟨g, 0, none⟩) k c) sb k (its.set m ⟨z, ocs, orr, ors⟩) st ∧ IsB ov (FreeL its (fun j => st j = true) ⟨z, ocs, orr, ors⟩))) (fun _ wx => (x - intAt wx g (m * 4)).toNat)
            case atStart => exact ⟨1, by omega, hxg, H3.out.1, H3.out.2⟩
            case round =>
              obtain ⟨z, z1, z2, HY⟩ := hrel
              obtain ⟨g', c9, hsv, _, _, gl2, v1, v2, v3, v4, fy, gsb2⟩ := HY.out.1.at (HKS.out _)
              cases hsv
              simp only at v1 v2 v3 v4
              have fy0 := fy (m * 4)
              by_cases hf : FreeL its (fun j => st j = true) ⟨z, ocs, orr, ors⟩
              · obtain rfl : u14 = .bool true := by
                  rcases HY.out.2 with h | h
                  · exact h.1
                  · exact absurd hf h.2
                obtain rfl : z = x := by
                  by_cases e : z = x
                  · exact e
                  · exact absurd hf (HLE.out z z1 (by omega))
                have sf := HY.out.1.std.frz m
                have sl := HY.out.1.std.lt
                have sc := HY.out.1.std.cell hlt
                have MO := hidF (fun W => most_any cs (z + ocs - 1) W)
                have HP2 := hidF (HY.out.1.setSt m true)
                obtain ⟨g', c9, hsv, _, _, gl3, m1, m2, m3, m4, fm, gsb3⟩ := HP2.out.at (HKS.out _)
                cases hsv
                simp only at m1 m2 m3 m4
                have W1 : IntKind.i64.wrap (z + ocs) = z + ocs := wrapJ (by omega) (by omega)
                have W2 : IntKind.i64.wrap (z + ocs - 1) = z + ocs - 1 := wrapJ (by omega) (by omega)
                obtain ⟨w8, hw8⟩ : ∃ w8, w8 = wr := ⟨_, rfl⟩
                subst hw8
                clear hf fy fm
                go_upto_region 26 with fail
                go_cut [] (fun wx => Hid (PcAt w wx (.slice (some ⟨g, 0, none⟩) k c) sb k (its.set m ⟨z, ocs, orr, ors⟩) (fun j => if j = m then true else st j)))
                case first =>
                  go_wp2_with fail
                  go_meet
                  case rel => go_light; exact HP2.out
                case rest =>
                have H6 := hidF hcut.out
                clear hcut HP2 m1 m2 m3 m4 v1 v2 v3 v4 sf sl sc
                obtain ⟨g', c9, hsv, _, _, gl4, m1, m2, m3, m4, fm, gsb4⟩ := H6.out.at (HKS.out _)
                cases hsv
                simp only at m1 m2 m3 m4
                obtain ⟨w9, hw9⟩ : ∃ w9, w9 = wc := ⟨_, rfl⟩
                subst hw9
                clear fm
                go_upto_region 27 with fail
                go_region_with ((go_at_call 47; refine (MO.out _).mono ?_; rintro e w7 ⟨rfl, hw7⟩
                                 have HX : Hid (PcAt w w7 (.slice (some ⟨g, 0, none⟩) k c) sb k (its.set m ⟨z, ocs, orr, ors⟩) (fun j => if j = m then true else st j)) := by rw [hw7]; exact H6.out.held (Below.refl _ _).drew
                                 clear hw7))
                all_goals
                  go_wp2_with fail
                  go_roundw
                  case rel => go_light; exact ⟨m + 1, _, _, _, by omega, by go_num, rfl, HX.out, HNX.out, HNS.out⟩
                  case measure => simp [intV]; omega
              · obtain rfl : u14 = .bool false := by
                  rcases HY.out.2 with h | h
                  · exact absurd h.2 hf
                  · exact h.1
                have hzx : z < x := by
                  by_cases e : z = x
                  · subst e; exact absurd HIS.out hf
                  · omega
                have HRA : Hid (intAt wr g (m * 4) = z) := by show _ = _; unfold intAt; rw [v1]
                have H4 : Hid (PcAt w (wr.setCell ⟨g, m * 4, none⟩ (.int .i64 (z + 1))) (.slice (some ⟨g, 0, none⟩) k c) sb k (its.set m ⟨z + 1, ocs, orr, ors⟩) st) := by
                  have := HY.out.1.put (f := 0) (i' := ⟨z + 1, ocs, orr, ors⟩) (v := .int .i64 (z + 1)) (HKS.out _) (by omega) rfl
                  rw [List.set_set] at this
                  exact this
                obtain ⟨g', c9, hsv, _, _, gl3, m1, m2, m3, m4, fm, gsb3⟩ := H4.out.at (HKS.out _)
                cases hsv
                simp only at m1 m2 m3 m4
                have HFR := hidF (H4.out.free hn (sm_set HSM.out (HSMZ.out (z + 1) (by omega) (by omega))) (HSMZ.out (z + 1) (by omega) (by omega)))
                unfold gV at HFR
                simp only at HFR
                clear hf fy fm
                go_wp2_with fail
                refine HFR.out.mono ?_
                rintro e w8 ⟨v, rfl, hb, hb7⟩
                have H5 : Hid (PcAt w w8 (.slice (some ⟨g, 0, none⟩) k c) sb k (its.set m ⟨z + 1, ocs, orr, ors⟩) st ∧ IsB v (FreeL its (fun j => st j = true) ⟨z + 1, ocs, orr, ors⟩)) := by
                  rw [HFS.out] at hb
                  exact ⟨H4.out.held hb7, hb⟩
                have HRB : Hid (intAt w8 g (m * 4) = z + 1) := by
                  show _ = _
                  obtain ⟨g', c9, hsv, _, _, _, q1, _⟩ := H5.out.1.at (HKS.out _)
                  cases hsv
                  unfold intAt
                  rw [q1]
                clear hb hb7 m1 m2 m3 m4 v1 v2 v3 v4 fy0
                go_wp2_with fail
                go_roundw
                case rel => go_light; exact ⟨z + 1, by omega, by omega, H5.out.1, H5.out.2⟩
                case measure => rw [HRB.out, HRA.out]; omega
        · obtain rfl : m = k := by omega
          have hl3 : ¬ (m : Int) < (m : Int) := by omega
          obtain ⟨e1, e2⟩ := HZ.out.2.1.unique HR.out
          subst e1 e2
          have HS2 : Hid (StP m st (PCur l0 0)) := fun j hj => by
            rw [HZ.out.2.2 j hj]
            exact ⟨fun ⟨o, h1, h2⟩ => ⟨o, h1, .inl (by rcases h2 with h2 | ⟨_, h2⟩; exact h2.2; exact h2)⟩, fun ⟨o, h1, h2⟩ => ⟨o, h1, .inr ⟨hj, by rcases h2 with h2 | h2; exact h2; omega⟩⟩⟩
          have HUN : Hid (∀ (j : Nat) (o : Gi), l0[j]? = some o → o.r = 0 → its[j]? = some o) := fun j o ho hr => by
            rw [HR.out.un (.inr (fun q hq => by rw [ho] at hq; cases hq; exact hr))]
            exact ho
          obtain ⟨w5, hw5⟩ : ∃ w5, w5 = wr := ⟨_, rfl⟩
          subst hw5
          go_upto_region 28 with fail
          go_cut [15] (fun s wx => s = .int .i64 1 ∧ wx = w5)
          case first =>
            go_wp2_with fail
            go_meet
            case rel => go_light; exact ⟨rfl, rfl⟩
          case rest =>
          obtain ⟨rfl, hwx⟩ := hcut
          have hwy := hwx.symm
          clear hwx
          subst hwy
          refine (by assumption : ∀ (a : Act) (w : World), Code.wp _ _ _ a w → _) _ _ ?_
          exact qp_cur HZ.out.1 hn H0.out HL0.out HSM.out HUN.out HS2.out hcols HC.out _ _ _ _ _ _ _ _ _ _ _ _ _ _ _ _ _ _ _ _ _ _ _ _ _ _ _ _ _ _ _ _ _ _ _ _ _ _ _ _ _ _ _ _ _ _ _ _ _ _ _ _ _ _ _ _ _ _ _ _ _ _ _ _ _ _ _ _ _ _ _ _ _ _ _ _ _ _ _ _ _ _ _ _ _ _ _ _ _ _ _ _ _ _ _ _ _ _ _ _ _ _ _ _ _ _ _ _ _ _ _ _ _ _ _ _ _ _ _ _ _ _ _ _ _ _ _ _ _ _ _ _ _ _ _ _ _ _ _ _ _ _ _ _ _ _ _ _ _ _ _ _ _ _ _ _ _ _ _ _ _ _ _ _ _ _ _ _ _ _ _ _ _ _ _ _ _ _ _ _ _ _ _ _ _ _ _ _ _ _ _ _ _ _ _ _ _ _ _ _ _ _ _ _ _ _ _ _ _ _ _ _ _ _ _ _ _ _ _ _ _ _ _ _ _ _ _ _ _ _ _ _ _ _ _ _ _ _
end Go.Proofs.Ytbphlbohiifcmaa
