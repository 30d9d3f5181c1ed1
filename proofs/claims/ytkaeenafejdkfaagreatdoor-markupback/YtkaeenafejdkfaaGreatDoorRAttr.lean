/- The document's answer: an attribute. -/
import Derived.Test.YtkaeenafejdkfaaGreatDoorM07
import Derived.Test.YtkaeenafejdkfaaGreatDoorM05
namespace Go.Proofs.YtkaeenafejdkfaaGreatDoor
open Go.RowKit
set_option maxHeartbeats 8000000 in
set_option maxRecDepth 100000 in
theorem rattr_any (s : ByteArray) (i : Nat) (hs : s.size ≤ 100000) (hi : i < s.size) (w : World) :
    Calls Tryz.prog 108 #[.string s, .int .i64 i] w fun e w' => e = .returned (attrV (attrP s i)) ∧ Below w.heap.size w w' := by
  obtain ⟨r, hr⟩ : ∃ r, r = attrP s i := ⟨_, rfl⟩
  rw [← hr]
  obtain ⟨e1, E1, a1, b1, g1, x1⟩ := spanE_is inAttrB s (i + 1) (by omega)
  unfold attrP at hr
  simp only [E1] at hr
  have HR := hid hr
  have G1 := hid g1
  have X1 := hid x1
  clear hr g1 x1 E1
  go_enter Tryz.func108, Tryz.ntmps108
  go_wp2
  go_loop [6] (fun v => ∃ k : Nat, i + 1 ≤ k ∧ k ≤ e1 ∧ v = .int .i64 k) (fun v => s.size - (intOf v).toNat)
  case atStart => exact ⟨i + 1, by omega, by omega, by go_num⟩
  case round =>
    obtain ⟨k, hk1, hk2, rfl⟩ := hrel
    by_cases hlt : k < e1
    · obtain ⟨hsz, hp⟩ := G1.out k hk1 hlt
      obtain ⟨c, hc⟩ : ∃ c, s[k].toNat = c := ⟨_, rfl⟩
      rw [hc, inAttr_parts] at hp
      obtain ⟨hq, n1, n2, n3⟩ := hp
      have n1' := cast_ne n1
      have n2' := cast_ne n2
      have n3' := cast_ne n3
      clear n1 n2 n3 HR G1 X1
      go_wp2_with (go_at_call 69; refine (rblank_any c _).mono ?_; rintro e w' ⟨rfl, rfl⟩; rw [hq])
      all_goals go_light
      all_goals first
        | (refine ⟨⟨k + 1, by omega, by omega, by go_num⟩, ?_⟩; simp [intOf]; omega)
        | (exfalso; simp_all; done)
    · obtain rfl : k = e1 := by omega
      clear G1 hlt hk2
      by_cases hsz : k < s.size
      · have hp := X1.out hsz
        obtain ⟨c, hc⟩ : ∃ c, s[k].toNat = c := ⟨_, rfl⟩
        rw [hc] at hp
        clear X1
        rcases inAttr_no hp with hq | ⟨hq, rfl | rfl | rfl⟩
        all_goals (
          clear hp
          go_wp2_with (go_at_call 69; refine (rblank_any _ _).mono ?_; rintro e w' ⟨rfl, rfl⟩; rw [hq])
          refine (rsmall_any (s.extract i k) (by rw [ByteArray.size_extract]; omega) _).mono ?_
          rintro e w1 ⟨rfl, hB⟩
          have hb0 := hB.block w.heap.size (by simp)
          rw [heap_alloc_new w] at hb0
          have HB : Hid (Below w.heap.size w w1 ∧ w1.heap[w.heap.size]? = some (.cells #[.string ⟨#[]⟩, .string ⟨#[]⟩] 81 (0, 0))) := ⟨((Below.refl _ _).alloc (Nat.le_refl _) _).trans (hB.mono (by simp)), hb0⟩
          clear hB hb0
          obtain ⟨nm, hnm⟩ : ∃ nm, nm = smallS (s.extract i k) := ⟨_, rfl⟩
          rw [← hnm] at HR ⊢
          clear hnm
          go_wp2
          have hab : w.heap.size < w1.heap.size := size_of HB.out.2
          generalize hw2 : w1.alloc _ = w2
          obtain ⟨ab, hae⟩ : ∃ ab, ab = w1.heap.size := ⟨_, rfl⟩
          have HC : Hid (Below w.heap.size w w2) := by
            rw [← hw2]; exact HB.out.1.alloc (by omega) _
          have HA : Hid ((w2.heap[ab]? = some (.cells #[.string nm, .string ⟨#[]⟩] 81 (0, 0)) ∧ w2.heap[w.heap.size]? = some (.cells #[.string ⟨#[]⟩, .string ⟨#[]⟩] 81 (0, 0))) ∧ ab < w2.heap.size) := by
            rw [← hw2, hae]
            exact ⟨⟨heap_alloc_new _ _, by rw [Below.heap_alloc _ _ _ hab]; exact HB.out.2⟩, by simp⟩
          obtain ⟨c0, c1, fa⟩ := pair_cells HA.out.1.1
          obtain ⟨d0, d1, fd⟩ := pair_cells HA.out.1.2
          rw [← hae] at hab ⊢
          clear hw2 HB hae
          clear w1
          obtain ⟨e2, E2, a2, b2, g2, x2⟩ := spanE_is blankB s k (by omega)
          rw [E2] at HR
          have G2 := hid g2
          have X2 := hid x2
          clear g2 x2 E2
          go_loop [8] (fun v => ∃ j : Nat, k ≤ j ∧ j ≤ e2 ∧ v = .int .i64 j) (fun v => s.size - (intOf v).toNat)
          case atStart => exact ⟨k, by omega, by omega, rfl⟩
          case round =>
            obtain ⟨j, hj1, hj2, rfl⟩ := hrel
            by_cases hlt : j < e2
            · obtain ⟨hsz2, hp2⟩ := G2.out j hj1 hlt
              obtain ⟨c2, hc2⟩ : ∃ c, s[j].toNat = c := ⟨_, rfl⟩
              rw [hc2] at hp2
              clear HR G2 X2 HC HA
              go_wp2_with (go_at_call 69; refine (rblank_any c2 _).mono ?_; rintro e w' ⟨rfl, rfl⟩; rw [hp2])
              all_goals go_light
              all_goals first
                | (refine ⟨⟨j + 1, by omega, by omega, by go_num⟩, ?_⟩; simp [intOf]; omega)
                | (exfalso; simp_all; done)
            · obtain rfl : j = e2 := by omega
              clear G2 hlt hj2
              by_cases hsz2 : j < s.size
              · have hp2 := X2.out hsz2
                obtain ⟨c2, hc2⟩ : ∃ c, s[j].toNat = c := ⟨_, rfl⟩
                rw [hc2] at hp2
                clear X2
                by_cases h61 : c2 = 61
                · have n61 : ((c2 : Int) != 61) = false := by simp [h61]
                  obtain ⟨e3, E3, a3, b3, g3, x3⟩ := spanE_is blankB s (j + 1) (by omega)
                  have HR1 : Hid (r = valP s nm e3) := by
                    show r = _
                    rw [HR.out, bt_lt hsz2, hc2, if_pos h61, E3]
                  have G3 := hid g3
                  have X3 := hid x3
                  clear g3 x3 E3 HR h61
                  go_wp2_with (go_at_call 69; refine (rblank_any c2 _).mono ?_; rintro e w' ⟨rfl, rfl⟩; rw [hp2])
                  clear n61
                  have hdec : decide (s.size ≤ j) = false := by rw [decide_eq_false_iff_not]; omega
                  rw [hdec]
                  clear hdec
                  go_loop [8] (fun v => ∃ q : Nat, j + 1 ≤ q ∧ q ≤ e3 ∧ v = .int .i64 q) (fun v => s.size - (intOf v).toNat)
                  case atStart => exact ⟨j + 1, by omega, by omega, by go_num⟩
                  case round =>
                    obtain ⟨j3, hj31, hj32, rfl⟩ := hrel
                    by_cases hlt3 : j3 < e3
                    · obtain ⟨hsz3, hp3⟩ := G3.out j3 hj31 hlt3
                      obtain ⟨c3, hc3⟩ : ∃ c, s[j3].toNat = c := ⟨_, rfl⟩
                      rw [hc3] at hp3
                      clear HR1 G3 X3 HC HA
                      clear hc2 hsz2
                      go_wp2_with (go_at_call 69; refine (rblank_any c3 _).mono ?_; rintro e w' ⟨rfl, rfl⟩; rw [hp3])
                      all_goals go_light
                      all_goals first
                        | (refine ⟨⟨j3 + 1, by omega, by omega, by go_num⟩, ?_⟩; simp [intOf]; omega)
                        | (exfalso; simp_all; done)
                    · obtain rfl : j3 = e3 := by omega
                      clear G3 hlt3 hj32
                      by_cases hsz3 : j3 < s.size
                      · have hp3 := X3.out hsz3
                        obtain ⟨c3, hc3⟩ : ∃ c, s[j3].toNat = c := ⟨_, rfl⟩
                        rw [hc3] at hp3
                        have hb3 : bt s j3 = c3 := by rw [bt_lt hsz3, hc3]
                        clear X3
                        by_cases h34 : c3 = 34 ∨ c3 = 39
                        · have hone : (s.extract j3 (j3 + 1)).size = 1 := by rw [ByteArray.size_extract]; omega
                          cases hf : findE (s.extract j3 (j3 + 1)) s (j3 + 1) with
                          | none =>
                            have HR2 : Hid (r = (nm, ⟨#[]⟩, s.size + 1)) := HR1.out.trans (valP_miss (by rw [hb3]; exact h34) hf)
                            clear HR1
                            have hfm : ∀ w, Calls Tryz.prog 61 #[.string s, .string (s.extract j3 (j3 + 1)), .int .i64 ((j3 : Int) + 1)] w fun e w' => e = .returned (.int .i64 (-1)) ∧ w' = w := fun w => find_miss s (s.extract j3 (j3 + 1)) (j3 + 1) hf hs (by omega) (by omega) (by omega) w
                            rcases h34 with rfl | rfl
                            all_goals (
                              go_wp2_with (first | (go_at_call 69; refine (rblank_any _ _).mono ?_; rintro e w' ⟨rfl, rfl⟩; rw [hp3]) | (go_at_call 61; refine (hfm _).mono ?_; rintro e w' ⟨rfl, rfl⟩))
                              refine bodyPost_ret (v := attrV (nm, ⟨#[]⟩, s.size + 1)) ?_ rfl ⟨by rw [HR2.out], (HC.out.setCell (Nat.le_refl _) _).setCell (Nat.le_refl _) _⟩
                              simp [results, Tryz.results108, go_sem, d0, d1]
                              rfl)
                          | some q =>
                            have HR2 : Hid (r = (nm, meantS (s.extract (j3 + 1) q), q + 1)) := HR1.out.trans (valP_hit (by rw [hb3]; exact h34) hf)
                            clear HR1
                            obtain ⟨hq1, hq2, _⟩ := findE_some hf
                            have hq3 : q < s.size := by have := hq2.1; omega
                            clear hq2
                            have hfh : ∀ w, Calls Tryz.prog 61 #[.string s, .string (s.extract j3 (j3 + 1)), .int .i64 ((j3 : Int) + 1)] w fun e w' => e = .returned (.int .i64 q) ∧ w' = w := fun w => find_hit s (s.extract j3 (j3 + 1)) (j3 + 1) q hf hs (by omega) (by omega) (by omega) w
                            rcases h34 with rfl | rfl
                            all_goals (
                              go_wp2_with (first | (go_at_call 69; refine (rblank_any _ _).mono ?_; rintro e w' ⟨rfl, rfl⟩; rw [hp3]) | (go_at_call 61; refine (hfh _).mono ?_; rintro e w' ⟨rfl, rfl⟩))
                              refine (rmeant_any (s.extract (j3 + 1) q) (by rw [ByteArray.size_extract]; omega) _).mono ?_
                              rintro e w3 ⟨rfl, hB3⟩
                              have hA3 := (hB3.block ab HA.out.2).trans HA.out.1.1
                              have hR3 := (hB3.block w.heap.size (by have := HA.out.2; omega)).trans HA.out.1.2
                              have HC3 := hid (HC.out.trans (hB3.mono HC.out.size))
                              obtain ⟨c0', c1', fa'⟩ := pair_cells hA3
                              obtain ⟨d0', d1', fd'⟩ := pair_cells hR3
                              clear hB3 hA3 hR3 c0 c1 fa d0 d1 fd HA
                              obtain ⟨mv, hmv⟩ : ∃ mv, mv = meantS (s.extract (j3 + 1) q) := ⟨_, rfl⟩
                              have hmv2 : (⟨(meant (s.extract (j3 + 1) q).data.toList).toArray⟩ : ByteArray) = mv := hmv.symm
                              rw [hmv2]
                              rw [← hmv] at HR2
                              clear hmv hmv2
                              go_wp2_with fail
                              refine bodyPost_ret (v := attrV (nm, mv, q + 1)) ?_ rfl ⟨by rw [HR2.out], ?_⟩
                              · simp [results, Tryz.results108, go_sem, d0', d1']
                                try rfl
                              · exact ((HC3.out.setCell (Nat.le_of_lt hab) _).setCell (Nat.le_refl _) _).setCell (Nat.le_refl _) _)
                        · have HR2 : Hid (r = (nm, meantS (s.extract j3 (spanE inValB s j3)), spanE inValB s j3)) := by
                            exact HR1.out.trans (valP_bare (by rw [hb3]; exact h34))
                          clear HR1
                          have n34 : ((c3 : Int) == 34) = false := by rw [beq_eq_false_iff_ne]; omega
                          have n39 : ((c3 : Int) == 39) = false := by rw [beq_eq_false_iff_ne]; omega
                          go_wp2_with (go_at_call 69; refine (rblank_any c3 _).mono ?_; rintro e w' ⟨rfl, rfl⟩; rw [hp3])
                          clear hp3 n34 n39
                          obtain ⟨e4, E4, a4, b4, g4, x4⟩ := spanE_is inValB s j3 (by omega)
                          rw [E4] at HR2
                          have G4 := hid g4
                          have X4 := hid x4
                          clear g4 x4 E4
                          go_loop [10] (fun v => ∃ j : Nat, j3 ≤ j ∧ j ≤ e4 ∧ v = .int .i64 j) (fun v => s.size - (intOf v).toNat)
                          case atStart => exact ⟨j3, by omega, by omega, rfl⟩
                          case round =>
                            obtain ⟨j4, hj41, hj42, rfl⟩ := hrel
                            by_cases hlt4 : j4 < e4
                            · obtain ⟨hsz4, hp4⟩ := G4.out j4 hj41 hlt4
                              obtain ⟨c4, hc4⟩ : ∃ c, s[j4].toNat = c := ⟨_, rfl⟩
                              rw [hc4, inVal_parts] at hp4
                              obtain ⟨hq4, n4⟩ := hp4
                              have n4' := cast_ne n4
                              clear HR2 G4 X4 HC HA n4
                              go_wp2_with (go_at_call 69; refine (rblank_any c4 _).mono ?_; rintro e w' ⟨rfl, rfl⟩; rw [hq4])
                              all_goals go_light
                              all_goals first
                                | (refine ⟨⟨j4 + 1, by omega, by omega, by go_num⟩, ?_⟩; simp [intOf]; omega)
                                | (exfalso; simp_all; done)
                            · obtain rfl : j4 = e4 := by omega
                              clear G4 hlt4 hj42
                              by_cases hsz4 : j4 < s.size
                              · have hp4 := X4.out hsz4
                                obtain ⟨c4, hc4⟩ : ∃ c, s[j4].toNat = c := ⟨_, rfl⟩
                                rw [hc4] at hp4
                                clear X4
                                rcases inVal_no hp4 with hq4 | ⟨hq4, rfl⟩
                                all_goals (
                                  clear hp4
                                  go_wp2_with (go_at_call 69; refine (rblank_any _ _).mono ?_; rintro e w' ⟨rfl, rfl⟩; rw [hq4])
                                  refine (rmeant_any (s.extract j3 j4) (by rw [ByteArray.size_extract]; omega) _).mono ?_
                                  rintro e w3 ⟨rfl, hB3⟩
                                  have hA3 := (hB3.block ab HA.out.2).trans HA.out.1.1
                                  have hR3 := (hB3.block w.heap.size (by have := HA.out.2; omega)).trans HA.out.1.2
                                  have HC3 := hid (HC.out.trans (hB3.mono HC.out.size))
                                  obtain ⟨c0', c1', fa'⟩ := pair_cells hA3
                                  obtain ⟨d0', d1', fd'⟩ := pair_cells hR3
                                  clear hB3 hA3 hR3 c0 c1 fa d0 d1 fd HA
                                  obtain ⟨mv, hmv⟩ : ∃ mv, mv = meantS (s.extract j3 j4) := ⟨_, rfl⟩
                                  have hmv2 : (⟨(meant (s.extract j3 j4).data.toList).toArray⟩ : ByteArray) = mv := hmv.symm
                                  rw [hmv2]
                                  rw [← hmv] at HR2
                                  clear hmv hmv2
                                  go_wp2_with fail
                                  refine bodyPost_ret (v := attrV (nm, mv, j4)) ?_ rfl ⟨by rw [HR2.out], ?_⟩
                                  · simp [results, Tryz.results108, go_sem, d0', d1']
                                    try rfl
                                  · exact ((HC3.out.setCell (Nat.le_of_lt hab) _).setCell (Nat.le_refl _) _).setCell (Nat.le_refl _) _)
                              · clear X4
                                go_wp2_with fail
                                refine (rmeant_any (s.extract j3 j4) (by rw [ByteArray.size_extract]; omega) _).mono ?_
                                rintro e w3 ⟨rfl, hB3⟩
                                have hA3 := (hB3.block ab HA.out.2).trans HA.out.1.1
                                have hR3 := (hB3.block w.heap.size (by have := HA.out.2; omega)).trans HA.out.1.2
                                have HC3 := hid (HC.out.trans (hB3.mono HC.out.size))
                                obtain ⟨c0', c1', fa'⟩ := pair_cells hA3
                                obtain ⟨d0', d1', fd'⟩ := pair_cells hR3
                                clear hB3 hA3 hR3 c0 c1 fa d0 d1 fd HA
                                obtain ⟨mv, hmv⟩ : ∃ mv, mv = meantS (s.extract j3 j4) := ⟨_, rfl⟩
                                have hmv2 : (⟨(meant (s.extract j3 j4).data.toList).toArray⟩ : ByteArray) = mv := hmv.symm
                                rw [hmv2]
                                rw [← hmv] at HR2
                                clear hmv hmv2
                                go_wp2_with fail
                                refine bodyPost_ret (v := attrV (nm, mv, j4)) ?_ rfl ⟨by rw [HR2.out], ?_⟩
                                · simp [results, Tryz.results108, go_sem, d0', d1']
                                  try rfl
                                · exact ((HC3.out.setCell (Nat.le_of_lt hab) _).setCell (Nat.le_refl _) _).setCell (Nat.le_refl _) _
                      · have HR2 : Hid (r = (nm, meantS (s.extract j3 (spanE inValB s j3)), spanE inValB s j3)) := by
                          exact HR1.out.trans (valP_bare (by rw [bt_ge (show s.size ≤ j3 by omega)]; omega))
                        clear HR1 X3
                        go_wp2
                        obtain ⟨e4, E4, a4, b4, g4, x4⟩ := spanE_is inValB s j3 (by omega)
                        rw [E4] at HR2
                        have G4 := hid g4
                        have X4 := hid x4
                        clear g4 x4 E4
                        go_loop [10] (fun v => ∃ j : Nat, j3 ≤ j ∧ j ≤ e4 ∧ v = .int .i64 j) (fun v => s.size - (intOf v).toNat)
                        case atStart => exact ⟨j3, by omega, by omega, rfl⟩
                        case round =>
                          obtain ⟨j4, hj41, hj42, rfl⟩ := hrel
                          by_cases hlt4 : j4 < e4
                          · obtain ⟨hsz4, hp4⟩ := G4.out j4 hj41 hlt4
                            obtain ⟨c4, hc4⟩ : ∃ c, s[j4].toNat = c := ⟨_, rfl⟩
                            rw [hc4, inVal_parts] at hp4
                            obtain ⟨hq4, n4⟩ := hp4
                            have n4' := cast_ne n4
                            clear HR2 G4 X4 HC HA n4
                            go_wp2_with (go_at_call 69; refine (rblank_any c4 _).mono ?_; rintro e w' ⟨rfl, rfl⟩; rw [hq4])
                            all_goals go_light
                            all_goals first
                              | (refine ⟨⟨j4 + 1, by omega, by omega, by go_num⟩, ?_⟩; simp [intOf]; omega)
                              | (exfalso; simp_all; done)
                          · obtain rfl : j4 = e4 := by omega
                            clear G4 hlt4 hj42
                            by_cases hsz4 : j4 < s.size
                            · exact absurd hsz4 (by omega)
                            · clear X4
                              go_wp2_with fail
                              refine (rmeant_any (s.extract j3 j4) (by rw [ByteArray.size_extract]; omega) _).mono ?_
                              rintro e w3 ⟨rfl, hB3⟩
                              have hA3 := (hB3.block ab HA.out.2).trans HA.out.1.1
                              have hR3 := (hB3.block w.heap.size (by have := HA.out.2; omega)).trans HA.out.1.2
                              have HC3 := hid (HC.out.trans (hB3.mono HC.out.size))
                              obtain ⟨c0', c1', fa'⟩ := pair_cells hA3
                              obtain ⟨d0', d1', fd'⟩ := pair_cells hR3
                              clear hB3 hA3 hR3 c0 c1 fa d0 d1 fd HA
                              obtain ⟨mv, hmv⟩ : ∃ mv, mv = meantS (s.extract j3 j4) := ⟨_, rfl⟩
                              have hmv2 : (⟨(meant (s.extract j3 j4).data.toList).toArray⟩ : ByteArray) = mv := hmv.symm
                              rw [hmv2]
                              rw [← hmv] at HR2
                              clear hmv hmv2
                              go_wp2_with fail
                              refine bodyPost_ret (v := attrV (nm, mv, j4)) ?_ rfl ⟨by rw [HR2.out], ?_⟩
                              · simp [results, Tryz.results108, go_sem, d0', d1']
                                try rfl
                              · exact ((HC3.out.setCell (Nat.le_of_lt hab) _).setCell (Nat.le_refl _) _).setCell (Nat.le_refl _) _
                · have HR2 : Hid (r = (nm, ⟨#[]⟩, k)) := by
                    show r = _
                    rw [HR.out, bt_lt hsz2, hc2, if_neg h61]
                  have h61' := cast_ne h61
                  clear HR HA
                  go_wp2_with (go_at_call 69; refine (rblank_any c2 _).mono ?_; rintro e w' ⟨rfl, rfl⟩; rw [hp2])
                  all_goals first
                    | (refine bodyPost_ret (v := attrV (nm, ⟨#[]⟩, k)) ?_ rfl ⟨by rw [HR2.out], (HC.out.setCell (Nat.le_refl _) _).setCell (Nat.le_refl _) _⟩; simp [results, Tryz.results108, go_sem, d0, d1]; rfl)
                    | (exfalso; simp_all; done)
              · have HR2 : Hid (r = (nm, ⟨#[]⟩, k)) := by
                  show r = _
                  rw [HR.out, bt_ge (by omega)]
                  rfl
                clear HR X2 HA
                go_wp2
                refine bodyPost_ret (v := attrV (nm, ⟨#[]⟩, k)) ?_ rfl ⟨by rw [HR2.out], (HC.out.setCell (Nat.le_refl _) _).setCell (Nat.le_refl _) _⟩
                simp [results, Tryz.results108, go_sem, d0, d1]
                rfl)
      · clear X1
        go_wp2_with fail
        refine (rsmall_any (s.extract i k) (by rw [ByteArray.size_extract]; omega) _).mono ?_
        rintro e w1 ⟨rfl, hB⟩
        have hb0 := hB.block w.heap.size (by simp)
        rw [heap_alloc_new w] at hb0
        have HB : Hid (Below w.heap.size w w1 ∧ w1.heap[w.heap.size]? = some (.cells #[.string ⟨#[]⟩, .string ⟨#[]⟩] 81 (0, 0))) := ⟨((Below.refl _ _).alloc (Nat.le_refl _) _).trans (hB.mono (by simp)), hb0⟩
        clear hB hb0
        obtain ⟨nm, hnm⟩ : ∃ nm, nm = smallS (s.extract i k) := ⟨_, rfl⟩
        rw [← hnm] at HR ⊢
        clear hnm
        go_wp2
        have hab : w.heap.size < w1.heap.size := size_of HB.out.2
        generalize hw2 : w1.alloc _ = w2
        obtain ⟨ab, hae⟩ : ∃ ab, ab = w1.heap.size := ⟨_, rfl⟩
        have HC : Hid (Below w.heap.size w w2) := by
          rw [← hw2]; exact HB.out.1.alloc (by omega) _
        have HA : Hid ((w2.heap[ab]? = some (.cells #[.string nm, .string ⟨#[]⟩] 81 (0, 0)) ∧ w2.heap[w.heap.size]? = some (.cells #[.string ⟨#[]⟩, .string ⟨#[]⟩] 81 (0, 0))) ∧ ab < w2.heap.size) := by
          rw [← hw2, hae]
          exact ⟨⟨heap_alloc_new _ _, by rw [Below.heap_alloc _ _ _ hab]; exact HB.out.2⟩, by simp⟩
        obtain ⟨c0, c1, fa⟩ := pair_cells HA.out.1.1
        obtain ⟨d0, d1, fd⟩ := pair_cells HA.out.1.2
        rw [← hae] at hab ⊢
        clear hw2 HB hae
        clear w1
        obtain ⟨e2, E2, a2, b2, g2, x2⟩ := spanE_is blankB s k (by omega)
        rw [E2] at HR
        have G2 := hid g2
        have X2 := hid x2
        clear g2 x2 E2
        go_loop [8] (fun v => ∃ j : Nat, k ≤ j ∧ j ≤ e2 ∧ v = .int .i64 j) (fun v => s.size - (intOf v).toNat)
        case atStart => exact ⟨k, by omega, by omega, rfl⟩
        case round =>
          obtain ⟨j, hj1, hj2, rfl⟩ := hrel
          by_cases hlt : j < e2
          · obtain ⟨hsz2, hp2⟩ := G2.out j hj1 hlt
            obtain ⟨c2, hc2⟩ : ∃ c, s[j].toNat = c := ⟨_, rfl⟩
            rw [hc2] at hp2
            clear HR G2 X2 HC HA
            go_wp2_with (go_at_call 69; refine (rblank_any c2 _).mono ?_; rintro e w' ⟨rfl, rfl⟩; rw [hp2])
            all_goals go_light
            all_goals first
              | (refine ⟨⟨j + 1, by omega, by omega, by go_num⟩, ?_⟩; simp [intOf]; omega)
              | (exfalso; simp_all; done)
          · obtain rfl : j = e2 := by omega
            clear G2 hlt hj2
            by_cases hsz2 : j < s.size
            · exact absurd hsz2 (by omega)
            · have HR2 : Hid (r = (nm, ⟨#[]⟩, k)) := by
                show r = _
                rw [HR.out, bt_ge (by omega)]
                rfl
              clear HR X2 HA
              go_wp2
              refine bodyPost_ret (v := attrV (nm, ⟨#[]⟩, k)) ?_ rfl ⟨by rw [HR2.out], (HC.out.setCell (Nat.le_refl _) _).setCell (Nat.le_refl _) _⟩
              simp [results, Tryz.results108, go_sem, d0, d1]
              rfl
end Go.Proofs.YtkaeenafejdkfaaGreatDoor
