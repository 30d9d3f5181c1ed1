/- GridFree: the law, walked. -/
import Derived.Test.YtbphlbohiifcmaaGCells
import Derived.Test.YtbphlbohiifcmaaGPlace
namespace Go.Proofs.Ytbphlbohiifcmaa
open Go.RowKit
set_option linter.unusedVariables false      -- bounds that are for the walk

theorem apart_rects {a b : Gi} (h : Apart a b) (ha : 1 ≤ a.cs ∧ 1 ≤ a.rs) (hb : 1 ≤ b.cs ∧ 1 ≤ b.rs) : ¬ (a.c < b.c + b.cs ∧ b.c < a.c + a.cs ∧ a.r < b.r + b.rs ∧ b.r < a.r + a.rs) := by
  rintro ⟨h1, h2, h3, h4⟩
  refine h (max a.c b.c) (max a.r b.r) ⟨?_, ?_⟩ <;> (unfold Gi.has; unfold Gi.lc Gi.lr; omega)

set_option maxHeartbeats 4000000 in
set_option maxRecDepth 100000 in
theorem free_law {w : World} {v : Value} {l : List Gi} (h : GsL w v l) (c : Int) :
    Calls Try.prog 7 #[v, .int .i64 c] w fun e w' => e = .returned (.bool true) ∧ Below w.heap.size w w' := by
  have HI := hidF h
  obtain ⟨a, cap, rfl, hc1, hc2, hl⟩ := h
  have HL := hidF hl
  clear hl
  by_cases hbig : 60 < l.length
  · have hbig' : (60 : Int) < (l.length : Int) := by omega
    go_enter Try.func7, Try.ntmps7
    go_wp2_with fail
    go_returns
    exact ⟨rfl, Below.refl _ _⟩
  · have hbig' : ¬ (60 : Int) < (l.length : Int) := by omega
    have HCe := hidF (cells_any HI.out (by omega))
    go_enter Try.func7, Try.ntmps7
    go_wp2_with fail
    refine HCe.out.mono ?_
    rintro e w1 ⟨v1, rfl, h1, b1⟩
    have H1 := hidF h1
    have B1 := hidF b1
    obtain ⟨a1, cap1, rfl, k1, k2, hl1⟩ := h1
    clear hl1 b1
    go_wp2_with fail
    refine (placeG_any H1.out c).mono ?_
    rintro e w2 ⟨tb, mb, sv, F, cols, its, B, rfl, h2, i2, hB⟩
    have e200 : l.take 200 = l := List.take_of_length_le (by omega)
    rw [e200] at i2
    have hln : its.length = l.length := by rw [i2.len, List.length_map]
    obtain ⟨sa, sc, rfl, g1, g2⟩ := h2.shape
    rw [hln] at h2 g1 ⊢
    have H2 := hidF (And.intro h2 i2)
    have HLN := hidF hln
    have hco := i2.co1
    have hR := hidF (rowsG_ge its)
    obtain ⟨rw0, hrw⟩ : ∃ r, rowsG its = r := ⟨_, rfl⟩
    rw [hrw] at hR ⊢
    have hco' : ¬ cols < 1 := by omega
    have BB : Hid (Below w.heap.size w w2) := B1.out.trans (h2.below.mono B1.out.size)
    clear h2 i2 hln hrw e200
    obtain ⟨n, hn⟩ : ∃ n, l.length = n := ⟨_, rfl⟩
    have HN := hidF hn
    rw [hn] at hc1 k1 g1 HI HLN H2 hbig hbig' ⊢
    clear hn
    go_wp2_with fail
    go_loopw [8] (fun iv wr => ∃ k : Nat, k ≤ n ∧ iv = .int .i64 k ∧ Hid (Below w2.heap.size w2 wr)) (fun iv _ => n - (intV iv).toNat)
    case atStart => exact ⟨0, Nat.zero_le _, rfl, Below.refl _ _⟩
    case round =>
      obtain ⟨k, hk, rfl, HZ⟩ := hrel
      obtain ⟨w5, hw5⟩ : ∃ w5, w5 = wr := ⟨_, rfl⟩
      subst hw5
      by_cases hlt : k < n
      · obtain ⟨i, hik⟩ : ∃ i, its[k]? = some i := ⟨_, List.getElem?_eq_getElem (by rw [HLN.out]; exact hlt)⟩
        obtain ⟨x, hx⟩ : ∃ x, l[k]? = some x := ⟨_, List.getElem?_eq_getElem (by rw [HN.out]; exact hlt)⟩
        obtain ⟨g, c9, hsv, _, _, gl, x1, x2, x3, x4, fz⟩ := (H2.out.1.held HZ.out).at hik
        rw [HLN.out] at hsv
        cases hsv
        have ho : (l.map cntN)[k]? = some (cntN x) := by rw [List.getElem?_map, hx]; rfl
        have hkl : k < (l.map cntN).length := (List.getElem?_eq_some_iff.1 ho).1
        obtain ⟨s1, s2, s3, s4, s5⟩ := H2.out.2.st k i ⟨_, ho, .inr hkl⟩ hik
        have s6 := H2.out.2.sp k i _ hik ho
        have s7 := H2.out.2.ok0 _ (List.mem_of_getElem? ho)
        have s8 := hR.out i (List.mem_of_getElem? hik)
        have c1 := s7.cs1
        have c2 := s7.cs2
        have c3 := s7.rs1
        have c4 := s7.rs2
        rw [← s6.1] at c1 c2
        rw [← s6.2] at c3 c4
        have elc : i.lc = i.c + i.cs - 1 := rfl
        have elr : i.lr = i.r + i.rs - 1 := rfl
        rw [elc] at s3 s5
        rw [elr] at s4 s8
        have HIK := hidF hik
        have HO := hidF ho
        obtain ⟨b, o, hab, y1, y2, y3, y4, y5⟩ := HL.out k x hx
        have hkb := (BB.out.trans (HZ.out.mono BB.out.size)).block b y1
        have z1 := Nat.lt_of_lt_of_le y1 (BB.out.trans (HZ.out.mono BB.out.size)).size
        have z2 := (World.cell?_of_block (a := ⟨b, o + k * 4, none⟩) hkb).trans y2
        have z4 := (World.cell?_of_block (a := ⟨b, o + k * 4 + 2, none⟩) hkb).trans y4
        subst hab
        obtain ⟨ic, ics, ir, irs⟩ := i
        obtain ⟨xc, xcs, xr, xrs⟩ := x
        simp only at x1 x2 x3 x4 s1 s2 s3 s4 s5 s8 c1 c2 c3 c4 z2 z4
        have i1 : (0 : Int) ≤ (k : Int) := by omega
        have i2 : (k : Int) < (n : Int) := by omega
        have p1 : ¬ ic < 1 := by omega
        have p2 : ¬ ir < 1 := by omega
        have p3 : ¬ cols < ic + ics - 1 := by omega
        have p4 : ¬ rw0 < ir + irs - 1 := by omega
        clear hik hx ho hkl s6 s7 elc elr y1 y2 y3 y4 y5 hkb fz
        by_cases t1 : 0 < xc
        · by_cases t2 : 0 < xr
          · go_wp2_with fail
            go_roundw
            case rel => go_light; exact ⟨k + 1, by omega, by go_num, HZ.out.alloc HZ.out.size _⟩
            case measure => simp [intV]; omega
          · have HNT : Hid (¬ (cntN ⟨xc, xcs, xr, xrs⟩).told) := by
              show ¬ (0 < placeN xc ∧ 0 < placeN xr)
              unfold placeN
              omega
            go_wp2_with fail
            go_loopw [10] (fun jv wx => ∃ j : Nat, j ≤ n ∧ jv = .int .i64 j ∧ Hid (Below (w5.heap.size + 1) (w5.alloc (.cells #[.int .i64 ic, .int .i64 ics, .int .i64 ir, .int .i64 irs] 47)) wx)) (fun jv _ => n - (intV jv).toNat)
            case atStart => exact ⟨0, Nat.zero_le _, rfl, Below.refl _ _⟩
            case round =>
              obtain ⟨j, hj, rfl, HY⟩ := hrel
              have HV : Hid (Below w2.heap.size w2 wr) := (HZ.out.alloc HZ.out.size _).trans (HY.out.mono (by have := HZ.out.size; omega))
              have HBX : Hid (BxAt wr w5.heap.size ⟨ic, ics, ir, irs⟩) := (HY.out.block w5.heap.size (by omega)).trans (heap_alloc_new w5 _)
              by_cases hjl : j < n
              · obtain ⟨q, hq⟩ : ∃ q, its[j]? = some q := ⟨_, List.getElem?_eq_getElem (by rw [HLN.out]; exact hjl)⟩
                obtain ⟨g', c9, hsv, _, _, gl', u1, u2, u3, u4, fz⟩ := (H2.out.1.held HV.out).at hq
                rw [HLN.out] at hsv
                cases hsv
                obtain ⟨f0, f1, f2, f3, f4⟩ := HBX.out.cells
                have hjm : j < (l.map cntN).length := by rw [List.length_map, HN.out]; exact hjl
                have hqo : (l.map cntN)[j]? = some (l.map cntN)[j] := List.getElem?_eq_getElem hjm
                have hqs := H2.out.2.st j q ⟨_, hqo, .inr hjm⟩ hq
                have hqp := H2.out.2.sp j q _ hq hqo
                have hqg := H2.out.2.ok0 _ (List.mem_of_getElem? hqo)
                have d1 := hqg.cs1
                have d2 := hqg.cs2
                have d3 := hqg.rs1
                have d4 := hqg.rs2
                rw [← hqp.1] at d1 d2
                rw [← hqp.2] at d3 d4
                have elc : q.lc = q.c + q.cs - 1 := rfl
                have elr : q.lr = q.r + q.rs - 1 := rfl
                rw [elc, elr] at hqs
                obtain ⟨d5, d6, d7, d8, d9⟩ := hqs
                have HAP : Hid (j ≠ k → ¬ (ic < q.c + q.cs ∧ q.c < ic + ics ∧ ir < q.r + q.rs ∧ q.r < ir + irs)) := by
                  intro hne
                  have hkm : k < (l.map cntN).length := by rw [List.length_map, HN.out]; exact hlt
                  have := (H2.out.2.apart k j _ q _ (Ne.symm hne) ⟨_, HO.out, .inr hkm⟩ ⟨_, hqo, .inr hjm⟩ HIK.out hq HO.out HNT.out).1
                  exact apart_rects this ⟨c1, c3⟩ ⟨d1, d3⟩
                obtain ⟨qc, qcs, qr, qrs⟩ := q
                simp only at u1 u2 u3 u4 f1 f2 f3 f4 d1 d2 d3 d4 d5 d6 d7 d8 d9 HAP
                have j1 : (0 : Int) ≤ (j : Int) := by omega
                have j2 : (j : Int) < (n : Int) := by omega
                clear hq hqo hqp hqg hjm elc elr fz
                by_cases hjk : j = k
                · subst hjk
                  go_wp2_with fail
                  go_roundw
                  case rel => go_light; exact ⟨j + 1, by omega, by go_num, HY.out.alloc (by have := HY.out.size; simpa using this) _⟩
                  case measure => simp [intV]; omega
                · have hjk' : ((j : Int) == (k : Int)) = false := by simp; omega
                  have HAQ := hidF (HAP.out hjk)
                  by_cases q1 : ic < qc + qcs
                  · by_cases q2 : qc < ic + ics
                    · by_cases q3 : ir < qr + qrs
                      · have q4 : ¬ qr < ir + irs := fun h => HAQ.out ⟨q1, q2, q3, h⟩
                        go_wp2_with fail
                        go_roundw
                        case rel => go_light; exact ⟨j + 1, by omega, by go_num, HY.out.alloc (by have := HY.out.size; simpa using this) _⟩
                        case measure => simp [intV]; omega
                      · go_wp2_with fail
                        go_roundw
                        case rel => go_light; exact ⟨j + 1, by omega, by go_num, HY.out.alloc (by have := HY.out.size; simpa using this) _⟩
                        case measure => simp [intV]; omega
                    · go_wp2_with fail
                      go_roundw
                      case rel => go_light; exact ⟨j + 1, by omega, by go_num, HY.out.alloc (by have := HY.out.size; simpa using this) _⟩
                      case measure => simp [intV]; omega
                  · go_wp2_with fail
                    go_roundw
                    case rel => go_light; exact ⟨j + 1, by omega, by go_num, HY.out.alloc (by have := HY.out.size; simpa using this) _⟩
                    case measure => simp [intV]; omega
              · obtain rfl : j = n := by omega
                have hl3 : ¬ (j : Int) < (j : Int) := by omega
                go_wp2_with fail
                go_roundw
                case rel => go_light; exact ⟨k + 1, by omega, by go_num, HV.out⟩
                case measure => simp [intV]; omega
        · have HNT : Hid (¬ (cntN ⟨xc, xcs, xr, xrs⟩).told) := by
            show ¬ (0 < placeN xc ∧ 0 < placeN xr)
            unfold placeN
            omega
          go_wp2_with fail
          go_loopw [10] (fun jv wx => ∃ j : Nat, j ≤ n ∧ jv = .int .i64 j ∧ Hid (Below (w5.heap.size + 1) (w5.alloc (.cells #[.int .i64 ic, .int .i64 ics, .int .i64 ir, .int .i64 irs] 47)) wx)) (fun jv _ => n - (intV jv).toNat)
          case atStart => exact ⟨0, Nat.zero_le _, rfl, Below.refl _ _⟩
          case round =>
            obtain ⟨j, hj, rfl, HY⟩ := hrel
            have HV : Hid (Below w2.heap.size w2 wr) := (HZ.out.alloc HZ.out.size _).trans (HY.out.mono (by have := HZ.out.size; omega))
            have HBX : Hid (BxAt wr w5.heap.size ⟨ic, ics, ir, irs⟩) := (HY.out.block w5.heap.size (by omega)).trans (heap_alloc_new w5 _)
            by_cases hjl : j < n
            · obtain ⟨q, hq⟩ : ∃ q, its[j]? = some q := ⟨_, List.getElem?_eq_getElem (by rw [HLN.out]; exact hjl)⟩
              obtain ⟨g', c9, hsv, _, _, gl', u1, u2, u3, u4, fz⟩ := (H2.out.1.held HV.out).at hq
              rw [HLN.out] at hsv
              cases hsv
              obtain ⟨f0, f1, f2, f3, f4⟩ := HBX.out.cells
              have hjm : j < (l.map cntN).length := by rw [List.length_map, HN.out]; exact hjl
              have hqo : (l.map cntN)[j]? = some (l.map cntN)[j] := List.getElem?_eq_getElem hjm
              have hqs := H2.out.2.st j q ⟨_, hqo, .inr hjm⟩ hq
              have hqp := H2.out.2.sp j q _ hq hqo
              have hqg := H2.out.2.ok0 _ (List.mem_of_getElem? hqo)
              have d1 := hqg.cs1
              have d2 := hqg.cs2
              have d3 := hqg.rs1
              have d4 := hqg.rs2
              rw [← hqp.1] at d1 d2
              rw [← hqp.2] at d3 d4
              have elc : q.lc = q.c + q.cs - 1 := rfl
              have elr : q.lr = q.r + q.rs - 1 := rfl
              rw [elc, elr] at hqs
              obtain ⟨d5, d6, d7, d8, d9⟩ := hqs
              have HAP : Hid (j ≠ k → ¬ (ic < q.c + q.cs ∧ q.c < ic + ics ∧ ir < q.r + q.rs ∧ q.r < ir + irs)) := by
                intro hne
                have hkm : k < (l.map cntN).length := by rw [List.length_map, HN.out]; exact hlt
                have := (H2.out.2.apart k j _ q _ (Ne.symm hne) ⟨_, HO.out, .inr hkm⟩ ⟨_, hqo, .inr hjm⟩ HIK.out hq HO.out HNT.out).1
                exact apart_rects this ⟨c1, c3⟩ ⟨d1, d3⟩
              obtain ⟨qc, qcs, qr, qrs⟩ := q
              simp only at u1 u2 u3 u4 f1 f2 f3 f4 d1 d2 d3 d4 d5 d6 d7 d8 d9 HAP
              have j1 : (0 : Int) ≤ (j : Int) := by omega
              have j2 : (j : Int) < (n : Int) := by omega
              clear hq hqo hqp hqg hjm elc elr fz
              by_cases hjk : j = k
              · subst hjk
                go_wp2_with fail
                go_roundw
                case rel => go_light; exact ⟨j + 1, by omega, by go_num, HY.out.alloc (by have := HY.out.size; simpa using this) _⟩
                case measure => simp [intV]; omega
              · have hjk' : ((j : Int) == (k : Int)) = false := by simp; omega
                have HAQ := hidF (HAP.out hjk)
                by_cases q1 : ic < qc + qcs
                · by_cases q2 : qc < ic + ics
                  · by_cases q3 : ir < qr + qrs
                    · have q4 : ¬ qr < ir + irs := fun h => HAQ.out ⟨q1, q2, q3, h⟩
                      go_wp2_with fail
                      go_roundw
                      case rel => go_light; exact ⟨j + 1, by omega, by go_num, HY.out.alloc (by have := HY.out.size; simpa using this) _⟩
                      case measure => simp [intV]; omega
                    · go_wp2_with fail
                      go_roundw
                      case rel => go_light; exact ⟨j + 1, by omega, by go_num, HY.out.alloc (by have := HY.out.size; simpa using this) _⟩
                      case measure => simp [intV]; omega
                  · go_wp2_with fail
                    go_roundw
                    case rel => go_light; exact ⟨j + 1, by omega, by go_num, HY.out.alloc (by have := HY.out.size; simpa using this) _⟩
                    case measure => simp [intV]; omega
                · go_wp2_with fail
                  go_roundw
                  case rel => go_light; exact ⟨j + 1, by omega, by go_num, HY.out.alloc (by have := HY.out.size; simpa using this) _⟩
                  case measure => simp [intV]; omega
            · obtain rfl : j = n := by omega
              have hl3 : ¬ (j : Int) < (j : Int) := by omega
              go_wp2_with fail
              go_roundw
              case rel => go_light; exact ⟨k + 1, by omega, by go_num, HV.out⟩
              case measure => simp [intV]; omega
      · obtain rfl : k = n := by omega
        have hl2 : ¬ (k : Int) < (k : Int) := by omega
        go_wp2_with fail
        go_returns
        exact ⟨rfl, BB.out.trans (HZ.out.mono BB.out.size)⟩
end Go.Proofs.Ytbphlbohiifcmaa
