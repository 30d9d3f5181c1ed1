/- The document's answer: a start tag. -/
import Derived.Test.YtkaeenafejdkfaaGreatDoorM33
import Derived.Test.YtkaeenafejdkfaaGreatDoorRAttr
import Derived.Test.YtkaeenafejdkfaaGreatDoorM26
namespace Go.Proofs.YtkaeenafejdkfaaGreatDoor
open Go.RowKit

theorem none_end {s : ByteArray} {f k : Nat} {l : List (ByteArray × ByteArray)} (h : s.size ≤ spanE betwB s k) : attrsF nameB f s k l = none := by
  cases f with
  | zero => rfl
  | succ f => unfold attrsF; simp [h]

set_option maxHeartbeats 8000000 in
set_option maxRecDepth 100000 in
theorem rstart_any (s : ByteArray) (i : Nat) (hs : s.size ≤ 100000) (hi : i + 1 ≤ s.size) (w : World) (name : ByteArray) (hname : name = smallS (s.extract (i + 1) (spanE inTagB s (i + 1)))) :
    Calls Tryz.prog 63 #[.string s, .int .i64 i] w (RStartPost w s i name (attrsF nameB (s.size + 1) s (spanE inTagB s (i + 1)) [])) := by
  obtain ⟨te, hte⟩ : ∃ te, spanE inTagB s (i + 1) = te := ⟨_, rfl⟩
  have hne : ∀ w, Calls Tryz.prog 107 #[.string s, .int .i64 ((i : Int) + 1)] w fun e w' => e = .returned (.int .i64 te) ∧ w' = w := fun w => by
    have := nameEnd_any s (i + 1) hs hi w
    rw [hte] at this
    exact this
  rw [hte] at hname ⊢
  have hte2 : te ≤ s.size := by rw [← hte]; exact spanE_size _ _ _ hi
  have hte1 : i + 1 ≤ te := by rw [← hte]; exact spanE_le _ _ _
  obtain ⟨R, hR⟩ : ∃ R, R = attrsF nameB (s.size + 1) s te [] := ⟨_, rfl⟩
  rw [← hR]
  have HR := hid hR
  have HN := hid hname
  clear hte hR hname
  go_enter Tryz.func63, Tryz.ntmps63
  go_wp2_with (go_at_call 107; refine (hne _).mono ?_; rintro e w' ⟨rfl, rfl⟩)
  refine (rsmall_any (s.extract (i + 1) te) (by rw [ByteArray.size_extract]; omega) _).mono ?_
  rintro e w3 ⟨rfl, hB3⟩
  rw [← HN.out]
  have HA := hid (RTagAt.start (s := s) (i := i) (name := name) (hB3.mono (by simp)))
  clear hB3
  go_upto_region 4 with fail
  obtain ⟨pb, hpb⟩ : ∃ pb, pb = w3.heap.size := ⟨_, rfl⟩
  obtain ⟨nb, hnb⟩ : ∃ nb, nb = pb + 1 := ⟨_, rfl⟩
  rw [← hpb, ← hnb] at HA ⊢
  generalize hw4 : (w3.alloc _).alloc _ = w4
  have HA4 : Hid (RTagAt w w4 s i pb nb name (.slice none 0 0) (fun _ => .other) []) := by rw [← hw4]; exact HA
  clear HA hw4 hpb hnb HN hne
  go_loopg [5] (s.size - te) (fun g v5 wr => ∃ (j : Nat) (l : List (ByteArray × ByteArray)) (f : Nat) (av : Value) (M : Nat → Lab), g = s.size - j ∧ j ≤ s.size ∧ v5 = .int .i64 j ∧ Hid (R = attrsF nameB (f + 1) s j l ∧ s.size ≤ f + j ∧ RTagAt w wr s i pb nb name av M (firsts l) ∧ l.length ≤ j))
  case atStart => exact ⟨te, [], s.size, _, _, rfl, hte2, rfl, hid ⟨HR.out, by omega, HA4.out, by simp⟩⟩
  case round =>
    obtain ⟨j, l, f, av, M, rfl, hjs, rfl, hB⟩ := hrel
    obtain ⟨j2, E2, a2, b2, g2, x2⟩ := spanE_is betwB s j hjs
    have G2 := hid g2
    have X2 := hid x2
    have HE2 := hid E2
    clear g2 x2 E2 HR HA4
    go_wp2_with fail
    go_loop [5] (fun v => ∃ k : Nat, j ≤ k ∧ k ≤ j2 ∧ v = .int .i64 k) (fun v => s.size - (intOf v).toNat)
    case atStart => exact ⟨j, by omega, by omega, rfl⟩
    case round =>
      obtain ⟨k, hk1, hk2, rfl⟩ := hrel
      by_cases hlt : k < j2
      · obtain ⟨hsz, hp⟩ := G2.out k hk1 hlt
        obtain ⟨c, hc⟩ : ∃ c, s[k].toNat = c := ⟨_, rfl⟩
        rw [hc] at hp
        unfold betwB at hp
        cases hq : blankB c
        · have h47 : c = 47 := by simpa [hq] using hp
          have hb47 : ((c : Int) == 47) = true := by rw [h47]; rfl
          clear hp h47
          go_wp2_with (go_at_call 69; refine (rblank_any _ _).mono ?_; rintro e w' ⟨rfl, rfl⟩; rw [hq])
          go_round
          case rel => exact ⟨k + 1, by omega, by omega, by go_num⟩
          case measure => simp [intOf]; omega
        · clear hp
          go_wp2_with (go_at_call 69; refine (rblank_any _ _).mono ?_; rintro e w' ⟨rfl, rfl⟩; rw [hq])
          go_round
          case rel => exact ⟨k + 1, by omega, by omega, by go_num⟩
          case measure => simp [intOf]; omega
      · obtain rfl : k = j2 := by omega
        obtain ⟨aa, ac, hav, _, _⟩ := hB.out.2.2.1.row.shape
        subst hav
        obtain ⟨r0, r1, r2, r3, r4, r5, rf⟩ := six_cellsR hB.out.2.2.1.res
        obtain ⟨d0, d1, d2, d3, d4, d5, df⟩ := six_cellsR hB.out.2.2.1.cur
        obtain ⟨n0, n1, n2, n3, n4, n5, nf⟩ := six_cellsR hB.out.2.2.1.non
        have hf1 := hB.out.2.2.1.far
        have hf2 := hB.out.2.2.1.far2
        have hf3 := lt_of_heap hB.out.2.2.1.non
        by_cases hend : s.size ≤ k
        · have HRN : Hid (R = none) := hid (by rw [hB.out.1]; exact none_end (by rw [HE2.out]; exact hend))
          go_wp2_with fail
          rw [HRN.out]
          refine bodyPost_ret (v := rpv kNothing i s.size noS noS (.slice none 0 0)) ?_ rfl ⟨rfl, ?_⟩
          · simp [results, Tryz.results63, go_sem, r0, r1, r2, r3, r4, r5]
            try rfl
          · exact (((((hB.out.2.2.1.bel.setCell (Nat.le_refl _) _).setCell (Nat.le_refl _) _).setCell (Nat.le_refl _) _).setCell (Nat.le_refl _) _).setCell (Nat.le_refl _) _).setCell (Nat.le_refl _) _
        · have hsz : k < s.size := by omega
          obtain ⟨c, hc⟩ : ∃ c, s[k].toNat = c := ⟨_, rfl⟩
          have hbw := X2.out hsz
          rw [hc] at hbw
          unfold betwB at hbw
          rw [Bool.or_eq_false_iff, decide_eq_false_iff_not] at hbw
          obtain ⟨hq, h47⟩ := hbw
          have hb47 : ((c : Int) == 47) = false := by rw [beq_eq_false_iff_ne]; omega
          clear h47
          have hbt : bt s k = c := by rw [bt_lt hsz]; exact hc
          have HBT := hid hbt
          clear hbt
          by_cases h62 : c = 62
          · have hb62 : ((c : Int) == 62) = true := by rw [h62]; rfl
            have HRR : Hid (R = some (l, k + 1)) := by
              show _ = _
              rw [hB.out.1]
              unfold attrsF
              rw [HE2.out]
              simp only
              rw [if_neg hend, if_pos (HBT.out.trans h62)]
            clear h62
            have HAI := hid ((hB.out.2.2.1.row.attrsR (B := nb + 1) (fun q hq => hB.out.2.2.1.lab q (by omega))))
            go_wp2_with (go_at_call 69; refine (rblank_any _ _).mono ?_; rintro e w' ⟨rfl, rfl⟩; rw [hq])
            rw [HRR.out]
            refine bodyPost_ret (v := rpv kStart i (k + 1) name noS (.slice aa (firsts l).length ac)) ?_ rfl ⟨_, rfl, ?_, ?_⟩
            · simp [results, Tryz.results63, go_sem, r0, r1, r2, r3, r4, r5]
              try rfl
            · exact (((((((HAI.out.sets (by omega) _).sets (by omega) _).sets (by omega) _).sets (by omega) _).sets (by omega) _).sets (by omega) _).sets (by omega) _).mono (by omega)
            · exact ((((((hB.out.2.2.1.bel.setCell (by show _ ≤ pb; omega) _).setCell (Nat.le_refl _) _).setCell (Nat.le_refl _) _).setCell (Nat.le_refl _) _).setCell (Nat.le_refl _) _).setCell (Nat.le_refl _) _).setCell (Nat.le_refl _) _
          · have hb62 : ((c : Int) == 62) = false := by rw [beq_eq_false_iff_ne]; omega
            obtain ⟨nm, vl, pp, hat⟩ : ∃ nm vl pp, attrP s k = (nm, vl, pp) := ⟨_, _, _, rfl⟩
            have hgt : k < pp := by have := (attrP_fact hsz).2; rw [hat] at this; exact this
            have HRR : Hid (R = if s.size < pp then none else attrsF nameB f s pp (if nameB nm then l ++ [(nm, vl)] else l)) := by
              show _ = _
              have h := hB.out.1
              unfold attrsF at h
              rw [HE2.out] at h
              simp only at h
              rw [if_neg hend, if_neg (by rw [HBT.out]; exact h62), hat] at h
              exact h
            clear h62
            go_wp2_with (go_at_call 69; refine (rblank_any _ _).mono ?_; rintro e w' ⟨rfl, rfl⟩; rw [hq])
            refine (rattr_any s k hs hsz _).mono ?_
            rintro e w5 ⟨rfl, hB5⟩
            rw [hat]
            unfold attrV
            have HA5 := hid (hB.out.2.2.1.next hB5)
            clear hat hB5 hc hb47 hb62 hq HBT HE2 G2 X2 r0 r1 r2 r3 r4 r5 rf d0 d1 d2 d3 d4 d5 df n0 n1 n2 n3 n4 n5 nf hf3
            obtain ⟨r0, r1, r2, r3, r4, r5, rf⟩ := six_cellsR HA5.out.res
            obtain ⟨d0, d1, d2, d3, d4, d5, df⟩ := six_cellsR HA5.out.cur
            obtain ⟨n0, n1, n2, n3, n4, n5, nf⟩ := six_cellsR HA5.out.non
            have hf3 := lt_of_heap HA5.out.non
            have HA6 := hid (HA5.out.al (.cells #[.string nm, .string vl] 81 (0, 0)))
            have hq1 : pb < w5.heap.size := by omega
            have hq2 : w.heap.size < w5.heap.size := by omega
            by_cases hbig : s.size < pp
            · have HRN : Hid (R = none) := hid (by rw [HRR.out, if_pos hbig])
              clear HRR
              go_wp2_with fail
              rw [HRN.out]
              refine bodyPost_ret (v := rpv kNothing i s.size noS noS (.slice none 0 0)) ?_ rfl ⟨rfl, ?_⟩
              · simp [results, Tryz.results63, go_sem, r0, r1, r2, r3, r4, r5, hq2]
                try rfl
              · exact ((((((HA5.out.bel.setCell (Nat.le_refl _) _).setCell (Nat.le_refl _) _).setCell (Nat.le_refl _) _).setCell (Nat.le_refl _) _).setCell (Nat.le_refl _) _).setCell (Nat.le_refl _) _).alloc (by simp [World.setCell]; omega) _
            · have HRM : Hid (R = attrsF nameB f s pp (if nameB nm then l ++ [(nm, vl)] else l)) := hid (by rw [HRR.out, if_neg hbig])
              clear HRR
              have hfl : s.size ≤ f + j := hB.out.2.1
              have hll : l.length ≤ j := hB.out.2.2.2
              have hfl2 := firsts_le l
              obtain ⟨f', rfl⟩ : ∃ f', f = f' + 1 := ⟨f - 1, by omega⟩
              obtain ⟨i0, hi0, hz0, hz1, hz2⟩ := info_parts Tryz.infoAttr
              cases hnb : nameB nm
              · have HL : Hid (R = attrsF nameB (f' + 1) s pp l) := by
                  show _ = _
                  rw [HRM.out]; simp only [hnb]; rfl
                clear HRM
                go_wp2_with (go_at_call 26; refine (isName_any _ _).mono ?_; rintro e w9 ⟨rfl, rfl⟩; rw [hnb])
                go_roundg (s.size - pp)
                case measure => omega
                case rel => exact ⟨pp, l, f', _, M, rfl, by omega, rfl, hid ⟨HL.out, by omega, HA6.out, by omega⟩⟩
              · have HL : Hid (R = attrsF nameB (f' + 1) s pp (l ++ [(nm, vl)])) := by
                  show _ = _
                  rw [HRM.out]; simp only [hnb]; rfl
                clear HRM
                cases hfa : findA (firsts l) nm with
                | some q =>
                  have hfi : findI (firsts l) nm = (q : Int) := by simp only [findI, hfa]
                  have HFS := hid (firsts_some (x := (nm, vl)) (by rw [hfa]; rfl))
                  clear hfa
                  go_wp2_with (first
                    | (go_at_call 26; refine (isName_any _ _).mono ?_; rintro e w9 ⟨rfl, rfl⟩; rw [hnb])
                    | (go_at_call 93; refine (at_any HA6.out.row nm).mono ?_; rintro e w9 ⟨rfl, rfl⟩; rw [hfi]))
                  go_roundg (s.size - pp)
                  case measure => omega
                  case rel => exact ⟨pp, l ++ [(nm, vl)], f', _, M, rfl, by omega, rfl, hid ⟨HL.out, by omega, by rw [HFS.out]; exact HA6.out, by simp; omega⟩⟩
                | none =>
                  have hfi : findI (firsts l) nm = -1 := by simp only [findI, hfa]
                  have HFS := hid (firsts_none (x := (nm, vl)) hfa)
                  clear hfa
                  have HROW : Hid (∀ o, RTagAt w ((w5.alloc (.cells #[.string nm, .string vl] 81 (0, 0))).alloc o) s i pb nb name (.slice aa (firsts l).length ac) M (firsts l)) := fun o => HA6.out.al o
                  go_wp2_with (first
                    | (go_at_call 26; refine (isName_any _ _).mono ?_; rintro e w9 ⟨rfl, rfl⟩; rw [hnb])
                    | (go_at_call 93; refine (at_any HA6.out.row nm).mono ?_; rintro e w9 ⟨rfl, rfl⟩; rw [hfi])
                    | (at_builtin; (refine wpList_app_row _ (by rfl) (.tmp 83) (.tmp 85) 47 (by rfl) M (.attrs 0) 81 i0 _ 2 32 Tryz.underlying47 hi0 hz0 hz1 hz2 rfl (by decide) (.slice aa (firsts l).length ac) (firsts l).length (attrCells (firsts l)) (by rfl) (HROW.out _).row ⟨w5.heap.size + 1, 0, none⟩ 1 1 [.string nm, .string vl] (by rfl) rfl (news_new (w5.alloc _) #[.string nm, .string vl] 81 _ (by simp)) (by simp [Value.oneCell']) (by decide) (by unfold maxLen; omega) (by omega) (HROW.out _).fresh ?_); intro g cap1 w9 M2 hr st; have HAM := hid ((HROW.out _).more (l2 := firsts l ++ [(nm, vl)]) (by rw [List.length_append, attrCells_append]; exact hr) st); have hTag := HROW.out (.cells #[.string nm, .string vl] 81 (0, 0)); have hcur := (st.far pb (lt_of_heap hTag.cur) (by rw [hTag.lab pb (by omega)]; intro e; cases e)).trans hTag.cur; obtain ⟨q0', q1', q2', q3', q4', d5', df'⟩ := six_cellsR hcur; clear hr st hcur hTag))
                  go_roundg (s.size - pp)
                  case measure => omega
                  case rel => exact ⟨pp, l ++ [(nm, vl)], f', _, M2, rfl, by omega, rfl, hid ⟨HL.out, by omega, by rw [HFS.out]; exact HAM.out, by simp; omega⟩⟩
end Go.Proofs.YtkaeenafejdkfaaGreatDoor

/- The document's answer: the piece at a place. -/
namespace Go.Proofs.YtkaeenafejdkfaaGreatDoor
open Go.RowKit

def kText : ByteArray := ⟨#[116, 101, 120, 116]⟩
def kComment : ByteArray := ⟨#[99, 111, 109, 109, 101, 110, 116]⟩
/-- a piece as the document's answer gives it -/
def RNextPost (w : World) (i : Nat) (pc : Pc) (e : Ending) (w' : World) : Prop := Below w.heap.size w w' ∧ match pc with
  | .text t k => e = .returned (rpv kText i k noS t (.slice none 0 0))
  | .com t k => e = .returned (rpv kComment i k noS t (.slice none 0 0))
  | .none k => e = .returned (rpv kNothing i k noS noS (.slice none 0 0))
  | .fin name k => e = .returned (rpv kEnd i k name noS (.slice none 0 0))
  | .start name l k => ∃ av, e = .returned (rpv kStart i k name noS av) ∧ AttrsR w' w.heap.size av (firsts l)

set_option maxHeartbeats 8000000 in
set_option maxRecDepth 100000 in
theorem rnext_text (s : ByteArray) (i : Nat) (hs : s.size ≤ 100000) (hi : i < s.size) (w : World) (hst : startB s i = false) :
    Calls Tryz.prog 22 #[.string s, .int .i64 i] w (RNextPost w i (pieceP nameB s i)) := by
  obtain ⟨te, hte⟩ : ∃ te, te = wordN s (i + 1) := ⟨_, rfl⟩
  have hpc : pieceP nameB s i = .text (meantS (s.extract i te)) te := by unfold pieceP; rw [if_pos hst, ← hte]
  rw [hpc]
  have HT := hid hte
  clear hte hpc
  have hb0 : ∀ w, Calls Tryz.prog 59 #[.string s, .int .i64 i] w fun e w' => e = .returned (.bool false) ∧ w' = w := fun w => by rw [← hst]; exact begins_any s i hs hi w
  clear hst
  go_enter Tryz.func22, Tryz.ntmps22
  go_wp2_with (go_at_call 59; refine (hb0 _).mono ?_; rintro e w' ⟨rfl, rfl⟩)
  go_loop [6] (fun v => ∃ k : Nat, i + 1 ≤ k ∧ k ≤ s.size ∧ v = .int .i64 k ∧ Hid (te = wordN s k)) (fun v => s.size - (intOf v).toNat)
  case atStart => exact ⟨i + 1, by omega, by omega, by go_num, HT⟩
  case round =>
    obtain ⟨k, hk1, hk2, rfl, hK⟩ := hrel
    clear HT
    by_cases hlt : k < s.size
    · cases hb : startB s k
      · have HN : Hid (te = wordN s (k + 1)) := hid (hK.out.trans (wordN_step hlt hb))
        have hbk : ∀ w, Calls Tryz.prog 59 #[.string s, .int .i64 k] w fun e w' => e = .returned (.bool false) ∧ w' = w := fun w => by rw [← hb]; exact begins_any s k hs hlt w
        go_wp2_with (go_at_call 59; refine (hbk _).mono ?_; rintro e w' ⟨rfl, rfl⟩)
        go_round
        case rel => exact ⟨k + 1, by omega, by omega, by go_num, HN⟩
        case measure => simp [intOf]; omega
      · have hkt : k = te := (hK.out.trans (wordN_hit hlt hb)).symm
        subst hkt
        have hbk : ∀ w, Calls Tryz.prog 59 #[.string s, .int .i64 k] w fun e w' => e = .returned (.bool true) ∧ w' = w := fun w => by rw [← hb]; exact begins_any s k hs hlt w
        go_wp2_with (go_at_call 59; refine (hbk _).mono ?_; rintro e w' ⟨rfl, rfl⟩)
        obtain ⟨m, hm⟩ : ∃ m, m = meantS (s.extract i k) := ⟨_, rfl⟩
        have hmm : ∀ w, Calls Tryz.prog 60 #[.string (s.extract i k)] w fun e w' => e = .returned (.string m) ∧ Below w.heap.size w w' := fun w => by rw [hm]; exact rmeant_any (s.extract i k) (by rw [ByteArray.size_extract]; omega) w
        have HM := hid hm
        clear hm
        refine (hmm _).mono ?_
        rintro e w1 ⟨rfl, hB1⟩
        have hr0 := (hB1.block w.heap.size (by simp)).trans (heap_alloc_new w _)
        obtain ⟨r0, r1, r2, r3, r4, r5, rf⟩ := six_cellsR hr0
        have HB : Hid (Below w.heap.size w w1) := ((Below.refl _ _).alloc (Nat.le_refl _) _).trans (hB1.mono (by simp))
        clear hB1 hr0
        go_wp2_with fail
        refine bodyPost_ret (v := rpv kText i k noS m (.slice none 0 0)) ?_ rfl ⟨?_, by rw [HM.out]⟩
        · simp [results, Tryz.results22, go_sem, r0, r1, r2, r3, r4, r5]
          try rfl
        · exact (((((HB.out.setCell (Nat.le_refl _) _).setCell (Nat.le_refl _) _).setCell (Nat.le_refl _) _).setCell (Nat.le_refl _) _).setCell (Nat.le_refl _) _).setCell (Nat.le_refl _) _
    · have hkt : k = te := (hK.out.trans (wordN_end (by omega))).symm
      subst hkt
      go_wp2_with fail
      obtain ⟨m, hm⟩ : ∃ m, m = meantS (s.extract i k) := ⟨_, rfl⟩
      have hmm : ∀ w, Calls Tryz.prog 60 #[.string (s.extract i k)] w fun e w' => e = .returned (.string m) ∧ Below w.heap.size w w' := fun w => by rw [hm]; exact rmeant_any (s.extract i k) (by rw [ByteArray.size_extract]; omega) w
      have HM := hid hm
      clear hm
      refine (hmm _).mono ?_
      rintro e w1 ⟨rfl, hB1⟩
      have hr0 := (hB1.block w.heap.size (by simp)).trans (heap_alloc_new w _)
      obtain ⟨r0, r1, r2, r3, r4, r5, rf⟩ := six_cellsR hr0
      have HB : Hid (Below w.heap.size w w1) := ((Below.refl _ _).alloc (Nat.le_refl _) _).trans (hB1.mono (by simp))
      clear hB1 hr0
      go_wp2_with fail
      refine bodyPost_ret (v := rpv kText i k noS m (.slice none 0 0)) ?_ rfl ⟨?_, by rw [HM.out]⟩
      · simp [results, Tryz.results22, go_sem, r0, r1, r2, r3, r4, r5]
        try rfl
      · exact (((((HB.out.setCell (Nat.le_refl _) _).setCell (Nat.le_refl _) _).setCell (Nat.le_refl _) _).setCell (Nat.le_refl _) _).setCell (Nat.le_refl _) _).setCell (Nat.le_refl _) _

theorem com_stands {s : ByteArray} {i : Nat} (hi : i + 4 ≤ s.size) : (s.extract i (i + 4) = ⟨#[60, 33, 45, 45]⟩) ↔ standsAt ⟨#[60, 33, 45, 45]⟩ s i := by
  unfold standsAt
  have e : (⟨#[60, 33, 45, 45]⟩ : ByteArray).size = 4 := rfl
  rw [e]
  constructor
  · intro h; exact ⟨hi, h⟩
  · intro h; exact h.2
end Go.Proofs.YtkaeenafejdkfaaGreatDoor

/- The document's answer: the piece at a place that begins with a sign. -/
namespace Go.Proofs.YtkaeenafejdkfaaGreatDoor
open Go.RowKit

set_option maxHeartbeats 8000000 in
set_option maxRecDepth 100000 in
theorem rnext_com (s : ByteArray) (i : Nat) (hs : s.size ≤ 100000) (hi : i < s.size) (w : World) (hst : startB s i = true) (hc : standsAt ⟨#[60, 33, 45, 45]⟩ s i) :
    Calls Tryz.prog 22 #[.string s, .int .i64 i] w (RNextPost w i (pieceP nameB s i)) := by
  have h4 : i + 4 ≤ s.size := hc.1
  have hb0 : ∀ w, Calls Tryz.prog 59 #[.string s, .int .i64 i] w fun e w' => e = .returned (.bool true) ∧ w' = w := fun w => by rw [← hst]; exact begins_any s i hs hi w
  have hx : s.extract i (i + 4) = ⟨#[60, 33, 45, 45]⟩ := hc.2
  cases hf : findE ⟨#[45, 45, 62]⟩ s (i + 4) with
  | none =>
    have hpc : pieceP nameB s i = .com (s.extract (i + 4) s.size) s.size := by unfold pieceP; rw [if_neg (by rw [hst]; simp), if_pos hc, hf]
    rw [hpc]
    have hfm : ∀ w, Calls Tryz.prog 61 #[.string s, .string ⟨#[45, 45, 62]⟩, .int .i64 ((i : Int) + 4)] w fun e w' => e = .returned (.int .i64 (-1)) ∧ w' = w := fun w => find_miss s ⟨#[45, 45, 62]⟩ (i + 4) hf hs (by decide) (by decide) h4 w
    clear hst hc hf hpc
    go_enter Tryz.func22, Tryz.ntmps22
    go_wp2_with (first | (go_at_call 59; refine (hb0 _).mono ?_; rintro e w' ⟨rfl, rfl⟩) | (go_at_call 61; refine (hfm _).mono ?_; rintro e w' ⟨rfl, rfl⟩))
    generalize s.extract (i + 4) s.size = m
    refine bodyPost_ret (v := rpv kComment i s.size noS m (.slice none 0 0)) ?_ rfl ⟨(Below.refl _ _).alloc (Nat.le_refl _) _, rfl⟩
    simp [results, Tryz.results22, go_sem]
    try rfl
  | some k =>
    obtain ⟨hk1, hk2, _⟩ := findE_some hf
    have hk3 : k + 3 ≤ s.size := hk2.1
    have hpc : pieceP nameB s i = .com (s.extract (i + 4) k) (k + 3) := by unfold pieceP; rw [if_neg (by rw [hst]; simp), if_pos hc, hf]
    rw [hpc]
    have hfm : ∀ w, Calls Tryz.prog 61 #[.string s, .string ⟨#[45, 45, 62]⟩, .int .i64 ((i : Int) + 4)] w fun e w' => e = .returned (.int .i64 k) ∧ w' = w := fun w => find_hit s ⟨#[45, 45, 62]⟩ (i + 4) k hf hs (by decide) (by decide) h4 w
    clear hst hc hf hpc hk2
    go_enter Tryz.func22, Tryz.ntmps22
    go_wp2_with (first | (go_at_call 59; refine (hb0 _).mono ?_; rintro e w' ⟨rfl, rfl⟩) | (go_at_call 61; refine (hfm _).mono ?_; rintro e w' ⟨rfl, rfl⟩))
    generalize s.extract (i + 4) k = m
    refine bodyPost_ret (v := rpv kComment i (k + 3) noS m (.slice none 0 0)) ?_ rfl ⟨(Below.refl _ _).alloc (Nat.le_refl _) _, rfl⟩
    simp [results, Tryz.results22, go_sem]
    try rfl

/-- what the document asks first is no comment -/
theorem no_com {s : ByteArray} {i : Nat} (h : ¬ standsAt ⟨#[60, 33, 45, 45]⟩ s i) (h4 : i + 4 ≤ s.size) : ((s.extract i (i + 4)).toList == [60, 33, 45, 45]) = false := by
  rw [beq_eq_false_iff_ne]
  intro e
  apply h
  refine ⟨h4, ?_⟩
  rw [Lib.toList_data] at e
  show s.extract i (i + 4) = _
  apply ByteArray.ext
  apply Array.ext'
  rw [e]

set_option maxHeartbeats 8000000 in
set_option maxRecDepth 100000 in
theorem rnext_bang (s : ByteArray) (i : Nat) (hs : s.size ≤ 100000) (hi : i < s.size) (w : World) (hst : startB s i = true) (hc : ¬ standsAt ⟨#[60, 33, 45, 45]⟩ s i) (h1 : i + 1 < s.size) (c : Nat) (hcc : s[i + 1].toNat = c) (hb : c = 33 ∨ c = 63) :
    Calls Tryz.prog 22 #[.string s, .int .i64 i] w (RNextPost w i (pieceP nameB s i)) := by
  have hb0 : ∀ w, Calls Tryz.prog 59 #[.string s, .int .i64 i] w fun e w' => e = .returned (.bool true) ∧ w' = w := fun w => by rw [← hst]; exact begins_any s i hs hi w
  have hbt : bt s (i + 1) = 33 ∨ bt s (i + 1) = 63 := by rw [bt_lt h1, hcc]; exact hb
  have hx : i + 4 ≤ s.size → ((s.extract i (i + 4)).toList == [60, 33, 45, 45]) = false := no_com hc
  have hor : (((c : Int) == 33) || ((c : Int) == 63)) = true := by rcases hb with rfl | rfl <;> rfl
  obtain ⟨k, hk, hfm, hpc⟩ : ∃ k : Nat, k < s.size ∧ (∀ w, Calls Tryz.prog 61 #[.string s, .string ⟨#[62]⟩, .int .i64 i] w fun e w' => (e = .returned (.int .i64 k) ∨ (e = .returned (.int .i64 (-1)) ∧ k = s.size - 1)) ∧ w' = w) ∧ pieceP nameB s i = .none (k + 1) := by
    cases hf : findE ⟨#[62]⟩ s i with
    | none =>
      refine ⟨s.size - 1, by omega, fun w => (find_miss s ⟨#[62]⟩ i hf hs (by decide) (by decide) (by omega) w).mono ?_, ?_⟩
      · rintro e w' ⟨rfl, rfl⟩; exact ⟨.inr ⟨rfl, rfl⟩, rfl⟩
      · unfold pieceP; rw [if_neg (by rw [hst]; simp), if_neg hc, if_pos hbt, hf]; simp only; congr 1; omega
    | some k =>
      obtain ⟨_, hk2, _⟩ := findE_some hf
      refine ⟨k, hk2.1, fun w => (find_hit s ⟨#[62]⟩ i k hf hs (by decide) (by decide) (by omega) w).mono ?_, ?_⟩
      · rintro e w' ⟨rfl, rfl⟩; exact ⟨.inl rfl, rfl⟩
      · unfold pieceP; rw [if_neg (by rw [hst]; simp), if_neg hc, if_pos hbt, hf]
  rw [hpc]
  clear hst hc hpc hbt
  have hcase : (((c : Int) == 33) = true) ∨ (((c : Int) == 33) = false ∧ ((c : Int) == 63) = true) := by rcases hb with rfl | rfl <;> simp
  clear hb hor
  have HX := hid hx
  clear hx
  go_enter Tryz.func22, Tryz.ntmps22
  by_cases h4 : i + 4 ≤ s.size
  · have hxx := HX.out h4
    rcases hcase with hb33 | ⟨hb33, hb63⟩
    all_goals go_wp2_with (first | (go_at_call 59; refine (hb0 _).mono ?_; rintro e w' ⟨rfl, rfl⟩) | (go_at_call 61; refine (hfm _).mono ?_; rintro e w' ⟨hor, rfl⟩; rcases hor with rfl | ⟨rfl, hkk⟩))
    all_goals (
      refine bodyPost_ret (v := rpv kNothing i (k + 1) noS noS (.slice none 0 0)) ?_ rfl ⟨(Below.refl _ _).alloc (Nat.le_refl _) _, rfl⟩
      simp [results, Tryz.results22, go_sem]
      unfold rpv
      first
        | rfl
        | (rw [show ((k + 1 : Nat) : Int) = (s.size : Int) by omega]; rfl)
        | (rw [show ((k + 1 : Nat) : Int) = (s.size : Int) - 1 + 1 by omega]; rfl))
  · rcases hcase with hb33 | ⟨hb33, hb63⟩
    all_goals go_wp2_with (first | (go_at_call 59; refine (hb0 _).mono ?_; rintro e w' ⟨rfl, rfl⟩) | (go_at_call 61; refine (hfm _).mono ?_; rintro e w' ⟨hor, rfl⟩; rcases hor with rfl | ⟨rfl, hkk⟩))
    all_goals (
      refine bodyPost_ret (v := rpv kNothing i (k + 1) noS noS (.slice none 0 0)) ?_ rfl ⟨(Below.refl _ _).alloc (Nat.le_refl _) _, rfl⟩
      simp [results, Tryz.results22, go_sem]
      unfold rpv
      first
        | rfl
        | (rw [show ((k + 1 : Nat) : Int) = (s.size : Int) by omega]; rfl)
        | (rw [show ((k + 1 : Nat) : Int) = (s.size : Int) - 1 + 1 by omega]; rfl))
end Go.Proofs.YtkaeenafejdkfaaGreatDoor

/- The document's answer: the piece at a place: tags, and all. -/
namespace Go.Proofs.YtkaeenafejdkfaaGreatDoor
open Go.RowKit

/-- a start tag as a piece -/
def tagPc (s name : ByteArray) : Option (List (ByteArray × ByteArray) × Nat) → Pc
  | some (l, e) => .start name l e
  | none => .none s.size

set_option maxHeartbeats 8000000 in
set_option maxRecDepth 100000 in
theorem rnext_tag (s : ByteArray) (i : Nat) (hs : s.size ≤ 100000) (hi : i < s.size) (w : World) (hst : startB s i = true) (hc : ¬ standsAt ⟨#[60, 33, 45, 45]⟩ s i) (h1 : i + 1 < s.size) (c : Nat) (hcc : s[i + 1].toNat = c) (hb : ¬ (c = 33 ∨ c = 63)) (h47 : c ≠ 47) :
    Calls Tryz.prog 22 #[.string s, .int .i64 i] w (RNextPost w i (pieceP nameB s i)) := by
  have hb0 : ∀ w, Calls Tryz.prog 59 #[.string s, .int .i64 i] w fun e w' => e = .returned (.bool true) ∧ w' = w := fun w => by rw [← hst]; exact begins_any s i hs hi w
  have hbt : bt s (i + 1) = c := by rw [bt_lt h1, hcc]
  have hx : i + 4 ≤ s.size → ((s.extract i (i + 4)).toList == [60, 33, 45, 45]) = false := no_com hc
  have b33 : ((c : Int) == 33) = false := by rw [beq_eq_false_iff_ne]; omega
  have b63 : ((c : Int) == 63) = false := by rw [beq_eq_false_iff_ne]; omega
  have b47 : ((c : Int) == 47) = false := by rw [beq_eq_false_iff_ne]; omega
  obtain ⟨R, hR⟩ : ∃ R, R = attrsF nameB (s.size + 1) s (spanE inTagB s (i + 1)) [] := ⟨_, rfl⟩
  obtain ⟨name, hname⟩ : ∃ name, name = smallS (s.extract (i + 1) (spanE inTagB s (i + 1))) := ⟨_, rfl⟩
  have hpc : pieceP nameB s i = tagPc s name R := by
    unfold pieceP
    rw [if_neg (by rw [hst]; simp), if_neg hc, if_neg (by rw [hbt]; exact hb), if_neg (by rw [hbt]; exact h47)]
    unfold startP
    simp only
    rw [← hR, ← hname]
    rfl
  have hsm : ∀ w, Calls Tryz.prog 63 #[.string s, .int .i64 i] w (RStartPost w s i name R) := fun w => by
    rw [hR]; exact rstart_any s i hs (by omega) w name hname
  rw [hpc]
  have HX := hid hx
  clear hst hc hpc hbt hb h47 hR hname hx
  go_enter Tryz.func22, Tryz.ntmps22
  by_cases h4 : i + 4 ≤ s.size
  · have hxx := HX.out h4
    go_wp2_with (go_at_call 59; refine (hb0 _).mono ?_; rintro e w' ⟨rfl, rfl⟩)
    refine (hsm _).mono ?_
    intro e w1 hp
    rcases R with _ | ⟨l, j⟩
    · obtain ⟨rfl, hB⟩ := hp
      have hr0 := (hB.block w.heap.size (by simp)).trans (heap_alloc_new w _)
      obtain ⟨r0, r1, r2, r3, r4, r5, rf⟩ := six_cellsR hr0
      have HB : Hid (Below w.heap.size w w1) := ((Below.refl _ _).alloc (Nat.le_refl _) _).trans (hB.mono (by simp))
      clear hB hr0
      unfold rpv
      go_wp2_with fail
      refine bodyPost_ret (v := rpv kNothing i s.size noS noS (.slice none 0 0)) ?_ rfl ⟨?_, rfl⟩
      · simp [results, Tryz.results22, go_sem, r0, r1, r2, r3, r4, r5]
        try rfl
      · exact (((((HB.out.setCell (Nat.le_refl _) _).setCell (Nat.le_refl _) _).setCell (Nat.le_refl _) _).setCell (Nat.le_refl _) _).setCell (Nat.le_refl _) _).setCell (Nat.le_refl _) _
    · obtain ⟨av, rfl, hAI, hB⟩ := hp
      obtain ⟨a, c2, hav, _⟩ := id hAI
      subst hav
      have hr0 := (hB.block w.heap.size (by simp)).trans (heap_alloc_new w _)
      obtain ⟨r0, r1, r2, r3, r4, r5, rf⟩ := six_cellsR hr0
      have HB : Hid (Below w.heap.size w w1) := ((Below.refl _ _).alloc (Nat.le_refl _) _).trans (hB.mono (by simp))
      have HAI := hid hAI
      clear hB hr0 hAI
      unfold rpv
      go_wp2_with fail
      refine bodyPost_ret (v := rpv kStart i j name noS (.slice a (firsts l).length c2)) ?_ rfl ⟨?_, _, rfl, ?_⟩
      · simp [results, Tryz.results22, go_sem, r0, r1, r2, r3, r4, r5]
        try rfl
      · exact (((((HB.out.setCell (Nat.le_refl _) _).setCell (Nat.le_refl _) _).setCell (Nat.le_refl _) _).setCell (Nat.le_refl _) _).setCell (Nat.le_refl _) _).setCell (Nat.le_refl _) _
      · exact ((((((HAI.out.sets (by simp) _).sets (by simp) _).sets (by simp) _).sets (by simp) _).sets (by simp) _).sets (by simp) _).mono (by simp)
  · go_wp2_with (go_at_call 59; refine (hb0 _).mono ?_; rintro e w' ⟨rfl, rfl⟩)
    refine (hsm _).mono ?_
    intro e w1 hp
    rcases R with _ | ⟨l, j⟩
    · obtain ⟨rfl, hB⟩ := hp
      have hr0 := (hB.block w.heap.size (by simp)).trans (heap_alloc_new w _)
      obtain ⟨r0, r1, r2, r3, r4, r5, rf⟩ := six_cellsR hr0
      have HB : Hid (Below w.heap.size w w1) := ((Below.refl _ _).alloc (Nat.le_refl _) _).trans (hB.mono (by simp))
      clear hB hr0
      unfold rpv
      go_wp2_with fail
      refine bodyPost_ret (v := rpv kNothing i s.size noS noS (.slice none 0 0)) ?_ rfl ⟨?_, rfl⟩
      · simp [results, Tryz.results22, go_sem, r0, r1, r2, r3, r4, r5]
        try rfl
      · exact (((((HB.out.setCell (Nat.le_refl _) _).setCell (Nat.le_refl _) _).setCell (Nat.le_refl _) _).setCell (Nat.le_refl _) _).setCell (Nat.le_refl _) _).setCell (Nat.le_refl _) _
    · obtain ⟨av, rfl, hAI, hB⟩ := hp
      obtain ⟨a, c2, hav, _⟩ := id hAI
      subst hav
      have hr0 := (hB.block w.heap.size (by simp)).trans (heap_alloc_new w _)
      obtain ⟨r0, r1, r2, r3, r4, r5, rf⟩ := six_cellsR hr0
      have HB : Hid (Below w.heap.size w w1) := ((Below.refl _ _).alloc (Nat.le_refl _) _).trans (hB.mono (by simp))
      have HAI := hid hAI
      clear hB hr0 hAI
      unfold rpv
      go_wp2_with fail
      refine bodyPost_ret (v := rpv kStart i j name noS (.slice a (firsts l).length c2)) ?_ rfl ⟨?_, _, rfl, ?_⟩
      · simp [results, Tryz.results22, go_sem, r0, r1, r2, r3, r4, r5]
        try rfl
      · exact (((((HB.out.setCell (Nat.le_refl _) _).setCell (Nat.le_refl _) _).setCell (Nat.le_refl _) _).setCell (Nat.le_refl _) _).setCell (Nat.le_refl _) _).setCell (Nat.le_refl _) _
      · exact ((((((HAI.out.sets (by simp) _).sets (by simp) _).sets (by simp) _).sets (by simp) _).sets (by simp) _).sets (by simp) _).mono (by simp)
end Go.Proofs.YtkaeenafejdkfaaGreatDoor

/- The document's answer: the piece at a place: end tags, and all. -/
namespace Go.Proofs.YtkaeenafejdkfaaGreatDoor
open Go.RowKit

/-- an end tag as a piece, and as the document's answer gives it -/
def finPc (s : ByteArray) : Option (Nat × ByteArray) → Pc
  | some (e, name) => .fin name e
  | none => .none s.size
def fkd : Option (Nat × ByteArray) → ByteArray
  | some _ => kEnd
  | none => kNothing
def fto (s : ByteArray) : Option (Nat × ByteArray) → Nat
  | some (e, _) => e
  | none => s.size
def fnm : Option (Nat × ByteArray) → ByteArray
  | some (_, n) => n
  | none => noS
theorem endV_is (s : ByteArray) (i : Nat) : endV s i = rpv (fkd (endP s i)) i (fto s (endP s i)) (fnm (endP s i)) noS (.slice none 0 0) := by
  unfold endV
  cases endP s i with
  | none => rfl
  | some p => rfl

set_option maxHeartbeats 8000000 in
set_option maxRecDepth 100000 in
theorem rnext_end (s : ByteArray) (i : Nat) (hs : s.size ≤ 100000) (hi : i < s.size) (w : World) (hst : startB s i = true) (hc : ¬ standsAt ⟨#[60, 33, 45, 45]⟩ s i) (h1 : i + 1 < s.size) (c : Nat) (hcc : s[i + 1].toNat = c) (h47 : c = 47) :
    Calls Tryz.prog 22 #[.string s, .int .i64 i] w (RNextPost w i (pieceP nameB s i)) := by
  have hb0 : ∀ w, Calls Tryz.prog 59 #[.string s, .int .i64 i] w fun e w' => e = .returned (.bool true) ∧ w' = w := fun w => by rw [← hst]; exact begins_any s i hs hi w
  have hbt : bt s (i + 1) = c := by rw [bt_lt h1, hcc]
  have hx : i + 4 ≤ s.size → ((s.extract i (i + 4)).toList == [60, 33, 45, 45]) = false := no_com hc
  have b33 : ((c : Int) == 33) = false := by rw [beq_eq_false_iff_ne]; omega
  have b63 : ((c : Int) == 63) = false := by rw [beq_eq_false_iff_ne]; omega
  have b47 : ((c : Int) == 47) = true := by rw [beq_iff_eq]; omega
  obtain ⟨R, hR⟩ : ∃ R, R = endP s i := ⟨_, rfl⟩
  have hpc : pieceP nameB s i = finPc s R := by
    unfold pieceP
    rw [if_neg (by rw [hst]; simp), if_neg hc, if_neg (by rw [hbt]; omega), if_pos (by rw [hbt]; exact h47), ← hR]
    rcases R with _ | ⟨e, n⟩ <;> rfl
  obtain ⟨kd, hkd⟩ : ∃ x, x = fkd R := ⟨_, rfl⟩
  obtain ⟨k2, hk2⟩ : ∃ x, x = fto s R := ⟨_, rfl⟩
  obtain ⟨nm, hnm⟩ : ∃ x, x = fnm R := ⟨_, rfl⟩
  have hsm : ∀ w, Calls Tryz.prog 62 #[.string s, .int .i64 i] w (fun e w' => e = .returned (rpv kd i k2 nm noS (.slice none 0 0)) ∧ Below w.heap.size w w') := fun w => by
    have := rendTag_any s i hs (by omega) w
    rw [endV_is, ← hR, ← hkd, ← hk2, ← hnm] at this
    exact this
  rw [hpc]
  have HP : Hid (∀ w', Below w.heap.size w w' → RNextPost w i (finPc s R) (.returned (rpv kd i k2 nm noS (.slice none 0 0))) w') := hid (by
    intro w' hB
    subst hkd hk2 hnm
    refine ⟨hB, ?_⟩
    rcases R with _ | ⟨e, n⟩ <;> rfl)
  have HX := hid hx
  clear hst hc hpc hbt h47 hR hx hkd hk2 hnm
  generalize finPc s R = pc at HP ⊢
  clear R
  go_enter Tryz.func22, Tryz.ntmps22
  by_cases h4 : i + 4 ≤ s.size
  · have hxx := HX.out h4
    go_wp2_with (go_at_call 59; refine (hb0 _).mono ?_; rintro e w' ⟨rfl, rfl⟩)
    refine (hsm _).mono ?_
    rintro e w1 ⟨rfl, hB⟩
    have hr0 := (hB.block w.heap.size (by simp)).trans (heap_alloc_new w _)
    obtain ⟨r0, r1, r2, r3, r4, r5, rf⟩ := six_cellsR hr0
    have HB : Hid (Below w.heap.size w w1) := ((Below.refl _ _).alloc (Nat.le_refl _) _).trans (hB.mono (by simp))
    clear hB hr0
    unfold rpv
    go_wp2_with fail
    refine bodyPost_ret (v := rpv kd i k2 nm noS (.slice none 0 0)) ?_ rfl (HP.out _ ?_)
    · simp [results, Tryz.results22, go_sem, r0, r1, r2, r3, r4, r5]
      try rfl
    · exact (((((HB.out.setCell (Nat.le_refl _) _).setCell (Nat.le_refl _) _).setCell (Nat.le_refl _) _).setCell (Nat.le_refl _) _).setCell (Nat.le_refl _) _).setCell (Nat.le_refl _) _
  · go_wp2_with (go_at_call 59; refine (hb0 _).mono ?_; rintro e w' ⟨rfl, rfl⟩)
    refine (hsm _).mono ?_
    rintro e w1 ⟨rfl, hB⟩
    have hr0 := (hB.block w.heap.size (by simp)).trans (heap_alloc_new w _)
    obtain ⟨r0, r1, r2, r3, r4, r5, rf⟩ := six_cellsR hr0
    have HB : Hid (Below w.heap.size w w1) := ((Below.refl _ _).alloc (Nat.le_refl _) _).trans (hB.mono (by simp))
    clear hB hr0
    unfold rpv
    go_wp2_with fail
    refine bodyPost_ret (v := rpv kd i k2 nm noS (.slice none 0 0)) ?_ rfl (HP.out _ ?_)
    · simp [results, Tryz.results22, go_sem, r0, r1, r2, r3, r4, r5]
      try rfl
    · exact (((((HB.out.setCell (Nat.le_refl _) _).setCell (Nat.le_refl _) _).setCell (Nat.le_refl _) _).setCell (Nat.le_refl _) _).setCell (Nat.le_refl _) _).setCell (Nat.le_refl _) _

theorem rnext_any (s : ByteArray) (i : Nat) (hs : s.size ≤ 100000) (hi : i < s.size) (w : World) :
    Calls Tryz.prog 22 #[.string s, .int .i64 i] w (RNextPost w i (pieceP nameB s i)) := by
  cases hst : startB s i with
  | false => exact rnext_text s i hs hi w hst
  | true =>
    by_cases hc : standsAt ⟨#[60, 33, 45, 45]⟩ s i
    · exact rnext_com s i hs hi w hst hc
    · have h1 : i + 1 < s.size := by
        apply Classical.byContradiction
        intro hn
        unfold startB at hst
        simp [bt_ge (show s.size ≤ i + 1 by omega)] at hst
        exact absurd hst.2 (by decide)
      by_cases hb : s[i + 1].toNat = 33 ∨ s[i + 1].toNat = 63
      · exact rnext_bang s i hs hi w hst hc h1 _ rfl hb
      · by_cases h47 : s[i + 1].toNat = 47
        · exact rnext_end s i hs hi w hst hc h1 _ rfl h47
        · exact rnext_tag s i hs hi w hst hc h1 _ rfl hb h47
end Go.Proofs.YtkaeenafejdkfaaGreatDoor

/- The program: what lies in memory while a text is read. -/
namespace Go.Proofs.YtkaeenafejdkfaaGreatDoor
open Go.RowKit

/-- how many attributes a piece has -/
def Pc.cnt : Pc → Nat
  | .start _ l _ => l.length
  | _ => 0
/-- what a piece may be -/
def PcOk (i : Nat) (pc : Pc) : Prop := match pc with
  | .text t e => i ≤ e ∧ e ≤ 20000 ∧ t.size ≤ e - i
  | .com t _ => t.size ≤ 20000
  | .start _ l _ => l.length ≤ 20000 ∧ ∀ x ∈ l, nameB x.1 = true ∧ x.2.size ≤ 20000
  | _ => True
theorem GDone.more {w w' : World} {gb tb : Nat} {ns : List Nd} {op : List Nat} {tx u v : Nat} {M Mo : Nat → Lab} (h : GDone w gb tb ns op tx u M Mo w') (hv : u ≤ v) : GDone w gb tb ns op tx v M Mo w' := by
  obtain ⟨M', Mo', h1, h2⟩ := h
  obtain ⟨nv, uv, ps, us, g1, g2, g3⟩ := h1.tree
  exact ⟨M', Mo', ⟨⟨nv, uv, ps, us, g1, g2, Nat.le_trans g3 hv⟩, h1.head, h1.gm, h1.gO, h1.apart, h1.fresh, h1.errs, h1.errO⟩, h2⟩
theorem GOut.more {w w' : World} {gb tb : Nat} {r : Option (List Nd × List Nat)} {u v i : Nat} {M Mo : Nat → Lab} {bv : Value} {e : Ending} (h : GOut w gb tb r u M Mo i bv e w') (hv : u ≤ v) : GOut w gb tb r v M Mo i bv e w' := by
  cases r with
  | none => exact h
  | some x =>
    obtain ⟨ns, op⟩ := x
    exact ⟨h.1, h.2.more hv⟩
theorem ptake_any {w : World} {gb tb : Nat} {ns : List Nd} {op : List Nat} {u i B : Nat} {M Mo : Nat → Lab} (h : GS w gb tb ns op (txOf ns op) u M Mo) (hI : Inv ns op i) (hu : u + 20010 ≤ 1000000) {pc : Pc} {v : Value} (hv : PcV w B pc i v) (hok : PcOk i pc) (hB : gb < B ∧ ∀ g, B ≤ g → M g = .other ∧ Mo g = .other) (bv : Value) (hbv : w.cell? ⟨0, 0, none⟩ = some bv) :
    Calls Tryz.prog 72 #[.pointer (some ⟨gb, 0, none⟩), v] w (GOut w gb tb (pieceM ns op pc) (u + 2 + pc.cnt) M Mo i bv) := by
  cases pc with
  | text t e =>
    obtain rfl : v = pcv 1 i ⟨#[]⟩ t (.slice none 0 0) := hv
    exact (take_text h hI (by omega) t hok.1 hok.2.1 hok.2.2 bv hbv).mono fun e w' ho => ho.more (by show u + 1 + 1 ≤ u + 2 + 0; omega)
  | com t e =>
    obtain rfl : v = pcv 2 i ⟨#[]⟩ t (.slice none 0 0) := hv
    exact (take_com h hI (by omega) t hok bv hbv).mono fun e w' ho => ho.more (by show u + 1 + 1 ≤ u + 2 + 0; omega)
  | none e =>
    obtain rfl : v = pcv 0 i ⟨#[]⟩ ⟨#[]⟩ (.slice none 0 0) := hv
    exact (take_none h).mono fun e w' ho => ⟨ho.1, ho.2.more (by omega)⟩
  | fin n e =>
    obtain rfl : v = pcv 4 i n ⟨#[]⟩ (.slice none 0 0) := hv
    exact (take_fin h hI n).mono fun e w' ho => ⟨ho.1, ho.2.more (by omega)⟩
  | start n l e =>
    obtain ⟨av, rfl, a, c, rfl, hA⟩ := hv
    obtain ⟨X, hX, hAX⟩ : ∃ X, Held w M Mo gb X ∧ AttrsX X a l := by
      rcases hA with e1 | ⟨g, cur, t, h1, h2, h3, h4⟩
      · exact ⟨[], (by intro x hx; cases hx), .inl e1⟩
      · refine ⟨[(g, .cells cur t (0, 0))], ?_, .inr ⟨g, cur, t, h2, by simp, h4⟩⟩
        intro x hx
        rw [List.mem_singleton] at hx
        subst hx
        obtain ⟨m1, m2⟩ := hB.2 g h1
        exact ⟨h3, m1, m2, by show g ≠ gb; have := hB.1; omega⟩
    exact take_start h hI hu n l hok.1 hok.2 a c hX hAX bv hbv

/-- what lies in memory while a text is read -/
structure LS (w0 : World) (gb tb sb : Nat) (s : ByteArray) (i : Nat) (raw : ByteArray) (ns : List Nd) (op : List Nat) (u : Nat) (M Mo : Nat → Lab) (wr : World) : Prop where
  gs : GS wr gb tb ns op (txOf ns op) u M Mo
  sc : SC wr sb s i raw
  sM : M sb = .other
  sMo : Mo sb = .other
  sg : sb ≠ gb
  bel : Below w0.heap.size w0 wr
  low : ∀ k, k < w0.heap.size → M k = .other ∧ Mo k = .other
  gl : w0.heap.size ≤ gb
  sl : w0.heap.size ≤ sb
  err : ∀ g, errG g = true → g < w0.heap.size
  eight : 8 < w0.heap.size
section
variable {w0 wr w1 : World} {gb tb sb : Nat} {s : ByteArray} {i j : Nat} {raw raw' : ByteArray} {ns ns' : List Nd} {op op' : List Nat} {u u' : Nat} {M Mo : Nat → Lab}
theorem LS.errSb (h : LS w0 gb tb sb s i raw ns op u M Mo wr) : errG sb = false := by
  cases he : errG sb
  · rfl
  · have := h.err sb he
    have := h.sl
    omega
theorem LS.scan (h : LS w0 gb tb sb s i raw ns op u M Mo wr) (ho : Only sb wr w1) (hs : Sc w1 sb s j raw') : LS w0 gb tb sb s j raw' ns op u M Mo w1 :=
  ⟨h.gs.only ho h.sM h.sMo h.sg h.errSb, h.sc.only ho hs, h.sM, h.sMo, h.sg, ⟨ho.os.trans h.bel.os, ho.tape.trans h.bel.tape, ho.output.trans h.bel.output, Nat.le_trans h.bel.size ho.size, fun k hk => (ho.block k (Nat.lt_of_lt_of_le hk h.bel.size) (by have := h.sl; omega)).trans (h.bel.block k hk)⟩, h.low, h.gl, h.sl, h.err, h.eight⟩
theorem LS.below (h : LS w0 gb tb sb s i raw ns op u M Mo wr) (hb : Below wr.heap.size wr w1) : LS w0 gb tb sb s i raw ns op u M Mo w1 := h.scan (Only.of hb) (h.sc.sc.below h.sc.sc.lt hb)
/-- what a grower's call leaves -/
theorem LS.lowAfter (h : LS w0 gb tb sb s i raw ns op u M Mo wr) {M' Mo' : Nat → Lab} (hV : GMv gb wr M Mo w1 M' Mo') : Below w0.heap.size w0 w1 ∧ ∀ k, k < w0.heap.size → M' k = .other ∧ Mo' k = .other := by
  have hk : ∀ k, k < w0.heap.size → w1.heap[k]? = wr.heap[k]? ∧ M' k = .other ∧ Mo' k = .other := fun k hk => hV.keep k (Nat.lt_of_lt_of_le hk h.bel.size) (h.low k hk).1 (h.low k hk).2 (by have := h.gl; omega)
  exact ⟨⟨hV.os.trans h.bel.os, hV.tape.trans h.bel.tape, hV.output.trans h.bel.output, Nat.le_trans h.bel.size hV.size, fun k hkl => (hk k hkl).1.trans (h.bel.block k hkl)⟩, fun k hkl => (hk k hkl).2⟩
theorem LS.grown (h : LS w0 gb tb sb s i raw ns op u M Mo wr) {M' Mo' : Nat → Lab} (hG : GS w1 gb tb ns' op' (txOf ns' op') u' M' Mo') (hV : GMv gb wr M Mo w1 M' Mo') : LS w0 gb tb sb s i raw ns' op' u' M' Mo' w1 := by
  obtain ⟨b1, b2⟩ := h.lowAfter hV
  obtain ⟨s1, s2, s3⟩ := hV.keep sb h.sc.sc.lt h.sM h.sMo h.sg
  have hS : Sc w1 sb s i raw := by
    have := h.sc.sc
    unfold Sc at this ⊢
    rw [s1]; exact this
  obtain ⟨m, hm⟩ := h.sc.max
  have e8 : w1.heap[8]? = wr.heap[8]? := (hV.keep 8 (Nat.lt_of_lt_of_le h.eight h.bel.size) (h.low 8 h.eight).1 (h.low 8 h.eight).2 (by have := h.gl; have := h.eight; omega)).1
  exact ⟨hG, ⟨hS, h.sc.ne, m, (World.cell?_of_block (a := ⟨8, 0, none⟩) e8).trans hm⟩, s2, s3, h.sg, b1, b2, h.gl, h.sl, h.err, h.eight⟩
end
set_option maxHeartbeats 4000000 in
set_option maxRecDepth 100000 in
theorem next_end {w : World} {b : Nat} {s : ByteArray} {raw : ByteArray} (h : SC w b s s.size raw) :
    Calls Tryz.prog 71 #[.pointer (some ⟨b, 0, none⟩)] w fun e w' => e = .returned (.tuple #[pcv 0 0 ⟨#[]⟩ ⟨#[]⟩ (.slice none 0 0), .bool false]) ∧ Only b w w' ∧ Sc w' b s s.size raw := by
  have hlt0 := h.sc.lt
  have H := hid (h.alloc emptyPiece)
  clear h
  go_enter Tryz.func71, Tryz.ntmps71
  go_wp2_with fail
  refine (atEnd_bel H.out.sc true (at_end rfl)).mono ?_
  rintro e w2 ⟨rfl, hB1⟩
  have hR := res_block hlt0 (Only.of (b := b) hB1)
  obtain ⟨r0, r1, r2, r3, r4, rf⟩ := five_cells hR
  have HO2 := hid (Only.of (b := b) hB1)
  have HS2 := hid (H.out.bel hB1).sc
  have HO1 : Hid (Only b (w.alloc emptyPiece) (w.alloc emptyPiece)) := Only.refl _ _
  clear hB1 hR
  go_wp2_with fail
  obtain ⟨z1, z2⟩ := five_sets hlt0 HO1.out HO2.out HS2.out (.int .i64 0) (.int .i64 0) (.string ⟨#[]⟩) (.string ⟨#[]⟩) (.slice none 0 0)
  refine bodyPost_ret (v := .tuple #[pcv 0 0 ⟨#[]⟩ ⟨#[]⟩ (.slice none 0 0), .bool false]) ?_ rfl ⟨rfl, z1, z2⟩
  simp [results, Tryz.results71, go_sem, r0, r1, r2, r3, r4]
  try rfl
end Go.Proofs.YtkaeenafejdkfaaGreatDoor
