/- The program: a start tag is cut. -/
import Derived.Test.YtkaeenafejdkfaaGreatDoorM19
import Derived.Test.YtkaeenafejdkfaaGreatDoorM03
import Derived.Test.YtkaeenafejdkfaaGreatDoorM02
import Derived.Test.YtkaeenafejdkfaaGreatDoorM10
import Derived.Test.YtkaeenafejdkfaaGreatDoorM11
namespace Go.Proofs.YtkaeenafejdkfaaGreatDoor
open Go.RowKit

def rawB (s : ByteArray) : Bool := s.toList == [115, 116, 121, 108, 101] || s.toList == [115, 99, 114, 105, 112, 116]
theorem rawB_size {s : ByteArray} (h : rawB s = true) : s.size ≤ 100 ∧ s ≠ ⟨#[]⟩ := by
  unfold rawB at h
  rw [Bool.or_eq_true, beq_iff_eq, beq_iff_eq, Lib.toList_data] at h
  have e : s.size = s.data.toList.length := by simp
  constructor
  · rcases h with h | h <;> (rw [e, h]; decide)
  · rintro rfl
    rcases h with h | h <;> cases h
set_option maxHeartbeats 4000000 in
set_option maxRecDepth 100000 in
theorem praw_any (s : ByteArray) (w : World) : Calls Tryz.prog 145 #[.string s] w fun e w' => e = .returned (.bool (rawB s)) ∧ w' = w := by
  go_enter Tryz.func145, Tryz.ntmps145
  go_wp2
  all_goals go_light
  all_goals (
    go_ret
    refine ⟨retb ?_, rfl⟩
    unfold rawB
    simp_all)
/-- attributes that lie in memory of one's own -/
def AttrsIn (w : World) (B : Nat) (v : Value) (l : List (ByteArray × ByteArray)) : Prop :=
  ∃ a c, v = .slice a l.length c ∧ (l = [] ∨ ∃ g cur t, B ≤ g ∧ a = some ⟨g, 0, none⟩ ∧ w.heap[g]? = some (.cells cur t (0, 0)) ∧ cur.toList.take (l.length * 2) = attrCells l)
/-- a start tag that is being cut lies there -/
structure TagAt (w w' : World) (b : Nat) (s : ByteArray) (i : Nat) (raw : ByteArray) (pb : Nat) (name : ByteArray) (av : Value) (M : Nat → Lab) (l : List (ByteArray × ByteArray)) : Prop where
  sc : SC w' b s i raw
  only : Only b w w'
  res : w'.heap[w.heap.size]? = some emptyPiece
  cur : w'.heap[pb]? = some (.cells #[.int .i64 3, .int .i64 0, .string name, .string ⟨#[]⟩, av] 121 (0, 0))
  far : w.heap.size < pb
  row : Row w' M (.attrs 0) 81 2 av l.length (attrCells l)
  fresh : ∀ k, w'.heap.size ≤ k → M k = .other
  lab : ∀ k, k ≤ pb → M k = .other
theorem TagAt.next {w w1 w2 : World} {b : Nat} {s : ByteArray} {i j : Nat} {raw : ByteArray} {pb : Nat} {name : ByteArray} {av : Value} {M : Nat → Lab} {l : List (ByteArray × ByteArray)} (h : TagAt w w1 b s i raw pb name av M l) (hb : b < w.heap.size) (ho : Only b w1 w2) (hs : Sc w2 b s j raw) : TagAt w w2 b s j raw pb name av M l := by
  have hf := h.far
  refine ⟨h.sc.only ho hs, h.only.trans ho, (ho.block _ (size_of h.res) (by omega)).trans h.res, (ho.block _ (size_of h.cur) (by omega)).trans h.cur, hf, h.row.keep (fun k hk e => ho.block k hk ?_) (fun _ _ => rfl), fun k hk => h.fresh k (Nat.le_trans ho.size hk), h.lab⟩
  rintro rfl
  rw [h.lab k (by omega)] at e
  cases e
theorem Row.attrsIn {w : World} {M : Nat → Lab} {v : Value} {l : List (ByteArray × ByteArray)} (h : Row w M (.attrs 0) 81 2 v l.length (attrCells l)) {B : Nat} (hl : ∀ k, k < B → M k = .other) : AttrsIn w B v l := by
  obtain ⟨h0, a, cap, rfl, h1, h2, h3⟩ := h
  refine ⟨a, cap, rfl, ?_⟩
  rcases h3 with ⟨rfl, _⟩ | ⟨g, cur, rfl, hM, hg, h4, h5⟩
  · left
    exact List.eq_nil_of_length_eq_zero (by omega)
  · right
    refine ⟨g, cur, _, ?_, rfl, hg, h5⟩
    rcases Nat.lt_or_ge g B with h | h
    · rw [hl g h] at hM; cases hM
    · exact h
theorem AttrsIn.keep {w w' : World} {B : Nat} {v : Value} {l : List (ByteArray × ByteArray)} (h : AttrsIn w B v l) (hk : ∀ g, B ≤ g → g < w.heap.size → w'.heap[g]? = w.heap[g]?) : AttrsIn w' B v l := by
  obtain ⟨a, c, rfl, h1⟩ := h
  refine ⟨a, c, rfl, h1.imp id ?_⟩
  rintro ⟨g, cur, t, q1, rfl, h2, h3⟩
  exact ⟨g, cur, t, q1, rfl, (hk g q1 (lt_of_heap h2)).trans h2, h3⟩
theorem AttrsIn.mono {w : World} {B C : Nat} {v : Value} {l : List (ByteArray × ByteArray)} (h : AttrsIn w B v l) (hc : C ≤ B) : AttrsIn w C v l := by
  obtain ⟨a, c, rfl, h1⟩ := h
  refine ⟨a, c, rfl, h1.imp id ?_⟩
  rintro ⟨g, cur, t, q1, rfl, h2, h3⟩
  exact ⟨g, cur, t, Nat.le_trans hc q1, rfl, h2, h3⟩
theorem AttrsIn.sets {w : World} {B rb o : Nat} {v : Value} {l : List (ByteArray × ByteArray)} (h : AttrsIn w B v l) (hb : rb < B) (u : Value) : AttrsIn (w.setCell ⟨rb, o, none⟩ u) B v l :=
  h.keep fun g hg _ => Below.heap_setCell w ⟨rb, o, none⟩ u g (by show g ≠ rb; omega)
theorem TagAt.start {w w3 : World} {b : Nat} {s : ByteArray} {te : Nat} {raw name : ByteArray} (h : SC w3 b s te raw) (hb : b < w.heap.size) (ho : Only b (w.alloc emptyPiece) w3) : TagAt w (w3.alloc (.cells #[.int .i64 3, .int .i64 0, .string name, .string ⟨#[]⟩, .slice none 0 0] 121 (0, 0))) b s te raw w3.heap.size name (.slice none 0 0) (fun _ => .other) [] := by
  have hr := res_block hb ho
  exact ⟨h.alloc _, ((Only.alloc emptyPiece).trans ho).trans (Only.alloc _), (Below.heap_alloc _ _ _ (size_of hr)).trans hr, heap_alloc_new _ _, size_of hr, Row.nil _ _ _ _ _, fun _ _ => rfl, fun _ _ => rfl⟩
theorem TagAt.al {w w1 : World} {b : Nat} {s : ByteArray} {i : Nat} {raw : ByteArray} {pb : Nat} {name : ByteArray} {av : Value} {M : Nat → Lab} {l : List (ByteArray × ByteArray)} (h : TagAt w w1 b s i raw pb name av M l) (hb : b < w.heap.size) (o : Obj) : TagAt w (w1.alloc o) b s i raw pb name av M l :=
  h.next hb (Only.alloc o) (h.sc.alloc o).sc
/-- an attribute is added -/
theorem TagAt.more {w w1 w2 : World} {b : Nat} {s : ByteArray} {i : Nat} {raw : ByteArray} {pb : Nat} {name : ByteArray} {av av2 : Value} {M M2 : Nat → Lab} {l l2 : List (ByteArray × ByteArray)} (h : TagAt w w1 b s i raw pb name av M l) {i0 : Nat} {r0 : ByteArray} (h0 : SC w b s i0 r0) (hb : b < w.heap.size) (hr : Row w2 M2 (.attrs 0) 81 2 av2 l2.length (attrCells l2)) (st : Step w1 M w2 M2 (.attrs 0)) : TagAt w (w2.setCell ⟨pb, 4, none⟩ av2) b s i raw pb name av2 M2 l2 := by
  have hf := h.far
  have hpl := size_of h.cur
  have hfar : ∀ k, k ≤ pb → w2.heap[k]? = w1.heap[k]? := fun k hk => st.far k (by omega) (by rw [h.lab k hk]; intro e; cases e)
  have hset : ∀ k, k ≠ pb → (w2.setCell ⟨pb, 4, none⟩ av2).heap[k]? = w2.heap[k]? := fun k hk => Below.heap_setCell w2 ⟨pb, 4, none⟩ _ k hk
  have hO : Only b w (w2.setCell ⟨pb, 4, none⟩ av2) := ⟨st.os.trans h.only.os, st.tape.trans h.only.tape, st.output.trans h.only.output, by have := h.only.size; have := st.size; simp [World.setCell]; omega, fun k hk hkb => (hset k (by omega)).trans ((hfar k (by omega)).trans (h.only.block k hk hkb))⟩
  have hS : Sc (w2.setCell ⟨pb, 4, none⟩ av2) b s i raw := by
    have := h.sc.sc
    unfold Sc at this ⊢
    rw [hset b (by omega), hfar b (by omega)]; exact this
  refine ⟨h0.only hO hS, hO, ?_, ?_, hf, ?_, ?_, ?_⟩
  · rw [hset _ (by omega), hfar _ (by omega)]; exact h.res
  · have h2 := (hfar pb (Nat.le_refl _)).trans h.cur
    simp [World.setCell, Array.getElem?_modify, h2]
  · exact hr.keep (fun k hk e => hset k (by rintro rfl; rw [st.lab k (by omega), h.lab k (Nat.le_refl _)] at e; cases e)) (fun _ _ => rfl)
  · intro k hk; exact st.fresh k (by simpa [World.setCell] using hk)
  · intro k hk; rw [st.lab k (by omega)]; exact h.lab k hk
/-- what a start tag is cut into -/
def StartPost (w : World) (b : Nat) (s : ByteArray) (raw name : ByteArray) (r : Option (List (ByteArray × ByteArray) × Nat)) (e : Ending) (w' : World) : Prop := match r with
  | some (l, j) => ∃ av, e = .returned (pcv 3 0 name ⟨#[]⟩ av) ∧ AttrsIn w' w.heap.size av l ∧ Only b w w' ∧ Sc w' b s j (if rawB name = true then name else raw)
  | none => e = .returned (pcv 0 0 ⟨#[]⟩ ⟨#[]⟩ (.slice none 0 0)) ∧ Only b w w' ∧ Sc w' b s s.size raw

set_option maxHeartbeats 4000000 in
set_option maxRecDepth 100000 in
theorem cutStart_any {w : World} {b : Nat} {s : ByteArray} {i : Nat} {raw name : ByteArray} (h : SC w b s i raw) (hs : s.size ≤ 100000) (hp : standsAt ⟨#[60]⟩ s i) (hname : name = smallS (s.extract (i + 1) (spanE inTagB s (i + 1)))) :
    Calls Tryz.prog 135 #[.pointer (some ⟨b, 0, none⟩)] w (StartPost w b s raw name (attrsF nameB (s.size + 1) s (spanE inTagB s (i + 1)) [])) := by
  have hi : i + 1 ≤ s.size := hp.1
  obtain ⟨te, hte⟩ : ∃ te, spanE inTagB s (i + 1) = te := ⟨_, rfl⟩
  rw [hte] at hname ⊢
  have hte2 : te ≤ s.size := by rw [← hte]; exact spanE_size _ _ _ hi
  have hte1 : i + 1 ≤ te := by rw [← hte]; exact spanE_le _ _ _
  obtain ⟨R, hR⟩ : ∃ R, R = attrsF nameB (s.size + 1) s te [] := ⟨_, rfl⟩
  rw [← hR]
  have HR := hid hR
  have HP := hid hp
  have HT := hid hte
  have HN := hid hname
  have hlt0 := h.sc.lt
  have H := hid (h.alloc emptyPiece)
  have H0 : Hid (SC w b s i raw) := h
  clear h hp hte hR hname
  go_enter Tryz.func135, Tryz.ntmps135
  go_wp2_with fail
  refine (skip_yes H.out.sc hs ⟨#[60]⟩ HP.out).mono ?_
  rintro e w1 ⟨rfl, hO1, hS1⟩
  have H1 := hid (H.out.only hO1 hS1)
  have HO1 := hid hO1
  clear hO1 hS1 H
  go_wp2_with fail
  refine (take_tag (i := i + 1) H1.out.sc hs hi).mono ?_
  rintro e w2 ⟨rfl, hO2, hS2⟩
  rw [HT.out] at hS2 ⊢
  have H2 := hid (H1.out.only hO2 hS2)
  have HO2 := hid (HO1.out.trans hO2)
  clear hO2 hS2 H1 HO1
  go_wp2_with fail
  refine (lower_any (s.extract (i + 1) te) (by rw [ByteArray.size_extract]; omega) _).mono ?_
  rintro e w3 ⟨rfl, hB3⟩
  rw [← HN.out]
  have H3 := hid (H2.out.bel hB3)
  have HO3 := hid (HO2.out.trans (Only.of hB3))
  clear hB3 H2 HO2
  go_wp2_with fail
  have HA := hid (TagAt.start (name := name) H3.out hlt0 HO3.out)
  obtain ⟨pb, hpb⟩ : ∃ pb, pb = w3.heap.size := ⟨_, rfl⟩
  rw [← hpb] at HA ⊢
  generalize hw4 : w3.alloc _ = w4
  rw [hw4] at HA
  clear hw4 H3 HO3 hpb
  refine (take_betw HA.out.sc.sc hs hte2).mono ?_
  rintro e w5 ⟨rfl, hO5, hS5⟩
  have HA5 := hid (HA.out.next hlt0 hO5 hS5)
  clear hO5 hS5 HA
  have hsp : spanE betwB s (spanE betwB s te) = spanE betwB s te := spanE_idem _ _ _
  have hj1 : te ≤ spanE betwB s te := spanE_le _ _ _
  have hj2 : spanE betwB s te ≤ s.size := spanE_size _ _ _ hte2
  have HR5 : Hid (R = attrsF nameB (s.size + 1) s (spanE betwB s te) []) := HR.out.trans (attrsF_span hsp.symm)
  generalize spanE betwB s te = j0 at *
  clear HR
  go_wp2_with fail
  go_loopg [] (s.size - j0) (fun g wr => ∃ (j : Nat) (l : List (ByteArray × ByteArray)) (f : Nat) (av : Value) (M : Nat → Lab), g = s.size - j ∧ j ≤ s.size ∧ Hid (spanE betwB s j = j ∧ R = attrsF nameB (f + 1) s j l ∧ s.size ≤ f + j ∧ TagAt w wr b s j raw pb name av M l ∧ l.length ≤ j))
  case atStart => exact ⟨j0, [], s.size, _, _, rfl, hj2, hid ⟨hsp, HR5.out, by omega, HA5.out, by simp⟩⟩
  case round =>
    obtain ⟨j, l, f, av, M, rfl, hjs, hB⟩ := hrel
    have hn : b ≠ w.heap.size := by omega
    by_cases h62 : standsAt ⟨#[62]⟩ s j
    · have hj62 : bt s j = 62 := (one_of h62).1
      have hjl : j < s.size := (one_of h62).2.2
      have HRR : Hid (R = some (l, j + 1)) := by
        show _ = _
        rw [hB.out.2.1]
        unfold attrsF
        rw [hB.out.1]
        simp only
        rw [if_neg (by omega), if_pos hj62]
      go_wp2_with fail
      refine (skip_yes hB.out.2.2.2.1.sc.sc hs _ h62).mono ?_
      rintro e w6 ⟨rfl, hO6, hS6⟩
      have HA6 := hid (hB.out.2.2.2.1.next hlt0 hO6 hS6)
      clear hO6 hS6
      obtain ⟨d0, d1, d2, d3, d4, df⟩ := five_cells HA6.out.cur
      obtain ⟨r0, r1, r2, r3, r4, rf⟩ := five_cells HA6.out.res
      obtain ⟨c0, c1, c2, cf⟩ := HA6.out.sc.sc.cells
      obtain ⟨aa, ac, hav, _, _⟩ := HA6.out.row.shape
      cases hraw : rawB name
      · go_wp2_with (go_at_call 145; refine (praw_any _ _).mono ?_; rintro e w7 ⟨rfl, rfl⟩; rw [hraw])
        have hfar := HA6.out.far
        have HAI := hid ((HA6.out.row.attrsIn (B := pb + 1) (fun k hk => HA6.out.lab k (by omega))))
        rw [hav] at HAI
        rw [HRR.out]
        refine bodyPost_ret (v := pcv 3 0 name ⟨#[]⟩ (.slice aa l.length ac)) ?_ rfl ⟨_, rfl, ?_, ?_, ?_⟩
        · simp [results, Tryz.results135, go_sem, r0, r1, r2, r3, r4]
          try rfl
        · exact (((((HAI.out.sets (by omega) _).sets (by omega) _).sets (by omega) _).sets (by omega) _).sets (by omega) _).mono (by omega)
        · exact ((((HA6.out.only.sets (Nat.le_refl _) _ _).sets (Nat.le_refl _) _ _).sets (Nat.le_refl _) _ _).sets (Nat.le_refl _) _ _).sets (Nat.le_refl _) _ _
        · rw [hraw]
          exact ((((HA6.out.sc.sc.sets hn _ _).sets hn _ _).sets hn _ _).sets hn _ _).sets hn _ _
      · have hbp : b ≠ pb := by have := HA6.out.far; omega
        go_wp2_with (go_at_call 145; refine (praw_any _ _).mono ?_; rintro e w7 ⟨rfl, rfl⟩; rw [hraw])
        have hfar := HA6.out.far
        have HAI := hid ((HA6.out.row.attrsIn (B := pb + 1) (fun k hk => HA6.out.lab k (by omega))))
        rw [hav] at HAI
        rw [HRR.out]
        refine bodyPost_ret (v := pcv 3 0 name ⟨#[]⟩ (.slice aa l.length ac)) ?_ rfl ⟨_, rfl, ?_, ?_, ?_⟩
        · simp [results, Tryz.results135, go_sem, r0, r1, r2, r3, r4]
          try rfl
        · exact ((((((HAI.out.sets (by omega) _).sets (by omega) _).sets (by omega) _).sets (by omega) _).sets (by omega) _).sets (by omega) _).mono (by omega)
        · exact (((((HA6.out.only.set _ _).sets (Nat.le_refl _) _ _).sets (Nat.le_refl _) _ _).sets (Nat.le_refl _) _ _).sets (Nat.le_refl _) _ _).sets (Nat.le_refl _) _ _
        · rw [hraw]
          exact (((((HA6.out.sc.sc.setRaw _).sets hn _ _).sets hn _ _).sets hn _ _).sets hn _ _).sets hn _ _
    · have hc62 : bt s j ≠ 62 := fun e => h62 (one_is e)
      obtain ⟨t2, ht2⟩ : ∃ t2, t2 = spanE inAttrB s (past ⟨#[61]⟩ s j) := ⟨_, rfl⟩
      -- what comes of it
      have hfact : (attrR s j t2).2.2 = s.size ∧ R = none ∨ ((attrR s j t2).2.2 < s.size ∧ j < (attrR s j t2).2.2 ∧ R = attrsF nameB f s (attrR s j t2).2.2 (if nameB (attrR s j t2).1 then l ++ [((attrR s j t2).1, (attrR s j t2).2.1)] else l)) := by
        have hR := hB.out.2.1
        unfold attrsF at hR
        rw [hB.out.1] at hR
        simp only at hR
        by_cases hje : s.size ≤ j
        · left
          rw [if_pos hje] at hR
          refine ⟨?_, hR⟩
          have hjz : j = s.size := by omega
          have hps : past ⟨#[61]⟩ s j = j := by unfold past; rw [if_neg (fun h => by have := h.1; have e : (⟨#[61]⟩ : ByteArray).size = 1 := rfl; omega)]
          have hz1 : ∀ p, spanE p s s.size = s.size := fun p => spanE_end (Nat.le_refl _)
          rw [ht2, hps, hjz, hz1]
          unfold attrR
          rw [hz1, bt_ge (Nat.le_refl _), if_neg (by omega)]
        · rw [if_neg hje, if_neg hc62] at hR
          have hjl : j < s.size := by omega
          have hbw : betwB s[j].toNat = false := by
            have := spanE_none betwB s j (by rw [hB.out.1]; exact hjl)
            simpa only [hB.out.1] using this
          obtain ⟨g1, g2, g3⟩ := attr_same hjl hbw hc62 ht2
          by_cases hm : s.size < (attrP s j).2.2
          · rw [if_pos hm] at g3 hR
            exact .inl ⟨g3, hR⟩
          · rw [if_neg hm] at g3 hR
            obtain ⟨e1, e2, e3, e4, e5, e6, e7⟩ := g3
            rw [← e1, ← e2, ← attrsF_span e7] at hR
            by_cases hz : (attrR s j t2).2.2 = s.size
            · refine .inl ⟨hz, ?_⟩
              rw [hR, hz]
              cases f with
              | zero => rfl
              | succ f => unfold attrsF; rw [spanE_end (Nat.le_refl _)]; simp
            · exact .inr ⟨by omega, e4, hR⟩
      have HF := hid hfact
      clear hfact
      obtain ⟨nm, vl, pp, hq⟩ : ∃ nm vl pp, attrR s j t2 = (nm, vl, pp) := ⟨_, _, _, rfl⟩
      have HT2 := hid ht2
      clear ht2
      go_wp2_with fail
      refine (skip_no hB.out.2.2.2.1.sc.sc hjs _ h62).mono ?_
      rintro e w6 ⟨rfl, hO6, hS6⟩
      have HA6 := hid (hB.out.2.2.2.1.next hlt0 hO6 hS6)
      clear hO6 hS6
      go_wp2_with fail
      refine (cutAttr_any HA6.out.sc hs hjs HT2.out).mono ?_
      rintro e w7 ⟨rfl, hO7, hS7⟩
      rw [hq] at hS7 HF ⊢
      have HA7 := hid (HA6.out.next hlt0 hO7 hS7)
      clear hO7 hS7 HA6
      unfold attrRV
      rcases HF.out with ⟨hz, hnone⟩ | ⟨hlt, hgt, hmore⟩
      · have HRN := hid hnone
        have hz' : pp = s.size := hz
        have hd : decide (pp = s.size) = true := decide_eq_true hz'
        simp only [hd]
        have HA8 := hid (HA7.out.al hlt0 (.cells #[.string nm, .string vl] 81 (0, 0)))
        obtain ⟨r0, r1, r2, r3, r4, rf⟩ := five_cells HA8.out.res
        clear hnone HF hz hd
        subst hz'
        go_wp2_with fail
        rw [HRN.out]
        refine bodyPost_ret (v := pcv 0 0 ⟨#[]⟩ ⟨#[]⟩ (.slice none 0 0)) ?_ rfl ⟨rfl, ?_, ?_⟩
        · simp [results, Tryz.results135, go_sem, r0, r1, r2, r3, r4]
          try rfl
        · exact ((((HA8.out.only.sets (Nat.le_refl _) _ _).sets (Nat.le_refl _) _ _).sets (Nat.le_refl _) _ _).sets (Nat.le_refl _) _ _).sets (Nat.le_refl _) _ _
        · exact ((((HA8.out.sc.sc.sets hn _ _).sets hn _ _).sets hn _ _).sets hn _ _).sets hn _ _
      · have HRN := hid hmore
        have hlt' : pp < s.size := hlt
        have hgt' : j < pp := hgt
        have hd : decide (pp = s.size) = false := decide_eq_false (by omega)
        simp only [hd]
        have HA8 := hid (HA7.out.al hlt0 (.cells #[.string nm, .string vl] 81 (0, 0)))
        obtain ⟨aa, ac, hav, _, _⟩ := HA8.out.row.shape
        subst hav
        have hpl : pb < w7.heap.size := size_of HA7.out.cur
        obtain ⟨d0, d1, d2, d3, d4, df⟩ := five_cells HA7.out.cur
        have hll : l.length ≤ 100000 := by have := hB.out.2.2.2.2; omega
        clear hmore HF hlt hgt hd hq
        obtain ⟨i0, hi0, hz0, hz1, hz2⟩ := info_parts Tryz.infoAttr
        cases hnb : nameB nm
        · have HL : Hid (R = attrsF nameB f s pp l) := by
            show _ = _
            rw [HRN.out]; simp only [hnb]; rfl
          clear HRN
          go_wp2_with (go_at_call 80; refine (name_any _ _).mono ?_; rintro e w9 ⟨rfl, rfl⟩; rw [hnb])
          refine (take_betw HA8.out.sc.sc hs (by omega)).mono ?_
          rintro e w10 ⟨rfl, hO10, hS10⟩
          have HA10 := hid (HA8.out.next hlt0 hO10 hS10)
          clear hO10 hS10
          have hi1 : pp ≤ spanE betwB s pp := spanE_le _ _ _
          have hi2 : spanE betwB s pp ≤ s.size := spanE_size _ _ _ (by omega)
          have hfl : s.size ≤ f + j := hB.out.2.2.1
          obtain ⟨f', rfl⟩ : ∃ f', f = f' + 1 := ⟨f - 1, by omega⟩
          go_wp2_with fail
          go_roundg (s.size - spanE betwB s pp)
          case measure => omega
          case rel => exact ⟨spanE betwB s pp, l, f', _, M, rfl, hi2, hid ⟨spanE_idem _ _ _, HL.out.trans (attrsF_span (spanE_idem _ _ _).symm), by omega, HA10.out, by have := hB.out.2.2.2.2; omega⟩⟩
        · have HL : Hid (R = attrsF nameB f s pp (l ++ [(nm, vl)])) := by
            show _ = _
            rw [HRN.out]; simp only [hnb]; rfl
          clear HRN
          have HROW : Hid (∀ o, TagAt w ((w7.alloc (.cells #[.string nm, .string vl] 81 (0, 0))).alloc o) b s pp raw pb name (.slice aa l.length ac) M l) := fun o => HA8.out.al hlt0 o
          go_wp2_with (first
            | (go_at_call 80; refine (name_any _ _).mono ?_; rintro e w9 ⟨rfl, rfl⟩; rw [hnb])
            | (at_builtin; (refine wpList_app_row _ (by rfl) (.tmp 31) (.tmp 33) 47 (by rfl) M (.attrs 0) 81 i0 _ 2 32 Tryz.underlying47 hi0 hz0 hz1 hz2 rfl (by decide) (.slice aa l.length ac) l.length (attrCells l) (by rfl) (HROW.out _).row ⟨w7.heap.size + 1, 0, none⟩ 1 1 [.string nm, .string vl] (by rfl) rfl (news_new (w7.alloc _) #[.string nm, .string vl] 81 _ (by simp)) (by simp [Value.oneCell']) (by decide) (by unfold maxLen; omega) (by omega) (HROW.out _).fresh ?_); intro g cap1 w9 M2 hr st; have HAM := hid ((HROW.out _).more H0.out hlt0 (l2 := l ++ [(nm, vl)]) (by rw [List.length_append, attrCells_append]; exact hr) st); have hTag := HROW.out (.cells #[.string nm, .string vl] 81 (0, 0)); have hcur := (st.far pb (size_of hTag.cur) (by rw [hTag.lab pb (Nat.le_refl _)]; intro e; cases e)).trans hTag.cur; obtain ⟨q0', q1', q2', q3', d4', df'⟩ := five_cells hcur; clear hr st hcur hTag))
          refine (take_betw HAM.out.sc.sc hs (by omega)).mono ?_
          rintro e w10 ⟨rfl, hO10, hS10⟩
          have HA10 := hid (HAM.out.next hlt0 hO10 hS10)
          clear hO10 hS10
          have hi1 : pp ≤ spanE betwB s pp := spanE_le _ _ _
          have hi2 : spanE betwB s pp ≤ s.size := spanE_size _ _ _ (by omega)
          have hfl : s.size ≤ f + j := hB.out.2.2.1
          obtain ⟨f', rfl⟩ : ∃ f', f = f' + 1 := ⟨f - 1, by omega⟩
          go_wp2_with fail
          go_roundg (s.size - spanE betwB s pp)
          case measure => omega
          case rel => exact ⟨spanE betwB s pp, l ++ [(nm, vl)], f', _, M2, rfl, hi2, hid ⟨spanE_idem _ _ _, HL.out.trans (attrsF_span (spanE_idem _ _ _).symm), by omega, HA10.out, by have := hB.out.2.2.2.2; simp; omega⟩⟩
end Go.Proofs.YtkaeenafejdkfaaGreatDoor

/- Which piece stands at a place: the program asks what the document asks. -/
namespace Go.Proofs.YtkaeenafejdkfaaGreatDoor

theorem stands0 {s p : ByteArray} {i : Nat} (hi : i ≤ s.size) : standsAt p (s.extract i s.size) 0 ↔ standsAt p s i := by
  rw [← prefix_at hi]
  unfold standsAt
  simp only [Nat.zero_add]
theorem bt0 {s : ByteArray} {i k : Nat} (hi : i ≤ s.size) : bt (s.extract i s.size) k = bt s (i + k) := by
  by_cases h : i + k < s.size
  · rw [bt_lt h, bt_lt (by rw [ByteArray.size_extract]; omega), ByteArray.getElem_extract]
  · rw [bt_ge (s := s.extract i s.size) (by rw [ByteArray.size_extract]; omega), bt_ge (by omega)]
theorem two_is {s : ByteArray} {i : Nat} {a b : UInt8} : standsAt ⟨#[a, b]⟩ s i ↔ bt s i = a.toNat ∧ bt s (i + 1) = b.toNat := by
  constructor
  · intro h
    have h1 : i + 2 ≤ s.size := h.1
    have h2 : s.extract i (i + 2) = ⟨#[a, b]⟩ := h.2
    have e := congrArg (fun x : ByteArray => x.data.toList) h2
    simp only [ext_list] at e
    rw [show i + 2 - i = 2 by omega] at e
    have e0 := congrArg (fun l : List UInt8 => l[0]?) e
    have e1 := congrArg (fun l : List UInt8 => l[1]?) e
    simp only [List.getElem?_take, List.getElem?_drop] at e0 e1
    rw [if_pos (by omega), Nat.add_zero, bytes_get s i (by omega)] at e0
    rw [if_pos (by omega), bytes_get s (i + 1) (by omega)] at e1
    rw [bt_lt (by omega), bt_lt (by omega)]
    have f0 : s[i] = a := by simpa using e0
    have f1 : s[i + 1] = b := by simpa using e1
    rw [f0, f1]
    exact ⟨rfl, rfl⟩
  · rintro ⟨h0, h1⟩
    have g0 := one_is h0
    have g1 := one_is h1
    have l0 := (one_of g0).2.2
    have l1 := (one_of g1).2.2
    refine ⟨by show i + 2 ≤ s.size; omega, ?_⟩
    apply ByteArray.ext
    apply Array.toList_inj.mp
    show (s.extract i (i + 2)).data.toList = [a, b]
    rw [ext_list, show i + 2 - i = 2 by omega]
    have b0 := stands_one.1 g0
    have b1 := stands_one.1 g1
    rw [List.drop_eq_getElem_cons (by simpa using l0), List.drop_eq_getElem_cons (by simpa using l1)]
    have c0 : s.data.toList[i]'(by simpa using l0) = a := by
      rw [List.getElem?_eq_getElem (by simpa using l0)] at b0; exact Option.some.inj b0
    have c1 : s.data.toList[i + 1]'(by simpa using l1) = b := by
      rw [List.getElem?_eq_getElem (by simpa using l1)] at b1; exact Option.some.inj b1
    rw [c0, c1]
    rfl
theorem com_two {s : ByteArray} {i : Nat} (h : standsAt mCom s i) : standsAt mBang s i := by
  have h1 : i + 4 ≤ s.size := h.1
  have h2 : s.extract i (i + 4) = ⟨#[60, 33, 45, 45]⟩ := h.2
  refine ⟨by show i + 2 ≤ s.size; omega, ?_⟩
  apply ByteArray.ext
  apply Array.toList_inj.mp
  have e := congrArg (fun x : ByteArray => x.data.toList.take 2) h2
  simp only [ext_list] at e
  show (s.extract i (i + 2)).data.toList = [60, 33]
  rw [ext_list, show i + 2 - i = 2 by omega]
  rw [show i + 4 - i = 4 by omega, List.take_take] at e
  exact e
theorem alpha_end : alphaB 256 = false := by decide
theorem alpha_lt {s : ByteArray} {k : Nat} (h : alphaB (bt s k) = true) : k < s.size := by
  rcases Nat.lt_or_ge k s.size with h2 | h2
  · exact h2
  · rw [bt_ge h2, alpha_end] at h; cases h
theorem kind_at {s : ByteArray} {i : Nat} (hi : i ≤ s.size) : kindT (s.extract i s.size) =
    if standsAt mCom s i then 2 else if bt s i = 60 ∧ (bt s (i + 1) = 33 ∨ bt s (i + 1) = 63) then 0
    else if bt s i = 60 ∧ bt s (i + 1) = 47 ∧ alphaB (bt s (i + 2)) = true then 4
    else if bt s i = 60 ∧ alphaB (bt s (i + 1)) = true then 3 else 1 := by
  unfold kindT
  simp only [stands0 hi, bt0 hi, ByteArray.size_extract]
  have e1 : (standsAt mBang s i ∨ standsAt mAsk s i) ↔ (bt s i = 60 ∧ (bt s (i + 1) = 33 ∨ bt s (i + 1) = 63)) := by
    rw [two_is, two_is]
    constructor
    · rintro (⟨a, b⟩ | ⟨a, b⟩)
      · exact ⟨a, .inl b⟩
      · exact ⟨a, .inr b⟩
    · rintro ⟨a, b | b⟩
      · exact .inl ⟨a, b⟩
      · exact .inr ⟨a, b⟩
  have e2 : (standsAt mEnd s i ∧ 2 < min s.size s.size - i ∧ alphaB (bt s (i + 2)) = true) ↔ (bt s i = 60 ∧ bt s (i + 1) = 47 ∧ alphaB (bt s (i + 2)) = true) := by
    rw [two_is]
    constructor
    · rintro ⟨⟨a, b⟩, _, c⟩; exact ⟨a, b, c⟩
    · rintro ⟨a, b, c⟩
      have := alpha_lt c
      exact ⟨⟨a, b⟩, by omega, c⟩
  have e3 : (standsAt mLt s i ∧ 1 < min s.size s.size - i ∧ alphaB (bt s (i + 1)) = true) ↔ (bt s i = 60 ∧ alphaB (bt s (i + 1)) = true) := by
    constructor
    · rintro ⟨a, _, c⟩; exact ⟨(one_of a).1, c⟩
    · rintro ⟨a, c⟩
      have := alpha_lt c
      exact ⟨one_is a, by omega, c⟩
  simp only [e1, e2, e3]
theorem kind_one {s : ByteArray} {i : Nat} (hi : i ≤ s.size) : kindT (s.extract i s.size) = 1 ↔ startB s i = false := by
  rw [kind_at hi]
  have hb : startB s i = true ↔ (bt s i = 60 ∧ (bt s (i + 1) = 33 ∨ bt s (i + 1) = 63 ∨ (bt s (i + 1) = 47 ∧ alphaB (bt s (i + 2)) = true) ∨ alphaB (bt s (i + 1)) = true)) := by
    unfold startB
    simp only [Bool.and_eq_true, Bool.or_eq_true, beq_iff_eq, or_assoc]
  constructor
  · intro h
    cases hs : startB s i
    · rfl
    · rw [hb] at hs
      exfalso
      obtain ⟨a, h2⟩ := hs
      split at h
      · omega
      · split at h
        · omega
        · rename_i n1
          split at h
          · omega
          · rename_i n2
            split at h
            · omega
            · rename_i n3
              rcases h2 with h2 | h2 | ⟨h2, h3⟩ | h2
              · exact n1 ⟨a, .inl h2⟩
              · exact n1 ⟨a, .inr h2⟩
              · exact n2 ⟨a, h2, h3⟩
              · exact n3 ⟨a, h2⟩
  · intro h
    have hn : ¬ startB s i = true := by rw [h]; simp
    rw [hb] at hn
    rw [if_neg (fun hc => hn (by have := two_is.1 (com_two hc); exact ⟨this.1, .inl this.2⟩)), if_neg (fun hc => hn ⟨hc.1, hc.2.elim .inl (fun x => .inr (.inl x))⟩), if_neg (fun hc => hn ⟨hc.1, .inr (.inr (.inl hc.2))⟩), if_neg (fun hc => hn ⟨hc.1, .inr (.inr (.inr hc.2))⟩)]
theorem word_same (s : ByteArray) (i : Nat) : wordE s i = wordN s i := by
  rw [wordE]
  by_cases h : i < s.size
  · rw [if_pos h]
    cases hs : startB s i
    · rw [if_pos ((kind_one (by omega)).2 hs), wordN_step h hs]
      exact word_same s (i + 1)
    · rw [if_neg (fun e => by rw [(kind_one (by omega)).1 e] at hs; cases hs), wordN_hit h hs]
  · rw [if_neg h, wordN_end (by omega)]
  termination_by s.size - i
end Go.Proofs.YtkaeenafejdkfaaGreatDoor
