/- The program: what a raw element says. -/
import Derived.Test.YtkaeenafejdkfaaGreatDoorM17
import Derived.Deep.RegionWith
import Derived.BigRegion
import Derived.Test.YtkaeenafejdkfaaGreatDoorM18
import Derived.Deep.DeepCutAuto
import Derived.Test.YtkaeenafejdkfaaGreatDoorM11
namespace Go.Proofs.YtkaeenafejdkfaaGreatDoor
open Go.RowKit

theorem rawE_is (s name : ByteArray) (i : Nat) (hi : i ≤ s.size) : ∃ e, rawE s name i = e ∧ i ≤ e ∧ e ≤ s.size ∧ (∀ k, i ≤ k → k < e → k < s.size ∧ ¬ rawHit s name k) ∧ (e < s.size → rawHit s name e) := by
  refine ⟨_, rfl, ?_⟩
  by_cases h : i < s.size
  · by_cases hk : rawHit s name i
    · rw [rawE_hit h hk]
      exact ⟨Nat.le_refl _, hi, fun k a b => absurd b (by omega), fun _ => hk⟩
    · rw [rawE_step h hk]
      obtain ⟨e, he, h1, h2, h3, h4⟩ := rawE_is s name (i + 1) h
      rw [he]
      refine ⟨by omega, h2, fun k a b => ?_, h4⟩
      by_cases hki : k = i
      · subst hki; exact ⟨h, hk⟩
      · exact h3 k (by omega) b
  · rw [rawE_end (by omega)]
    exact ⟨Nat.le_refl _, hi, fun k a b => absurd b (by omega), fun h2 => absurd h2 h⟩
  termination_by s.size - i
theorem Only.drew1 {b : Nat} {w w' : World} (h : Only b w w') : Only b w w'.drew := ⟨h.os, h.tape, h.output, h.size, h.block⟩
theorem Sc.drew1 {w : World} {b : Nat} {s : ByteArray} {i : Nat} {raw : ByteArray} (h : Sc w b s i raw) : Sc w.drew b s i raw := h
theorem atEnd_bel {w : World} {b : Nat} {s : ByteArray} {i : Nat} {raw : ByteArray} (h : Sc w b s i raw) (r : Bool) (hr : decide (i = s.size) = r) :
    Calls Tryz.prog 109 #[.pointer (some ⟨b, 0, none⟩)] w fun e w' => e = .returned (.bool r) ∧ Below w.heap.size w w' :=
  (atEnd_any h r hr).mono fun e w' ⟨h1, m, h2⟩ => ⟨h1, by subst h2; exact below_dr (Below.refl _ _) _⟩
theorem Sc.setRaw {w : World} {b : Nat} {s : ByteArray} {i : Nat} {raw : ByteArray} (h : Sc w b s i raw) (r : ByteArray) : Sc (w.setCell ⟨b, 2, none⟩ (.string r)) b s i r := by
  unfold Sc at h ⊢
  simp [World.setCell, Array.getElem?_modify, h]
/-- what a raw element says, as a piece -/
def rawV (s : ByteArray) (i e : Nat) : Value := if e = i then pcv 0 0 ⟨#[]⟩ ⟨#[]⟩ (.slice none 0 0) else pcv 1 0 ⟨#[]⟩ (s.extract i e) (.slice none 0 0)

set_option maxHeartbeats 4000000 in
set_option maxRecDepth 100000 in
theorem cutRaw_any {w : World} {b : Nat} {s : ByteArray} {i : Nat} {raw : ByteArray} (h : SC w b s i raw) (hs : s.size ≤ 100000) (hi : i ≤ s.size) (hr : raw.size ≤ 100) :
    Calls Tryz.prog 132 #[.pointer (some ⟨b, 0, none⟩)] w fun e w' => e = .returned (rawV s i (rawE s raw i)) ∧ Only b w w' ∧ Sc w' b s (rawE s raw i) ⟨#[]⟩ := by
  obtain ⟨e, E, a1, b1, g1, x1⟩ := rawE_is s raw i hi
  rw [E]
  have hlt0 := h.sc.lt
  have H := hid (h.alloc emptyPiece)
  have G := hid g1
  have X := hid x1
  obtain ⟨c0, c1, c2, cf⟩ := (h.alloc emptyPiece).sc.cells
  unfold emptyPiece at c0 c1 c2 cf
  obtain ⟨en, hen⟩ : ∃ en, en = endT raw := ⟨_, rfl⟩
  have hen2 : (⟨#[60, 47]⟩ : ByteArray) ++ raw = en := by rw [hen]; rfl
  have HEN := hid hen
  clear h g1 x1 E hen
  go_enter Tryz.func132, Tryz.ntmps132
  go_wp2_with fail
  go_quiet (fail)
  go_wp2_with fail
  clear c0 c1 c2 cf hen2
  go_loopg [] (e - i) (fun g wr => ∃ j : Nat, i ≤ j ∧ j ≤ e ∧ g = e - j ∧ Hid (SC wr b s j ⟨#[]⟩ ∧ Only b (w.alloc emptyPiece) wr))
  case atStart => exact ⟨i, by omega, by omega, rfl, hid ⟨H.out.only (((Only.refl _ _).drew _).set _ _) ((H.out.sc.drew _).setRaw _), ((Only.refl _ _).drew _).set _ _⟩⟩
  case round =>
    obtain ⟨j, hj1, hj2, rfl, hB⟩ := hrel
    obtain ⟨c0, c1, c2, cf⟩ := hB.out.1.sc.cells
    by_cases hlt : j < e
    · obtain ⟨hsz, hp⟩ := G.out j hj1 hlt
      have HP : Hid (decide (rawHit s raw j) = false) := by show _ = _; rw [decide_eq_false_iff_not]; exact hp
      clear hp
      go_wp2_with (first | (go_at_call 109; refine (atEnd_any hB.out.1.sc false (at_no hsz)).mono ?_; rintro e w1 ⟨rfl, m1, rfl⟩) | (go_at_call 154; refine (endsRaw_any (hB.out.1.sc.drew m1) hs (by omega) hr en HEN.out false HP.out).mono ?_; rintro e w2 ⟨rfl, hB2⟩; have hS2 := (hB.out.1.sc.drew m1).below (hB.out.1.sc.drew m1).lt hB2; obtain ⟨c0', c1', c2', cf'⟩ := hS2.cells; have HB2 : Hid (SC w2 b s j ⟨#[]⟩ ∧ Only b (w.alloc emptyPiece) w2) := ⟨hB.out.1.only (((Only.refl _ _).drew _).trans (Only.of hB2)) hS2, (hB.out.2.drew _).trans (Only.of hB2)⟩; clear hB2 hS2))
      go_roundg (e - (j + 1))
      case measure => omega
      case rel => exact ⟨j + 1, by omega, by omega, rfl, hid ⟨HB2.out.1.only ((Only.refl _ _).set _ _) (HB2.out.1.sc.set _ _ (by go_num)), HB2.out.2.set _ _⟩⟩
    · obtain rfl : j = e := by omega
      have hn : b ≠ w.heap.size := by omega
      by_cases hsz : j < s.size
      · have HP : Hid (decide (rawHit s raw j) = true) := by show _ = _; rw [decide_eq_true_eq]; exact X.out hsz
        by_cases hji : j = i
        · have hjq : (j : Int) = (i : Int) := by omega
          go_wp2_with (first | (go_at_call 109; refine (atEnd_any hB.out.1.sc false (at_no hsz)).mono ?_; rintro e w1 ⟨rfl, m1, rfl⟩) | (go_at_call 154; refine (endsRaw_any (hB.out.1.sc.drew m1) hs (by omega) hr en HEN.out true HP.out).mono ?_; rintro e w2 ⟨rfl, hB2⟩; have hS2 := (hB.out.1.sc.drew m1).below (hB.out.1.sc.drew m1).lt hB2; obtain ⟨c0', c1', c2', cf'⟩ := hS2.cells; have HB2 : Hid (SC w2 b s j ⟨#[]⟩ ∧ Only b (w.alloc emptyPiece) w2) := ⟨hB.out.1.only (((Only.refl _ _).drew _).trans (Only.of hB2)) hS2, (hB.out.2.drew _).trans (Only.of hB2)⟩; have hR := res_block hlt0 HB2.out.2; obtain ⟨d0, d1, d2, d3, d4, df⟩ := five_cells hR; clear hB2 hS2 hR))
          refine bodyPost_ret (v := pcv 0 0 ⟨#[]⟩ ⟨#[]⟩ (.slice none 0 0)) ?_ rfl ⟨by unfold rawV; rw [if_pos hji], ?_, ?_⟩
          · simp [results, Tryz.results132, go_sem, d0, d1, d2, d3, d4]
            try rfl
          · exact ((((((Only.alloc (b := b) emptyPiece).trans HB2.out.2).sets (Nat.le_refl _) _ _).sets (Nat.le_refl _) _ _).sets (Nat.le_refl _) _ _).sets (Nat.le_refl _) _ _).sets (Nat.le_refl _) _ _
          · exact ((((HB2.out.1.sc.sets hn _ _).sets hn _ _).sets hn _ _).sets hn _ _).sets hn _ _
        · have hjq : ¬ (j : Int) = (i : Int) := by omega
          go_wp2_with (first | (go_at_call 109; refine (atEnd_any hB.out.1.sc false (at_no hsz)).mono ?_; rintro e w1 ⟨rfl, m1, rfl⟩) | (go_at_call 154; refine (endsRaw_any (hB.out.1.sc.drew m1) hs (by omega) hr en HEN.out true HP.out).mono ?_; rintro e w2 ⟨rfl, hB2⟩; have hS2 := (hB.out.1.sc.drew m1).below (hB.out.1.sc.drew m1).lt hB2; obtain ⟨c0', c1', c2', cf'⟩ := hS2.cells; have HB2 : Hid (SC w2 b s j ⟨#[]⟩ ∧ Only b (w.alloc emptyPiece) w2) := ⟨hB.out.1.only (((Only.refl _ _).drew _).trans (Only.of hB2)) hS2, (hB.out.2.drew _).trans (Only.of hB2)⟩; have hR := res_block hlt0 HB2.out.2; obtain ⟨d0, d1, d2, d3, d4, df⟩ := five_cells hR; clear hB2 hS2 hR))
          go_region
          all_goals go_wp2_with fail
          all_goals (
            refine bodyPost_ret (v := pcv 1 0 ⟨#[]⟩ (s.extract i j) (.slice none 0 0)) ?_ rfl ⟨by unfold rawV; rw [if_neg hji], ?_, ?_⟩
            · simp [results, Tryz.results132, go_sem, d0, d1, d2, d3, d4]
              try rfl
            · exact (((((((Only.alloc (b := b) emptyPiece).trans HB2.out.2).sets (Nat.le_refl _) _ _).sets (Nat.le_refl _) _ _).sets (Nat.le_refl _) _ _).sets (Nat.le_refl _) _ _).sets (Nat.le_refl _) _ _).drew1
            · exact (((((HB2.out.1.sc.sets hn _ _).sets hn _ _).sets hn _ _).sets hn _ _).sets hn _ _).drew1)
      · clear X
        by_cases hji : j = i
        · have hjq : (j : Int) = (i : Int) := by omega
          go_wp2_with ((go_at_call 109; refine (atEnd_bel hB.out.1.sc true (at_end (by omega))).mono ?_; rintro e w2 ⟨rfl, hB2⟩; have hS2 := hB.out.1.sc.below hB.out.1.sc.lt hB2; obtain ⟨c0', c1', c2', cf'⟩ := hS2.cells; have HB2 : Hid (SC w2 b s j ⟨#[]⟩ ∧ Only b (w.alloc emptyPiece) w2) := ⟨hB.out.1.only (Only.of hB2) hS2, hB.out.2.trans (Only.of hB2)⟩; clear hB2; have hR := res_block hlt0 HB2.out.2; obtain ⟨d0, d1, d2, d3, d4, df⟩ := five_cells hR; clear hS2 hR))
          refine bodyPost_ret (v := pcv 0 0 ⟨#[]⟩ ⟨#[]⟩ (.slice none 0 0)) ?_ rfl ⟨by unfold rawV; rw [if_pos hji], ?_, ?_⟩
          · simp [results, Tryz.results132, go_sem, d0, d1, d2, d3, d4]
            try rfl
          · exact ((((((Only.alloc (b := b) emptyPiece).trans HB2.out.2).sets (Nat.le_refl _) _ _).sets (Nat.le_refl _) _ _).sets (Nat.le_refl _) _ _).sets (Nat.le_refl _) _ _).sets (Nat.le_refl _) _ _
          · exact ((((HB2.out.1.sc.sets hn _ _).sets hn _ _).sets hn _ _).sets hn _ _).sets hn _ _
        · have hjq : ¬ (j : Int) = (i : Int) := by omega
          go_wp2_with ((go_at_call 109; refine (atEnd_bel hB.out.1.sc true (at_end (by omega))).mono ?_; rintro e w2 ⟨rfl, hB2⟩; have hS2 := hB.out.1.sc.below hB.out.1.sc.lt hB2; obtain ⟨c0', c1', c2', cf'⟩ := hS2.cells; have HB2 : Hid (SC w2 b s j ⟨#[]⟩ ∧ Only b (w.alloc emptyPiece) w2) := ⟨hB.out.1.only (Only.of hB2) hS2, hB.out.2.trans (Only.of hB2)⟩; clear hB2; have hR := res_block hlt0 HB2.out.2; obtain ⟨d0, d1, d2, d3, d4, df⟩ := five_cells hR; clear hS2 hR))
          go_region
          all_goals go_wp2_with fail
          all_goals (
            refine bodyPost_ret (v := pcv 1 0 ⟨#[]⟩ (s.extract i j) (.slice none 0 0)) ?_ rfl ⟨by unfold rawV; rw [if_neg hji], ?_, ?_⟩
            · simp [results, Tryz.results132, go_sem, d0, d1, d2, d3, d4]
              try rfl
            · exact (((((((Only.alloc (b := b) emptyPiece).trans HB2.out.2).sets (Nat.le_refl _) _ _).sets (Nat.le_refl _) _ _).sets (Nat.le_refl _) _ _).sets (Nat.le_refl _) _ _).sets (Nat.le_refl _) _ _).drew1
            · exact (((((HB2.out.1.sc.sets hn _ _).sets hn _ _).sets hn _ _).sets hn _ _).sets hn _ _).drew1)
end Go.Proofs.YtkaeenafejdkfaaGreatDoor

/- The program: an attribute is cut. -/
namespace Go.Proofs.YtkaeenafejdkfaaGreatDoor
open Go.RowKit

def emptyAttr : Obj := .cells #[.string ⟨#[]⟩, .string ⟨#[]⟩] 81 (0, 0)
/-- an attribute whose name ends there: name, value, where the scanner is then -/
def attrR (s : ByteArray) (i te : Nat) : ByteArray × ByteArray × Nat :=
  if bt s (spanE blankB s te) = 61 then (smallS (s.extract i te), meantS (valR s (spanE blankB s (spanE blankB s te + 1))).1, (valR s (spanE blankB s (spanE blankB s te + 1))).2)
  else (smallS (s.extract i te), ⟨#[]⟩, spanE blankB s te)
def attrRV (s : ByteArray) (p : ByteArray × ByteArray × Nat) : Value := .tuple #[.agg #[.string p.1, .string p.2.1], .bool (!decide (p.2.2 = s.size))]
/-- past a mark, if it stands there -/
def past (p s : ByteArray) (i : Nat) : Nat := if standsAt p s i then i + p.size else i
theorem past_le {p s : ByteArray} {i : Nat} (hi : i ≤ s.size) : i ≤ past p s i ∧ past p s i ≤ s.size := by
  unfold past; split
  · rename_i h; exact ⟨by omega, h.1⟩
  · exact ⟨Nat.le_refl _, hi⟩
theorem skip_past {w : World} {b : Nat} {s : ByteArray} {i : Nat} {raw : ByteArray} (h : Sc w b s i raw) (hs : s.size ≤ 100000) (hi : i ≤ s.size) (p : ByteArray) :
    Calls Tryz.prog 157 #[.pointer (some ⟨b, 0, none⟩), .string p] w fun e w' => e = .returned (.bool (decide (standsAt p s i))) ∧ Only b w w' ∧ Sc w' b s (past p s i) raw := by
  unfold past
  by_cases hp : standsAt p s i
  · rw [if_pos hp, decide_eq_true hp]; exact skip_yes h hs p hp
  · rw [if_neg hp, decide_eq_false hp]; exact skip_no h hi p hp
theorem valR_le {s : ByteArray} {i : Nat} (hi : i ≤ s.size) : i ≤ (valR s i).2 ∧ (valR s i).2 ≤ s.size := by
  unfold valR
  split
  · split
    · rename_i e he
      obtain ⟨h1, h2, _⟩ := findE_some he
      have := h2.1
      by_cases hlt : i < s.size
      · have hz : (s.extract i (i + 1)).size = 1 := by rw [ByteArray.size_extract]; omega
        exact ⟨by show i ≤ e + 1; omega, by show e + 1 ≤ s.size; omega⟩
      · rename_i hb _ _
        have : s.size ≤ i := by omega
        rw [bt_ge this] at hb
        omega
    · exact ⟨hi, Nat.le_refl _⟩
  · exact ⟨spanE_le _ _ _, spanE_size _ _ _ hi⟩
/-- an attribute that is being cut lies there -/
structure AttrAt (w w' : World) (b : Nat) (s : ByteArray) (i : Nat) (raw : ByteArray) (ab : Nat) (nm vl : ByteArray) : Prop where
  sc : SC w' b s i raw
  only : Only b w w'
  res : w'.heap[w.heap.size]? = some emptyAttr
  cur : w'.heap[ab]? = some (.cells #[.string nm, .string vl] 81 (0, 0))
  far : w.heap.size < ab
theorem AttrAt.next {w w1 w2 : World} {b : Nat} {s : ByteArray} {i j : Nat} {raw : ByteArray} {ab : Nat} {nm vl : ByteArray} (h : AttrAt w w1 b s i raw ab nm vl) (hb : b < w.heap.size) (ho : Only b w1 w2) (hs : Sc w2 b s j raw) : AttrAt w w2 b s j raw ab nm vl :=
  ⟨h.sc.only ho hs, h.only.trans ho, (ho.block _ (size_of h.res) (by omega)).trans h.res, (ho.block _ (size_of h.cur) (by have := h.far; omega)).trans h.cur, h.far⟩

theorem SC.bel {w w' : World} {b : Nat} {s : ByteArray} {i : Nat} {raw : ByteArray} (h : SC w b s i raw) (hb : Below w.heap.size w w') : SC w' b s i raw := h.only (Only.of hb) (h.sc.below h.sc.lt hb)
theorem AttrAt.laid {w w2 w3 : World} {b : Nat} {s : ByteArray} {te : Nat} {raw nm : ByteArray} (h : SC w2 b s te raw) (ho : Only b w w2) (hr : w2.heap[w.heap.size]? = some emptyAttr) (hb : Below w2.heap.size w2 w3) : AttrAt w (w3.alloc (.cells #[.string nm, .string ⟨#[]⟩] 81 (0, 0))) b s te raw w3.heap.size nm ⟨#[]⟩ := by
  have hl := size_of hr
  have hr3 : w3.heap[w.heap.size]? = some emptyAttr := (hb.block _ hl).trans hr
  exact ⟨(h.bel hb).alloc _, (ho.trans (Only.of hb)).trans (Only.alloc _), (Below.heap_alloc _ _ _ (size_of hr3)).trans hr3, heap_alloc_new _ _, size_of hr3⟩
theorem AttrAt.put {w w2 w3 : World} {b : Nat} {s : ByteArray} {te : Nat} {raw nm : ByteArray} (h : SC w2 b s te raw) (ho : Only b w w2) (hr : w2.heap[w.heap.size]? = some emptyAttr) (hb : Below w2.heap.size w2 w3 ∧ w3.heap[w2.heap.size]? = some emptyAttr) : AttrAt w ((w3.setCell ⟨w2.heap.size, 0, none⟩ (.string nm)).setCell ⟨w2.heap.size, 1, none⟩ (.string ⟨#[]⟩)) b s te raw w2.heap.size nm ⟨#[]⟩ := by
  have hl := size_of hr
  have hr3 : w3.heap[w.heap.size]? = some emptyAttr := (hb.1.block _ hl).trans hr
  have hS := h.bel hb.1
  have hne : b ≠ w2.heap.size := by have := h.sc.lt; omega
  have hO2 : Only b w2 ((w3.setCell ⟨w2.heap.size, 0, none⟩ (.string nm)).setCell ⟨w2.heap.size, 1, none⟩ (.string ⟨#[]⟩)) := ((Only.of hb.1).sets (Nat.le_refl _) _ _).sets (Nat.le_refl _) _ _
  refine ⟨h.only hO2 ((hS.sc.sets hne _ _).sets hne _ _), ho.trans hO2, ?_, ?_, hl⟩
  · rw [Below.heap_setCell _ ⟨w2.heap.size, 1, none⟩ _ _ (by show w.heap.size ≠ w2.heap.size; omega), Below.heap_setCell _ ⟨w2.heap.size, 0, none⟩ _ _ (by show w.heap.size ≠ w2.heap.size; omega)]; exact hr3
  · have h2 := hb.2
    unfold emptyAttr at h2
    simp [World.setCell, Array.getElem?_modify, h2]

theorem valR_size {s : ByteArray} {i : Nat} : (valR s i).1.size ≤ s.size := by
  unfold valR
  split
  · split <;> (simp only [ByteArray.size_extract]; omega)
  · simp only [ByteArray.size_extract]; omega
theorem AttrAt.val {w w1 : World} {b : Nat} {s : ByteArray} {i : Nat} {raw : ByteArray} {ab : Nat} {nm vl : ByteArray} (h : AttrAt w w1 b s i raw ab nm vl) (hb : b < w.heap.size) (v : ByteArray) : AttrAt w (w1.setCell ⟨ab, 1, none⟩ (.string v)) b s i raw ab nm v := by
  have hf := h.far
  have hO : Only b w (w1.setCell ⟨ab, 1, none⟩ (.string v)) := h.only.sets (Nat.le_of_lt hf) _ _
  have hS : Sc (w1.setCell ⟨ab, 1, none⟩ (.string v)) b s i raw := h.sc.sc.sets (by omega) _ _
  obtain ⟨m, hm⟩ := h.sc.max
  refine ⟨⟨hS, h.sc.ne, ?_⟩, hO, ?_, ?_, hf⟩
  · by_cases h8 : ab = 8
    · subst h8
      have h0 := (pair_cells h.cur).1
      rw [hm] at h0
      cases h0
    · exact ⟨m, (World.cell?_of_block (a := ⟨8, 0, none⟩) (Below.heap_setCell w1 ⟨ab, 1, none⟩ _ 8 (by show 8 ≠ ab; omega))).trans hm⟩
  · rw [Below.heap_setCell _ ⟨ab, 1, none⟩ _ _ (by show w.heap.size ≠ ab; omega)]; exact h.res
  · have h2 := h.cur
    simp [World.setCell, Array.getElem?_modify, h2]

set_option maxHeartbeats 4000000 in
set_option maxRecDepth 100000 in
theorem cutAttr_any {w : World} {b : Nat} {s : ByteArray} {i te : Nat} {raw : ByteArray} (h : SC w b s i raw) (hs : s.size ≤ 100000) (hi : i ≤ s.size) (hto : te = spanE inAttrB s (past ⟨#[61]⟩ s i)) :
    Calls Tryz.prog 162 #[.pointer (some ⟨b, 0, none⟩)] w fun e w' => e = .returned (attrRV s (attrR s i te)) ∧ Only b w w' ∧ Sc w' b s (attrR s i te).2.2 raw := by
  obtain ⟨t, ht⟩ : ∃ t, t = attrR s i te := ⟨_, rfl⟩
  rw [← ht]
  have HT := hid ht
  have hlt0 := h.sc.lt
  have H := hid (h.alloc emptyAttr)
  obtain ⟨c0, c1, c2, cf⟩ := (h.alloc emptyAttr).sc.cells
  unfold emptyAttr at c0 c1 c2 cf
  clear h ht
  obtain ⟨hp1, hp2⟩ := past_le (p := ⟨#[61]⟩) hi
  have hte : te ≤ s.size := by rw [hto]; exact spanE_size _ _ _ hp2
  have hie : i ≤ te := by rw [hto]; exact Nat.le_trans hp1 (spanE_le _ _ _)
  go_enter Tryz.func162, Tryz.ntmps162
  go_wp2_with fail
  refine (skip_past H.out.sc hs hi _).mono ?_
  rintro e w1 ⟨rfl, hO1, hS1⟩
  have H1 := hid (H.out.only hO1 hS1)
  have HO1 := hid hO1
  clear hO1 hS1
  go_wp2_with fail
  refine (take_attr H1.out.sc hs hp2).mono ?_
  rintro e w2 ⟨rfl, hO2, hS2⟩
  rw [← hto] at hS2 ⊢
  have H2 := hid (H1.out.only hO2 hS2)
  have HO2 := hid (HO1.out.trans hO2)
  obtain ⟨c0', c1', c2', cf'⟩ := hS2.cells
  clear hO2 hS2 hto hp1 hp2 c0 c1 c2 cf
  go_wp2_with fail
  have hes : (s.extract i te).size ≤ 100000 := by rw [ByteArray.size_extract]; omega
  have hbl : b < w2.heap.size := H2.out.sc.lt
  obtain ⟨nm, hnm⟩ : ∃ nm, nm = smallS (s.extract i te) := ⟨_, rfl⟩
  have HN := hid hnm
  have hRb := hid (show w2.heap[w.heap.size]? = some emptyAttr by rw [HO2.out.block w.heap.size (by simp) (by omega)]; exact heap_alloc_new w _)
  have hwl : w.heap.size < w2.heap.size := size_of hRb.out
  have HOw := hid ((Only.alloc (b := b) emptyAttr).trans HO2.out)
  clear hnm
  go_cut [5] (fun s5 wx => ∃ ab, s5 = .pointer (some ⟨ab, 0, none⟩) ∧ Hid (AttrAt w wx b s te raw ab nm ⟨#[]⟩))
  case first =>
    go_region_with ((go_at_call 158; refine (lower_any (s.extract i te) hes _).mono ?_; rintro e w3 ⟨rfl, hB3⟩; rw [← HN.out]; first | (have hb : w3.heap[w2.heap.size]? = some emptyAttr := (hB3.block w2.heap.size (by simp)).trans (heap_alloc_new w2.drew _); obtain ⟨q0, q1, qf⟩ := pair_cells hb; have HB3 : Hid (Below w2.heap.size w2 w3 ∧ w3.heap[w2.heap.size]? = some emptyAttr) := ⟨((Below.refl _ _).drew.alloc (Nat.le_refl _) _).trans (hB3.mono (by simp)), hb⟩; clear hB3 hb) | (have HB3 : Hid (Below w2.heap.size w2 w3) := (Below.refl _ _).drew.trans hB3; clear hB3)))
    all_goals (go_wp2_with fail; go_meet)
    all_goals first
      | exact ⟨_, rfl, AttrAt.laid H2.out HOw.out hRb.out HB3.out⟩
      | exact ⟨_, rfl, AttrAt.put H2.out HOw.out hRb.out HB3.out⟩
  case rest =>
  obtain ⟨w3, hw3⟩ : ∃ w9, w9 = wc := ⟨_, rfl⟩
  subst hw3
  obtain ⟨ab, hs5, HA⟩ := hcut
  subst hs5
  clear H2 HO2 c0' c1' c2' cf' hRb hwl HOw hbl H1 HO1 H hes
  obtain ⟨k, hk⟩ : ∃ k, k = spanE blankB s te := ⟨_, rfl⟩
  have hks : k ≤ s.size := by rw [hk]; exact spanE_size _ _ _ hte
  have HK := hid hk
  clear hk
  go_wp2_with fail
  refine (take_blank HA.out.sc.sc hs hte).mono ?_
  rintro e w4 ⟨rfl, hO4, hS4⟩
  rw [← HK.out] at hS4 ⊢
  have HA4 := hid (HA.out.next hlt0 hO4 hS4)
  clear hO4 hS4 HA
  go_wp2_with fail
  have hn : b ≠ w.heap.size := by omega
  by_cases hst : standsAt ⟨#[61]⟩ s k
  · have h61 : bt s k = 61 := (one_of hst).1
    have hk1 : k + 1 ≤ s.size := hst.1
    obtain ⟨k2, hk2⟩ : ∃ k2, k2 = spanE blankB s (k + 1) := ⟨_, rfl⟩
    have HK2 := hid hk2
    have hk2s : k2 ≤ s.size := by rw [hk2]; exact spanE_size _ _ _ hk1
    have HT2 : Hid (t = (nm, meantS (valR s k2).1, (valR s k2).2)) := by
      show _ = _
      rw [HT.out]; unfold attrR; rw [← HK.out, if_pos h61, ← HN.out, ← hk2]
    clear HT hk2
    refine (skip_yes HA4.out.sc.sc hs _ hst).mono ?_
    rintro e w5 ⟨rfl, hO5, hS5⟩
    have HA5 := hid (HA4.out.next hlt0 hO5 hS5)
    clear hO5 hS5 HA4
    go_wp2_with fail
    refine (take_blank (i := k + 1) HA5.out.sc.sc hs hk1).mono ?_
    rintro e w6 ⟨rfl, hO6, hS6⟩
    rw [← HK2.out] at hS6 ⊢
    have HA6 := hid (HA5.out.next hlt0 hO6 hS6)
    clear hO6 hS6 HA5
    go_wp2_with fail
    refine (cutValue_any HA6.out.sc hs hk2s).mono ?_
    rintro e w7 ⟨rfl, hO7, hS7⟩
    have HA7 := hid (HA6.out.next hlt0 hO7 hS7)
    clear hO7 hS7 HA6
    obtain ⟨vv, pp, hvp⟩ : ∃ vv pp, valR s k2 = (vv, pp) := ⟨_, _, rfl⟩
    rw [hvp] at HA7 HT2 ⊢
    have hpp : pp ≤ s.size := by have := (valR_le hk2s).2; rw [hvp] at this; exact this
    have hvs : vv.size ≤ 100000 := by have := valR_size (s := s) (i := k2); rw [hvp] at this; exact Nat.le_trans this hs
    obtain ⟨m, hm⟩ := HA7.out.sc.max
    clear hvp
    go_wp2_with fail
    refine (resolve_any vv hvs m _ hm).mono ?_
    rintro e w8 ⟨rfl, hB8⟩
    have HA8 := hid (HA7.out.next hlt0 (Only.of hB8) (HA7.out.sc.sc.below HA7.out.sc.sc.lt hB8))
    clear hB8 HA7 hm
    obtain ⟨d0, d1, df⟩ := pair_cells HA8.out.cur
    go_wp2_with fail
    have HZ := hid (HA8.out.val hlt0 (meantS vv))
    generalize hwz : w8.setCell ⟨ab, 1, none⟩ (.string (meantS vv)) = wz
    rw [hwz] at HZ
    clear d0 d1 df HA8 hwz
    obtain ⟨d0, d1, df⟩ := pair_cells HZ.out.cur
    obtain ⟨r0, r1, rf⟩ := pair_cells HZ.out.res
    go_region_with ((go_at_call 109; refine (atEnd_bel (HZ.out.sc.sc.drew1) _ rfl).mono ?_; rintro e w10 ⟨rfl, hB10⟩; have HZ10 := hid (HZ.out.next hlt0 (Only.of ((Below.refl _ _).drew.trans hB10)) (HZ.out.sc.sc.drew1.below HZ.out.sc.sc.drew1.lt hB10)); obtain ⟨d0', d1', df'⟩ := pair_cells HZ10.out.cur; obtain ⟨r0', r1', rf'⟩ := pair_cells HZ10.out.res; clear hB10))
    all_goals go_wp2_with fail
    all_goals (
      rw [HT2.out]
      refine bodyPost_ret (v := attrRV s (nm, (meantS vv), pp)) ?_ rfl ⟨rfl, ?_, ?_⟩
      · simp [results, Tryz.results162, go_sem, r0', r1', attrRV]
        try rfl
      · exact (HZ10.out.only.sets (Nat.le_refl _) _ _).sets (Nat.le_refl _) _ _
      · exact (HZ10.out.sc.sc.sets hn _ _).sets hn _ _)
  · have h61 : ¬ bt s k = 61 := fun e => hst (one_is e)
    have HT2 : Hid (t = (nm, ⟨#[]⟩, k)) := by
      show _ = _
      rw [HT.out]; unfold attrR; rw [← HK.out, if_neg h61, ← HN.out]
    clear HT
    refine (skip_no HA4.out.sc.sc hks _ hst).mono ?_
    rintro e w5 ⟨rfl, hO5, hS5⟩
    have HZ := hid (HA4.out.next hlt0 hO5 hS5)
    clear hO5 hS5 HA4
    obtain ⟨pp, hpp⟩ : ∃ pp, k = pp := ⟨_, rfl⟩
    subst hpp
    go_wp2_with fail
    obtain ⟨d0, d1, df⟩ := pair_cells HZ.out.cur
    obtain ⟨r0, r1, rf⟩ := pair_cells HZ.out.res
    go_region_with ((go_at_call 109; refine (atEnd_bel (HZ.out.sc.sc.drew1) _ rfl).mono ?_; rintro e w10 ⟨rfl, hB10⟩; have HZ10 := hid (HZ.out.next hlt0 (Only.of ((Below.refl _ _).drew.trans hB10)) (HZ.out.sc.sc.drew1.below HZ.out.sc.sc.drew1.lt hB10)); obtain ⟨d0', d1', df'⟩ := pair_cells HZ10.out.cur; obtain ⟨r0', r1', rf'⟩ := pair_cells HZ10.out.res; clear hB10))
    all_goals go_wp2_with fail
    all_goals (
      rw [HT2.out]
      refine bodyPost_ret (v := attrRV s (nm, ⟨#[]⟩, k)) ?_ rfl ⟨rfl, ?_, ?_⟩
      · simp [results, Tryz.results162, go_sem, r0', r1', attrRV]
        try rfl
      · exact (HZ10.out.only.sets (Nat.le_refl _) _ _).sets (Nat.le_refl _) _ _
      · exact (HZ10.out.sc.sc.sets hn _ _).sets hn _ _)
end Go.Proofs.YtkaeenafejdkfaaGreatDoor

/- The attributes that the program cuts are the document's: plain mathematics. -/
namespace Go.Proofs.YtkaeenafejdkfaaGreatDoor

theorem spanE_idem (p : Nat → Bool) (s : ByteArray) (i : Nat) : spanE p s (spanE p s i) = spanE p s i := by
  by_cases h : spanE p s i < s.size
  · exact spanE_stop h (spanE_none p s i h)
  · exact spanE_end (by omega)
/-- bytes of the sort q are also of the sort p: to go over them first is no matter -/
theorem spanE_over (p q : Nat → Bool) (hq : ∀ c, q c = true → p c = true) (s : ByteArray) (i : Nat) : spanE p s (spanE q s i) = spanE p s i := by
  by_cases h : i < s.size
  · cases hc : q s[i].toNat
    · rw [spanE_stop h hc]
    · rw [spanE_step h hc, spanE_step (p := p) h (hq _ hc)]
      exact spanE_over p q hq s (i + 1)
  · rw [spanE_end (p := q) (by omega)]
  termination_by s.size - i
theorem blank_betw (c : Nat) (h : blankB c = true) : betwB c = true := by unfold betwB; rw [h]; rfl
/-- what the program cuts at a place where no byte between attributes stands -/
theorem attr_same {s : ByteArray} {i te : Nat} (hi : i < s.size) (hb : betwB s[i].toNat = false) (hg : bt s i ≠ 62) (hto : te = spanE inAttrB s (past ⟨#[61]⟩ s i)) :
    i < te ∧ te ≤ s.size ∧ (if s.size < (attrP s i).2.2 then (attrR s i te).2.2 = s.size else (attrR s i te).1 = (attrP s i).1 ∧ (attrR s i te).2.1 = (attrP s i).2.1 ∧ i < (attrP s i).2.2 ∧ i < (attrR s i te).2.2 ∧ (attrR s i te).2.2 ≤ s.size ∧ (attrP s i).2.2 ≤ s.size ∧ spanE betwB s (attrR s i te).2.2 = spanE betwB s (attrP s i).2.2) := by
  have hto2 : te = spanE inAttrB s (i + 1) := by
    rw [hto]
    unfold past
    by_cases hst : standsAt ⟨#[61]⟩ s i
    · rw [if_pos hst]; rfl
    · rw [if_neg hst]
      have h61 : ¬ bt s i = 61 := fun e => hst (one_is e)
      rw [bt_lt hi] at h61 hg
      refine spanE_step hi ?_
      rw [inAttr_parts]
      unfold betwB at hb
      rw [Bool.or_eq_false_iff, decide_eq_false_iff_not] at hb
      exact ⟨hb.1, hb.2, hg, h61⟩
  have h1 : i + 1 ≤ te := by rw [hto2]; exact spanE_le _ _ _
  have h2 : te ≤ s.size := by rw [hto2]; exact spanE_size _ _ _ hi
  refine ⟨h1, h2, ?_⟩
  have hk2 : spanE blankB s te ≤ s.size := spanE_size _ _ _ h2
  have hk1 : te ≤ spanE blankB s te := spanE_le _ _ _
  unfold attrP attrR
  rw [← hto2]
  simp only
  generalize hk : spanE blankB s te = k at *
  by_cases h61 : bt s k = 61
  · rw [if_pos h61, if_pos h61]
    have hkl : k < s.size := by
      rcases Nat.lt_or_ge k s.size with h | h
      · exact h
      · rw [bt_ge h] at h61; omega
    have hm2 : spanE blankB s (k + 1) ≤ s.size := spanE_size _ _ _ hkl
    have hm1 : k + 1 ≤ spanE blankB s (k + 1) := spanE_le _ _ _
    generalize hmm : spanE blankB s (k + 1) = m at *
    unfold valP valR
    by_cases hq : bt s m = 34 ∨ bt s m = 39
    · rw [if_pos hq, if_pos hq]
      have hml : m < s.size := by
        rcases Nat.lt_or_ge m s.size with h | h
        · exact h
        · rw [bt_ge h] at hq; omega
      have hz : (s.extract m (m + 1)).size = 1 := by rw [ByteArray.size_extract]; omega
      cases hf : findE (s.extract m (m + 1)) s (m + 1) with
      | none => simp only; rw [if_pos (by omega)]; trivial
      | some e =>
        obtain ⟨g1, g2, _⟩ := findE_some hf
        have := g2.1
        simp only
        rw [if_neg (by omega)]
        exact ⟨trivial, trivial, by omega, by omega, by omega, by omega, trivial⟩
    · rw [if_neg hq, if_neg hq]
      have := spanE_size inValB s m hm2
      have := spanE_le inValB s m
      simp only
      rw [if_neg (by omega)]
      exact ⟨trivial, trivial, by omega, by omega, by omega, by omega, trivial⟩
  · rw [if_neg h61, if_neg h61]
    simp only
    rw [if_neg (by omega)]
    refine ⟨trivial, trivial, by omega, by omega, by omega, by omega, ?_⟩
    rw [← hk]
    exact spanE_over betwB blankB blank_betw s te
theorem attrsF_span {ok : ByteArray → Bool} {f : Nat} {s : ByteArray} {i j : Nat} {l : List (ByteArray × ByteArray)} (h : spanE betwB s i = spanE betwB s j) : attrsF ok f s i l = attrsF ok f s j l := by
  cases f with
  | zero => rfl
  | succ f => unfold attrsF; rw [h]
end Go.Proofs.YtkaeenafejdkfaaGreatDoor
