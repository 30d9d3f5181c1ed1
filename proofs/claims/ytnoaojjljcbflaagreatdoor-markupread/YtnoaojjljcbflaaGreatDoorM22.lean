/- The program: words are cut. -/
import Derived.Test.YtnoaojjljcbflaaGreatDoorM19
import Derived.Test.YtnoaojjljcbflaaGreatDoorM21
import Derived.Deep.RegionWith
import Derived.BigRegion
import Derived.Test.YtnoaojjljcbflaaGreatDoorM18
import Derived.Test.YtnoaojjljcbflaaGreatDoorM15
namespace Go.Proofs.YtnoaojjljcbflaaGreatDoor
open Go.RowKit

/-- how far words go -/
def wordE (s : ByteArray) (i : Nat) : Nat := if i < s.size then (if kindT (s.extract i s.size) = 1 then wordE s (i + 1) else i) else i
  termination_by s.size - i
theorem wordE_is (s : ByteArray) (i : Nat) (hi : i ≤ s.size) : ∃ e, wordE s i = e ∧ i ≤ e ∧ e ≤ s.size ∧ (∀ k, i ≤ k → k < e → k < s.size ∧ kindT (s.extract k s.size) = 1) ∧ (e < s.size → kindT (s.extract e s.size) ≠ 1) := by
  refine ⟨_, rfl, ?_⟩
  rw [wordE]
  by_cases h : i < s.size
  · rw [if_pos h]
    by_cases hk : kindT (s.extract i s.size) = 1
    · rw [if_pos hk]
      obtain ⟨e, he, h1, h2, h3, h4⟩ := wordE_is s (i + 1) h
      rw [he]
      refine ⟨by omega, h2, fun k a b => ?_, h4⟩
      by_cases hki : k = i
      · subst hki; exact ⟨h, hk⟩
      · exact h3 k (by omega) b
    · rw [if_neg hk]
      exact ⟨Nat.le_refl _, hi, fun k a b => absurd b (by omega), fun _ => hk⟩
  · rw [if_neg h]
    exact ⟨Nat.le_refl _, hi, fun k a b => absurd b (by omega), fun h2 => absurd h2 h⟩
  termination_by s.size - i

set_option maxHeartbeats 4000000 in
set_option maxRecDepth 100000 in
theorem cutWords_any {w : World} {b : Nat} {s : ByteArray} {i : Nat} {raw : ByteArray} (h : SC w b s i raw) (hs : s.size ≤ 100000) (hi : i ≤ s.size) :
    Calls Tryz.prog 137 #[.pointer (some ⟨b, 0, none⟩)] w fun e w' => e = .returned (pcv 1 0 ⟨#[]⟩ (meantS (s.extract i (wordE s i))) (.slice none 0 0)) ∧ Only b w w' ∧ Sc w' b s (wordE s i) raw := by
  obtain ⟨e, E, a1, b1, g1, x1⟩ := wordE_is s i hi
  rw [E]
  have hlt0 := h.sc.lt
  have H := hid (h.alloc emptyPiece)
  have G := hid g1
  have X := hid x1
  obtain ⟨c0, c1, c2, cf⟩ := (h.alloc emptyPiece).sc.cells
  unfold emptyPiece at c0 c1 c2 cf
  clear h g1 x1 E
  go_enter Tryz.func137, Tryz.ntmps137
  go_wp2_with fail
  clear c0 c1 c2 cf
  go_loopg [] (e - i) (fun g wr => ∃ j : Nat, i ≤ j ∧ j ≤ e ∧ g = e - j ∧ Hid (SC wr b s j raw ∧ Only b (w.alloc emptyPiece) wr))
  case atStart => exact ⟨i, by omega, by omega, rfl, hid ⟨H.out, Only.refl _ _⟩⟩
  case round =>
    obtain ⟨j, hj1, hj2, rfl, hB⟩ := hrel
    obtain ⟨c0, c1, c2, cf⟩ := hB.out.1.sc.cells
    by_cases hlt : j < e
    · obtain ⟨hsz, hp⟩ := G.out j hj1 hlt
      have HP := hid hp.symm
      clear hp
      go_wp2_with fail
      go_quiet ((first | (go_at_call 109; exact Calls.quiet_of (atEnd_any (hB.out.1.sc.drew _) false (at_no hsz))) | (go_at_call 133; exact Calls.quiet_of_same (pbegins_any (s.extract j s.size) 1 HP.out _))))
      go_wp2_with fail
      go_roundg (e - (j + 1))
      case measure => omega
      case rel => exact ⟨j + 1, by omega, by omega, rfl, hid ⟨hB.out.1.only (((Only.refl _ _).drew _).set _ _) ((hB.out.1.sc.drew _).set _ _ (by go_num)), (hB.out.2.drew _).set _ _⟩⟩
    · obtain rfl : j = e := by omega
      have hlt' := hlt0
      by_cases hsz : j < s.size
      · obtain ⟨q, hq⟩ : ∃ q, q = kindT (s.extract j s.size) := ⟨_, rfl⟩
        have hne : (q == 1) = false := by rw [beq_eq_false_iff_ne, hq]; exact X.out hsz
        have HQ := hid hq
        clear hq
        go_wp2_with fail
        go_quiet ((first | (go_at_call 109; exact Calls.quiet_of (atEnd_any (hB.out.1.sc.drew _) false (at_no hsz))) | (go_at_call 133; exact Calls.quiet_of_same (pbegins_any (s.extract j s.size) q HQ.out _))))
        go_wp2_with fail
        obtain ⟨m, hm⟩ := hB.out.1.max
        have hes : (s.extract i j).size ≤ 100000 := by rw [ByteArray.size_extract]; omega
        have HR := hid (res_block hlt' hB.out.2)
        have hlt2 : w.heap.size < wr.heap.size := size_of HR.out
        go_region_with ((go_at_call 163; refine (resolve_any (s.extract i j) hes m (wr.drewN _) hm).mono ?_; rintro e w5 ⟨rfl, hB5⟩; have hR5 : w5.heap[w.heap.size]? = some emptyPiece := (hB5.block w.heap.size hlt2).trans HR.out; obtain ⟨d0, d1, d2, d3, d4, df⟩ := five_cells hR5; have H5 : Hid (Only b (w.alloc emptyPiece) w5 ∧ Sc w5 b s j raw) := ⟨(hB.out.2.drew _).trans (Only.of hB5), (hB.out.1.sc.drew _).below hB.out.1.sc.lt hB5⟩; clear hR5 hB5))
        all_goals (
          go_wp2_with fail
          refine bodyPost_ret (v := pcv 1 0 ⟨#[]⟩ (meantS (s.extract i j)) (.slice none 0 0)) ?_ rfl ⟨rfl, ?_, ?_⟩
          · simp [results, Tryz.results137, go_sem, d0, d1, d2, d3, d4]
            try rfl
          · exact ((((((Only.alloc (b := b) emptyPiece).trans H5.out.1).sets (Nat.le_refl _) _ _).sets (Nat.le_refl _) _ _).sets (Nat.le_refl _) _ _).sets (Nat.le_refl _) _ _).sets (Nat.le_refl _) _ _
          · have hn : b ≠ w.heap.size := by omega
            exact ((((H5.out.2.sets hn _ _).sets hn _ _).sets hn _ _).sets hn _ _).sets hn _ _)
      · obtain rfl : j = s.size := by omega
        go_wp2_with fail
        go_quiet ((go_at_call 109; exact Calls.quiet_of (atEnd_any (hB.out.1.sc.drew _) true (at_end rfl))))
        go_wp2_with fail
        obtain ⟨m, hm⟩ := hB.out.1.max
        have hes : (s.extract i s.size).size ≤ 100000 := by rw [ByteArray.size_extract]; omega
        have HR := hid (res_block hlt' hB.out.2)
        have hlt2 : w.heap.size < wr.heap.size := size_of HR.out
        go_region_with ((go_at_call 163; refine (resolve_any (s.extract i s.size) hes m (wr.drewN _) hm).mono ?_; rintro e w5 ⟨rfl, hB5⟩; have hR5 : w5.heap[w.heap.size]? = some emptyPiece := (hB5.block w.heap.size hlt2).trans HR.out; obtain ⟨d0, d1, d2, d3, d4, df⟩ := five_cells hR5; have H5 : Hid (Only b (w.alloc emptyPiece) w5 ∧ Sc w5 b s s.size raw) := ⟨(hB.out.2.drew _).trans (Only.of hB5), (hB.out.1.sc.drew _).below hB.out.1.sc.lt hB5⟩; clear hR5 hB5))
        all_goals (
          go_wp2_with fail
          refine bodyPost_ret (v := pcv 1 0 ⟨#[]⟩ (meantS (s.extract i s.size)) (.slice none 0 0)) ?_ rfl ⟨rfl, ?_, ?_⟩
          · simp [results, Tryz.results137, go_sem, d0, d1, d2, d3, d4]
            try rfl
          · exact ((((((Only.alloc (b := b) emptyPiece).trans H5.out.1).sets (Nat.le_refl _) _ _).sets (Nat.le_refl _) _ _).sets (Nat.le_refl _) _ _).sets (Nat.le_refl _) _ _).sets (Nat.le_refl _) _ _
          · have hn : b ≠ w.heap.size := by omega
            exact ((((H5.out.2.sets hn _ _).sets hn _ _).sets hn _ _).sets hn _ _).sets hn _ _)
end Go.Proofs.YtnoaojjljcbflaaGreatDoor

/- The program: whether an end tag stands there that a raw element's text goes up to. -/
namespace Go.Proofs.YtnoaojjljcbflaaGreatDoor
open Go.RowKit

def endT (raw : ByteArray) : ByteArray := ⟨#[60, 47]⟩ ++ raw
theorem endT_size (raw : ByteArray) : (endT raw).size = 2 + raw.size := by unfold endT; rw [ByteArray.size_append]; rfl
theorem endT_list (raw : ByteArray) : (endT raw).data.toList = 60 :: 47 :: raw.data.toList := by unfold endT; simp
theorem low_same {c d : UInt8} (hd : ¬ (97 ≤ d.toNat ∧ d.toNat ≤ 122)) (h : lowerB c = d) : c = d := by
  unfold lowerB at h
  split at h
  · rename_i hc
    exfalso
    apply hd
    have : (c + 32).toNat = c.toNat + 32 := by rw [UInt8.toNat_add]; simp; omega
    rw [← h, this]
    omega
  · exact h
theorem low_keep {d : UInt8} (hd : ¬ (65 ≤ d.toNat ∧ d.toNat ≤ 90)) : lowerB d = d := by unfold lowerB; rw [if_neg hd]
/-- the two sides ask the same -/
theorem raw_same {s raw : ByteArray} {i : Nat} (h : i + 2 + raw.size ≤ s.size) : (smallS (s.extract i (i + 2 + raw.size)) = endT raw) ↔ (s.extract i (i + 2) = ⟨#[60, 47]⟩ ∧ smallS (s.extract (i + 2) (i + 2 + raw.size)) = raw) := by
  have e1 : ∀ a b : ByteArray, a = b ↔ a.data.toList = b.data.toList := fun a b => ⟨fun h => by rw [h], fun h => ByteArray.ext (Array.toList_inj.mp h)⟩
  rw [e1, e1, e1, endT_list]
  unfold smallS smallL
  simp only [ext_list]
  have hd : s.data.toList.drop i = (s.data.toList.drop i).take 2 ++ s.data.toList.drop (i + 2) := by
    rw [← List.drop_drop, List.take_append_drop]
  have h2 : ((s.data.toList.drop i).take 2).length = 2 := by simp; omega
  obtain ⟨a, b, hab⟩ : ∃ a b, (s.data.toList.drop i).take 2 = [a, b] := by
    generalize (s.data.toList.drop i).take 2 = l at h2
    match l, h2 with
    | [a, b], _ => exact ⟨a, b, rfl⟩
  have e2 : (s.data.toList.drop i).take (i + 2 + raw.size - i) = a :: b :: (s.data.toList.drop (i + 2)).take (i + 2 + raw.size - (i + 2)) := by
    rw [hd, hab, show i + 2 + raw.size - i = raw.size + 1 + 1 by omega, show i + 2 + raw.size - (i + 2) = raw.size by omega]
    rfl
  rw [e2, show i + 2 - i = 2 by omega, hab]
  simp only [List.map_cons]
  constructor
  · intro h
    injection h with h1 h
    injection h with h2 h
    exact ⟨by rw [low_same (by decide) h1, low_same (by decide) h2], h⟩
  · rintro ⟨h1, h⟩
    injection h1 with h1 h3
    injection h3 with h3 _
    subst h1
    subst h3
    rw [h]
    rfl

theorem below_dr {B : Nat} {a w : World} (h : Below B a w) (n : Nat) : Below B a (w.drewN n) := ⟨h.os, h.tape, h.output, h.size, h.block⟩
theorem ext_take (s : ByteArray) (i m : Nat) (_h : i + m ≤ s.size) : (s.extract i s.size).extract 0 m = s.extract i (i + m) := by
  apply ByteArray.ext
  apply Array.toList_inj.mp
  rw [ext_list, ext_list, ext_list]
  simp [List.take_take]
  try omega
theorem ext_byte (s : ByteArray) (i m : Nat) (h : i + m < s.size) (h2 : m < (s.extract i s.size).size) : (s.extract i s.size)[m].toNat = bt s (i + m) := by
  rw [bt_lt h, ByteArray.getElem_extract]

set_option maxHeartbeats 4000000 in
set_option maxRecDepth 100000 in
theorem endsRaw_any {w : World} {b : Nat} {s : ByteArray} {i : Nat} {raw r0 : ByteArray} (h : Sc w b s i r0) (_hs : s.size ≤ 100000) (hi : i ≤ s.size) (hr : raw.size ≤ 100) (en : ByteArray) (hen : en = endT raw) (v : Bool) (hv : decide (rawHit s raw i) = v) :
    Calls Tryz.prog 154 #[.pointer (some ⟨b, 0, none⟩), .string en] w fun e w' => e = .returned (.bool v) ∧ Below w.heap.size w w' := by
  have hes : en.size = 2 + raw.size := by rw [hen]; exact endT_size raw
  have hrs : (s.extract i s.size).size = s.size - i := by rw [ByteArray.size_extract]; omega
  obtain ⟨c0, c1, c2, cf⟩ := h.cells
  by_cases hA : i + 2 + raw.size ≤ s.size
  rotate_left
  · have H : Hid (v = false) := by show _ = _; rw [← hv, decide_eq_false_iff_not]; exact fun h => hA h.1
    clear h hen hv
    go_enter Tryz.func154, Tryz.ntmps154
    go_wp2_with fail
    go_quiet (fail)
    go_wp2_with fail
    all_goals go_light
    all_goals first
      | (go_ret; exact ⟨retb H.out.symm, below_dr (Below.refl _ _) _⟩)
      | (exfalso; simp_all; done)
      | (exfalso; omega)
  · have hx : (s.extract i s.size).extract 0 (2 + raw.size) = s.extract i (i + 2 + raw.size) := by rw [ext_take s i (2 + raw.size) (by omega), Nat.add_assoc]
    have hxs : ((s.extract i s.size).extract 0 (2 + raw.size)).size ≤ 100000 := by rw [ByteArray.size_extract]; omega
    have HX := hid hx
    have HXS := hid hxs
    have HQ := hid (raw_same hA)
    clear hx hxs
    by_cases hq : smallS (s.extract i (i + 2 + raw.size)) = en
    rotate_left
    · have H : Hid (v = false) := by
        show _ = _
        rw [← hv, decide_eq_false_iff_not]
        intro hh
        exact hq (by rw [hen]; exact HQ.out.2 ⟨hh.2.1, hh.2.2.1⟩)
      have hne : ¬ (smallS (s.extract i (i + 2 + raw.size))).toList = en.toList := fun e => hq (toList_inj' e)
      clear h hen hv hq HQ
      go_enter Tryz.func154, Tryz.ntmps154
      go_wp2_with fail
      go_quiet (fail)
      go_wp2_with (go_at_call 158; refine (lower_any _ HXS.out _).mono ?_; rintro e w3 ⟨rfl, hB3⟩; rw [HX.out]; have HB3 := hid hB3; clear hB3)
      all_goals go_light
      all_goals first
        | (go_ret; exact ⟨retb H.out.symm, (below_dr (Below.refl _ _) _).trans HB3.out⟩)
        | (exfalso; simp_all; done)
        | (exfalso; omega)
    · have he2 := hq
      by_cases hz : i + 2 + raw.size = s.size
      · have H : Hid (v = true) := by
          show _ = _
          rw [← hv, decide_eq_true_eq]
          have := HQ.out.1 (by rw [← hen]; exact hq)
          exact ⟨hA, this.1, this.2, .inl hz⟩
        have HE := hid he2
        clear h hen hv hq HQ he2
        go_enter Tryz.func154, Tryz.ntmps154
        go_wp2_with fail
        go_quiet (fail)
        go_wp2_with (go_at_call 158; refine (lower_any _ HXS.out _).mono ?_; rintro e w3 ⟨rfl, hB3⟩; rw [HX.out, HE.out]; have HB3 := hid hB3; clear hB3)
        all_goals go_light
        all_goals first
          | (go_ret; exact ⟨retb H.out.symm, (below_dr (Below.refl _ _) _).trans HB3.out⟩)
          | (exfalso; simp_all; done)
          | (exfalso; omega)
      · obtain ⟨c, hc⟩ : ∃ c, s[i + 2 + raw.size].toNat = c := ⟨_, rfl⟩
        have hbt : bt s (i + 2 + raw.size) = c := by rw [bt_lt (by omega), hc]
        have hlt2 : 2 + raw.size < (s.extract i s.size).size := by omega
        have hcc : ((s.extract i s.size)[2 + raw.size]).toNat = c := by
          rw [ByteArray.getElem_extract, ← hc]
          congr 2
          omega
        have H : Hid (v = !inTagB c) := by
          show _ = _
          rw [← hv]
          have := HQ.out.1 (by rw [← hen]; exact hq)
          cases hp : inTagB c
          · rw [Bool.not_false, decide_eq_true_eq]
            exact ⟨hA, this.1, this.2, .inr (by rw [hbt]; exact hp)⟩
          · rw [Bool.not_true, decide_eq_false_iff_not]
            rintro ⟨_, _, _, h4 | h4⟩
            · exact hz h4
            · rw [hbt, hp] at h4; cases h4
        have HE := hid he2
        have HC := hid hcc
        clear h hen hv hq HQ he2 hcc hc hbt
        go_enter Tryz.func154, Tryz.ntmps154
        go_wp2_with fail
        go_quiet (fail)
        go_wp2_with (first | (go_at_call 158; refine (lower_any _ HXS.out _).mono ?_; rintro e w3 ⟨rfl, hB3⟩; rw [HX.out, HE.out]; have HB3 := hid hB3; clear hB3) | (go_at_call 160; refine (pinTag_any _ _).mono ?_; rintro e w4 ⟨rfl, rfl⟩; rw [HC.out]))
        all_goals go_light
        all_goals first
          | (go_ret; refine ⟨retb ?_, (below_dr (Below.refl _ _) _).trans HB3.out⟩; rw [H.out]; cases inTagB c <;> simp <;> omega)
          | (exfalso; simp_all; done)
          | (exfalso; omega)
end Go.Proofs.YtnoaojjljcbflaaGreatDoor

/- The program: what a raw element says. -/
namespace Go.Proofs.YtnoaojjljcbflaaGreatDoor
open Go.RowKit

theorem rawE_is (s name : ByteArray) (i : Nat) (hi : i ≤ s.size) : ∃ e, rawE s name i = e ∧ i ≤ e ∧ e ≤ s.size ∧ (∀ k, i ≤ k → k < e → k < s.size ∧ ¬ rawHit s name k) ∧ (e < s.size → rawHit s name e) := by
  refine ⟨_, rfl, ?_⟩
  by_cases h : i < s.size
  · by_cases hk : rawHit s name i
    · rw [rawE_hit h hk]
      exact ⟨Nat.le_refl _, hi, fun k a b => absurd b (by omega), fun _ => hk⟩
    · rw [rawE_step h hk]
      obtain ⟨e, he, h1, h2, h3, h4⟩ := rawE_is s name (i + 1) h
      rw [he]
      refine ⟨by omega, h2, fun k a b => ?_, h4⟩
      by_cases hki : k = i
      · subst hki; exact ⟨h, hk⟩
      · exact h3 k (by omega) b
  · rw [rawE_end (by omega)]
    exact ⟨Nat.le_refl _, hi, fun k a b => absurd b (by omega), fun h2 => absurd h2 h⟩
  termination_by s.size - i
theorem Only.drew1 {b : Nat} {w w' : World} (h : Only b w w') : Only b w w'.drew := ⟨h.os, h.tape, h.output, h.size, h.block⟩
theorem Sc.drew1 {w : World} {b : Nat} {s : ByteArray} {i : Nat} {raw : ByteArray} (h : Sc w b s i raw) : Sc w.drew b s i raw := h
theorem atEnd_bel {w : World} {b : Nat} {s : ByteArray} {i : Nat} {raw : ByteArray} (h : Sc w b s i raw) (r : Bool) (hr : decide (i = s.size) = r) :
    Calls Tryz.prog 109 #[.pointer (some ⟨b, 0, none⟩)] w fun e w' => e = .returned (.bool r) ∧ Below w.heap.size w w' :=
  (atEnd_any h r hr).mono fun e w' ⟨h1, m, h2⟩ => ⟨h1, by subst h2; exact below_dr (Below.refl _ _) _⟩
theorem Sc.setRaw {w : World} {b : Nat} {s : ByteArray} {i : Nat} {raw : ByteArray} (h : Sc w b s i raw) (r : ByteArray) : Sc (w.setCell ⟨b, 2, none⟩ (.string r)) b s i r := by
  unfold Sc at h ⊢
  simp [World.setCell, Array.getElem?_modify, h]
/-- what a raw element says, as a piece -/
def rawV (s : ByteArray) (i e : Nat) : Value := if e = i then pcv 0 0 ⟨#[]⟩ ⟨#[]⟩ (.slice none 0 0) else pcv 1 0 ⟨#[]⟩ (s.extract i e) (.slice none 0 0)

set_option maxHeartbeats 4000000 in
set_option maxRecDepth 100000 in
theorem cutRaw_any {w : World} {b : Nat} {s : ByteArray} {i : Nat} {raw : ByteArray} (h : SC w b s i raw) (hs : s.size ≤ 100000) (hi : i ≤ s.size) (hr : raw.size ≤ 100) :
    Calls Tryz.prog 132 #[.pointer (some ⟨b, 0, none⟩)] w fun e w' => e = .returned (rawV s i (rawE s raw i)) ∧ Only b w w' ∧ Sc w' b s (rawE s raw i) ⟨#[]⟩ := by
  obtain ⟨e, E, a1, b1, g1, x1⟩ := rawE_is s raw i hi
  rw [E]
  have hlt0 := h.sc.lt
  have H := hid (h.alloc emptyPiece)
  have G := hid g1
  have X := hid x1
  obtain ⟨c0, c1, c2, cf⟩ := (h.alloc emptyPiece).sc.cells
  unfold emptyPiece at c0 c1 c2 cf
  obtain ⟨en, hen⟩ : ∃ en, en = endT raw := ⟨_, rfl⟩
  have hen2 : (⟨#[60, 47]⟩ : ByteArray) ++ raw = en := by rw [hen]; rfl
  have HEN := hid hen
  clear h g1 x1 E hen
  go_enter Tryz.func132, Tryz.ntmps132
  go_wp2_with fail
  go_quiet (fail)
  go_wp2_with fail
  clear c0 c1 c2 cf hen2
  go_loopg [] (e - i) (fun g wr => ∃ j : Nat, i ≤ j ∧ j ≤ e ∧ g = e - j ∧ Hid (SC wr b s j ⟨#[]⟩ ∧ Only b (w.alloc emptyPiece) wr))
  case atStart => exact ⟨i, by omega, by omega, rfl, hid ⟨H.out.only (((Only.refl _ _).drew _).set _ _) ((H.out.sc.drew _).setRaw _), ((Only.refl _ _).drew _).set _ _⟩⟩
  case round =>
    obtain ⟨j, hj1, hj2, rfl, hB⟩ := hrel
    obtain ⟨c0, c1, c2, cf⟩ := hB.out.1.sc.cells
    by_cases hlt : j < e
    · obtain ⟨hsz, hp⟩ := G.out j hj1 hlt
      have HP : Hid (decide (rawHit s raw j) = false) := by show _ = _; rw [decide_eq_false_iff_not]; exact hp
      clear hp
      go_wp2_with (first | (go_at_call 109; refine (atEnd_any hB.out.1.sc false (at_no hsz)).mono ?_; rintro e w1 ⟨rfl, m1, rfl⟩) | (go_at_call 154; refine (endsRaw_any (hB.out.1.sc.drew m1) hs (by omega) hr en HEN.out false HP.out).mono ?_; rintro e w2 ⟨rfl, hB2⟩; have hS2 := (hB.out.1.sc.drew m1).below (hB.out.1.sc.drew m1).lt hB2; obtain ⟨c0', c1', c2', cf'⟩ := hS2.cells; have HB2 : Hid (SC w2 b s j ⟨#[]⟩ ∧ Only b (w.alloc emptyPiece) w2) := ⟨hB.out.1.only (((Only.refl _ _).drew _).trans (Only.of hB2)) hS2, (hB.out.2.drew _).trans (Only.of hB2)⟩; clear hB2 hS2))
      go_roundg (e - (j + 1))
      case measure => omega
      case rel => exact ⟨j + 1, by omega, by omega, rfl, hid ⟨HB2.out.1.only ((Only.refl _ _).set _ _) (HB2.out.1.sc.set _ _ (by go_num)), HB2.out.2.set _ _⟩⟩
    · obtain rfl : j = e := by omega
      have hn : b ≠ w.heap.size := by omega
      by_cases hsz : j < s.size
      · have HP : Hid (decide (rawHit s raw j) = true) := by show _ = _; rw [decide_eq_true_eq]; exact X.out hsz
        by_cases hji : j = i
        · have hjq : (j : Int) = (i : Int) := by omega
          go_wp2_with (first | (go_at_call 109; refine (atEnd_any hB.out.1.sc false (at_no hsz)).mono ?_; rintro e w1 ⟨rfl, m1, rfl⟩) | (go_at_call 154; refine (endsRaw_any (hB.out.1.sc.drew m1) hs (by omega) hr en HEN.out true HP.out).mono ?_; rintro e w2 ⟨rfl, hB2⟩; have hS2 := (hB.out.1.sc.drew m1).below (hB.out.1.sc.drew m1).lt hB2; obtain ⟨c0', c1', c2', cf'⟩ := hS2.cells; have HB2 : Hid (SC w2 b s j ⟨#[]⟩ ∧ Only b (w.alloc emptyPiece) w2) := ⟨hB.out.1.only (((Only.refl _ _).drew _).trans (Only.of hB2)) hS2, (hB.out.2.drew _).trans (Only.of hB2)⟩; have hR := res_block hlt0 HB2.out.2; obtain ⟨d0, d1, d2, d3, d4, df⟩ := five_cells hR; clear hB2 hS2 hR))
          refine bodyPost_ret (v := pcv 0 0 ⟨#[]⟩ ⟨#[]⟩ (.slice none 0 0)) ?_ rfl ⟨by unfold rawV; rw [if_pos hji], ?_, ?_⟩
          · simp [results, Tryz.results132, go_sem, d0, d1, d2, d3, d4]
            try rfl
          · exact ((((((Only.alloc (b := b) emptyPiece).trans HB2.out.2).sets (Nat.le_refl _) _ _).sets (Nat.le_refl _) _ _).sets (Nat.le_refl _) _ _).sets (Nat.le_refl _) _ _).sets (Nat.le_refl _) _ _
          · exact ((((HB2.out.1.sc.sets hn _ _).sets hn _ _).sets hn _ _).sets hn _ _).sets hn _ _
        · have hjq : ¬ (j : Int) = (i : Int) := by omega
          go_wp2_with (first | (go_at_call 109; refine (atEnd_any hB.out.1.sc false (at_no hsz)).mono ?_; rintro e w1 ⟨rfl, m1, rfl⟩) | (go_at_call 154; refine (endsRaw_any (hB.out.1.sc.drew m1) hs (by omega) hr en HEN.out true HP.out).mono ?_; rintro e w2 ⟨rfl, hB2⟩; have hS2 := (hB.out.1.sc.drew m1).below (hB.out.1.sc.drew m1).lt hB2; obtain ⟨c0', c1', c2', cf'⟩ := hS2.cells; have HB2 : Hid (SC w2 b s j ⟨#[]⟩ ∧ Only b (w.alloc emptyPiece) w2) := ⟨hB.out.1.only (((Only.refl _ _).drew _).trans (Only.of hB2)) hS2, (hB.out.2.drew _).trans (Only.of hB2)⟩; have hR := res_block hlt0 HB2.out.2; obtain ⟨d0, d1, d2, d3, d4, df⟩ := five_cells hR; clear hB2 hS2 hR))
          go_region
          all_goals go_wp2_with fail
          all_goals (
            refine bodyPost_ret (v := pcv 1 0 ⟨#[]⟩ (s.extract i j) (.slice none 0 0)) ?_ rfl ⟨by unfold rawV; rw [if_neg hji], ?_, ?_⟩
            · simp [results, Tryz.results132, go_sem, d0, d1, d2, d3, d4]
              try rfl
            · exact (((((((Only.alloc (b := b) emptyPiece).trans HB2.out.2).sets (Nat.le_refl _) _ _).sets (Nat.le_refl _) _ _).sets (Nat.le_refl _) _ _).sets (Nat.le_refl _) _ _).sets (Nat.le_refl _) _ _).drew1
            · exact (((((HB2.out.1.sc.sets hn _ _).sets hn _ _).sets hn _ _).sets hn _ _).sets hn _ _).drew1)
      · clear X
        by_cases hji : j = i
        · have hjq : (j : Int) = (i : Int) := by omega
          go_wp2_with ((go_at_call 109; refine (atEnd_bel hB.out.1.sc true (at_end (by omega))).mono ?_; rintro e w2 ⟨rfl, hB2⟩; have hS2 := hB.out.1.sc.below hB.out.1.sc.lt hB2; obtain ⟨c0', c1', c2', cf'⟩ := hS2.cells; have HB2 : Hid (SC w2 b s j ⟨#[]⟩ ∧ Only b (w.alloc emptyPiece) w2) := ⟨hB.out.1.only (Only.of hB2) hS2, hB.out.2.trans (Only.of hB2)⟩; clear hB2; have hR := res_block hlt0 HB2.out.2; obtain ⟨d0, d1, d2, d3, d4, df⟩ := five_cells hR; clear hS2 hR))
          refine bodyPost_ret (v := pcv 0 0 ⟨#[]⟩ ⟨#[]⟩ (.slice none 0 0)) ?_ rfl ⟨by unfold rawV; rw [if_pos hji], ?_, ?_⟩
          · simp [results, Tryz.results132, go_sem, d0, d1, d2, d3, d4]
            try rfl
          · exact ((((((Only.alloc (b := b) emptyPiece).trans HB2.out.2).sets (Nat.le_refl _) _ _).sets (Nat.le_refl _) _ _).sets (Nat.le_refl _) _ _).sets (Nat.le_refl _) _ _).sets (Nat.le_refl _) _ _
          · exact ((((HB2.out.1.sc.sets hn _ _).sets hn _ _).sets hn _ _).sets hn _ _).sets hn _ _
        · have hjq : ¬ (j : Int) = (i : Int) := by omega
          go_wp2_with ((go_at_call 109; refine (atEnd_bel hB.out.1.sc true (at_end (by omega))).mono ?_; rintro e w2 ⟨rfl, hB2⟩; have hS2 := hB.out.1.sc.below hB.out.1.sc.lt hB2; obtain ⟨c0', c1', c2', cf'⟩ := hS2.cells; have HB2 : Hid (SC w2 b s j ⟨#[]⟩ ∧ Only b (w.alloc emptyPiece) w2) := ⟨hB.out.1.only (Only.of hB2) hS2, hB.out.2.trans (Only.of hB2)⟩; clear hB2; have hR := res_block hlt0 HB2.out.2; obtain ⟨d0, d1, d2, d3, d4, df⟩ := five_cells hR; clear hS2 hR))
          go_region
          all_goals go_wp2_with fail
          all_goals (
            refine bodyPost_ret (v := pcv 1 0 ⟨#[]⟩ (s.extract i j) (.slice none 0 0)) ?_ rfl ⟨by unfold rawV; rw [if_neg hji], ?_, ?_⟩
            · simp [results, Tryz.results132, go_sem, d0, d1, d2, d3, d4]
              try rfl
            · exact (((((((Only.alloc (b := b) emptyPiece).trans HB2.out.2).sets (Nat.le_refl _) _ _).sets (Nat.le_refl _) _ _).sets (Nat.le_refl _) _ _).sets (Nat.le_refl _) _ _).sets (Nat.le_refl _) _ _).drew1
            · exact (((((HB2.out.1.sc.sets hn _ _).sets hn _ _).sets hn _ _).sets hn _ _).sets hn _ _).drew1)
end Go.Proofs.YtnoaojjljcbflaaGreatDoor
