/- The program: a builder of texts: bytes. -/
import Derived.Test.YtkaeenafejdkfaaGreatDoorM07
import Derived.Laws.AppendOwn
import Derived.Lib.RuneBytes
import Derived.Test.YtkaeenafejdkfaaGreatDoorM17
import Derived.Deep.RegionWith
import Derived.BigRegion
import Derived.Test.YtkaeenafejdkfaaGreatDoorM11
namespace Go.Proofs.YtkaeenafejdkfaaGreatDoor
open Go.RowKit

set_option maxHeartbeats 4000000 in
set_option maxRecDepth 100000 in
theorem writeByte_any (B b : Nat) (bs : List Value) (c : Int) (w : World) (h : Lib.IsBuilderF 130 5 B b bs w) (hlen : bs.length + 1 ≤ 1000000) (hBw : B ≤ w.heap.size) :
    Calls Tryz.prog 180 #[.pointer (some ⟨b, 0, none⟩), .int .u8 c] w fun e w' => e = .returned (.nilIface) ∧ (Lib.BuilderAtF 130 5 B b (.pointer (some ⟨b, 0, none⟩)) (bs ++ [.int .u8 c]) w' ∧ Below B w w') := by
  obtain ⟨i0, hi, hz0, hz1, hz2⟩ := byte_info
  go_enter Tryz.func180, Tryz.ntmps180
  go_wp2_with fail
  refine (copyCheck_any B b bs _ h).mono ?_
  rintro e w1 ⟨rfl, h1, hb1⟩
  obtain ⟨hB, v, hbk, hown, hne⟩ := h1
  have c0 : w1.cell? ⟨b, 0, none⟩ = some (.pointer (some ⟨b, 0, none⟩)) := by rw [Lib.cell_of_heap hbk]; rfl
  have c1 : w1.cell? ⟨b, 1, none⟩ = some v := by rw [Lib.cell_of_heap hbk]; rfl
  go_wp2_with (at_builtin; refine wpList_append_ownF _ rfl _ _ 128 rfl B 5 i0 (.int .u8 0) 1 1 Tryz.underlying128 hi hz0 hz1 hz2 rfl (by decide) _ _ _ rfl (hown.alloc _) ⟨w1.heap.size, 0, none⟩ 1 1 [.int .u8 c] rfl rfl ?c1 ?c2 ?c3 ?c4 ?c5 ?_)
  case c1 =>
    intro j u hj
    match j, hj with
    | 0, hj => simp at hj; subst hj; simp [Addr.add]
  case c2 => intro u hu; simp at hu; subst hu; rfl
  case c3 => unfold maxLen; omega
  case c4 => omega
  case c5 => have := hb1.size; simp; omega
  intro v' w2 hown' hgrow _
  have hlt : b < w1.heap.size := size_of hbk
  have hb2 : w2.heap[b]? = some (.cells #[.pointer (some ⟨b, 0, none⟩), v] 130 (0, 0)) := by
    rw [hgrow.block b (by simp; omega) (fun e => hne e.symm), Below.heap_alloc w1 _ b hlt]
    exact hbk
  have d0 : w2.cell? ⟨b, 0, none⟩ = some (.pointer (some ⟨b, 0, none⟩)) := by rw [Lib.cell_of_heap hb2]; rfl
  have d1 : w2.cell? ⟨b, 1, none⟩ = some v := by rw [Lib.cell_of_heap hb2]; rfl
  have f1 : w2.frozen? ⟨b, 1, none⟩ = false := Lib.frozen_of_heap hb2 1
  obtain ⟨g, cap, rfl⟩ : ∃ g cap, v' = .slice (some ⟨g, 0, none⟩) (bs.length + 1) cap := by
    rcases hown'.2 with ⟨_, h0⟩ | ⟨g, cap, cur, fz, hv, _⟩
    · omega
    · exact ⟨g, cap, hv⟩
  have HO := hid hown'
  have HG := hid hgrow
  have HW := hid hown
  clear hown' hgrow hown
  go_wp2_with fail
  go_ret
  refine ⟨rfl, ?_, ?_⟩
  · exact Lib.BuilderAtF.put (T := 130) (e := 5) hB hb2 (bs' := bs ++ [.int .u8 c]) (by simpa using HO.out) (by decide)
  · exact ((hb1.alloc (by have := hb1.size; omega) _).grown HG.out (by have := hb1.size; simp; omega) (fun k hk => (HW.out.lt k hk).1)).setCell (p := ⟨b, 1, none⟩) hB _
end Go.Proofs.YtkaeenafejdkfaaGreatDoor

/- The program: a builder of texts: runes. -/
namespace Go.Proofs.YtkaeenafejdkfaaGreatDoor
open Go.RowKit

set_option maxHeartbeats 4000000 in
set_option maxRecDepth 100000 in
theorem writeRune_any (B b : Nat) (bs : List Value) (r : Int) (hr0 : 0 ≤ r) (hr1 : r ≤ 1114111) (w : World) (h : Lib.IsBuilderF 130 5 B b bs w) (hlen : bs.length + 4 ≤ 1000000) (hBw : B ≤ w.heap.size) :
    Calls Tryz.prog 179 #[.pointer (some ⟨b, 0, none⟩), .int .i32 r] w fun e w' => e = .returned (.tuple #[.int .i64 (Lib.runeCells r).length, .nilIface]) ∧ (Lib.BuilderAtF 130 5 B b (.pointer (some ⟨b, 0, none⟩)) (bs ++ Lib.runeCells r) w' ∧ Below B w w') := by
  have hk4 := Lib.runeCells_le r
  go_enter Tryz.func179, Tryz.ntmps179
  go_wp2_with fail
  refine (copyCheck_any B b bs _ h).mono ?_
  rintro e w1 ⟨rfl, h1, hb1⟩
  obtain ⟨hB, v, hbk, hown, hne⟩ := h1
  obtain ⟨ao, cap, rfl⟩ : ∃ ao cap, v = .slice ao bs.length cap := by
    rcases hown.2 with ⟨hv, h0⟩ | ⟨g, cap, cur, fz, hv, _⟩
    · exact ⟨none, 0, by rw [hv, h0]⟩
    · exact ⟨_, _, hv⟩
  have c0 : w1.cell? ⟨b, 0, none⟩ = some (.pointer (some ⟨b, 0, none⟩)) := by rw [Lib.cell_of_heap hbk]; rfl
  have c1 : w1.cell? ⟨b, 1, none⟩ = some (.slice ao bs.length cap) := by rw [Lib.cell_of_heap hbk]; rfl
  go_wp2_with fail
  refine (Tryz.utf8_AppendRune_row B _ bs.length bs r (by omega) (by omega) _ hown (by omega) (by have := hb1.size; omega)).mono ?_
  rintro e w2 ⟨v', rfl, hown', o, hgrow⟩
  have hlt : b < w1.heap.size := size_of hbk
  have hb2 : w2.heap[b]? = some (.cells #[.pointer (some ⟨b, 0, none⟩), .slice ao bs.length cap] 130 (0, 0)) := by
    rw [hgrow.block b (by simp; omega) (fun e => hne e.symm), Below.heap_alloc w1 _ b hlt]
    exact hbk
  have d0 : w2.cell? ⟨b, 0, none⟩ = some (.pointer (some ⟨b, 0, none⟩)) := by rw [Lib.cell_of_heap hb2]; rfl
  have d1 : w2.cell? ⟨b, 1, none⟩ = some (.slice ao bs.length cap) := by rw [Lib.cell_of_heap hb2]; rfl
  have f1 : w2.frozen? ⟨b, 1, none⟩ = false := Lib.frozen_of_heap hb2 1
  obtain ⟨ao', cap', rfl⟩ : ∃ ao' cap', v' = .slice ao' (bs.length + (Lib.runeCells r).length) cap' := by
    rcases hown'.2 with ⟨hv, h0⟩ | ⟨g, cap, cur, fz, hv, _⟩
    · exact ⟨none, 0, by rw [hv, h0]⟩
    · exact ⟨_, _, hv⟩
  have HO := hid hown'
  have HG := hid hgrow
  have HW := hid hown
  clear hown' hgrow hown
  go_wp2_with fail
  go_ret2
  refine ⟨?_, ?_, ?_⟩
  · have e : ((bs.length : Int) + ((Lib.runeCells r).length : Int) - (bs.length : Int)) = ((Lib.runeCells r).length : Int) := by omega
    simp [e]
  · exact Lib.BuilderAtF.put (T := 130) (e := 5) hB hb2 (bs' := bs ++ Lib.runeCells r) (by simpa using HO.out) (by decide)
  · exact ((hb1.alloc (by have := hb1.size; omega) _).grown HG.out (by have := hb1.size; simp; omega) (fun k hk => (HW.out.lt k hk).1)).setCell (p := ⟨b, 1, none⟩) hB _
theorem u8v {x : Int} {n : Nat} (h : x = n) (hn : n < 256) : Value.int .u8 x = Value.int .u8 ((UInt8.ofNat n).toNat : Int) := by
  subst h
  congr 1
  simp
  omega
/-- a rune's bytes, in the library's words and in mine -/
theorem runeZ (r : Int) (h0 : 0 ≤ r) (h1 : r ≤ 1114111) (hv : r < 55296 ∨ 57343 < r) : Lib.runeCells r = Lib.byteCells (runeL r.toNat) := by
  unfold Lib.runeCells Lib.byteCells runeL
  by_cases a1 : r ≤ 127
  · rw [Lib.encodeRuneZ_one h0 a1, if_pos (by omega)]
    simp only [List.map_cons, List.map_nil]
    rw [u8v (n := r.toNat) (by omega) (by omega)]
  by_cases a2 : r ≤ 2047
  · rw [Lib.encodeRuneZ_two (by omega) a2, if_neg (by omega), if_pos (by omega)]
    simp only [List.map_cons, List.map_nil]
    rw [u8v (n := 192 + r.toNat / 64) (by omega) (by omega), u8v (x := 128 + r % 64) (n := 128 + r.toNat % 64) (by omega) (by omega)]
  by_cases a3 : r ≤ 65535
  · rw [Lib.encodeRuneZ_three (by omega), if_neg (by omega), if_neg (by omega), if_pos (by omega)]
    simp only [List.map_cons, List.map_nil]
    rw [u8v (n := 224 + r.toNat / 4096) (by omega) (by omega), u8v (x := 128 + r / 64 % 64) (n := 128 + r.toNat / 64 % 64) (by omega) (by omega), u8v (x := 128 + r % 64) (n := 128 + r.toNat % 64) (by omega) (by omega)]
  · rw [Lib.encodeRuneZ_four (by omega) h1, if_neg (by omega), if_neg (by omega), if_neg (by omega)]
    simp only [List.map_cons, List.map_nil]
    rw [u8v (n := 240 + r.toNat / 262144) (by omega) (by omega), u8v (x := 128 + r / 4096 % 64) (n := 128 + r.toNat / 4096 % 64) (by omega) (by omega), u8v (x := 128 + r / 64 % 64) (n := 128 + r.toNat / 64 % 64) (by omega) (by omega), u8v (x := 128 + r % 64) (n := 128 + r.toNat % 64) (by omega) (by omega)]
end Go.Proofs.YtkaeenafejdkfaaGreatDoor

/- The program: a text with what its references stand for. -/
namespace Go.Proofs.YtkaeenafejdkfaaGreatDoor
open Go.RowKit

theorem meant_free : ∀ (a b : List UInt8), (∀ c ∈ a, c ≠ 38) → meant (a ++ b) = a ++ meant b
  | [], _, _ => rfl
  | c :: a, b, h => by
    rw [List.cons_append, meant_plain (h c (by simp)), meant_free a b (fun d hd => h d (by simp [hd])), List.cons_append]
theorem meant_same (a : List UInt8) (h : ∀ c ∈ a, c ≠ 38) : meant a = a := by
  have := meant_free a [] h
  simpa [meant_nil] using this
theorem take_free {t : ByteArray} {k : Nat} (hno : ∀ j, 0 ≤ j → j < k → ¬ standsAt ⟨#[38]⟩ t j) : ∀ c ∈ t.data.toList.take k, c ≠ 38 := by
  intro c hc e
  subst e
  obtain ⟨j, hj, hj2⟩ := List.getElem_of_mem hc
  rw [List.length_take] at hj
  refine hno j (by omega) (by omega) (stands_one.2 ?_)
  rw [List.getElem_take] at hj2
  rw [List.getElem?_eq_getElem (by omega), hj2]
theorem bodyR_valid {l : List UInt8} {n : Nat} (h : bodyR l = some n) : n < 55296 ∨ 57343 < n := by
  have hr : ∀ m, runeN m < 55296 ∨ 57343 < runeN m := fun m => by unfold runeN; split <;> omega
  have hn : ∀ b l n, numRef b l = some n → n < 55296 ∨ 57343 < n := fun b l n h => by
    unfold numRef at h
    split at h
    · cases h
    · cases hq : numL b l 0 with
      | none => rw [hq] at h; cases h
      | some m =>
        rw [hq] at h
        obtain rfl : runeN m = n := by simpa using h
        exact hr m
  unfold bodyR at h
  iterate 8 (split at h; · obtain rfl := Option.some.inj h; omega)
  unfold bodyT at h
  split at h
  · split at h
    · exact hn _ _ _ h
    · exact hn _ _ _ h
  · cases h
theorem below_drewN' {B : Nat} {a w : World} (h : Below B a w) (n : Nat) : Below B a (w.drewN n) := ⟨h.os, h.tape, h.output, h.size, h.block⟩
def sizeV : Value → Nat
  | .string t => t.size
  | _ => 0

set_option maxHeartbeats 8000000 in
set_option maxRecDepth 100000 in
theorem resolve_any (s : ByteArray) (hs : s.size ≤ 100000) (m : Int) (w : World) (hm : w.cell? ⟨8, 0, none⟩ = some (.int .i64 m)) :
    Calls Tryz.prog 163 #[.string s] w fun e w' => e = .returned (.string (meantS s)) ∧ Below w.heap.size w w' := by
  have h8 : 8 < w.heap.size := World.block_lt_of_cell? w _ hm
  go_enter Tryz.func163, Tryz.ntmps163
  go_wp2_with fail
  go_loopw [0] (fun sv wr => ∃ (t : ByteArray) (P : List UInt8), sv = .string t ∧ t.size ≤ s.size ∧ P.length + 4 * t.size ≤ 4 * s.size ∧ Hid (meant s.data.toList = P ++ meant t.data.toList ∧ Lib.IsBuilderF 130 5 w.heap.size w.heap.size (Lib.byteCells P) wr ∧ Below w.heap.size w wr)) (fun sv _ => sizeV sv)
  case atStart =>
    refine ⟨s, [], rfl, Nat.le_refl _, by simp, hid ⟨rfl, .inl ⟨Nat.le_refl _, .slice none 0 0, heap_alloc_new w _, ?_, ?_⟩, (Below.refl _ _).alloc (Nat.le_refl _) _⟩⟩
    · exact World.ownsRowF_nil _ _ _ _
    · simp [Value.ownBlock]
  case round =>
    obtain ⟨t, P, rfl, ht, hP, hL⟩ := hrel
    have hm' : wr.cell? ⟨8, 0, none⟩ = some (.int .i64 m) := (hL.out.2.2.cell (p := ⟨8, 0, none⟩) h8).trans hm
    have e0 : t.extract 0 t.size = t := by simp
    cases hf : findE ⟨#[38]⟩ t 0 with
    | none =>
      have hc := pcut_miss t ⟨#[38]⟩ 0 (by omega) (by decide) hf m wr hm'
      rw [e0] at hc
      have hM : meant t.data.toList = t.data.toList := meant_same _ (fun c hc e => by
        subst e
        obtain ⟨j, hj, hj2⟩ := List.getElem_of_mem hc
        exact findE_no (by decide) hf j (by omega) (stands_one.2 (by rw [List.getElem?_eq_getElem hj, hj2])))
      have HC := hid hc
      have HM := hid hM
      clear hc hM hf hm hm'
      go_wp2_with fail
      refine HC.out.mono ?_
      rintro e w1 ⟨rfl, n1, rfl⟩
      go_wp2_with fail
      have hb1 : Lib.IsBuilderF 130 5 w.heap.size w.heap.size (Lib.byteCells P) (wr.drewN n1) := hL.out.2.1
      refine (writeString_any w.heap.size w.heap.size (Lib.byteCells P) t _ hb1 (by rw [Lib.byteCells_length]; omega) hL.out.2.2.size).mono ?_
      rintro e w2 ⟨rfl, hB2, hW2⟩
      have hs2 : w.heap.size ≤ w2.heap.size := Nat.le_trans hL.out.2.2.size hW2.size
      have H2 : Hid (Lib.IsBuilderF 130 5 w.heap.size w.heap.size (Lib.byteCells (P ++ t.data.toList)) w2 ∧ Below w.heap.size w w2) := ⟨.inr (by unfold Lib.byteCells; rw [List.map_append]; exact hB2), (below_drewN' hL.out.2.2 n1).trans hW2⟩
      clear hB2 hW2 hb1
      go_wp2_with fail
      refine (Tryz.Builder_String_any_f w.heap.size w.heap.size (P ++ t.data.toList) _ H2.out.1 hs2).mono ?_
      rintro e w3 ⟨rfl, _, hW3⟩
      have H3 := hid (H2.out.2.trans hW3)
      clear hW3
      go_wp2_with fail
      go_ret
      refine ⟨rets ?_, H3.out⟩
      unfold meantS
      rw [hL.out.1, HM.out]
    | some k =>
      obtain ⟨_, hst, hno⟩ := findE_some hf
      have hk : k < t.size := hst.1
      have hc := pcut_hit t ⟨#[38]⟩ 0 k (by omega) (by omega) (by decide) hf m wr hm'
      rw [e0] at hc
      have htl : t.data.toList = t.data.toList.take k ++ 38 :: t.data.toList.drop (k + 1) := by
        have h1 := stands_one.1 hst
        have h2 : t.data.toList[k]'(by simpa using hk) = 38 := by rw [List.getElem?_eq_getElem (by simpa using hk)] at h1; exact Option.some.inj h1
        conv => lhs; rw [← List.take_append_drop k t.data.toList, List.drop_eq_getElem_cons (by simpa using hk), h2]
      obtain ⟨u, hu⟩ : ∃ u, u = t.extract (k + 1) t.size := ⟨_, rfl⟩
      have hul : u.data.toList = t.data.toList.drop (k + 1) := by rw [hu, ext_list, List.take_of_length_le (by simp)]
      have hus : u.size = t.size - (k + 1) := by rw [hu, ByteArray.size_extract]; omega
      have hM : meant s.data.toList = (P ++ t.data.toList.take k) ++ meant (38 :: u.data.toList) := by
        rw [hL.out.1, htl, meant_free _ _ (take_free hno), hul, List.append_assoc]
        congr 2
        rw [List.take_append_of_le_length (by simp; omega), List.take_take, Nat.min_self]
      have hah : (t.extract 0 k).data.toList = t.data.toList.take k := by rw [ext_list]; simp
      have hc' : Calls Tryz.prog 164 #[.string t, .string ⟨#[38]⟩] wr fun e w' => e = .returned (.tuple #[.string (t.extract 0 k), .string u, .bool true]) ∧ ∃ n, w' = wr.drewN n := by
        rw [hu]; exact hc
      obtain ⟨n, hn⟩ : ∃ n, n = spanE bodyN u 0 := ⟨_, rfl⟩
      have hnt := span_take u 0 (by omega)
      rw [List.drop_zero, Nat.zero_add, ← hn] at hnt
      have hnu : n ≤ u.size := by rw [hn]; exact spanE_size _ _ _ (by omega)
      have hbd : (u.extract 0 n).data.toList = u.data.toList.takeWhile bodyB := by
        rw [ext_list, List.drop_zero, Nat.sub_zero, hnt]
        exact (List.prefix_iff_eq_take.1 (List.takeWhile_prefix bodyB)).symm
      have hbl := bodyLen_any u (by omega)
      rw [← hn] at hbl
      have HBL := hid hbl
      have HC := hid hc'
      have HM := hid hM
      have HBD := hid hbd
      have HNT := hid hnt
      have hus2 : u.size + k + 1 ≤ t.size := by omega
      have hbsz : (u.extract 0 n).size = n := by rw [ByteArray.size_extract]; omega
      clear hus
      clear hc hc' hM htl hul hbd hnt hbl hst hno hf hn hu e0
      go_wp2_with fail
      refine HC.out.mono ?_
      rintro e w1 ⟨rfl, n1, rfl⟩
      go_wp2_with fail
      have hb1 : Lib.IsBuilderF 130 5 w.heap.size w.heap.size (Lib.byteCells P) (wr.drewN n1) := hL.out.2.1
      refine (writeString_any w.heap.size w.heap.size (Lib.byteCells P) (t.extract 0 k) _ hb1 (by rw [Lib.byteCells_length, ByteArray.size_extract]; omega) hL.out.2.2.size).mono ?_
      rintro e w2 ⟨rfl, hB2, hW2⟩
      have hs2 : w.heap.size ≤ w2.heap.size := Nat.le_trans hL.out.2.2.size hW2.size
      have H2 : Hid (Lib.IsBuilderF 130 5 w.heap.size w.heap.size (Lib.byteCells (P ++ t.data.toList.take k)) w2 ∧ Below w.heap.size w w2) := ⟨.inr (by unfold Lib.byteCells; rw [List.map_append, ← hah]; exact hB2), (below_drewN' hL.out.2.2 n1).trans hW2⟩
      clear hB2 hW2 hb1 hah
      go_wp2_with fail
      refine (HBL.out _).mono ?_
      rintro e w3 ⟨rfl, rfl⟩
      go_wp2_with fail
      refine (runeOf_any (u.extract 0 n) (by rw [ByteArray.size_extract]; omega) _).mono ?_
      rintro e w4 ⟨⟨⟨x, ok⟩, rfl, hfit⟩, rfl⟩
      rw [HBD.out] at hfit
      have HF := hid hfit
      clear hfit
      obtain ⟨hf1, hf2⟩ := HF.out
      cases ok
      · have hR : refAt u.data.toList = none := by
          unfold refAt
          simp only
          split
          · have : bodyR (u.data.toList.takeWhile bodyB) = none := by
              cases hq : bodyR (u.data.toList.takeWhile bodyB) with
              | none => rfl
              | some z => rw [hq] at hf1; cases hf1
            rw [this]; rfl
          · rfl
        simp only [twoV]
        have HM2 : Hid (meant s.data.toList = (P ++ t.data.toList.take k ++ [38]) ++ meant u.data.toList) := by
          show _ = _
          rw [HM.out, meant_no hR]
          simp
        clear hf1 hf2 hR
        go_wp2_with fail
        refine (writeByte_any w.heap.size w.heap.size (Lib.byteCells (P ++ t.data.toList.take k)) 38 _ H2.out.1 (by rw [Lib.byteCells_length, List.length_append, List.length_take]; simp; omega) hs2).mono ?_
        rintro e w5 ⟨rfl, hB5, hW5⟩
        have H5 : Hid (Lib.IsBuilderF 130 5 w.heap.size w.heap.size (Lib.byteCells (P ++ t.data.toList.take k ++ [38])) w5 ∧ Below w.heap.size w w5) := ⟨.inr (by unfold Lib.byteCells at hB5 ⊢; rw [List.map_append]; exact hB5), H2.out.2.trans hW5⟩
        clear hB5 hW5
        go_wp2_with fail
        go_roundw
        case rel => exact ⟨u, P ++ t.data.toList.take k ++ [38], rfl, by omega, by simp; omega, hid ⟨HM2.out, H5.out.1, H5.out.2⟩⟩
        case measure => show u.size < t.size; omega
      · obtain ⟨r, hr⟩ : ∃ r, bodyR (u.data.toList.takeWhile bodyB) = some r := by
          cases hq : bodyR (u.data.toList.takeWhile bodyB) with
          | none => rw [hq] at hf1; cases hf1
          | some z => exact ⟨z, rfl⟩
        have hx := hf2 r hr
        have hx1 : x ≤ 1114111 := by have := bodyR_le hr; omega
        have hxv : x < 55296 ∨ 57343 < x := by have := bodyR_valid hr; omega
        have hpre : decide ((⟨#[59]⟩ : ByteArray).size ≤ (u.extract n u.size).size ∧ (u.extract n u.size).extract 0 (⟨#[59]⟩ : ByteArray).size = ⟨#[59]⟩) = decide (standsAt ⟨#[59]⟩ u n) := by
          rw [Bool.eq_iff_iff, decide_eq_true_eq, decide_eq_true_eq, prefix_at hnu]
        have hdef : refAt u.data.toList = if u.data.toList[n]? = some 59 then some (r, n + 1) else none := by
          unfold refAt
          simp only
          rw [hr, ← HNT.out]
          rfl
        have hx0 : 0 ≤ x := by omega
        have hxr : x.toNat = r := by omega
        cases e59 : decide (standsAt ⟨#[59]⟩ u n)
        · have hR : refAt u.data.toList = none := by
            rw [hdef, if_neg (fun h => of_decide_eq_false e59 (stands_one.2 h))]
          have HPX := hid (hpre.trans e59)
          simp only [twoV]
          have HM2 : Hid (meant s.data.toList = (P ++ t.data.toList.take k ++ [38]) ++ meant u.data.toList) := by
            show _ = _
            rw [HM.out, meant_no hR]
            simp
          clear hf1 hf2 hR hdef hpre e59 hr hx
          go_wp2_with fail
          refine (prefix_any (u.extract n u.size) ⟨#[59]⟩ false HPX.out _).mono ?_
          rintro e w6 ⟨rfl, rfl⟩
          go_wp2_with fail
          refine (writeByte_any w.heap.size w.heap.size (Lib.byteCells (P ++ t.data.toList.take k)) 38 _ H2.out.1 (by rw [Lib.byteCells_length, List.length_append, List.length_take]; simp; omega) hs2).mono ?_
          rintro e w5 ⟨rfl, hB5, hW5⟩
          have H5 : Hid (Lib.IsBuilderF 130 5 w.heap.size w.heap.size (Lib.byteCells (P ++ t.data.toList.take k ++ [38])) w5 ∧ Below w.heap.size w w5) := ⟨.inr (by unfold Lib.byteCells at hB5 ⊢; rw [List.map_append]; exact hB5), H2.out.2.trans hW5⟩
          clear hB5 hW5
          go_wp2_with fail
          go_roundw
          case rel => exact ⟨u, P ++ t.data.toList.take k ++ [38], rfl, by omega, by simp; omega, hid ⟨HM2.out, H5.out.1, H5.out.2⟩⟩
          case measure => show u.size < t.size; omega
        · have h59 := stands_one.1 (of_decide_eq_true e59)
          have hn1 : n < u.size := by simpa using (List.getElem?_eq_some_iff.1 h59).1
          have hR : refAt u.data.toList = some (r, n + 1) := by rw [hdef, if_pos h59]
          have HPX := hid (hpre.trans e59)
          have hdl : (u.extract (n + 1) u.size).data.toList = u.data.toList.drop (n + 1) := by rw [ext_list, List.take_of_length_le (by simp)]
          have hds : (u.extract (n + 1) u.size).size = u.size - (n + 1) := by rw [ByteArray.size_extract]; omega
          have hrl : (runeL x.toNat).length ≤ 4 := by unfold runeL; split <;> (try split) <;> (try split) <;> simp
          have HM2 : Hid (meant s.data.toList = (P ++ t.data.toList.take k ++ runeL x.toNat) ++ meant (u.extract (n + 1) u.size).data.toList) := by
            show _ = _
            rw [HM.out, meant_ref hR, hxr, hdl]
            simp
          simp only [twoV]
          clear hf1 hf2 hR hdef hpre e59 hr hx h59 hdl hxr
          go_wp2_with fail
          refine (prefix_any (u.extract n u.size) ⟨#[59]⟩ true HPX.out _).mono ?_
          rintro e w6 ⟨rfl, rfl⟩
          go_wp2_with fail
          refine (writeRune_any w.heap.size w.heap.size (Lib.byteCells (P ++ t.data.toList.take k)) x hx0 hx1 _ H2.out.1 (by rw [Lib.byteCells_length, List.length_append, List.length_take]; simp; omega) hs2).mono ?_
          rintro e w5 ⟨rfl, hB5, hW5⟩
          have H5 : Hid (Lib.IsBuilderF 130 5 w.heap.size w.heap.size (Lib.byteCells (P ++ t.data.toList.take k ++ runeL x.toNat)) w5 ∧ Below w.heap.size w w5) := ⟨.inr (by rw [runeZ x hx0 hx1 hxv] at hB5; unfold Lib.byteCells at hB5 ⊢; rw [List.map_append]; exact hB5), H2.out.2.trans hW5⟩
          clear hB5 hW5
          go_wp2_with fail
          go_roundw
          case rel => exact ⟨u.extract (n + 1) u.size, P ++ t.data.toList.take k ++ runeL x.toNat, rfl, by omega, by simp; omega, hid ⟨HM2.out, H5.out.1, H5.out.2⟩⟩
          case measure => show (u.extract (n + 1) u.size).size < t.size; omega
end Go.Proofs.YtkaeenafejdkfaaGreatDoor

/- The program: words are cut. -/
namespace Go.Proofs.YtkaeenafejdkfaaGreatDoor
open Go.RowKit

/-- how far words go -/
def wordE (s : ByteArray) (i : Nat) : Nat := if i < s.size then (if kindT (s.extract i s.size) = 1 then wordE s (i + 1) else i) else i
  termination_by s.size - i
theorem wordE_is (s : ByteArray) (i : Nat) (hi : i ≤ s.size) : ∃ e, wordE s i = e ∧ i ≤ e ∧ e ≤ s.size ∧ (∀ k, i ≤ k → k < e → k < s.size ∧ kindT (s.extract k s.size) = 1) ∧ (e < s.size → kindT (s.extract e s.size) ≠ 1) := by
  refine ⟨_, rfl, ?_⟩
  rw [wordE]
  by_cases h : i < s.size
  · rw [if_pos h]
    by_cases hk : kindT (s.extract i s.size) = 1
    · rw [if_pos hk]
      obtain ⟨e, he, h1, h2, h3, h4⟩ := wordE_is s (i + 1) h
      rw [he]
      refine ⟨by omega, h2, fun k a b => ?_, h4⟩
      by_cases hki : k = i
      · subst hki; exact ⟨h, hk⟩
      · exact h3 k (by omega) b
    · rw [if_neg hk]
      exact ⟨Nat.le_refl _, hi, fun k a b => absurd b (by omega), fun _ => hk⟩
  · rw [if_neg h]
    exact ⟨Nat.le_refl _, hi, fun k a b => absurd b (by omega), fun h2 => absurd h2 h⟩
  termination_by s.size - i

set_option maxHeartbeats 4000000 in
set_option maxRecDepth 100000 in
theorem cutWords_any {w : World} {b : Nat} {s : ByteArray} {i : Nat} {raw : ByteArray} (h : SC w b s i raw) (hs : s.size ≤ 100000) (hi : i ≤ s.size) :
    Calls Tryz.prog 137 #[.pointer (some ⟨b, 0, none⟩)] w fun e w' => e = .returned (pcv 1 0 ⟨#[]⟩ (meantS (s.extract i (wordE s i))) (.slice none 0 0)) ∧ Only b w w' ∧ Sc w' b s (wordE s i) raw := by
  obtain ⟨e, E, a1, b1, g1, x1⟩ := wordE_is s i hi
  rw [E]
  have hlt0 := h.sc.lt
  have H := hid (h.alloc emptyPiece)
  have G := hid g1
  have X := hid x1
  obtain ⟨c0, c1, c2, cf⟩ := (h.alloc emptyPiece).sc.cells
  unfold emptyPiece at c0 c1 c2 cf
  clear h g1 x1 E
  go_enter Tryz.func137, Tryz.ntmps137
  go_wp2_with fail
  clear c0 c1 c2 cf
  go_loopg [] (e - i) (fun g wr => ∃ j : Nat, i ≤ j ∧ j ≤ e ∧ g = e - j ∧ Hid (SC wr b s j raw ∧ Only b (w.alloc emptyPiece) wr))
  case atStart => exact ⟨i, by omega, by omega, rfl, hid ⟨H.out, Only.refl _ _⟩⟩
  case round =>
    obtain ⟨j, hj1, hj2, rfl, hB⟩ := hrel
    obtain ⟨c0, c1, c2, cf⟩ := hB.out.1.sc.cells
    by_cases hlt : j < e
    · obtain ⟨hsz, hp⟩ := G.out j hj1 hlt
      have HP := hid hp.symm
      clear hp
      go_wp2_with fail
      go_quiet ((first | (go_at_call 109; exact Calls.quiet_of (atEnd_any (hB.out.1.sc.drew _) false (at_no hsz))) | (go_at_call 133; exact Calls.quiet_of_same (pbegins_any (s.extract j s.size) 1 HP.out _))))
      go_wp2_with fail
      go_roundg (e - (j + 1))
      case measure => omega
      case rel => exact ⟨j + 1, by omega, by omega, rfl, hid ⟨hB.out.1.only (((Only.refl _ _).drew _).set _ _) ((hB.out.1.sc.drew _).set _ _ (by go_num)), (hB.out.2.drew _).set _ _⟩⟩
    · obtain rfl : j = e := by omega
      have hlt' := hlt0
      by_cases hsz : j < s.size
      · obtain ⟨q, hq⟩ : ∃ q, q = kindT (s.extract j s.size) := ⟨_, rfl⟩
        have hne : (q == 1) = false := by rw [beq_eq_false_iff_ne, hq]; exact X.out hsz
        have HQ := hid hq
        clear hq
        go_wp2_with fail
        go_quiet ((first | (go_at_call 109; exact Calls.quiet_of (atEnd_any (hB.out.1.sc.drew _) false (at_no hsz))) | (go_at_call 133; exact Calls.quiet_of_same (pbegins_any (s.extract j s.size) q HQ.out _))))
        go_wp2_with fail
        obtain ⟨m, hm⟩ := hB.out.1.max
        have hes : (s.extract i j).size ≤ 100000 := by rw [ByteArray.size_extract]; omega
        have HR := hid (res_block hlt' hB.out.2)
        have hlt2 : w.heap.size < wr.heap.size := size_of HR.out
        go_region_with ((go_at_call 163; refine (resolve_any (s.extract i j) hes m (wr.drewN _) hm).mono ?_; rintro e w5 ⟨rfl, hB5⟩; have hR5 : w5.heap[w.heap.size]? = some emptyPiece := (hB5.block w.heap.size hlt2).trans HR.out; obtain ⟨d0, d1, d2, d3, d4, df⟩ := five_cells hR5; have H5 : Hid (Only b (w.alloc emptyPiece) w5 ∧ Sc w5 b s j raw) := ⟨(hB.out.2.drew _).trans (Only.of hB5), (hB.out.1.sc.drew _).below hB.out.1.sc.lt hB5⟩; clear hR5 hB5))
        all_goals (
          go_wp2_with fail
          refine bodyPost_ret (v := pcv 1 0 ⟨#[]⟩ (meantS (s.extract i j)) (.slice none 0 0)) ?_ rfl ⟨rfl, ?_, ?_⟩
          · simp [results, Tryz.results137, go_sem, d0, d1, d2, d3, d4]
            try rfl
          · exact ((((((Only.alloc (b := b) emptyPiece).trans H5.out.1).sets (Nat.le_refl _) _ _).sets (Nat.le_refl _) _ _).sets (Nat.le_refl _) _ _).sets (Nat.le_refl _) _ _).sets (Nat.le_refl _) _ _
          · have hn : b ≠ w.heap.size := by omega
            exact ((((H5.out.2.sets hn _ _).sets hn _ _).sets hn _ _).sets hn _ _).sets hn _ _)
      · obtain rfl : j = s.size := by omega
        go_wp2_with fail
        go_quiet ((go_at_call 109; exact Calls.quiet_of (atEnd_any (hB.out.1.sc.drew _) true (at_end rfl))))
        go_wp2_with fail
        obtain ⟨m, hm⟩ := hB.out.1.max
        have hes : (s.extract i s.size).size ≤ 100000 := by rw [ByteArray.size_extract]; omega
        have HR := hid (res_block hlt' hB.out.2)
        have hlt2 : w.heap.size < wr.heap.size := size_of HR.out
        go_region_with ((go_at_call 163; refine (resolve_any (s.extract i s.size) hes m (wr.drewN _) hm).mono ?_; rintro e w5 ⟨rfl, hB5⟩; have hR5 : w5.heap[w.heap.size]? = some emptyPiece := (hB5.block w.heap.size hlt2).trans HR.out; obtain ⟨d0, d1, d2, d3, d4, df⟩ := five_cells hR5; have H5 : Hid (Only b (w.alloc emptyPiece) w5 ∧ Sc w5 b s s.size raw) := ⟨(hB.out.2.drew _).trans (Only.of hB5), (hB.out.1.sc.drew _).below hB.out.1.sc.lt hB5⟩; clear hR5 hB5))
        all_goals (
          go_wp2_with fail
          refine bodyPost_ret (v := pcv 1 0 ⟨#[]⟩ (meantS (s.extract i s.size)) (.slice none 0 0)) ?_ rfl ⟨rfl, ?_, ?_⟩
          · simp [results, Tryz.results137, go_sem, d0, d1, d2, d3, d4]
            try rfl
          · exact ((((((Only.alloc (b := b) emptyPiece).trans H5.out.1).sets (Nat.le_refl _) _ _).sets (Nat.le_refl _) _ _).sets (Nat.le_refl _) _ _).sets (Nat.le_refl _) _ _).sets (Nat.le_refl _) _ _
          · have hn : b ≠ w.heap.size := by omega
            exact ((((H5.out.2.sets hn _ _).sets hn _ _).sets hn _ _).sets hn _ _).sets hn _ _)
end Go.Proofs.YtkaeenafejdkfaaGreatDoor

/- The program: whether an end tag stands there that a raw element's text goes up to. -/
namespace Go.Proofs.YtkaeenafejdkfaaGreatDoor
open Go.RowKit

def endT (raw : ByteArray) : ByteArray := ⟨#[60, 47]⟩ ++ raw
theorem endT_size (raw : ByteArray) : (endT raw).size = 2 + raw.size := by unfold endT; rw [ByteArray.size_append]; rfl
theorem endT_list (raw : ByteArray) : (endT raw).data.toList = 60 :: 47 :: raw.data.toList := by unfold endT; simp
theorem low_same {c d : UInt8} (hd : ¬ (97 ≤ d.toNat ∧ d.toNat ≤ 122)) (h : lowerB c = d) : c = d := by
  unfold lowerB at h
  split at h
  · rename_i hc
    exfalso
    apply hd
    have : (c + 32).toNat = c.toNat + 32 := by rw [UInt8.toNat_add]; simp; omega
    rw [← h, this]
    omega
  · exact h
theorem low_keep {d : UInt8} (hd : ¬ (65 ≤ d.toNat ∧ d.toNat ≤ 90)) : lowerB d = d := by unfold lowerB; rw [if_neg hd]
/-- the two sides ask the same -/
theorem raw_same {s raw : ByteArray} {i : Nat} (h : i + 2 + raw.size ≤ s.size) : (smallS (s.extract i (i + 2 + raw.size)) = endT raw) ↔ (s.extract i (i + 2) = ⟨#[60, 47]⟩ ∧ smallS (s.extract (i + 2) (i + 2 + raw.size)) = raw) := by
  have e1 : ∀ a b : ByteArray, a = b ↔ a.data.toList = b.data.toList := fun a b => ⟨fun h => by rw [h], fun h => ByteArray.ext (Array.toList_inj.mp h)⟩
  rw [e1, e1, e1, endT_list]
  unfold smallS smallL
  simp only [ext_list]
  have hd : s.data.toList.drop i = (s.data.toList.drop i).take 2 ++ s.data.toList.drop (i + 2) := by
    rw [← List.drop_drop, List.take_append_drop]
  have h2 : ((s.data.toList.drop i).take 2).length = 2 := by simp; omega
  obtain ⟨a, b, hab⟩ : ∃ a b, (s.data.toList.drop i).take 2 = [a, b] := by
    generalize (s.data.toList.drop i).take 2 = l at h2
    match l, h2 with
    | [a, b], _ => exact ⟨a, b, rfl⟩
  have e2 : (s.data.toList.drop i).take (i + 2 + raw.size - i) = a :: b :: (s.data.toList.drop (i + 2)).take (i + 2 + raw.size - (i + 2)) := by
    rw [hd, hab, show i + 2 + raw.size - i = raw.size + 1 + 1 by omega, show i + 2 + raw.size - (i + 2) = raw.size by omega]
    rfl
  rw [e2, show i + 2 - i = 2 by omega, hab]
  simp only [List.map_cons]
  constructor
  · intro h
    injection h with h1 h
    injection h with h2 h
    exact ⟨by rw [low_same (by decide) h1, low_same (by decide) h2], h⟩
  · rintro ⟨h1, h⟩
    injection h1 with h1 h3
    injection h3 with h3 _
    subst h1
    subst h3
    rw [h]
    rfl

theorem below_dr {B : Nat} {a w : World} (h : Below B a w) (n : Nat) : Below B a (w.drewN n) := ⟨h.os, h.tape, h.output, h.size, h.block⟩
theorem ext_take (s : ByteArray) (i m : Nat) (_h : i + m ≤ s.size) : (s.extract i s.size).extract 0 m = s.extract i (i + m) := by
  apply ByteArray.ext
  apply Array.toList_inj.mp
  rw [ext_list, ext_list, ext_list]
  simp [List.take_take]
  try omega
theorem ext_byte (s : ByteArray) (i m : Nat) (h : i + m < s.size) (h2 : m < (s.extract i s.size).size) : (s.extract i s.size)[m].toNat = bt s (i + m) := by
  rw [bt_lt h, ByteArray.getElem_extract]

set_option maxHeartbeats 4000000 in
set_option maxRecDepth 100000 in
theorem endsRaw_any {w : World} {b : Nat} {s : ByteArray} {i : Nat} {raw r0 : ByteArray} (h : Sc w b s i r0) (_hs : s.size ≤ 100000) (hi : i ≤ s.size) (hr : raw.size ≤ 100) (en : ByteArray) (hen : en = endT raw) (v : Bool) (hv : decide (rawHit s raw i) = v) :
    Calls Tryz.prog 154 #[.pointer (some ⟨b, 0, none⟩), .string en] w fun e w' => e = .returned (.bool v) ∧ Below w.heap.size w w' := by
  have hes : en.size = 2 + raw.size := by rw [hen]; exact endT_size raw
  have hrs : (s.extract i s.size).size = s.size - i := by rw [ByteArray.size_extract]; omega
  obtain ⟨c0, c1, c2, cf⟩ := h.cells
  by_cases hA : i + 2 + raw.size ≤ s.size
  rotate_left
  · have H : Hid (v = false) := by show _ = _; rw [← hv, decide_eq_false_iff_not]; exact fun h => hA h.1
    clear h hen hv
    go_enter Tryz.func154, Tryz.ntmps154
    go_wp2_with fail
    go_quiet (fail)
    go_wp2_with fail
    all_goals go_light
    all_goals first
      | (go_ret; exact ⟨retb H.out.symm, below_dr (Below.refl _ _) _⟩)
      | (exfalso; simp_all; done)
      | (exfalso; omega)
  · have hx : (s.extract i s.size).extract 0 (2 + raw.size) = s.extract i (i + 2 + raw.size) := by rw [ext_take s i (2 + raw.size) (by omega), Nat.add_assoc]
    have hxs : ((s.extract i s.size).extract 0 (2 + raw.size)).size ≤ 100000 := by rw [ByteArray.size_extract]; omega
    have HX := hid hx
    have HXS := hid hxs
    have HQ := hid (raw_same hA)
    clear hx hxs
    by_cases hq : smallS (s.extract i (i + 2 + raw.size)) = en
    rotate_left
    · have H : Hid (v = false) := by
        show _ = _
        rw [← hv, decide_eq_false_iff_not]
        intro hh
        exact hq (by rw [hen]; exact HQ.out.2 ⟨hh.2.1, hh.2.2.1⟩)
      have hne : ¬ (smallS (s.extract i (i + 2 + raw.size))).toList = en.toList := fun e => hq (toList_inj' e)
      clear h hen hv hq HQ
      go_enter Tryz.func154, Tryz.ntmps154
      go_wp2_with fail
      go_quiet (fail)
      go_wp2_with (go_at_call 158; refine (lower_any _ HXS.out _).mono ?_; rintro e w3 ⟨rfl, hB3⟩; rw [HX.out]; have HB3 := hid hB3; clear hB3)
      all_goals go_light
      all_goals first
        | (go_ret; exact ⟨retb H.out.symm, (below_dr (Below.refl _ _) _).trans HB3.out⟩)
        | (exfalso; simp_all; done)
        | (exfalso; omega)
    · have he2 := hq
      by_cases hz : i + 2 + raw.size = s.size
      · have H : Hid (v = true) := by
          show _ = _
          rw [← hv, decide_eq_true_eq]
          have := HQ.out.1 (by rw [← hen]; exact hq)
          exact ⟨hA, this.1, this.2, .inl hz⟩
        have HE := hid he2
        clear h hen hv hq HQ he2
        go_enter Tryz.func154, Tryz.ntmps154
        go_wp2_with fail
        go_quiet (fail)
        go_wp2_with (go_at_call 158; refine (lower_any _ HXS.out _).mono ?_; rintro e w3 ⟨rfl, hB3⟩; rw [HX.out, HE.out]; have HB3 := hid hB3; clear hB3)
        all_goals go_light
        all_goals first
          | (go_ret; exact ⟨retb H.out.symm, (below_dr (Below.refl _ _) _).trans HB3.out⟩)
          | (exfalso; simp_all; done)
          | (exfalso; omega)
      · obtain ⟨c, hc⟩ : ∃ c, s[i + 2 + raw.size].toNat = c := ⟨_, rfl⟩
        have hbt : bt s (i + 2 + raw.size) = c := by rw [bt_lt (by omega), hc]
        have hlt2 : 2 + raw.size < (s.extract i s.size).size := by omega
        have hcc : ((s.extract i s.size)[2 + raw.size]).toNat = c := by
          rw [ByteArray.getElem_extract, ← hc]
          congr 2
          omega
        have H : Hid (v = !inTagB c) := by
          show _ = _
          rw [← hv]
          have := HQ.out.1 (by rw [← hen]; exact hq)
          cases hp : inTagB c
          · rw [Bool.not_false, decide_eq_true_eq]
            exact ⟨hA, this.1, this.2, .inr (by rw [hbt]; exact hp)⟩
          · rw [Bool.not_true, decide_eq_false_iff_not]
            rintro ⟨_, _, _, h4 | h4⟩
            · exact hz h4
            · rw [hbt, hp] at h4; cases h4
        have HE := hid he2
        have HC := hid hcc
        clear h hen hv hq HQ he2 hcc hc hbt
        go_enter Tryz.func154, Tryz.ntmps154
        go_wp2_with fail
        go_quiet (fail)
        go_wp2_with (first | (go_at_call 158; refine (lower_any _ HXS.out _).mono ?_; rintro e w3 ⟨rfl, hB3⟩; rw [HX.out, HE.out]; have HB3 := hid hB3; clear hB3) | (go_at_call 160; refine (pinTag_any _ _).mono ?_; rintro e w4 ⟨rfl, rfl⟩; rw [HC.out]))
        all_goals go_light
        all_goals first
          | (go_ret; refine ⟨retb ?_, (below_dr (Below.refl _ _) _).trans HB3.out⟩; rw [H.out]; cases inTagB c <;> simp <;> omega)
          | (exfalso; simp_all; done)
          | (exfalso; omega)
end Go.Proofs.YtkaeenafejdkfaaGreatDoor
