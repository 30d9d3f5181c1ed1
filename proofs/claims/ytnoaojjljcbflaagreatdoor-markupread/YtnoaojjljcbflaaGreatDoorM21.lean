/- The program: how long a reference's body is. -/
import Derived.Test.YtnoaojjljcbflaaGreatDoorM20
import Derived.Test.YtnoaojjljcbflaaGreatDoorM19
import Derived.Lib.Builder
import Derived.Lib.FrozenHead
import Derived.Lib.FrozenHead2
import Derived.Lib.AppendStr
import Derived.Laws.Externs
import Derived.Laws.AppendOwn
import Derived.Lib.RuneBytes
import Derived.Test.YtnoaojjljcbflaaGreatDoorM18
namespace Go.Proofs.YtnoaojjljcbflaaGreatDoor
open Go.RowKit

def bodyN (c : Nat) : Bool := alphaB c || decide (c = 35) || decide (48 ≤ c ∧ c ≤ 57)
theorem bodyN_eq (c : UInt8) : bodyN c.toNat = bodyB c := by
  unfold bodyN bodyB
  congr 1
  congr 1
  rw [Bool.eq_iff_iff, decide_eq_true_eq, beq_iff_eq]
  exact ⟨fun h => UInt8.toNat_inj.mp h, fun h => by rw [h]; rfl⟩
theorem span_take (s : ByteArray) (i : Nat) (hi : i ≤ s.size) : spanE bodyN s i = i + ((s.data.toList.drop i).takeWhile bodyB).length := by
  by_cases h : i < s.size
  · have e : s.data.toList.drop i = s[i] :: s.data.toList.drop (i + 1) := List.drop_eq_getElem_cons (by simpa using h)
    rw [e, List.takeWhile_cons]
    cases hb : bodyB s[i]
    · rw [spanE_stop h (by rw [bodyN_eq]; exact hb)]; simp
    · rw [spanE_step h (by rw [bodyN_eq]; exact hb), span_take s (i + 1) (by omega)]
      simp
      omega
  · rw [spanE_end (by omega), List.drop_of_length_le (by simp; omega)]
    simp
  termination_by s.size - i

theorem body_parts {c : Nat} : bodyN c = true ↔ alphaB c = true ∨ c = 35 ∨ (48 ≤ c ∧ c ≤ 57) := by
  unfold bodyN
  simp
  exact ⟨fun h => h.elim (fun h => h.elim .inl (fun h => .inr (.inl h))) (fun h => .inr (.inr h)), fun h => h.elim (fun h => .inl (.inl h)) (fun h => h.elim (fun h => .inl (.inr h)) (fun h => .inr h))⟩
theorem body_no {c : Nat} : bodyN c = false ↔ alphaB c = false ∧ c ≠ 35 ∧ (c < 48 ∨ 57 < c) := by
  have : bodyN c = false ↔ ¬ bodyN c = true := by simp
  rw [this, body_parts]
  cases alphaB c <;> simp <;> omega

set_option maxHeartbeats 4000000 in
set_option maxRecDepth 100000 in
theorem bodyLen_any (s : ByteArray) (hs : s.size ≤ 100000) (w : World) :
    Calls Tryz.prog 177 #[.string s] w fun e w' => e = .returned (.int .i64 (spanE bodyN s 0)) ∧ w' = w := by
  obtain ⟨e, E, a1, b1, g1, x1⟩ := spanE_is bodyN s 0 (by omega)
  rw [E]
  have G := hid g1
  have X := hid x1
  clear g1 x1 E
  go_enter Tryz.func177, Tryz.ntmps177
  go_wp2_with fail
  go_loop [6] (fun iv => ∃ k : Nat, k ≤ e ∧ iv = .int .i64 k) (fun iv => s.size - (intOf iv).toNat)
  case atStart => exact ⟨0, by omega, rfl⟩
  case round =>
    obtain ⟨k, hk, rfl⟩ := hrel
    by_cases hlt : k < e
    · obtain ⟨hsz, hp⟩ := G.out k (by omega) hlt
      obtain ⟨c, hc⟩ : ∃ c, s[k].toNat = c := ⟨_, rfl⟩
      rw [hc] at hp
      have HP := hid (body_parts.1 hp)
      clear G X hp
      cases ha : alphaB c
      all_goals go_wp2_with (go_at_call 156; refine (pletter_any c _).mono ?_; rintro e w' ⟨rfl, rfl⟩; rw [ha])
      all_goals go_light
      all_goals first
        | (refine ⟨⟨k + 1, by omega, by go_num⟩, ?_⟩; simp [intOf]; omega)
        | (exfalso; have hq := HP.out; simp_all; done)
        | (exfalso; have hq := HP.out; simp_all; omega)
    · obtain rfl : k = e := by omega
      by_cases hsz : k < s.size
      · have hp := X.out hsz
        obtain ⟨c, hc⟩ : ∃ c, s[k].toNat = c := ⟨_, rfl⟩
        rw [hc] at hp
        have HP := hid (body_no.1 hp)
        clear G X hp
        obtain ⟨ha, _⟩ := HP.out
        go_wp2_with (go_at_call 156; refine (pletter_any c _).mono ?_; rintro e w' ⟨rfl, rfl⟩; rw [ha])
        all_goals go_light
        all_goals first
          | (go_ret; exact ⟨rfl, rfl⟩)
          | (exfalso; have hq := HP.out; simp_all; done)
          | (exfalso; have hq := HP.out; simp_all; omega)
      · obtain rfl : k = s.size := by omega
        go_wp2_with fail
        go_ret
        exact ⟨rfl, rfl⟩
end Go.Proofs.YtnoaojjljcbflaaGreatDoor

/- The program: a builder of texts. -/
namespace Go.Proofs.YtnoaojjljcbflaaGreatDoor
open Go.RowKit

set_option maxHeartbeats 4000000 in
set_option maxRecDepth 100000 in
theorem copyCheck_used (b : Nat) (w : World) (h0 : w.cell? ⟨b, 0, none⟩ = some (.pointer (some ⟨b, 0, none⟩))) :
    Calls Tryz.prog 169 #[.pointer (some ⟨b, 0, none⟩)] w fun e w' => e = .returned (.tuple #[]) ∧ w' = w := by
  have hj : ∃ j, Tryz.prog.info? 130 = some j := ⟨_, rfl⟩
  obtain ⟨j, hj⟩ := hj
  go_enter Tryz.func169, Tryz.ntmps169
  go_wp2
  rw [Lib.run_neq_ptr_same w _ Tryz.underlying127 hj]
  go_wp2
  go_end0
  exact ⟨rfl, rfl⟩

set_option maxHeartbeats 4000000 in
set_option maxRecDepth 100000 in
theorem copyCheck_fresh (b : Nat) (w : World) (h0 : w.cell? ⟨b, 0, none⟩ = some (.pointer none)) (hsh : w.shape? b = some (130, 2)) (hfz : w.frozen? ⟨b, 0, none⟩ = false) :
    Calls Tryz.prog 169 #[.pointer (some ⟨b, 0, none⟩)] w fun e w' => e = .returned (.tuple #[]) ∧ w' = w.setCell ⟨b, 0, none⟩ (.pointer (some ⟨b, 0, none⟩)) := by
  have hj : ∃ j, Tryz.prog.info? 130 = some j ∧ j.size ≠ 0 := ⟨_, rfl, by decide⟩
  obtain ⟨j, hj, hjs⟩ := hj
  go_enter Tryz.func169, Tryz.ntmps169
  go_wp2_with fail
  rw [Lib.run_to_unsafe w ⟨b, 0, none⟩ Tryz.underlying127 Tryz.underlying151 hj hjs hsh (Nat.zero_lt_succ 1)]
  simp only [Result.andThen]
  rw [Oper.upon_value]
  go_wp2_with fail
  rw [run_callFunc_extern Tryz.func182 (by kernel_rfl) (by kernel_rfl) (by kernel_rfl) (e := Extern.AbiNoEscape.same) (by kernel_rfl)]
  rw [Lib.run_noEscape]
  simp only [Result.andThen]
  rw [Oper.upon_value]
  go_wp2_with fail
  rw [Lib.run_from_unsafe w ⟨b, 0, none⟩ Tryz.underlying151 Tryz.underlying127 hj hsh (by kernel_rfl)]
  simp only [Result.andThen]
  rw [Oper.upon_value]
  go_wp2_with fail
  go_end0
  exact ⟨rfl, rfl⟩
theorem copyCheck_any (B b : Nat) (bs : List Value) (w : World) (h : Lib.IsBuilderF 130 5 B b bs w) :
    Calls Tryz.prog 169 #[.pointer (some ⟨b, 0, none⟩)] w fun e w' => e = .returned (.tuple #[]) ∧ (Lib.BuilderAtF 130 5 B b (.pointer (some ⟨b, 0, none⟩)) bs w' ∧ Below B w w') := by
  rcases h with h | h
  · refine (copyCheck_fresh b w h.cell0 h.shape h.frozen0).mono ?_
    rintro e w' ⟨rfl, rfl⟩
    exact ⟨rfl, h.used _, (Below.refl B w).setCell (p := ⟨b, 0, none⟩) h.1 _⟩
  · refine (copyCheck_used b w h.cell0).mono ?_
    rintro e w' ⟨rfl, rfl⟩
    exact ⟨rfl, h, Below.refl B _⟩
set_option maxRecDepth 100000 in
theorem byte_info : ∃ i : TypeInfo, Tryz.prog.info? 5 = some i ∧ i.zero = some (.int .u8 0) ∧ i.size = 1 ∧ i.bytes = 1 := ⟨_, rfl, rfl, rfl, rfl⟩

set_option maxHeartbeats 4000000 in
set_option maxRecDepth 100000 in
theorem writeString_any (B b : Nat) (bs : List Value) (s : ByteArray) (w : World) (h : Lib.IsBuilderF 130 5 B b bs w) (hlen : bs.length + s.size ≤ 1000000) (hBw : B ≤ w.heap.size) :
    Calls Tryz.prog 149 #[.pointer (some ⟨b, 0, none⟩), .string s] w fun e w' => e = .returned (.tuple #[.int .i64 s.size, .nilIface]) ∧ (Lib.BuilderAtF 130 5 B b (.pointer (some ⟨b, 0, none⟩)) (bs ++ Lib.strCells s) w' ∧ Below B w w') := by
  obtain ⟨i0, hi, hz0, hz1, hz2⟩ := byte_info
  go_enter Tryz.func149, Tryz.ntmps149
  go_wp2_with fail
  refine (copyCheck_any B b bs _ h).mono ?_
  rintro e w1 ⟨rfl, h1, hb1⟩
  obtain ⟨hB, v, hbk, hown, hne⟩ := h1
  have c0 : w1.cell? ⟨b, 0, none⟩ = some (.pointer (some ⟨b, 0, none⟩)) := by rw [Lib.cell_of_heap hbk]; rfl
  have c1 : w1.cell? ⟨b, 1, none⟩ = some v := by rw [Lib.cell_of_heap hbk]; rfl
  go_wp2_with (at_builtin; refine Lib.wpList_append_own_stringF _ rfl _ _ 128 9 rfl B 5 i0 Tryz.underlying128 Tryz.underlying9 hi hz0 hz1 hz2 _ _ _ rfl hown s rfl ?c3 ?c4 ?c5 ?_)
  case c3 => unfold maxLen; omega
  case c4 => omega
  case c5 => have := hb1.size; omega
  intro v' w2 hown' hgrow _
  have hlt : b < w1.heap.size := size_of hbk
  have hb2 : w2.heap[b]? = some (.cells #[.pointer (some ⟨b, 0, none⟩), v] 130 (0, 0)) := by
    rw [hgrow.block b hlt (fun e => hne e.symm)]
    exact hbk
  have d0 : w2.cell? ⟨b, 0, none⟩ = some (.pointer (some ⟨b, 0, none⟩)) := by rw [Lib.cell_of_heap hb2]; rfl
  have d1 : w2.cell? ⟨b, 1, none⟩ = some v := by rw [Lib.cell_of_heap hb2]; rfl
  have f1 : w2.frozen? ⟨b, 1, none⟩ = false := Lib.frozen_of_heap hb2 1
  obtain ⟨ao, n', cap, rfl⟩ : ∃ ao n' cap, v' = .slice ao n' cap := by
    rcases hown'.2 with ⟨hv, _⟩ | ⟨g, cap, cur, fz, hv, _⟩
    · exact ⟨_, _, _, hv⟩
    · exact ⟨_, _, _, hv⟩
  have HO := hid hown'
  have HG := hid hgrow
  have HW := hid hown
  clear hown' hgrow hown
  go_wp2_with fail
  go_ret2
  refine ⟨rfl, ?_, ?_⟩
  · exact Lib.BuilderAtF.put (T := 130) (e := 5) hB hb2 (bs' := bs ++ Lib.strCells s) (by simpa [Lib.strCells_length] using HO.out) (by decide)
  · exact (hb1.grown HG.out (by have := hb1.size; omega) (fun k hk => (HW.out.lt k hk).1)).setCell (p := ⟨b, 1, none⟩) hB _
end Go.Proofs.YtnoaojjljcbflaaGreatDoor

/- The program: a builder of texts: bytes. -/
namespace Go.Proofs.YtnoaojjljcbflaaGreatDoor
open Go.RowKit

set_option maxHeartbeats 4000000 in
set_option maxRecDepth 100000 in
theorem writeByte_any (B b : Nat) (bs : List Value) (c : Int) (w : World) (h : Lib.IsBuilderF 130 5 B b bs w) (hlen : bs.length + 1 ≤ 1000000) (hBw : B ≤ w.heap.size) :
    Calls Tryz.prog 180 #[.pointer (some ⟨b, 0, none⟩), .int .u8 c] w fun e w' => e = .returned (.nilIface) ∧ (Lib.BuilderAtF 130 5 B b (.pointer (some ⟨b, 0, none⟩)) (bs ++ [.int .u8 c]) w' ∧ Below B w w') := by
  obtain ⟨i0, hi, hz0, hz1, hz2⟩ := byte_info
  go_enter Tryz.func180, Tryz.ntmps180
  go_wp2_with fail
  refine (copyCheck_any B b bs _ h).mono ?_
  rintro e w1 ⟨rfl, h1, hb1⟩
  obtain ⟨hB, v, hbk, hown, hne⟩ := h1
  have c0 : w1.cell? ⟨b, 0, none⟩ = some (.pointer (some ⟨b, 0, none⟩)) := by rw [Lib.cell_of_heap hbk]; rfl
  have c1 : w1.cell? ⟨b, 1, none⟩ = some v := by rw [Lib.cell_of_heap hbk]; rfl
  go_wp2_with (at_builtin; refine wpList_append_ownF _ rfl _ _ 128 rfl B 5 i0 (.int .u8 0) 1 1 Tryz.underlying128 hi hz0 hz1 hz2 rfl (by decide) _ _ _ rfl (hown.alloc _) ⟨w1.heap.size, 0, none⟩ 1 1 [.int .u8 c] rfl rfl ?c1 ?c2 ?c3 ?c4 ?c5 ?_)
  case c1 =>
    intro j u hj
    match j, hj with
    | 0, hj => simp at hj; subst hj; simp [Addr.add]
  case c2 => intro u hu; simp at hu; subst hu; rfl
  case c3 => unfold maxLen; omega
  case c4 => omega
  case c5 => have := hb1.size; simp; omega
  intro v' w2 hown' hgrow _
  have hlt : b < w1.heap.size := size_of hbk
  have hb2 : w2.heap[b]? = some (.cells #[.pointer (some ⟨b, 0, none⟩), v] 130 (0, 0)) := by
    rw [hgrow.block b (by simp; omega) (fun e => hne e.symm), Below.heap_alloc w1 _ b hlt]
    exact hbk
  have d0 : w2.cell? ⟨b, 0, none⟩ = some (.pointer (some ⟨b, 0, none⟩)) := by rw [Lib.cell_of_heap hb2]; rfl
  have d1 : w2.cell? ⟨b, 1, none⟩ = some v := by rw [Lib.cell_of_heap hb2]; rfl
  have f1 : w2.frozen? ⟨b, 1, none⟩ = false := Lib.frozen_of_heap hb2 1
  obtain ⟨g, cap, rfl⟩ : ∃ g cap, v' = .slice (some ⟨g, 0, none⟩) (bs.length + 1) cap := by
    rcases hown'.2 with ⟨_, h0⟩ | ⟨g, cap, cur, fz, hv, _⟩
    · omega
    · exact ⟨g, cap, hv⟩
  have HO := hid hown'
  have HG := hid hgrow
  have HW := hid hown
  clear hown' hgrow hown
  go_wp2_with fail
  go_ret
  refine ⟨rfl, ?_, ?_⟩
  · exact Lib.BuilderAtF.put (T := 130) (e := 5) hB hb2 (bs' := bs ++ [.int .u8 c]) (by simpa using HO.out) (by decide)
  · exact ((hb1.alloc (by have := hb1.size; omega) _).grown HG.out (by have := hb1.size; simp; omega) (fun k hk => (HW.out.lt k hk).1)).setCell (p := ⟨b, 1, none⟩) hB _
end Go.Proofs.YtnoaojjljcbflaaGreatDoor

/- The program: a builder of texts: runes. -/
namespace Go.Proofs.YtnoaojjljcbflaaGreatDoor
open Go.RowKit

set_option maxHeartbeats 4000000 in
set_option maxRecDepth 100000 in
theorem writeRune_any (B b : Nat) (bs : List Value) (r : Int) (hr0 : 0 ≤ r) (hr1 : r ≤ 1114111) (w : World) (h : Lib.IsBuilderF 130 5 B b bs w) (hlen : bs.length + 4 ≤ 1000000) (hBw : B ≤ w.heap.size) :
    Calls Tryz.prog 179 #[.pointer (some ⟨b, 0, none⟩), .int .i32 r] w fun e w' => e = .returned (.tuple #[.int .i64 (Lib.runeCells r).length, .nilIface]) ∧ (Lib.BuilderAtF 130 5 B b (.pointer (some ⟨b, 0, none⟩)) (bs ++ Lib.runeCells r) w' ∧ Below B w w') := by
  have hk4 := Lib.runeCells_le r
  go_enter Tryz.func179, Tryz.ntmps179
  go_wp2_with fail
  refine (copyCheck_any B b bs _ h).mono ?_
  rintro e w1 ⟨rfl, h1, hb1⟩
  obtain ⟨hB, v, hbk, hown, hne⟩ := h1
  obtain ⟨ao, cap, rfl⟩ : ∃ ao cap, v = .slice ao bs.length cap := by
    rcases hown.2 with ⟨hv, h0⟩ | ⟨g, cap, cur, fz, hv, _⟩
    · exact ⟨none, 0, by rw [hv, h0]⟩
    · exact ⟨_, _, hv⟩
  have c0 : w1.cell? ⟨b, 0, none⟩ = some (.pointer (some ⟨b, 0, none⟩)) := by rw [Lib.cell_of_heap hbk]; rfl
  have c1 : w1.cell? ⟨b, 1, none⟩ = some (.slice ao bs.length cap) := by rw [Lib.cell_of_heap hbk]; rfl
  go_wp2_with fail
  refine (Tryz.utf8_AppendRune_row B _ bs.length bs r (by omega) (by omega) _ hown (by omega) (by have := hb1.size; omega)).mono ?_
  rintro e w2 ⟨v', rfl, hown', o, hgrow⟩
  have hlt : b < w1.heap.size := size_of hbk
  have hb2 : w2.heap[b]? = some (.cells #[.pointer (some ⟨b, 0, none⟩), .slice ao bs.length cap] 130 (0, 0)) := by
    rw [hgrow.block b (by simp; omega) (fun e => hne e.symm), Below.heap_alloc w1 _ b hlt]
    exact hbk
  have d0 : w2.cell? ⟨b, 0, none⟩ = some (.pointer (some ⟨b, 0, none⟩)) := by rw [Lib.cell_of_heap hb2]; rfl
  have d1 : w2.cell? ⟨b, 1, none⟩ = some (.slice ao bs.length cap) := by rw [Lib.cell_of_heap hb2]; rfl
  have f1 : w2.frozen? ⟨b, 1, none⟩ = false := Lib.frozen_of_heap hb2 1
  obtain ⟨ao', cap', rfl⟩ : ∃ ao' cap', v' = .slice ao' (bs.length + (Lib.runeCells r).length) cap' := by
    rcases hown'.2 with ⟨hv, h0⟩ | ⟨g, cap, cur, fz, hv, _⟩
    · exact ⟨none, 0, by rw [hv, h0]⟩
    · exact ⟨_, _, hv⟩
  have HO := hid hown'
  have HG := hid hgrow
  have HW := hid hown
  clear hown' hgrow hown
  go_wp2_with fail
  go_ret2
  refine ⟨?_, ?_, ?_⟩
  · have e : ((bs.length : Int) + ((Lib.runeCells r).length : Int) - (bs.length : Int)) = ((Lib.runeCells r).length : Int) := by omega
    simp [e]
  · exact Lib.BuilderAtF.put (T := 130) (e := 5) hB hb2 (bs' := bs ++ Lib.runeCells r) (by simpa using HO.out) (by decide)
  · exact ((hb1.alloc (by have := hb1.size; omega) _).grown HG.out (by have := hb1.size; simp; omega) (fun k hk => (HW.out.lt k hk).1)).setCell (p := ⟨b, 1, none⟩) hB _
theorem u8v {x : Int} {n : Nat} (h : x = n) (hn : n < 256) : Value.int .u8 x = Value.int .u8 ((UInt8.ofNat n).toNat : Int) := by
  subst h
  congr 1
  simp
  omega
/-- a rune's bytes, in the library's words and in mine -/
theorem runeZ (r : Int) (h0 : 0 ≤ r) (h1 : r ≤ 1114111) (hv : r < 55296 ∨ 57343 < r) : Lib.runeCells r = Lib.byteCells (runeL r.toNat) := by
  unfold Lib.runeCells Lib.byteCells runeL
  by_cases a1 : r ≤ 127
  · rw [Lib.encodeRuneZ_one h0 a1, if_pos (by omega)]
    simp only [List.map_cons, List.map_nil]
    rw [u8v (n := r.toNat) (by omega) (by omega)]
  by_cases a2 : r ≤ 2047
  · rw [Lib.encodeRuneZ_two (by omega) a2, if_neg (by omega), if_pos (by omega)]
    simp only [List.map_cons, List.map_nil]
    rw [u8v (n := 192 + r.toNat / 64) (by omega) (by omega), u8v (x := 128 + r % 64) (n := 128 + r.toNat % 64) (by omega) (by omega)]
  by_cases a3 : r ≤ 65535
  · rw [Lib.encodeRuneZ_three (by omega), if_neg (by omega), if_neg (by omega), if_pos (by omega)]
    simp only [List.map_cons, List.map_nil]
    rw [u8v (n := 224 + r.toNat / 4096) (by omega) (by omega), u8v (x := 128 + r / 64 % 64) (n := 128 + r.toNat / 64 % 64) (by omega) (by omega), u8v (x := 128 + r % 64) (n := 128 + r.toNat % 64) (by omega) (by omega)]
  · rw [Lib.encodeRuneZ_four (by omega) h1, if_neg (by omega), if_neg (by omega), if_neg (by omega)]
    simp only [List.map_cons, List.map_nil]
    rw [u8v (n := 240 + r.toNat / 262144) (by omega) (by omega), u8v (x := 128 + r / 4096 % 64) (n := 128 + r.toNat / 4096 % 64) (by omega) (by omega), u8v (x := 128 + r / 64 % 64) (n := 128 + r.toNat / 64 % 64) (by omega) (by omega), u8v (x := 128 + r % 64) (n := 128 + r.toNat % 64) (by omega) (by omega)]
end Go.Proofs.YtnoaojjljcbflaaGreatDoor

/- The program: a text with what its references stand for. -/
namespace Go.Proofs.YtnoaojjljcbflaaGreatDoor
open Go.RowKit

theorem meant_free : ∀ (a b : List UInt8), (∀ c ∈ a, c ≠ 38) → meant (a ++ b) = a ++ meant b
  | [], _, _ => rfl
  | c :: a, b, h => by
    rw [List.cons_append, meant_plain (h c (by simp)), meant_free a b (fun d hd => h d (by simp [hd])), List.cons_append]
theorem meant_same (a : List UInt8) (h : ∀ c ∈ a, c ≠ 38) : meant a = a := by
  have := meant_free a [] h
  simpa [meant_nil] using this
theorem take_free {t : ByteArray} {k : Nat} (hno : ∀ j, 0 ≤ j → j < k → ¬ standsAt ⟨#[38]⟩ t j) : ∀ c ∈ t.data.toList.take k, c ≠ 38 := by
  intro c hc e
  subst e
  obtain ⟨j, hj, hj2⟩ := List.getElem_of_mem hc
  rw [List.length_take] at hj
  refine hno j (by omega) (by omega) (stands_one.2 ?_)
  rw [List.getElem_take] at hj2
  rw [List.getElem?_eq_getElem (by omega), hj2]
theorem bodyR_valid {l : List UInt8} {n : Nat} (h : bodyR l = some n) : n < 55296 ∨ 57343 < n := by
  have hr : ∀ m, runeN m < 55296 ∨ 57343 < runeN m := fun m => by unfold runeN; split <;> omega
  have hn : ∀ b l n, numRef b l = some n → n < 55296 ∨ 57343 < n := fun b l n h => by
    unfold numRef at h
    split at h
    · cases h
    · cases hq : numL b l 0 with
      | none => rw [hq] at h; cases h
      | some m =>
        rw [hq] at h
        obtain rfl : runeN m = n := by simpa using h
        exact hr m
  unfold bodyR at h
  iterate 8 (split at h; · obtain rfl := Option.some.inj h; omega)
  unfold bodyT at h
  split at h
  · split at h
    · exact hn _ _ _ h
    · exact hn _ _ _ h
  · cases h
theorem below_drewN' {B : Nat} {a w : World} (h : Below B a w) (n : Nat) : Below B a (w.drewN n) := ⟨h.os, h.tape, h.output, h.size, h.block⟩
def sizeV : Value → Nat
  | .string t => t.size
  | _ => 0

set_option maxHeartbeats 8000000 in
set_option maxRecDepth 100000 in
theorem resolve_any (s : ByteArray) (hs : s.size ≤ 100000) (m : Int) (w : World) (hm : w.cell? ⟨8, 0, none⟩ = some (.int .i64 m)) :
    Calls Tryz.prog 163 #[.string s] w fun e w' => e = .returned (.string (meantS s)) ∧ Below w.heap.size w w' := by
  have h8 : 8 < w.heap.size := World.block_lt_of_cell? w _ hm
  go_enter Tryz.func163, Tryz.ntmps163
  go_wp2_with fail
  go_loopw [0] (fun sv wr => ∃ (t : ByteArray) (P : List UInt8), sv = .string t ∧ t.size ≤ s.size ∧ P.length + 4 * t.size ≤ 4 * s.size ∧ Hid (meant s.data.toList = P ++ meant t.data.toList ∧ Lib.IsBuilderF 130 5 w.heap.size w.heap.size (Lib.byteCells P) wr ∧ Below w.heap.size w wr)) (fun sv _ => sizeV sv)
  case atStart =>
    refine ⟨s, [], rfl, Nat.le_refl _, by simp, hid ⟨rfl, .inl ⟨Nat.le_refl _, .slice none 0 0, heap_alloc_new w _, ?_, ?_⟩, (Below.refl _ _).alloc (Nat.le_refl _) _⟩⟩
    · exact World.ownsRowF_nil _ _ _ _
    · simp [Value.ownBlock]
  case round =>
    obtain ⟨t, P, rfl, ht, hP, hL⟩ := hrel
    have hm' : wr.cell? ⟨8, 0, none⟩ = some (.int .i64 m) := (hL.out.2.2.cell (p := ⟨8, 0, none⟩) h8).trans hm
    have e0 : t.extract 0 t.size = t := by simp
    cases hf : findE ⟨#[38]⟩ t 0 with
    | none =>
      have hc := pcut_miss t ⟨#[38]⟩ 0 (by omega) (by decide) hf m wr hm'
      rw [e0] at hc
      have hM : meant t.data.toList = t.data.toList := meant_same _ (fun c hc e => by
        subst e
        obtain ⟨j, hj, hj2⟩ := List.getElem_of_mem hc
        exact findE_no (by decide) hf j (by omega) (stands_one.2 (by rw [List.getElem?_eq_getElem hj, hj2])))
      have HC := hid hc
      have HM := hid hM
      clear hc hM hf hm hm'
      go_wp2_with fail
      refine HC.out.mono ?_
      rintro e w1 ⟨rfl, n1, rfl⟩
      go_wp2_with fail
      have hb1 : Lib.IsBuilderF 130 5 w.heap.size w.heap.size (Lib.byteCells P) (wr.drewN n1) := hL.out.2.1
      refine (writeString_any w.heap.size w.heap.size (Lib.byteCells P) t _ hb1 (by rw [Lib.byteCells_length]; omega) hL.out.2.2.size).mono ?_
      rintro e w2 ⟨rfl, hB2, hW2⟩
      have hs2 : w.heap.size ≤ w2.heap.size := Nat.le_trans hL.out.2.2.size hW2.size
      have H2 : Hid (Lib.IsBuilderF 130 5 w.heap.size w.heap.size (Lib.byteCells (P ++ t.data.toList)) w2 ∧ Below w.heap.size w w2) := ⟨.inr (by unfold Lib.byteCells; rw [List.map_append]; exact hB2), (below_drewN' hL.out.2.2 n1).trans hW2⟩
      clear hB2 hW2 hb1
      go_wp2_with fail
      refine (Tryz.Builder_String_any_f w.heap.size w.heap.size (P ++ t.data.toList) _ H2.out.1 hs2).mono ?_
      rintro e w3 ⟨rfl, _, hW3⟩
      have H3 := hid (H2.out.2.trans hW3)
      clear hW3
      go_wp2_with fail
      go_ret
      refine ⟨rets ?_, H3.out⟩
      unfold meantS
      rw [hL.out.1, HM.out]
    | some k =>
      obtain ⟨_, hst, hno⟩ := findE_some hf
      have hk : k < t.size := hst.1
      have hc := pcut_hit t ⟨#[38]⟩ 0 k (by omega) (by omega) (by decide) hf m wr hm'
      rw [e0] at hc
      have htl : t.data.toList = t.data.toList.take k ++ 38 :: t.data.toList.drop (k + 1) := by
        have h1 := stands_one.1 hst
        have h2 : t.data.toList[k]'(by simpa using hk) = 38 := by rw [List.getElem?_eq_getElem (by simpa using hk)] at h1; exact Option.some.inj h1
        conv => lhs; rw [← List.take_append_drop k t.data.toList, List.drop_eq_getElem_cons (by simpa using hk), h2]
      obtain ⟨u, hu⟩ : ∃ u, u = t.extract (k + 1) t.size := ⟨_, rfl⟩
      have hul : u.data.toList = t.data.toList.drop (k + 1) := by rw [hu, ext_list, List.take_of_length_le (by simp)]
      have hus : u.size = t.size - (k + 1) := by rw [hu, ByteArray.size_extract]; omega
      have hM : meant s.data.toList = (P ++ t.data.toList.take k) ++ meant (38 :: u.data.toList) := by
        rw [hL.out.1, htl, meant_free _ _ (take_free hno), hul, List.append_assoc]
        congr 2
        rw [List.take_append_of_le_length (by simp; omega), List.take_take, Nat.min_self]
      have hah : (t.extract 0 k).data.toList = t.data.toList.take k := by rw [ext_list]; simp
      have hc' : Calls Tryz.prog 164 #[.string t, .string ⟨#[38]⟩] wr fun e w' => e = .returned (.tuple #[.string (t.extract 0 k), .string u, .bool true]) ∧ ∃ n, w' = wr.drewN n := by
        rw [hu]; exact hc
      obtain ⟨n, hn⟩ : ∃ n, n = spanE bodyN u 0 := ⟨_, rfl⟩
      have hnt := span_take u 0 (by omega)
      rw [List.drop_zero, Nat.zero_add, ← hn] at hnt
      have hnu : n ≤ u.size := by rw [hn]; exact spanE_size _ _ _ (by omega)
      have hbd : (u.extract 0 n).data.toList = u.data.toList.takeWhile bodyB := by
        rw [ext_list, List.drop_zero, Nat.sub_zero, hnt]
        exact (List.prefix_iff_eq_take.1 (List.takeWhile_prefix bodyB)).symm
      have hbl := bodyLen_any u (by omega)
      rw [← hn] at hbl
      have HBL := hid hbl
      have HC := hid hc'
      have HM := hid hM
      have HBD := hid hbd
      have HNT := hid hnt
      have hus2 : u.size + k + 1 ≤ t.size := by omega
      have hbsz : (u.extract 0 n).size = n := by rw [ByteArray.size_extract]; omega
      clear hus
      clear hc hc' hM htl hul hbd hnt hbl hst hno hf hn hu e0
      go_wp2_with fail
      refine HC.out.mono ?_
      rintro e w1 ⟨rfl, n1, rfl⟩
      go_wp2_with fail
      have hb1 : Lib.IsBuilderF 130 5 w.heap.size w.heap.size (Lib.byteCells P) (wr.drewN n1) := hL.out.2.1
      refine (writeString_any w.heap.size w.heap.size (Lib.byteCells P) (t.extract 0 k) _ hb1 (by rw [Lib.byteCells_length, ByteArray.size_extract]; omega) hL.out.2.2.size).mono ?_
      rintro e w2 ⟨rfl, hB2, hW2⟩
      have hs2 : w.heap.size ≤ w2.heap.size := Nat.le_trans hL.out.2.2.size hW2.size
      have H2 : Hid (Lib.IsBuilderF 130 5 w.heap.size w.heap.size (Lib.byteCells (P ++ t.data.toList.take k)) w2 ∧ Below w.heap.size w w2) := ⟨.inr (by unfold Lib.byteCells; rw [List.map_append, ← hah]; exact hB2), (below_drewN' hL.out.2.2 n1).trans hW2⟩
      clear hB2 hW2 hb1 hah
      go_wp2_with fail
      refine (HBL.out _).mono ?_
      rintro e w3 ⟨rfl, rfl⟩
      go_wp2_with fail
      refine (runeOf_any (u.extract 0 n) (by rw [ByteArray.size_extract]; omega) _).mono ?_
      rintro e w4 ⟨⟨⟨x, ok⟩, rfl, hfit⟩, rfl⟩
      rw [HBD.out] at hfit
      have HF := hid hfit
      clear hfit
      obtain ⟨hf1, hf2⟩ := HF.out
      cases ok
      · have hR : refAt u.data.toList = none := by
          unfold refAt
          simp only
          split
          · have : bodyR (u.data.toList.takeWhile bodyB) = none := by
              cases hq : bodyR (u.data.toList.takeWhile bodyB) with
              | none => rfl
              | some z => rw [hq] at hf1; cases hf1
            rw [this]; rfl
          · rfl
        simp only [twoV]
        have HM2 : Hid (meant s.data.toList = (P ++ t.data.toList.take k ++ [38]) ++ meant u.data.toList) := by
          show _ = _
          rw [HM.out, meant_no hR]
          simp
        clear hf1 hf2 hR
        go_wp2_with fail
        refine (writeByte_any w.heap.size w.heap.size (Lib.byteCells (P ++ t.data.toList.take k)) 38 _ H2.out.1 (by rw [Lib.byteCells_length, List.length_append, List.length_take]; simp; omega) hs2).mono ?_
        rintro e w5 ⟨rfl, hB5, hW5⟩
        have H5 : Hid (Lib.IsBuilderF 130 5 w.heap.size w.heap.size (Lib.byteCells (P ++ t.data.toList.take k ++ [38])) w5 ∧ Below w.heap.size w w5) := ⟨.inr (by unfold Lib.byteCells at hB5 ⊢; rw [List.map_append]; exact hB5), H2.out.2.trans hW5⟩
        clear hB5 hW5
        go_wp2_with fail
        go_roundw
        case rel => exact ⟨u, P ++ t.data.toList.take k ++ [38], rfl, by omega, by simp; omega, hid ⟨HM2.out, H5.out.1, H5.out.2⟩⟩
        case measure => show u.size < t.size; omega
      · obtain ⟨r, hr⟩ : ∃ r, bodyR (u.data.toList.takeWhile bodyB) = some r := by
          cases hq : bodyR (u.data.toList.takeWhile bodyB) with
          | none => rw [hq] at hf1; cases hf1
          | some z => exact ⟨z, rfl⟩
        have hx := hf2 r hr
        have hx1 : x ≤ 1114111 := by have := bodyR_le hr; omega
        have hxv : x < 55296 ∨ 57343 < x := by have := bodyR_valid hr; omega
        have hpre : decide ((⟨#[59]⟩ : ByteArray).size ≤ (u.extract n u.size).size ∧ (u.extract n u.size).extract 0 (⟨#[59]⟩ : ByteArray).size = ⟨#[59]⟩) = decide (standsAt ⟨#[59]⟩ u n) := by
          rw [Bool.eq_iff_iff, decide_eq_true_eq, decide_eq_true_eq, prefix_at hnu]
        have hdef : refAt u.data.toList = if u.data.toList[n]? = some 59 then some (r, n + 1) else none := by
          unfold refAt
          simp only
          rw [hr, ← HNT.out]
          rfl
        have hx0 : 0 ≤ x := by omega
        have hxr : x.toNat = r := by omega
        cases e59 : decide (standsAt ⟨#[59]⟩ u n)
        · have hR : refAt u.data.toList = none := by
            rw [hdef, if_neg (fun h => of_decide_eq_false e59 (stands_one.2 h))]
          have HPX := hid (hpre.trans e59)
          simp only [twoV]
          have HM2 : Hid (meant s.data.toList = (P ++ t.data.toList.take k ++ [38]) ++ meant u.data.toList) := by
            show _ = _
            rw [HM.out, meant_no hR]
            simp
          clear hf1 hf2 hR hdef hpre e59 hr hx
          go_wp2_with fail
          refine (prefix_any (u.extract n u.size) ⟨#[59]⟩ false HPX.out _).mono ?_
          rintro e w6 ⟨rfl, rfl⟩
          go_wp2_with fail
          refine (writeByte_any w.heap.size w.heap.size (Lib.byteCells (P ++ t.data.toList.take k)) 38 _ H2.out.1 (by rw [Lib.byteCells_length, List.length_append, List.length_take]; simp; omega) hs2).mono ?_
          rintro e w5 ⟨rfl, hB5, hW5⟩
          have H5 : Hid (Lib.IsBuilderF 130 5 w.heap.size w.heap.size (Lib.byteCells (P ++ t.data.toList.take k ++ [38])) w5 ∧ Below w.heap.size w w5) := ⟨.inr (by unfold Lib.byteCells at hB5 ⊢; rw [List.map_append]; exact hB5), H2.out.2.trans hW5⟩
          clear hB5 hW5
          go_wp2_with fail
          go_roundw
          case rel => exact ⟨u, P ++ t.data.toList.take k ++ [38], rfl, by omega, by simp; omega, hid ⟨HM2.out, H5.out.1, H5.out.2⟩⟩
          case measure => show u.size < t.size; omega
        · have h59 := stands_one.1 (of_decide_eq_true e59)
          have hn1 : n < u.size := by simpa using (List.getElem?_eq_some_iff.1 h59).1
          have hR : refAt u.data.toList = some (r, n + 1) := by rw [hdef, if_pos h59]
          have HPX := hid (hpre.trans e59)
          have hdl : (u.extract (n + 1) u.size).data.toList = u.data.toList.drop (n + 1) := by rw [ext_list, List.take_of_length_le (by simp)]
          have hds : (u.extract (n + 1) u.size).size = u.size - (n + 1) := by rw [ByteArray.size_extract]; omega
          have hrl : (runeL x.toNat).length ≤ 4 := by unfold runeL; split <;> (try split) <;> (try split) <;> simp
          have HM2 : Hid (meant s.data.toList = (P ++ t.data.toList.take k ++ runeL x.toNat) ++ meant (u.extract (n + 1) u.size).data.toList) := by
            show _ = _
            rw [HM.out, meant_ref hR, hxr, hdl]
            simp
          simp only [twoV]
          clear hf1 hf2 hR hdef hpre e59 hr hx h59 hdl hxr
          go_wp2_with fail
          refine (prefix_any (u.extract n u.size) ⟨#[59]⟩ true HPX.out _).mono ?_
          rintro e w6 ⟨rfl, rfl⟩
          go_wp2_with fail
          refine (writeRune_any w.heap.size w.heap.size (Lib.byteCells (P ++ t.data.toList.take k)) x hx0 hx1 _ H2.out.1 (by rw [Lib.byteCells_length, List.length_append, List.length_take]; simp; omega) hs2).mono ?_
          rintro e w5 ⟨rfl, hB5, hW5⟩
          have H5 : Hid (Lib.IsBuilderF 130 5 w.heap.size w.heap.size (Lib.byteCells (P ++ t.data.toList.take k ++ runeL x.toNat)) w5 ∧ Below w.heap.size w w5) := ⟨.inr (by rw [runeZ x hx0 hx1 hxv] at hB5; unfold Lib.byteCells at hB5 ⊢; rw [List.map_append]; exact hB5), H2.out.2.trans hW5⟩
          clear hB5 hW5
          go_wp2_with fail
          go_roundw
          case rel => exact ⟨u.extract (n + 1) u.size, P ++ t.data.toList.take k ++ runeL x.toNat, rfl, by omega, by simp; omega, hid ⟨HM2.out, H5.out.1, H5.out.2⟩⟩
          case measure => show (u.extract (n + 1) u.size).size < t.size; omega
end Go.Proofs.YtnoaojjljcbflaaGreatDoor
