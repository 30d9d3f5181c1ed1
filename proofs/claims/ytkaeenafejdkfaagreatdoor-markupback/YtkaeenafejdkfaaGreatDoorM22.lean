/- The program: comments and end tags are cut. -/
import Derived.Test.YtkaeenafejdkfaaGreatDoorM21
import Derived.Test.YtkaeenafejdkfaaGreatDoorM08
import Derived.Test.YtkaeenafejdkfaaGreatDoorM07
import Derived.Test.YtkaeenafejdkfaaGreatDoorM09
import Derived.Laws.AppendOwn
import Derived.Lib.RuneBytes
namespace Go.Proofs.YtkaeenafejdkfaaGreatDoor
open Go.RowKit

/-- a scanner lies there, and the library's variable holds a number -/
structure SC (w : World) (b : Nat) (s : ByteArray) (i : Nat) (raw : ByteArray) : Prop where
  sc : Sc w b s i raw
  ne : 8 ≠ b
  max : ∃ m, w.cell? ⟨8, 0, none⟩ = some (.int .i64 m)
theorem lt_of_cell8 {w : World} {v : Value} (h : w.cell? ⟨8, 0, none⟩ = some v) : 8 < w.heap.size := World.block_lt_of_cell? w _ h
theorem SC.only {w w' : World} {b : Nat} {s : ByteArray} {i j : Nat} {raw raw' : ByteArray} (h : SC w b s i raw) (ho : Only b w w') (hs : Sc w' b s j raw') : SC w' b s j raw' := by
  obtain ⟨m, hm⟩ := h.max
  exact ⟨hs, h.ne, m, (World.cell?_of_block (a := ⟨8, 0, none⟩) (ho.block 8 (lt_of_cell8 hm) h.ne)).trans hm⟩
theorem SC.alloc {w : World} {b : Nat} {s : ByteArray} {i : Nat} {raw : ByteArray} (h : SC w b s i raw) (o : Obj) : SC (w.alloc o) b s i raw := by
  obtain ⟨m, hm⟩ := h.max
  refine ⟨?_, h.ne, m, (World.cell?_alloc_lt _ _ ⟨8, 0, none⟩ (lt_of_cell8 hm)).trans hm⟩
  have := h.sc
  unfold Sc at this ⊢
  rw [Below.heap_alloc _ _ _ h.sc.lt]; exact this
theorem Only.alloc {b : Nat} {w : World} (o : Obj) : Only b w (w.alloc o) := Only.of ((Below.refl _ _).alloc (Nat.le_refl _) _)

/-- a piece of the program as a value -/
def pcv (kind i : Int) (name said : ByteArray) (attrs : Value) : Value := .agg #[.int .i64 kind, .int .i64 i, .string name, .string said, attrs]
theorem five_cells {w : World} {b : Nat} {t : TypeId} {a0 a1 a2 a3 a4 : Value} (h : w.heap[b]? = some (.cells #[a0, a1, a2, a3, a4] t (0, 0))) : w.cell? ⟨b, 0, none⟩ = some a0 ∧ w.cell? ⟨b, 1, none⟩ = some a1 ∧ w.cell? ⟨b, 2, none⟩ = some a2 ∧ w.cell? ⟨b, 3, none⟩ = some a3 ∧ w.cell? ⟨b, 4, none⟩ = some a4 ∧ ∀ o, w.frozen? ⟨b, o, none⟩ = false := by
  refine ⟨?_, ?_, ?_, ?_, ?_, fun o => by simp [World.frozen?, h]⟩ <;> (rw [cell_of_row w b _ _ _ _ h]; rfl)
def emptyPiece : Obj := .cells #[.int .i64 0, .int .i64 0, .string ⟨#[]⟩, .string ⟨#[]⟩, .slice none 0 0] 121 (0, 0)
/-- the result's block lies where it was laid -/
theorem res_block {w w' : World} {b : Nat} (hb : b < w.heap.size) (h : Only b (w.alloc emptyPiece) w') : w'.heap[w.heap.size]? = some emptyPiece := by
  rw [h.block w.heap.size (by simp) (by omega)]; exact heap_alloc_new w _
theorem Only.sets {b rb : Nat} {w w' : World} (h : Only b w w') (hr : w.heap.size ≤ rb) (o : Nat) (u : Value) : Only b w (w'.setCell ⟨rb, o, none⟩ u) :=
  ⟨h.os, h.tape, h.output, by simpa [World.setCell] using h.size, fun k hk hb => (Below.heap_setCell w' ⟨rb, o, none⟩ u k (by show k ≠ rb; omega)).trans (h.block k hk hb)⟩
theorem Sc.sets {w : World} {b rb : Nat} {s : ByteArray} {i : Nat} {raw : ByteArray} (h : Sc w b s i raw) (hr : b ≠ rb) (o : Nat) (u : Value) : Sc (w.setCell ⟨rb, o, none⟩ u) b s i raw := by
  unfold Sc at h ⊢
  rw [Below.heap_setCell w ⟨rb, o, none⟩ u b hr]; exact h

def mGt : ByteArray := ⟨#[45, 45, 62]⟩
set_option maxHeartbeats 4000000 in
set_option maxRecDepth 100000 in
theorem cutComment_hit {w : World} {b : Nat} {s : ByteArray} {i k : Nat} {raw : ByteArray} (h : SC w b s i raw) (hs : s.size ≤ 100000) (hp : standsAt ⟨#[60, 33, 45, 45]⟩ s i) (hf : findE ⟨#[45, 45, 62]⟩ s (i + 4) = some k) :
    Calls Tryz.prog 134 #[.pointer (some ⟨b, 0, none⟩)] w fun e w' => e = .returned (pcv 2 0 ⟨#[]⟩ (s.extract (i + 4) k) (.slice none 0 0)) ∧ Only b w w' ∧ Sc w' b s (k + 3) raw := by
  have hi : i + 4 ≤ s.size := hp.1
  have hlt := h.sc.lt
  have H := hid (h.alloc emptyPiece)
  have HP := hid hp
  have HF := hid hf
  clear h hp hf
  go_enter Tryz.func134, Tryz.ntmps134
  go_wp2_with fail
  refine (skip_yes H.out.sc hs ⟨#[60, 33, 45, 45]⟩ HP.out).mono ?_
  rintro e w1 ⟨rfl, hO1, hS1⟩
  have H1 := hid (H.out.only hO1 hS1)
  obtain ⟨m, hm⟩ := H1.out.max
  have hO1' := hid hO1
  clear hO1 hS1
  go_wp2_with fail
  refine (pass_hit (i := i + 4) H1.out.sc hs hi ⟨#[45, 45, 62]⟩ (by decide) HF.out m hm).mono ?_
  rintro e w2 ⟨rfl, hO2, hS2⟩
  have hR := res_block hlt (hO1'.out.trans hO2)
  obtain ⟨d0, d1, d2, d3, d4, df⟩ := five_cells hR
  have HO := hid (Only.alloc (b := b) emptyPiece |>.trans (hO1'.out.trans hO2))
  have HS := hid hS2
  clear hO2 hS2 hR hm
  go_wp2_with fail
  refine bodyPost_ret (v := pcv 2 0 ⟨#[]⟩ (s.extract (i + 4) k) (.slice none 0 0)) ?_ rfl ⟨rfl, ?_, ?_⟩
  · simp [results, Tryz.results134, go_sem, d0, d1, d2, d3, d4]
    try rfl
  · exact ((((HO.out.sets (Nat.le_refl _) _ _).sets (Nat.le_refl _) _ _).sets (Nat.le_refl _) _ _).sets (Nat.le_refl _) _ _).sets (Nat.le_refl _) _ _
  · have hn : b ≠ w.heap.size := by omega
    exact ((((HS.out.sets hn _ _).sets hn _ _).sets hn _ _).sets hn _ _).sets hn _ _
set_option maxHeartbeats 4000000 in
set_option maxRecDepth 100000 in
theorem cutComment_miss {w : World} {b : Nat} {s : ByteArray} {i : Nat} {raw : ByteArray} (h : SC w b s i raw) (hs : s.size ≤ 100000) (hp : standsAt ⟨#[60, 33, 45, 45]⟩ s i) (hf : findE ⟨#[45, 45, 62]⟩ s (i + 4) = none) :
    Calls Tryz.prog 134 #[.pointer (some ⟨b, 0, none⟩)] w fun e w' => e = .returned (pcv 2 0 ⟨#[]⟩ (s.extract (i + 4) s.size) (.slice none 0 0)) ∧ Only b w w' ∧ Sc w' b s s.size raw := by
  have hi : i + 4 ≤ s.size := hp.1
  have hlt := h.sc.lt
  have H := hid (h.alloc emptyPiece)
  have HP := hid hp
  have HF := hid hf
  clear h hp hf
  go_enter Tryz.func134, Tryz.ntmps134
  go_wp2_with fail
  refine (skip_yes H.out.sc hs ⟨#[60, 33, 45, 45]⟩ HP.out).mono ?_
  rintro e w1 ⟨rfl, hO1, hS1⟩
  have H1 := hid (H.out.only hO1 hS1)
  obtain ⟨m, hm⟩ := H1.out.max
  have hO1' := hid hO1
  clear hO1 hS1
  go_wp2_with fail
  refine (pass_miss (i := i + 4) H1.out.sc hs hi ⟨#[45, 45, 62]⟩ (by decide) HF.out m hm).mono ?_
  rintro e w2 ⟨rfl, hO2, hS2⟩
  have hR := res_block hlt (hO1'.out.trans hO2)
  obtain ⟨d0, d1, d2, d3, d4, df⟩ := five_cells hR
  have HO := hid (Only.alloc (b := b) emptyPiece |>.trans (hO1'.out.trans hO2))
  have HS := hid hS2
  clear hO2 hS2 hR hm
  go_wp2_with fail
  refine bodyPost_ret (v := pcv 2 0 ⟨#[]⟩ (s.extract (i + 4) s.size) (.slice none 0 0)) ?_ rfl ⟨rfl, ?_, ?_⟩
  · simp [results, Tryz.results134, go_sem, d0, d1, d2, d3, d4]
    try rfl
  · exact ((((HO.out.sets (Nat.le_refl _) _ _).sets (Nat.le_refl _) _ _).sets (Nat.le_refl _) _ _).sets (Nat.le_refl _) _ _).sets (Nat.le_refl _) _ _
  · have hn : b ≠ w.heap.size := by omega
    exact ((((HS.out.sets hn _ _).sets hn _ _).sets hn _ _).sets hn _ _).sets hn _ _
set_option maxHeartbeats 4000000 in
set_option maxRecDepth 100000 in
theorem cutEnd_hit {w : World} {b : Nat} {s : ByteArray} {i t k : Nat} {raw : ByteArray} (h : SC w b s i raw) (hs : s.size ≤ 100000) (hp : standsAt ⟨#[60, 47]⟩ s i) (ht : spanE inTagB s (i + 2) = t) (hf : findE ⟨#[62]⟩ s t = some k) :
    Calls Tryz.prog 136 #[.pointer (some ⟨b, 0, none⟩)] w fun e w' => e = .returned (pcv 4 0 (smallS (s.extract (i + 2) t)) ⟨#[]⟩ (.slice none 0 0)) ∧ Only b w w' ∧ Sc w' b s (k + 1) raw := by
  have hi : i + 2 ≤ s.size := hp.1
  have ht2 : t ≤ s.size := by rw [← ht]; exact spanE_size _ _ _ hi
  have hlt := h.sc.lt
  have H := hid (h.alloc emptyPiece)
  have HP := hid hp
  have HF := hid hf
  have HT := hid ht
  clear h hp hf ht
  go_enter Tryz.func136, Tryz.ntmps136
  go_wp2_with fail
  refine (skip_yes H.out.sc hs ⟨#[60, 47]⟩ HP.out).mono ?_
  rintro e w1 ⟨rfl, hO1, hS1⟩
  have H1 := hid (H.out.only hO1 hS1)
  have hO1' := hid hO1
  clear hO1 hS1
  go_wp2_with fail
  refine (take_tag (i := i + 2) H1.out.sc hs hi).mono ?_
  rintro e w2 ⟨rfl, hO2, hS2⟩
  rw [HT.out] at hS2 ⊢
  have H2 := hid (H1.out.only hO2 hS2)
  have hO2' := hid (hO1'.out.trans hO2)
  clear hO2 hS2
  go_wp2_with fail
  refine (lower_any (s.extract (i + 2) t) (by rw [ByteArray.size_extract]; omega) _).mono ?_
  rintro e w3 ⟨rfl, hB3⟩
  have H3 := hid (H2.out.only (Only.of hB3) (H2.out.sc.below H2.out.sc.lt hB3))
  have hO3' := hid (hO2'.out.trans (Only.of hB3))
  obtain ⟨m, hm⟩ := H3.out.max
  clear hB3
  go_wp2_with fail
  refine (pass_hit (i := t) H3.out.sc hs ht2 ⟨#[62]⟩ (by decide) HF.out m hm).mono ?_
  rintro e w4 ⟨rfl, hO4, hS4⟩
  have hR := res_block hlt (hO3'.out.trans hO4)
  obtain ⟨d0, d1, d2, d3, d4, df⟩ := five_cells hR
  have HO := hid (Only.alloc (b := b) emptyPiece |>.trans (hO3'.out.trans hO4))
  have HS := hid hS4
  clear hO4 hS4 hR hm
  go_wp2_with fail
  refine bodyPost_ret (v := pcv 4 0 (smallS (s.extract (i + 2) t)) ⟨#[]⟩ (.slice none 0 0)) ?_ rfl ⟨rfl, ?_, ?_⟩
  · simp [results, Tryz.results136, go_sem, d0, d1, d2, d3, d4]
    try rfl
  · exact ((((HO.out.sets (Nat.le_refl _) _ _).sets (Nat.le_refl _) _ _).sets (Nat.le_refl _) _ _).sets (Nat.le_refl _) _ _).sets (Nat.le_refl _) _ _
  · have hn : b ≠ w.heap.size := by omega
    exact ((((HS.out.sets hn _ _).sets hn _ _).sets hn _ _).sets hn _ _).sets hn _ _
set_option maxHeartbeats 4000000 in
set_option maxRecDepth 100000 in
theorem cutEnd_miss {w : World} {b : Nat} {s : ByteArray} {i t : Nat} {raw : ByteArray} (h : SC w b s i raw) (hs : s.size ≤ 100000) (hp : standsAt ⟨#[60, 47]⟩ s i) (ht : spanE inTagB s (i + 2) = t) (hf : findE ⟨#[62]⟩ s t = none) :
    Calls Tryz.prog 136 #[.pointer (some ⟨b, 0, none⟩)] w fun e w' => e = .returned (pcv 0 0 ⟨#[]⟩ ⟨#[]⟩ (.slice none 0 0)) ∧ Only b w w' ∧ Sc w' b s s.size raw := by
  have hi : i + 2 ≤ s.size := hp.1
  have ht2 : t ≤ s.size := by rw [← ht]; exact spanE_size _ _ _ hi
  have hlt := h.sc.lt
  have H := hid (h.alloc emptyPiece)
  have HP := hid hp
  have HF := hid hf
  have HT := hid ht
  clear h hp hf ht
  go_enter Tryz.func136, Tryz.ntmps136
  go_wp2_with fail
  refine (skip_yes H.out.sc hs ⟨#[60, 47]⟩ HP.out).mono ?_
  rintro e w1 ⟨rfl, hO1, hS1⟩
  have H1 := hid (H.out.only hO1 hS1)
  have hO1' := hid hO1
  clear hO1 hS1
  go_wp2_with fail
  refine (take_tag (i := i + 2) H1.out.sc hs hi).mono ?_
  rintro e w2 ⟨rfl, hO2, hS2⟩
  rw [HT.out] at hS2 ⊢
  have H2 := hid (H1.out.only hO2 hS2)
  have hO2' := hid (hO1'.out.trans hO2)
  clear hO2 hS2
  go_wp2_with fail
  refine (lower_any (s.extract (i + 2) t) (by rw [ByteArray.size_extract]; omega) _).mono ?_
  rintro e w3 ⟨rfl, hB3⟩
  have H3 := hid (H2.out.only (Only.of hB3) (H2.out.sc.below H2.out.sc.lt hB3))
  have hO3' := hid (hO2'.out.trans (Only.of hB3))
  obtain ⟨m, hm⟩ := H3.out.max
  clear hB3
  go_wp2_with fail
  refine (pass_miss (i := t) H3.out.sc hs ht2 ⟨#[62]⟩ (by decide) HF.out m hm).mono ?_
  rintro e w4 ⟨rfl, hO4, hS4⟩
  have hR := res_block hlt (hO3'.out.trans hO4)
  obtain ⟨d0, d1, d2, d3, d4, df⟩ := five_cells hR
  have HO := hid (Only.alloc (b := b) emptyPiece |>.trans (hO3'.out.trans hO4))
  have HS := hid hS4
  clear hO4 hS4 hR hm
  go_wp2_with fail
  refine bodyPost_ret (v := pcv 0 0 ⟨#[]⟩ ⟨#[]⟩ (.slice none 0 0)) ?_ rfl ⟨rfl, ?_, ?_⟩
  · simp [results, Tryz.results136, go_sem, d0, d1, d2, d3, d4]
    try rfl
  · exact ((((HO.out.sets (Nat.le_refl _) _ _).sets (Nat.le_refl _) _ _).sets (Nat.le_refl _) _ _).sets (Nat.le_refl _) _ _).sets (Nat.le_refl _) _ _
  · have hn : b ≠ w.heap.size := by omega
    exact ((((HS.out.sets hn _ _).sets hn _ _).sets hn _ _).sets hn _ _).sets hn _ _
end Go.Proofs.YtkaeenafejdkfaaGreatDoor

/- The program: a value as it stands. -/
namespace Go.Proofs.YtkaeenafejdkfaaGreatDoor
open Go.RowKit

/-- a value as it stands, and where the scanner is then -/
def valR (s : ByteArray) (i : Nat) : ByteArray × Nat :=
  if bt s i = 34 ∨ bt s i = 39 then
    match findE (s.extract i (i + 1)) s (i + 1) with
    | some e => (s.extract (i + 1) e, e + 1)
    | none => (s.extract (i + 1) s.size, s.size)
  else (s.extract i (spanE inValB s i), spanE inValB s i)
theorem one_of {s : ByteArray} {i : Nat} {q : UInt8} (h : standsAt ⟨#[q]⟩ s i) : bt s i = q.toNat ∧ s.extract i (i + 1) = ⟨#[q]⟩ ∧ i < s.size := by
  have h1 : i + 1 ≤ s.size := h.1
  have h2 : s.extract i (i + 1) = ⟨#[q]⟩ := h.2
  refine ⟨?_, h2, by omega⟩
  have hb := stands_one.1 h
  rw [bytes_get s i (by omega)] at hb
  rw [bt_lt (by omega), Option.some.inj hb]
theorem one_is {s : ByteArray} {i : Nat} {q : UInt8} (h : bt s i = q.toNat) : standsAt ⟨#[q]⟩ s i := by
  have hi : i < s.size := by
    rcases Nat.lt_or_ge i s.size with h2 | h2
    · exact h2
    · rw [bt_ge h2] at h
      have := q.toNat_lt
      omega
  rw [bt_lt hi] at h
  exact stands_one.2 (by rw [bytes_get s i hi, UInt8.toNat_inj.mp h])
def strokes : Obj := .cells #[.string ⟨#[34]⟩, .string ⟨#[39]⟩] 9 (0, 0)

set_option maxHeartbeats 4000000 in
set_option maxRecDepth 100000 in
theorem cutValue_any {w : World} {b : Nat} {s : ByteArray} {i : Nat} {raw : ByteArray} (h : SC w b s i raw) (hs : s.size ≤ 100000) (hi : i ≤ s.size) :
    Calls Tryz.prog 176 #[.pointer (some ⟨b, 0, none⟩)] w fun e w' => e = .returned (.string (valR s i).1) ∧ Only b w w' ∧ Sc w' b s (valR s i).2 raw := by
  obtain ⟨t, ht⟩ : ∃ t, t = valR s i := ⟨_, rfl⟩
  rw [← ht]
  have HT := hid ht
  have hlt := h.sc.lt
  have H := hid h
  clear h ht
  go_enter Tryz.func176, Tryz.ntmps176
  go_wp2_with fail
  go_loopw [9] (fun v wr => ∃ k : Nat, k ≤ 2 ∧ v = .int .i64 k ∧ Hid (SC wr b s i raw ∧ Only b w wr ∧ wr.heap[w.heap.size]? = some strokes ∧ (1 ≤ k → ¬ standsAt ⟨#[34]⟩ s i) ∧ (2 ≤ k → ¬ standsAt ⟨#[39]⟩ s i))) (fun v _ => 2 - (intOf v).toNat)
  case atStart => exact ⟨0, by omega, rfl, hid ⟨H.out.alloc _, Only.alloc _, heap_alloc_new w _, fun h => absurd h (by omega), fun h => absurd h (by omega)⟩⟩
  case round =>
    obtain ⟨k, hk, rfl, hB⟩ := hrel
    obtain ⟨d0, d1, df⟩ := pair_cells hB.out.2.2.1
    have hne : w.heap.size ≠ b := by omega
    have hlt2 : w.heap.size < wr.heap.size := size_of hB.out.2.2.1
    obtain rfl | rfl | rfl : k = 0 ∨ k = 1 ∨ k = 2 := by omega
    · by_cases hst : standsAt ⟨#[34]⟩ s i
      · have hone := one_of hst
        have hbt : bt s i = 34 := hone.1
        cases hf : findE ⟨#[34]⟩ s (i + 1) with
        | none =>
          have HV : Hid (t = (s.extract (i + 1) s.size, s.size)) := by
            show _ = _
            rw [HT.out]; unfold valR; rw [if_pos (.inl hbt), hone.2.1, hf]
          have hil := hone.2.2
          clear hone hbt HT
          go_wp2_with fail
          refine (skip_yes hB.out.1.sc hs _ hst).mono ?_
          rintro e w1 ⟨rfl, hO1, hS1⟩
          have H1 := hid (hB.out.1.only hO1 hS1)
          obtain ⟨m, hm⟩ := H1.out.max
          have HO1 := hid (hB.out.2.1.trans hO1)
          clear hO1 hS1
          go_wp2_with fail
          refine (pass_miss (i := i + 1) H1.out.sc hs hil ⟨#[34]⟩ (by decide) hf m hm).mono ?_
          rintro e w2 ⟨rfl, hO2, hS2⟩
          have HO2 := hid (HO1.out.trans hO2)
          have HS2 := hid hS2
          clear hO2 hS2
          go_wp2_with fail
          go_ret
          rw [HV.out]
          exact ⟨rfl, HO2.out, HS2.out⟩
        | some e0 =>
          have HV : Hid (t = (s.extract (i + 1) e0, e0 + 1)) := by
            show _ = _
            rw [HT.out]; unfold valR; rw [if_pos (.inl hbt), hone.2.1, hf]
          have hil := hone.2.2
          clear hone hbt HT
          go_wp2_with fail
          refine (skip_yes hB.out.1.sc hs _ hst).mono ?_
          rintro e w1 ⟨rfl, hO1, hS1⟩
          have H1 := hid (hB.out.1.only hO1 hS1)
          obtain ⟨m, hm⟩ := H1.out.max
          have HO1 := hid (hB.out.2.1.trans hO1)
          clear hO1 hS1
          go_wp2_with fail
          refine (pass_hit (i := i + 1) H1.out.sc hs hil ⟨#[34]⟩ (by decide) hf m hm).mono ?_
          rintro e w2 ⟨rfl, hO2, hS2⟩
          have HO2 := hid (HO1.out.trans hO2)
          have HS2 := hid hS2
          clear hO2 hS2
          go_wp2_with fail
          go_ret
          rw [HV.out]
          exact ⟨rfl, HO2.out, HS2.out⟩
      · have HN := hid hst
        clear hst
        go_wp2_with fail
        refine (skip_no hB.out.1.sc hi _ HN.out).mono ?_
        rintro e w1 ⟨rfl, hO1, hS1⟩
        have H1 : Hid (SC w1 b s i raw ∧ Only b w w1 ∧ w1.heap[w.heap.size]? = some strokes ∧ (1 ≤ 1 → ¬ standsAt ⟨#[34]⟩ s i) ∧ (2 ≤ 1 → ¬ standsAt ⟨#[39]⟩ s i)) := ⟨hB.out.1.only hO1 hS1, hB.out.2.1.trans hO1, (hO1.block _ hlt2 hne).trans hB.out.2.2.1, fun _ => HN.out, fun h => absurd h (by omega)⟩
        clear hO1 hS1
        go_wp2_with fail
        refine ⟨⟨1, by omega, by go_num, H1⟩, ?_⟩
        simp [intOf]
    · by_cases hst : standsAt ⟨#[39]⟩ s i
      · have hone := one_of hst
        have hbt : bt s i = 39 := hone.1
        cases hf : findE ⟨#[39]⟩ s (i + 1) with
        | none =>
          have HV : Hid (t = (s.extract (i + 1) s.size, s.size)) := by
            show _ = _
            rw [HT.out]; unfold valR; rw [if_pos (.inr hbt), hone.2.1, hf]
          have hil := hone.2.2
          clear hone hbt HT
          go_wp2_with fail
          refine (skip_yes hB.out.1.sc hs _ hst).mono ?_
          rintro e w1 ⟨rfl, hO1, hS1⟩
          have H1 := hid (hB.out.1.only hO1 hS1)
          obtain ⟨m, hm⟩ := H1.out.max
          have HO1 := hid (hB.out.2.1.trans hO1)
          clear hO1 hS1
          go_wp2_with fail
          refine (pass_miss (i := i + 1) H1.out.sc hs hil ⟨#[39]⟩ (by decide) hf m hm).mono ?_
          rintro e w2 ⟨rfl, hO2, hS2⟩
          have HO2 := hid (HO1.out.trans hO2)
          have HS2 := hid hS2
          clear hO2 hS2
          go_wp2_with fail
          go_ret
          rw [HV.out]
          exact ⟨rfl, HO2.out, HS2.out⟩
        | some e0 =>
          have HV : Hid (t = (s.extract (i + 1) e0, e0 + 1)) := by
            show _ = _
            rw [HT.out]; unfold valR; rw [if_pos (.inr hbt), hone.2.1, hf]
          have hil := hone.2.2
          clear hone hbt HT
          go_wp2_with fail
          refine (skip_yes hB.out.1.sc hs _ hst).mono ?_
          rintro e w1 ⟨rfl, hO1, hS1⟩
          have H1 := hid (hB.out.1.only hO1 hS1)
          obtain ⟨m, hm⟩ := H1.out.max
          have HO1 := hid (hB.out.2.1.trans hO1)
          clear hO1 hS1
          go_wp2_with fail
          refine (pass_hit (i := i + 1) H1.out.sc hs hil ⟨#[39]⟩ (by decide) hf m hm).mono ?_
          rintro e w2 ⟨rfl, hO2, hS2⟩
          have HO2 := hid (HO1.out.trans hO2)
          have HS2 := hid hS2
          clear hO2 hS2
          go_wp2_with fail
          go_ret
          rw [HV.out]
          exact ⟨rfl, HO2.out, HS2.out⟩
      · have HN := hid hst
        clear hst
        go_wp2_with fail
        refine (skip_no hB.out.1.sc hi _ HN.out).mono ?_
        rintro e w1 ⟨rfl, hO1, hS1⟩
        have H1 : Hid (SC w1 b s i raw ∧ Only b w w1 ∧ w1.heap[w.heap.size]? = some strokes ∧ (1 ≤ 2 → ¬ standsAt ⟨#[34]⟩ s i) ∧ (2 ≤ 2 → ¬ standsAt ⟨#[39]⟩ s i)) := ⟨hB.out.1.only hO1 hS1, hB.out.2.1.trans hO1, (hO1.block _ hlt2 hne).trans hB.out.2.2.1, fun _ => hB.out.2.2.2.1 (by omega), fun _ => HN.out⟩
        clear hO1 hS1
        go_wp2_with fail
        refine ⟨⟨2, by omega, by go_num, H1⟩, ?_⟩
        simp [intOf]
    · have HV : Hid (t = (s.extract i (spanE inValB s i), spanE inValB s i)) := by
        show _ = _
        rw [HT.out]; unfold valR
        rw [if_neg (fun h => h.elim (fun h => hB.out.2.2.2.1 (by omega) (one_is h)) (fun h => hB.out.2.2.2.2 (by omega) (one_is h)))]
      clear HT
      go_wp2_with fail
      refine (take_val hB.out.1.sc hs hi).mono ?_
      rintro e w1 ⟨rfl, hO1, hS1⟩
      have HO1 := hid (hB.out.2.1.trans hO1)
      have HS1 := hid hS1
      clear hO1 hS1
      go_wp2_with fail
      go_ret
      rw [HV.out]
      exact ⟨rfl, HO1.out, HS1.out⟩
end Go.Proofs.YtkaeenafejdkfaaGreatDoor

/- The program: a builder of texts: bytes. -/
namespace Go.Proofs.YtkaeenafejdkfaaGreatDoor
open Go.RowKit

set_option maxHeartbeats 4000000 in
set_option maxRecDepth 100000 in
theorem writeByte_any (B b : Nat) (bs : List Value) (c : Int) (w : World) (h : Lib.IsBuilderF 130 5 B b bs w) (hlen : bs.length + 1 ≤ 1000000) (hBw : B ≤ w.heap.size) :
    Calls Tryz.prog 180 #[.pointer (some ⟨b, 0, none⟩), .int .u8 c] w fun e w' => e = .returned (.nilIface) ∧ (Lib.BuilderAtF 130 5 B b (.pointer (some ⟨b, 0, none⟩)) (bs ++ [.int .u8 c]) w' ∧ Below B w w') := by
  obtain ⟨i0, hi, hz0, hz1, hz2⟩ := byte_info
  go_enter Tryz.func180, Tryz.ntmps180
  go_wp2_with fail
  refine (copyCheck_any B b bs _ h).mono ?_
  rintro e w1 ⟨rfl, h1, hb1⟩
  obtain ⟨hB, v, hbk, hown, hne⟩ := h1
  have c0 : w1.cell? ⟨b, 0, none⟩ = some (.pointer (some ⟨b, 0, none⟩)) := by rw [Lib.cell_of_heap hbk]; rfl
  have c1 : w1.cell? ⟨b, 1, none⟩ = some v := by rw [Lib.cell_of_heap hbk]; rfl
  go_wp2_with (at_builtin; refine wpList_append_ownF _ rfl _ _ 128 rfl B 5 i0 (.int .u8 0) 1 1 Tryz.underlying128 hi hz0 hz1 hz2 rfl (by decide) _ _ _ rfl (hown.alloc _) ⟨w1.heap.size, 0, none⟩ 1 1 [.int .u8 c] rfl rfl ?c1 ?c2 ?c3 ?c4 ?c5 ?_)
  case c1 =>
    intro j u hj
    match j, hj with
    | 0, hj => simp at hj; subst hj; simp [Addr.add]
  case c2 => intro u hu; simp at hu; subst hu; rfl
  case c3 => unfold maxLen; omega
  case c4 => omega
  case c5 => have := hb1.size; simp; omega
  intro v' w2 hown' hgrow _
  have hlt : b < w1.heap.size := size_of hbk
  have hb2 : w2.heap[b]? = some (.cells #[.pointer (some ⟨b, 0, none⟩), v] 130 (0, 0)) := by
    rw [hgrow.block b (by simp; omega) (fun e => hne e.symm), Below.heap_alloc w1 _ b hlt]
    exact hbk
  have d0 : w2.cell? ⟨b, 0, none⟩ = some (.pointer (some ⟨b, 0, none⟩)) := by rw [Lib.cell_of_heap hb2]; rfl
  have d1 : w2.cell? ⟨b, 1, none⟩ = some v := by rw [Lib.cell_of_heap hb2]; rfl
  have f1 : w2.frozen? ⟨b, 1, none⟩ = false := Lib.frozen_of_heap hb2 1
  obtain ⟨g, cap, rfl⟩ : ∃ g cap, v' = .slice (some ⟨g, 0, none⟩) (bs.length + 1) cap := by
    rcases hown'.2 with ⟨_, h0⟩ | ⟨g, cap, cur, fz, hv, _⟩
    · omega
    · exact ⟨g, cap, hv⟩
  have HO := hid hown'
  have HG := hid hgrow
  have HW := hid hown
  clear hown' hgrow hown
  go_wp2_with fail
  go_ret
  refine ⟨rfl, ?_, ?_⟩
  · exact Lib.BuilderAtF.put (T := 130) (e := 5) hB hb2 (bs' := bs ++ [.int .u8 c]) (by simpa using HO.out) (by decide)
  · exact ((hb1.alloc (by have := hb1.size; omega) _).grown HG.out (by have := hb1.size; simp; omega) (fun k hk => (HW.out.lt k hk).1)).setCell (p := ⟨b, 1, none⟩) hB _
end Go.Proofs.YtkaeenafejdkfaaGreatDoor

/- The program: a builder of texts: runes. -/
namespace Go.Proofs.YtkaeenafejdkfaaGreatDoor
open Go.RowKit

set_option maxHeartbeats 4000000 in
set_option maxRecDepth 100000 in
theorem writeRune_any (B b : Nat) (bs : List Value) (r : Int) (hr0 : 0 ≤ r) (hr1 : r ≤ 1114111) (w : World) (h : Lib.IsBuilderF 130 5 B b bs w) (hlen : bs.length + 4 ≤ 1000000) (hBw : B ≤ w.heap.size) :
    Calls Tryz.prog 179 #[.pointer (some ⟨b, 0, none⟩), .int .i32 r] w fun e w' => e = .returned (.tuple #[.int .i64 (Lib.runeCells r).length, .nilIface]) ∧ (Lib.BuilderAtF 130 5 B b (.pointer (some ⟨b, 0, none⟩)) (bs ++ Lib.runeCells r) w' ∧ Below B w w') := by
  have hk4 := Lib.runeCells_le r
  go_enter Tryz.func179, Tryz.ntmps179
  go_wp2_with fail
  refine (copyCheck_any B b bs _ h).mono ?_
  rintro e w1 ⟨rfl, h1, hb1⟩
  obtain ⟨hB, v, hbk, hown, hne⟩ := h1
  obtain ⟨ao, cap, rfl⟩ : ∃ ao cap, v = .slice ao bs.length cap := by
    rcases hown.2 with ⟨hv, h0⟩ | ⟨g, cap, cur, fz, hv, _⟩
    · exact ⟨none, 0, by rw [hv, h0]⟩
    · exact ⟨_, _, hv⟩
  have c0 : w1.cell? ⟨b, 0, none⟩ = some (.pointer (some ⟨b, 0, none⟩)) := by rw [Lib.cell_of_heap hbk]; rfl
  have c1 : w1.cell? ⟨b, 1, none⟩ = some (.slice ao bs.length cap) := by rw [Lib.cell_of_heap hbk]; rfl
  go_wp2_with fail
  refine (Tryz.utf8_AppendRune_row B _ bs.length bs r (by omega) (by omega) _ hown (by omega) (by have := hb1.size; omega)).mono ?_
  rintro e w2 ⟨v', rfl, hown', o, hgrow⟩
  have hlt : b < w1.heap.size := size_of hbk
  have hb2 : w2.heap[b]? = some (.cells #[.pointer (some ⟨b, 0, none⟩), .slice ao bs.length cap] 130 (0, 0)) := by
    rw [hgrow.block b (by simp; omega) (fun e => hne e.symm), Below.heap_alloc w1 _ b hlt]
    exact hbk
  have d0 : w2.cell? ⟨b, 0, none⟩ = some (.pointer (some ⟨b, 0, none⟩)) := by rw [Lib.cell_of_heap hb2]; rfl
  have d1 : w2.cell? ⟨b, 1, none⟩ = some (.slice ao bs.length cap) := by rw [Lib.cell_of_heap hb2]; rfl
  have f1 : w2.frozen? ⟨b, 1, none⟩ = false := Lib.frozen_of_heap hb2 1
  obtain ⟨ao', cap', rfl⟩ : ∃ ao' cap', v' = .slice ao' (bs.length + (Lib.runeCells r).length) cap' := by
    rcases hown'.2 with ⟨hv, h0⟩ | ⟨g, cap, cur, fz, hv, _⟩
    · exact ⟨none, 0, by rw [hv, h0]⟩
    · exact ⟨_, _, hv⟩
  have HO := hid hown'
  have HG := hid hgrow
  have HW := hid hown
  clear hown' hgrow hown
  go_wp2_with fail
  go_ret2
  refine ⟨?_, ?_, ?_⟩
  · have e : ((bs.length : Int) + ((Lib.runeCells r).length : Int) - (bs.length : Int)) = ((Lib.runeCells r).length : Int) := by omega
    simp [e]
  · exact Lib.BuilderAtF.put (T := 130) (e := 5) hB hb2 (bs' := bs ++ Lib.runeCells r) (by simpa using HO.out) (by decide)
  · exact ((hb1.alloc (by have := hb1.size; omega) _).grown HG.out (by have := hb1.size; simp; omega) (fun k hk => (HW.out.lt k hk).1)).setCell (p := ⟨b, 1, none⟩) hB _
theorem u8v {x : Int} {n : Nat} (h : x = n) (hn : n < 256) : Value.int .u8 x = Value.int .u8 ((UInt8.ofNat n).toNat : Int) := by
  subst h
  congr 1
  simp
  omega
/-- a rune's bytes, in the library's words and in mine -/
theorem runeZ (r : Int) (h0 : 0 ≤ r) (h1 : r ≤ 1114111) (hv : r < 55296 ∨ 57343 < r) : Lib.runeCells r = Lib.byteCells (runeL r.toNat) := by
  unfold Lib.runeCells Lib.byteCells runeL
  by_cases a1 : r ≤ 127
  · rw [Lib.encodeRuneZ_one h0 a1, if_pos (by omega)]
    simp only [List.map_cons, List.map_nil]
    rw [u8v (n := r.toNat) (by omega) (by omega)]
  by_cases a2 : r ≤ 2047
  · rw [Lib.encodeRuneZ_two (by omega) a2, if_neg (by omega), if_pos (by omega)]
    simp only [List.map_cons, List.map_nil]
    rw [u8v (n := 192 + r.toNat / 64) (by omega) (by omega), u8v (x := 128 + r % 64) (n := 128 + r.toNat % 64) (by omega) (by omega)]
  by_cases a3 : r ≤ 65535
  · rw [Lib.encodeRuneZ_three (by omega), if_neg (by omega), if_neg (by omega), if_pos (by omega)]
    simp only [List.map_cons, List.map_nil]
    rw [u8v (n := 224 + r.toNat / 4096) (by omega) (by omega), u8v (x := 128 + r / 64 % 64) (n := 128 + r.toNat / 64 % 64) (by omega) (by omega), u8v (x := 128 + r % 64) (n := 128 + r.toNat % 64) (by omega) (by omega)]
  · rw [Lib.encodeRuneZ_four (by omega) h1, if_neg (by omega), if_neg (by omega), if_neg (by omega)]
    simp only [List.map_cons, List.map_nil]
    rw [u8v (n := 240 + r.toNat / 262144) (by omega) (by omega), u8v (x := 128 + r / 4096 % 64) (n := 128 + r.toNat / 4096 % 64) (by omega) (by omega), u8v (x := 128 + r / 64 % 64) (n := 128 + r.toNat / 64 % 64) (by omega) (by omega), u8v (x := 128 + r % 64) (n := 128 + r.toNat % 64) (by omega) (by omega)]
end Go.Proofs.YtkaeenafejdkfaaGreatDoor
