/- The program: what kind of piece a text begins with. -/
import Derived.Test.YtnoaojjljcbflaaGreatDoorM18
import Derived.Test.YtnoaojjljcbflaaGreatDoorM15
import Derived.Test.YtnoaojjljcbflaaGreatDoorM14
namespace Go.Proofs.YtnoaojjljcbflaaGreatDoor
open Go.RowKit

abbrev mCom : ByteArray := ⟨#[60, 33, 45, 45]⟩
abbrev mBang : ByteArray := ⟨#[60, 33]⟩
abbrev mAsk : ByteArray := ⟨#[60, 63]⟩
abbrev mEnd : ByteArray := ⟨#[60, 47]⟩
abbrev mLt : ByteArray := ⟨#[60]⟩
/-- 0 nothing, 1 words, 2 a comment, 3 a start tag, 4 an end tag -/
def kindT (t : ByteArray) : Int :=
  if standsAt mCom t 0 then 2 else if standsAt mBang t 0 ∨ standsAt mAsk t 0 then 0
  else if standsAt mEnd t 0 ∧ 2 < t.size ∧ alphaB (bt t 2) = true then 4
  else if standsAt mLt t 0 ∧ 1 < t.size ∧ alphaB (bt t 1) = true then 3 else 1
theorem prefix_dec (t p : ByteArray) (w : World) : Calls Tryz.prog 155 #[.string t, .string p] w fun e w' => e = .returned (.bool (decide (standsAt p t 0))) ∧ w' = w := by
  refine prefix_any t p _ ?_ w
  unfold standsAt
  simp only [Nat.zero_add]
theorem first_of {t p : ByteArray} {k : Nat} (h : standsAt p t 0) (hk : k < p.size) : bt t k = p[k].toNat := by
  have h1 : 0 + p.size ≤ t.size := h.1
  have h2 : t.extract 0 (0 + p.size) = p := h.2
  rw [bt_lt (by omega)]
  have e := congrArg (fun x : ByteArray => x.data.toList[k]?) h2
  simp only [ext_list] at e
  rw [List.drop_zero, List.getElem?_take, if_pos (by omega), bytes_get t k (by omega), bytes_get p k hk] at e
  rw [Option.some.inj e]
theorem end_slash {t : ByteArray} (h : standsAt mEnd t 0) : bt t 1 = 47 := first_of (k := 1) h (by decide)
theorem lt_of_end {t : ByteArray} (h : standsAt mEnd t 0) : standsAt mLt t 0 := by
  have h0 : bt t 0 = 60 := first_of (k := 0) h (by decide)
  have hs : 0 + mEnd.size ≤ t.size := h.1
  have hs2 : 0 < t.size := by have : mEnd.size = 2 := rfl; omega
  rw [bt_lt hs2] at h0
  have h1 : t[0] = 60 := UInt8.toNat_inj.mp h0
  exact stands_one.2 (by rw [bytes_get t 0 hs2, h1])

set_option maxHeartbeats 4000000 in
set_option maxRecDepth 100000 in
theorem pbegins_any (t : ByteArray) (r : Int) (hr : r = kindT t) (w : World) :
    Calls Tryz.prog 133 #[.string t] w fun e w' => e = .returned (.int .i64 r) ∧ w' = w := by
  unfold kindT at hr
  cases e1 : decide (standsAt mCom t 0)
  rotate_left
  · rw [if_pos (of_decide_eq_true e1)] at hr
    have HR := hid hr
    clear hr
    go_enter Tryz.func133, Tryz.ntmps133
    go_wp2_with (go_at_call 155; refine (prefix_dec t _ _).mono ?_; rintro e w' ⟨rfl, rfl⟩; rw [e1])
    go_ret
    exact ⟨retn HR.out.symm, rfl⟩
  rw [if_neg (of_decide_eq_false e1)] at hr
  cases e2 : decide (standsAt mBang t 0)
  rotate_left
  · rw [if_pos (.inl (of_decide_eq_true e2))] at hr
    have HR := hid hr
    clear hr
    go_enter Tryz.func133, Tryz.ntmps133
    go_wp2_with (go_at_call 155; refine (prefix_dec t _ _).mono ?_; rintro e w' ⟨rfl, rfl⟩; first | rw [e1] | rw [e2])
    go_ret
    exact ⟨retn HR.out.symm, rfl⟩
  cases e3 : decide (standsAt mAsk t 0)
  rotate_left
  · rw [if_pos (.inr (of_decide_eq_true e3))] at hr
    have HR := hid hr
    clear hr
    go_enter Tryz.func133, Tryz.ntmps133
    go_wp2_with ((go_at_call 155; refine (prefix_dec t _ _).mono ?_; rintro e w' ⟨rfl, rfl⟩; first | rw [e1] | rw [e2] | rw [e3]))
    all_goals go_light
    all_goals first
      | (go_ret; exact ⟨retn HR.out.symm, rfl⟩)
      | (exfalso; simp_all; done)
  rw [if_neg (fun h => h.elim (of_decide_eq_false e2) (of_decide_eq_false e3))] at hr
  cases e5 : decide (standsAt mLt t 0)
  · -- no < at all: no end tag either
    have e4 : decide (standsAt mEnd t 0) = false := by
      rw [decide_eq_false_iff_not]
      intro h
      exact of_decide_eq_false e5 (lt_of_end h)
    rw [if_neg (fun h => of_decide_eq_false e4 h.1), if_neg (fun h => of_decide_eq_false e5 h.1)] at hr
    have HR := hid hr
    clear hr
    go_enter Tryz.func133, Tryz.ntmps133
    go_wp2_with ((go_at_call 155; refine (prefix_dec t _ _).mono ?_; rintro e w' ⟨rfl, rfl⟩; first | rw [e1] | rw [e2] | rw [e3] | rw [e4] | rw [e5]))
    all_goals go_light
    all_goals first
      | (go_ret; exact ⟨retn HR.out.symm, rfl⟩)
      | (exfalso; simp_all; done)
  have h1 : 1 ≤ t.size := (of_decide_eq_true e5).1
  cases e4 : decide (standsAt mEnd t 0)
  · rw [if_neg (fun h => of_decide_eq_false e4 h.1)] at hr
    by_cases h2 : 1 < t.size
    · obtain ⟨c, hc⟩ : ∃ c, t[1].toNat = c := ⟨_, rfl⟩
      rw [bt_lt h2, hc] at hr
      cases ha : alphaB c
      · rw [if_neg (fun h => by rw [ha] at h; exact absurd h.2.2 (by simp))] at hr
        have HR := hid hr
        clear hr
        go_enter Tryz.func133, Tryz.ntmps133
        go_wp2_with (first | (go_at_call 155; refine (prefix_dec t _ _).mono ?_; rintro e w' ⟨rfl, rfl⟩; first | rw [e1] | rw [e2] | rw [e3] | rw [e4] | rw [e5]) | (go_at_call 156; refine (pletter_any _ _).mono ?_; rintro e w' ⟨rfl, rfl⟩; first | rw [ha]))
        all_goals go_light
        all_goals first
          | (go_ret; exact ⟨retn HR.out.symm, rfl⟩)
          | (exfalso; simp_all; done)
      · rw [if_pos ⟨of_decide_eq_true e5, h2, ha⟩] at hr
        have HR := hid hr
        clear hr
        go_enter Tryz.func133, Tryz.ntmps133
        go_wp2_with (first | (go_at_call 155; refine (prefix_dec t _ _).mono ?_; rintro e w' ⟨rfl, rfl⟩; first | rw [e1] | rw [e2] | rw [e3] | rw [e4] | rw [e5]) | (go_at_call 156; refine (pletter_any _ _).mono ?_; rintro e w' ⟨rfl, rfl⟩; first | rw [ha]))
        all_goals go_light
        all_goals first
          | (go_ret; exact ⟨retn HR.out.symm, rfl⟩)
          | (exfalso; simp_all; done)
    · rw [if_neg (fun h => h2 h.2.1)] at hr
      have HR := hid hr
      clear hr
      go_enter Tryz.func133, Tryz.ntmps133
      go_wp2_with ((go_at_call 155; refine (prefix_dec t _ _).mono ?_; rintro e w' ⟨rfl, rfl⟩; first | rw [e1] | rw [e2] | rw [e3] | rw [e4] | rw [e5]))
      all_goals go_light
      all_goals first
        | (go_ret; exact ⟨retn HR.out.symm, rfl⟩)
        | (exfalso; simp_all; done)
  · have h2 : 1 < t.size := (of_decide_eq_true e4).1
    have h47 : bt t 1 = 47 := end_slash (of_decide_eq_true e4)
    rw [show alphaB (bt t 1) = false by rw [h47]; rfl] at hr
    obtain ⟨d, hd⟩ : ∃ c, t[1].toNat = c := ⟨_, rfl⟩
    have hd2 : alphaB d = false := by rw [← hd, ← bt_lt h2, h47]; rfl
    by_cases h3 : 2 < t.size
    · obtain ⟨c, hc⟩ : ∃ c, t[2].toNat = c := ⟨_, rfl⟩
      rw [bt_lt h3, hc] at hr
      cases ha : alphaB c
      · rw [if_neg (fun h => by rw [ha] at h; exact absurd h.2.2 (by simp)), if_neg (fun h => absurd h.2.2 (by simp))] at hr
        have HR := hid hr
        clear hr h47
        go_enter Tryz.func133, Tryz.ntmps133
        go_wp2_with (first | (go_at_call 155; refine (prefix_dec t _ _).mono ?_; rintro e w' ⟨rfl, rfl⟩; first | rw [e1] | rw [e2] | rw [e3] | rw [e4] | rw [e5]) | (go_at_call 156; refine (pletter_any _ _).mono ?_; rintro e w' ⟨rfl, rfl⟩; first | rw [ha] | rw [hd2]))
        all_goals go_light
        all_goals first
          | (go_ret; exact ⟨retn HR.out.symm, rfl⟩)
          | (exfalso; simp_all; done)
      · rw [if_pos ⟨of_decide_eq_true e4, h3, ha⟩] at hr
        have HR := hid hr
        clear hr h47
        go_enter Tryz.func133, Tryz.ntmps133
        go_wp2_with (first | (go_at_call 155; refine (prefix_dec t _ _).mono ?_; rintro e w' ⟨rfl, rfl⟩; first | rw [e1] | rw [e2] | rw [e3] | rw [e4] | rw [e5]) | (go_at_call 156; refine (pletter_any _ _).mono ?_; rintro e w' ⟨rfl, rfl⟩; first | rw [ha]))
        all_goals go_light
        all_goals first
          | (go_ret; exact ⟨retn HR.out.symm, rfl⟩)
          | (exfalso; simp_all; done)
    · rw [if_neg (fun h => h3 h.2.1), if_neg (fun h => absurd h.2.2 (by simp))] at hr
      have HR := hid hr
      clear hr h47
      go_enter Tryz.func133, Tryz.ntmps133
      go_wp2_with (first | (go_at_call 155; refine (prefix_dec t _ _).mono ?_; rintro e w' ⟨rfl, rfl⟩; first | rw [e1] | rw [e2] | rw [e3] | rw [e4] | rw [e5]) | (go_at_call 156; refine (pletter_any _ _).mono ?_; rintro e w' ⟨rfl, rfl⟩; first | rw [hd2]))
      all_goals go_light
      all_goals first
        | (go_ret; exact ⟨retn HR.out.symm, rfl⟩)
        | (exfalso; simp_all; done)
end Go.Proofs.YtnoaojjljcbflaaGreatDoor

/- The program: comments and end tags are cut. -/
namespace Go.Proofs.YtnoaojjljcbflaaGreatDoor
open Go.RowKit

/-- a scanner lies there, and the library's variable holds a number -/
structure SC (w : World) (b : Nat) (s : ByteArray) (i : Nat) (raw : ByteArray) : Prop where
  sc : Sc w b s i raw
  ne : 8 ≠ b
  max : ∃ m, w.cell? ⟨8, 0, none⟩ = some (.int .i64 m)
theorem lt_of_cell8 {w : World} {v : Value} (h : w.cell? ⟨8, 0, none⟩ = some v) : 8 < w.heap.size := World.block_lt_of_cell? w _ h
theorem SC.only {w w' : World} {b : Nat} {s : ByteArray} {i j : Nat} {raw raw' : ByteArray} (h : SC w b s i raw) (ho : Only b w w') (hs : Sc w' b s j raw') : SC w' b s j raw' := by
  obtain ⟨m, hm⟩ := h.max
  exact ⟨hs, h.ne, m, (World.cell?_of_block (a := ⟨8, 0, none⟩) (ho.block 8 (lt_of_cell8 hm) h.ne)).trans hm⟩
theorem SC.alloc {w : World} {b : Nat} {s : ByteArray} {i : Nat} {raw : ByteArray} (h : SC w b s i raw) (o : Obj) : SC (w.alloc o) b s i raw := by
  obtain ⟨m, hm⟩ := h.max
  refine ⟨?_, h.ne, m, (World.cell?_alloc_lt _ _ ⟨8, 0, none⟩ (lt_of_cell8 hm)).trans hm⟩
  have := h.sc
  unfold Sc at this ⊢
  rw [Below.heap_alloc _ _ _ h.sc.lt]; exact this
theorem Only.alloc {b : Nat} {w : World} (o : Obj) : Only b w (w.alloc o) := Only.of ((Below.refl _ _).alloc (Nat.le_refl _) _)

/-- a piece of the program as a value -/
def pcv (kind i : Int) (name said : ByteArray) (attrs : Value) : Value := .agg #[.int .i64 kind, .int .i64 i, .string name, .string said, attrs]
theorem five_cells {w : World} {b : Nat} {t : TypeId} {a0 a1 a2 a3 a4 : Value} (h : w.heap[b]? = some (.cells #[a0, a1, a2, a3, a4] t (0, 0))) : w.cell? ⟨b, 0, none⟩ = some a0 ∧ w.cell? ⟨b, 1, none⟩ = some a1 ∧ w.cell? ⟨b, 2, none⟩ = some a2 ∧ w.cell? ⟨b, 3, none⟩ = some a3 ∧ w.cell? ⟨b, 4, none⟩ = some a4 ∧ ∀ o, w.frozen? ⟨b, o, none⟩ = false := by
  refine ⟨?_, ?_, ?_, ?_, ?_, fun o => by simp [World.frozen?, h]⟩ <;> (rw [cell_of_row w b _ _ _ _ h]; rfl)
def emptyPiece : Obj := .cells #[.int .i64 0, .int .i64 0, .string ⟨#[]⟩, .string ⟨#[]⟩, .slice none 0 0] 121 (0, 0)
/-- the result's block lies where it was laid -/
theorem res_block {w w' : World} {b : Nat} (hb : b < w.heap.size) (h : Only b (w.alloc emptyPiece) w') : w'.heap[w.heap.size]? = some emptyPiece := by
  rw [h.block w.heap.size (by simp) (by omega)]; exact heap_alloc_new w _
theorem Only.sets {b rb : Nat} {w w' : World} (h : Only b w w') (hr : w.heap.size ≤ rb) (o : Nat) (u : Value) : Only b w (w'.setCell ⟨rb, o, none⟩ u) :=
  ⟨h.os, h.tape, h.output, by simpa [World.setCell] using h.size, fun k hk hb => (Below.heap_setCell w' ⟨rb, o, none⟩ u k (by show k ≠ rb; omega)).trans (h.block k hk hb)⟩
theorem Sc.sets {w : World} {b rb : Nat} {s : ByteArray} {i : Nat} {raw : ByteArray} (h : Sc w b s i raw) (hr : b ≠ rb) (o : Nat) (u : Value) : Sc (w.setCell ⟨rb, o, none⟩ u) b s i raw := by
  unfold Sc at h ⊢
  rw [Below.heap_setCell w ⟨rb, o, none⟩ u b hr]; exact h

def mGt : ByteArray := ⟨#[45, 45, 62]⟩
set_option maxHeartbeats 4000000 in
set_option maxRecDepth 100000 in
theorem cutComment_hit {w : World} {b : Nat} {s : ByteArray} {i k : Nat} {raw : ByteArray} (h : SC w b s i raw) (hs : s.size ≤ 100000) (hp : standsAt ⟨#[60, 33, 45, 45]⟩ s i) (hf : findE ⟨#[45, 45, 62]⟩ s (i + 4) = some k) :
    Calls Tryz.prog 134 #[.pointer (some ⟨b, 0, none⟩)] w fun e w' => e = .returned (pcv 2 0 ⟨#[]⟩ (s.extract (i + 4) k) (.slice none 0 0)) ∧ Only b w w' ∧ Sc w' b s (k + 3) raw := by
  have hi : i + 4 ≤ s.size := hp.1
  have hlt := h.sc.lt
  have H := hid (h.alloc emptyPiece)
  have HP := hid hp
  have HF := hid hf
  clear h hp hf
  go_enter Tryz.func134, Tryz.ntmps134
  go_wp2_with fail
  refine (skip_yes H.out.sc hs ⟨#[60, 33, 45, 45]⟩ HP.out).mono ?_
  rintro e w1 ⟨rfl, hO1, hS1⟩
  have H1 := hid (H.out.only hO1 hS1)
  obtain ⟨m, hm⟩ := H1.out.max
  have hO1' := hid hO1
  clear hO1 hS1
  go_wp2_with fail
  refine (pass_hit (i := i + 4) H1.out.sc hs hi ⟨#[45, 45, 62]⟩ (by decide) HF.out m hm).mono ?_
  rintro e w2 ⟨rfl, hO2, hS2⟩
  have hR := res_block hlt (hO1'.out.trans hO2)
  obtain ⟨d0, d1, d2, d3, d4, df⟩ := five_cells hR
  have HO := hid (Only.alloc (b := b) emptyPiece |>.trans (hO1'.out.trans hO2))
  have HS := hid hS2
  clear hO2 hS2 hR hm
  go_wp2_with fail
  refine bodyPost_ret (v := pcv 2 0 ⟨#[]⟩ (s.extract (i + 4) k) (.slice none 0 0)) ?_ rfl ⟨rfl, ?_, ?_⟩
  · simp [results, Tryz.results134, go_sem, d0, d1, d2, d3, d4]
    try rfl
  · exact ((((HO.out.sets (Nat.le_refl _) _ _).sets (Nat.le_refl _) _ _).sets (Nat.le_refl _) _ _).sets (Nat.le_refl _) _ _).sets (Nat.le_refl _) _ _
  · have hn : b ≠ w.heap.size := by omega
    exact ((((HS.out.sets hn _ _).sets hn _ _).sets hn _ _).sets hn _ _).sets hn _ _
set_option maxHeartbeats 4000000 in
set_option maxRecDepth 100000 in
theorem cutComment_miss {w : World} {b : Nat} {s : ByteArray} {i : Nat} {raw : ByteArray} (h : SC w b s i raw) (hs : s.size ≤ 100000) (hp : standsAt ⟨#[60, 33, 45, 45]⟩ s i) (hf : findE ⟨#[45, 45, 62]⟩ s (i + 4) = none) :
    Calls Tryz.prog 134 #[.pointer (some ⟨b, 0, none⟩)] w fun e w' => e = .returned (pcv 2 0 ⟨#[]⟩ (s.extract (i + 4) s.size) (.slice none 0 0)) ∧ Only b w w' ∧ Sc w' b s s.size raw := by
  have hi : i + 4 ≤ s.size := hp.1
  have hlt := h.sc.lt
  have H := hid (h.alloc emptyPiece)
  have HP := hid hp
  have HF := hid hf
  clear h hp hf
  go_enter Tryz.func134, Tryz.ntmps134
  go_wp2_with fail
  refine (skip_yes H.out.sc hs ⟨#[60, 33, 45, 45]⟩ HP.out).mono ?_
  rintro e w1 ⟨rfl, hO1, hS1⟩
  have H1 := hid (H.out.only hO1 hS1)
  obtain ⟨m, hm⟩ := H1.out.max
  have hO1' := hid hO1
  clear hO1 hS1
  go_wp2_with fail
  refine (pass_miss (i := i + 4) H1.out.sc hs hi ⟨#[45, 45, 62]⟩ (by decide) HF.out m hm).mono ?_
  rintro e w2 ⟨rfl, hO2, hS2⟩
  have hR := res_block hlt (hO1'.out.trans hO2)
  obtain ⟨d0, d1, d2, d3, d4, df⟩ := five_cells hR
  have HO := hid (Only.alloc (b := b) emptyPiece |>.trans (hO1'.out.trans hO2))
  have HS := hid hS2
  clear hO2 hS2 hR hm
  go_wp2_with fail
  refine bodyPost_ret (v := pcv 2 0 ⟨#[]⟩ (s.extract (i + 4) s.size) (.slice none 0 0)) ?_ rfl ⟨rfl, ?_, ?_⟩
  · simp [results, Tryz.results134, go_sem, d0, d1, d2, d3, d4]
    try rfl
  · exact ((((HO.out.sets (Nat.le_refl _) _ _).sets (Nat.le_refl _) _ _).sets (Nat.le_refl _) _ _).sets (Nat.le_refl _) _ _).sets (Nat.le_refl _) _ _
  · have hn : b ≠ w.heap.size := by omega
    exact ((((HS.out.sets hn _ _).sets hn _ _).sets hn _ _).sets hn _ _).sets hn _ _
set_option maxHeartbeats 4000000 in
set_option maxRecDepth 100000 in
theorem cutEnd_hit {w : World} {b : Nat} {s : ByteArray} {i t k : Nat} {raw : ByteArray} (h : SC w b s i raw) (hs : s.size ≤ 100000) (hp : standsAt ⟨#[60, 47]⟩ s i) (ht : spanE inTagB s (i + 2) = t) (hf : findE ⟨#[62]⟩ s t = some k) :
    Calls Tryz.prog 136 #[.pointer (some ⟨b, 0, none⟩)] w fun e w' => e = .returned (pcv 4 0 (smallS (s.extract (i + 2) t)) ⟨#[]⟩ (.slice none 0 0)) ∧ Only b w w' ∧ Sc w' b s (k + 1) raw := by
  have hi : i + 2 ≤ s.size := hp.1
  have ht2 : t ≤ s.size := by rw [← ht]; exact spanE_size _ _ _ hi
  have hlt := h.sc.lt
  have H := hid (h.alloc emptyPiece)
  have HP := hid hp
  have HF := hid hf
  have HT := hid ht
  clear h hp hf ht
  go_enter Tryz.func136, Tryz.ntmps136
  go_wp2_with fail
  refine (skip_yes H.out.sc hs ⟨#[60, 47]⟩ HP.out).mono ?_
  rintro e w1 ⟨rfl, hO1, hS1⟩
  have H1 := hid (H.out.only hO1 hS1)
  have hO1' := hid hO1
  clear hO1 hS1
  go_wp2_with fail
  refine (take_tag (i := i + 2) H1.out.sc hs hi).mono ?_
  rintro e w2 ⟨rfl, hO2, hS2⟩
  rw [HT.out] at hS2 ⊢
  have H2 := hid (H1.out.only hO2 hS2)
  have hO2' := hid (hO1'.out.trans hO2)
  clear hO2 hS2
  go_wp2_with fail
  refine (lower_any (s.extract (i + 2) t) (by rw [ByteArray.size_extract]; omega) _).mono ?_
  rintro e w3 ⟨rfl, hB3⟩
  have H3 := hid (H2.out.only (Only.of hB3) (H2.out.sc.below H2.out.sc.lt hB3))
  have hO3' := hid (hO2'.out.trans (Only.of hB3))
  obtain ⟨m, hm⟩ := H3.out.max
  clear hB3
  go_wp2_with fail
  refine (pass_hit (i := t) H3.out.sc hs ht2 ⟨#[62]⟩ (by decide) HF.out m hm).mono ?_
  rintro e w4 ⟨rfl, hO4, hS4⟩
  have hR := res_block hlt (hO3'.out.trans hO4)
  obtain ⟨d0, d1, d2, d3, d4, df⟩ := five_cells hR
  have HO := hid (Only.alloc (b := b) emptyPiece |>.trans (hO3'.out.trans hO4))
  have HS := hid hS4
  clear hO4 hS4 hR hm
  go_wp2_with fail
  refine bodyPost_ret (v := pcv 4 0 (smallS (s.extract (i + 2) t)) ⟨#[]⟩ (.slice none 0 0)) ?_ rfl ⟨rfl, ?_, ?_⟩
  · simp [results, Tryz.results136, go_sem, d0, d1, d2, d3, d4]
    try rfl
  · exact ((((HO.out.sets (Nat.le_refl _) _ _).sets (Nat.le_refl _) _ _).sets (Nat.le_refl _) _ _).sets (Nat.le_refl _) _ _).sets (Nat.le_refl _) _ _
  · have hn : b ≠ w.heap.size := by omega
    exact ((((HS.out.sets hn _ _).sets hn _ _).sets hn _ _).sets hn _ _).sets hn _ _
set_option maxHeartbeats 4000000 in
set_option maxRecDepth 100000 in
theorem cutEnd_miss {w : World} {b : Nat} {s : ByteArray} {i t : Nat} {raw : ByteArray} (h : SC w b s i raw) (hs : s.size ≤ 100000) (hp : standsAt ⟨#[60, 47]⟩ s i) (ht : spanE inTagB s (i + 2) = t) (hf : findE ⟨#[62]⟩ s t = none) :
    Calls Tryz.prog 136 #[.pointer (some ⟨b, 0, none⟩)] w fun e w' => e = .returned (pcv 0 0 ⟨#[]⟩ ⟨#[]⟩ (.slice none 0 0)) ∧ Only b w w' ∧ Sc w' b s s.size raw := by
  have hi : i + 2 ≤ s.size := hp.1
  have ht2 : t ≤ s.size := by rw [← ht]; exact spanE_size _ _ _ hi
  have hlt := h.sc.lt
  have H := hid (h.alloc emptyPiece)
  have HP := hid hp
  have HF := hid hf
  have HT := hid ht
  clear h hp hf ht
  go_enter Tryz.func136, Tryz.ntmps136
  go_wp2_with fail
  refine (skip_yes H.out.sc hs ⟨#[60, 47]⟩ HP.out).mono ?_
  rintro e w1 ⟨rfl, hO1, hS1⟩
  have H1 := hid (H.out.only hO1 hS1)
  have hO1' := hid hO1
  clear hO1 hS1
  go_wp2_with fail
  refine (take_tag (i := i + 2) H1.out.sc hs hi).mono ?_
  rintro e w2 ⟨rfl, hO2, hS2⟩
  rw [HT.out] at hS2 ⊢
  have H2 := hid (H1.out.only hO2 hS2)
  have hO2' := hid (hO1'.out.trans hO2)
  clear hO2 hS2
  go_wp2_with fail
  refine (lower_any (s.extract (i + 2) t) (by rw [ByteArray.size_extract]; omega) _).mono ?_
  rintro e w3 ⟨rfl, hB3⟩
  have H3 := hid (H2.out.only (Only.of hB3) (H2.out.sc.below H2.out.sc.lt hB3))
  have hO3' := hid (hO2'.out.trans (Only.of hB3))
  obtain ⟨m, hm⟩ := H3.out.max
  clear hB3
  go_wp2_with fail
  refine (pass_miss (i := t) H3.out.sc hs ht2 ⟨#[62]⟩ (by decide) HF.out m hm).mono ?_
  rintro e w4 ⟨rfl, hO4, hS4⟩
  have hR := res_block hlt (hO3'.out.trans hO4)
  obtain ⟨d0, d1, d2, d3, d4, df⟩ := five_cells hR
  have HO := hid (Only.alloc (b := b) emptyPiece |>.trans (hO3'.out.trans hO4))
  have HS := hid hS4
  clear hO4 hS4 hR hm
  go_wp2_with fail
  refine bodyPost_ret (v := pcv 0 0 ⟨#[]⟩ ⟨#[]⟩ (.slice none 0 0)) ?_ rfl ⟨rfl, ?_, ?_⟩
  · simp [results, Tryz.results136, go_sem, d0, d1, d2, d3, d4]
    try rfl
  · exact ((((HO.out.sets (Nat.le_refl _) _ _).sets (Nat.le_refl _) _ _).sets (Nat.le_refl _) _ _).sets (Nat.le_refl _) _ _).sets (Nat.le_refl _) _ _
  · have hn : b ≠ w.heap.size := by omega
    exact ((((HS.out.sets hn _ _).sets hn _ _).sets hn _ _).sets hn _ _).sets hn _ _
end Go.Proofs.YtnoaojjljcbflaaGreatDoor

/- Blocks of two cells; an attribute as a value. -/
namespace Go.Proofs.YtnoaojjljcbflaaGreatDoor
open Go.RowKit
theorem pair_cells {w : World} {b : Nat} {t : TypeId} {a0 a1 : Value} (h : w.heap[b]? = some (.cells #[a0, a1] t (0, 0))) : w.cell? ⟨b, 0, none⟩ = some a0 ∧ w.cell? ⟨b, 1, none⟩ = some a1 ∧ ∀ o, w.frozen? ⟨b, o, none⟩ = false := by
  refine ⟨?_, ?_, fun o => by simp [World.frozen?, h]⟩ <;> (rw [cell_of_row w b _ _ _ _ h]; rfl)
theorem size_of {w : World} {b : Nat} {o : Obj} (h : w.heap[b]? = some o) : b < w.heap.size := by
  rcases Nat.lt_or_ge b w.heap.size with h2 | h2
  · exact h2
  · rw [Array.getElem?_eq_none h2] at h; cases h
def attrV (p : ByteArray × ByteArray × Nat) : Value := .tuple #[.agg #[.string p.1, .string p.2.1], .int .i64 p.2.2]

end Go.Proofs.YtnoaojjljcbflaaGreatDoor

/- The program: a value as it stands. -/
namespace Go.Proofs.YtnoaojjljcbflaaGreatDoor
open Go.RowKit

/-- a value as it stands, and where the scanner is then -/
def valR (s : ByteArray) (i : Nat) : ByteArray × Nat :=
  if bt s i = 34 ∨ bt s i = 39 then
    match findE (s.extract i (i + 1)) s (i + 1) with
    | some e => (s.extract (i + 1) e, e + 1)
    | none => (s.extract (i + 1) s.size, s.size)
  else (s.extract i (spanE inValB s i), spanE inValB s i)
theorem one_of {s : ByteArray} {i : Nat} {q : UInt8} (h : standsAt ⟨#[q]⟩ s i) : bt s i = q.toNat ∧ s.extract i (i + 1) = ⟨#[q]⟩ ∧ i < s.size := by
  have h1 : i + 1 ≤ s.size := h.1
  have h2 : s.extract i (i + 1) = ⟨#[q]⟩ := h.2
  refine ⟨?_, h2, by omega⟩
  have hb := stands_one.1 h
  rw [bytes_get s i (by omega)] at hb
  rw [bt_lt (by omega), Option.some.inj hb]
theorem one_is {s : ByteArray} {i : Nat} {q : UInt8} (h : bt s i = q.toNat) : standsAt ⟨#[q]⟩ s i := by
  have hi : i < s.size := by
    rcases Nat.lt_or_ge i s.size with h2 | h2
    · exact h2
    · rw [bt_ge h2] at h
      have := q.toNat_lt
      omega
  rw [bt_lt hi] at h
  exact stands_one.2 (by rw [bytes_get s i hi, UInt8.toNat_inj.mp h])
def strokes : Obj := .cells #[.string ⟨#[34]⟩, .string ⟨#[39]⟩] 9 (0, 0)

set_option maxHeartbeats 4000000 in
set_option maxRecDepth 100000 in
theorem cutValue_any {w : World} {b : Nat} {s : ByteArray} {i : Nat} {raw : ByteArray} (h : SC w b s i raw) (hs : s.size ≤ 100000) (hi : i ≤ s.size) :
    Calls Tryz.prog 176 #[.pointer (some ⟨b, 0, none⟩)] w fun e w' => e = .returned (.string (valR s i).1) ∧ Only b w w' ∧ Sc w' b s (valR s i).2 raw := by
  obtain ⟨t, ht⟩ : ∃ t, t = valR s i := ⟨_, rfl⟩
  rw [← ht]
  have HT := hid ht
  have hlt := h.sc.lt
  have H := hid h
  clear h ht
  go_enter Tryz.func176, Tryz.ntmps176
  go_wp2_with fail
  go_loopw [9] (fun v wr => ∃ k : Nat, k ≤ 2 ∧ v = .int .i64 k ∧ Hid (SC wr b s i raw ∧ Only b w wr ∧ wr.heap[w.heap.size]? = some strokes ∧ (1 ≤ k → ¬ standsAt ⟨#[34]⟩ s i) ∧ (2 ≤ k → ¬ standsAt ⟨#[39]⟩ s i))) (fun v _ => 2 - (intOf v).toNat)
  case atStart => exact ⟨0, by omega, rfl, hid ⟨H.out.alloc _, Only.alloc _, heap_alloc_new w _, fun h => absurd h (by omega), fun h => absurd h (by omega)⟩⟩
  case round =>
    obtain ⟨k, hk, rfl, hB⟩ := hrel
    obtain ⟨d0, d1, df⟩ := pair_cells hB.out.2.2.1
    have hne : w.heap.size ≠ b := by omega
    have hlt2 : w.heap.size < wr.heap.size := size_of hB.out.2.2.1
    obtain rfl | rfl | rfl : k = 0 ∨ k = 1 ∨ k = 2 := by omega
    · by_cases hst : standsAt ⟨#[34]⟩ s i
      · have hone := one_of hst
        have hbt : bt s i = 34 := hone.1
        cases hf : findE ⟨#[34]⟩ s (i + 1) with
        | none =>
          have HV : Hid (t = (s.extract (i + 1) s.size, s.size)) := by
            show _ = _
            rw [HT.out]; unfold valR; rw [if_pos (.inl hbt), hone.2.1, hf]
          have hil := hone.2.2
          clear hone hbt HT
          go_wp2_with fail
          refine (skip_yes hB.out.1.sc hs _ hst).mono ?_
          rintro e w1 ⟨rfl, hO1, hS1⟩
          have H1 := hid (hB.out.1.only hO1 hS1)
          obtain ⟨m, hm⟩ := H1.out.max
          have HO1 := hid (hB.out.2.1.trans hO1)
          clear hO1 hS1
          go_wp2_with fail
          refine (pass_miss (i := i + 1) H1.out.sc hs hil ⟨#[34]⟩ (by decide) hf m hm).mono ?_
          rintro e w2 ⟨rfl, hO2, hS2⟩
          have HO2 := hid (HO1.out.trans hO2)
          have HS2 := hid hS2
          clear hO2 hS2
          go_wp2_with fail
          go_ret
          rw [HV.out]
          exact ⟨rfl, HO2.out, HS2.out⟩
        | some e0 =>
          have HV : Hid (t = (s.extract (i + 1) e0, e0 + 1)) := by
            show _ = _
            rw [HT.out]; unfold valR; rw [if_pos (.inl hbt), hone.2.1, hf]
          have hil := hone.2.2
          clear hone hbt HT
          go_wp2_with fail
          refine (skip_yes hB.out.1.sc hs _ hst).mono ?_
          rintro e w1 ⟨rfl, hO1, hS1⟩
          have H1 := hid (hB.out.1.only hO1 hS1)
          obtain ⟨m, hm⟩ := H1.out.max
          have HO1 := hid (hB.out.2.1.trans hO1)
          clear hO1 hS1
          go_wp2_with fail
          refine (pass_hit (i := i + 1) H1.out.sc hs hil ⟨#[34]⟩ (by decide) hf m hm).mono ?_
          rintro e w2 ⟨rfl, hO2, hS2⟩
          have HO2 := hid (HO1.out.trans hO2)
          have HS2 := hid hS2
          clear hO2 hS2
          go_wp2_with fail
          go_ret
          rw [HV.out]
          exact ⟨rfl, HO2.out, HS2.out⟩
      · have HN := hid hst
        clear hst
        go_wp2_with fail
        refine (skip_no hB.out.1.sc hi _ HN.out).mono ?_
        rintro e w1 ⟨rfl, hO1, hS1⟩
        have H1 : Hid (SC w1 b s i raw ∧ Only b w w1 ∧ w1.heap[w.heap.size]? = some strokes ∧ (1 ≤ 1 → ¬ standsAt ⟨#[34]⟩ s i) ∧ (2 ≤ 1 → ¬ standsAt ⟨#[39]⟩ s i)) := ⟨hB.out.1.only hO1 hS1, hB.out.2.1.trans hO1, (hO1.block _ hlt2 hne).trans hB.out.2.2.1, fun _ => HN.out, fun h => absurd h (by omega)⟩
        clear hO1 hS1
        go_wp2_with fail
        refine ⟨⟨1, by omega, by go_num, H1⟩, ?_⟩
        simp [intOf]
    · by_cases hst : standsAt ⟨#[39]⟩ s i
      · have hone := one_of hst
        have hbt : bt s i = 39 := hone.1
        cases hf : findE ⟨#[39]⟩ s (i + 1) with
        | none =>
          have HV : Hid (t = (s.extract (i + 1) s.size, s.size)) := by
            show _ = _
            rw [HT.out]; unfold valR; rw [if_pos (.inr hbt), hone.2.1, hf]
          have hil := hone.2.2
          clear hone hbt HT
          go_wp2_with fail
          refine (skip_yes hB.out.1.sc hs _ hst).mono ?_
          rintro e w1 ⟨rfl, hO1, hS1⟩
          have H1 := hid (hB.out.1.only hO1 hS1)
          obtain ⟨m, hm⟩ := H1.out.max
          have HO1 := hid (hB.out.2.1.trans hO1)
          clear hO1 hS1
          go_wp2_with fail
          refine (pass_miss (i := i + 1) H1.out.sc hs hil ⟨#[39]⟩ (by decide) hf m hm).mono ?_
          rintro e w2 ⟨rfl, hO2, hS2⟩
          have HO2 := hid (HO1.out.trans hO2)
          have HS2 := hid hS2
          clear hO2 hS2
          go_wp2_with fail
          go_ret
          rw [HV.out]
          exact ⟨rfl, HO2.out, HS2.out⟩
        | some e0 =>
          have HV : Hid (t = (s.extract (i + 1) e0, e0 + 1)) := by
            show _ = _
            rw [HT.out]; unfold valR; rw [if_pos (.inr hbt), hone.2.1, hf]
          have hil := hone.2.2
          clear hone hbt HT
          go_wp2_with fail
          refine (skip_yes hB.out.1.sc hs _ hst).mono ?_
          rintro e w1 ⟨rfl, hO1, hS1⟩
          have H1 := hid (hB.out.1.only hO1 hS1)
          obtain ⟨m, hm⟩ := H1.out.max
          have HO1 := hid (hB.out.2.1.trans hO1)
          clear hO1 hS1
          go_wp2_with fail
          refine (pass_hit (i := i + 1) H1.out.sc hs hil ⟨#[39]⟩ (by decide) hf m hm).mono ?_
          rintro e w2 ⟨rfl, hO2, hS2⟩
          have HO2 := hid (HO1.out.trans hO2)
          have HS2 := hid hS2
          clear hO2 hS2
          go_wp2_with fail
          go_ret
          rw [HV.out]
          exact ⟨rfl, HO2.out, HS2.out⟩
      · have HN := hid hst
        clear hst
        go_wp2_with fail
        refine (skip_no hB.out.1.sc hi _ HN.out).mono ?_
        rintro e w1 ⟨rfl, hO1, hS1⟩
        have H1 : Hid (SC w1 b s i raw ∧ Only b w w1 ∧ w1.heap[w.heap.size]? = some strokes ∧ (1 ≤ 2 → ¬ standsAt ⟨#[34]⟩ s i) ∧ (2 ≤ 2 → ¬ standsAt ⟨#[39]⟩ s i)) := ⟨hB.out.1.only hO1 hS1, hB.out.2.1.trans hO1, (hO1.block _ hlt2 hne).trans hB.out.2.2.1, fun _ => hB.out.2.2.2.1 (by omega), fun _ => HN.out⟩
        clear hO1 hS1
        go_wp2_with fail
        refine ⟨⟨2, by omega, by go_num, H1⟩, ?_⟩
        simp [intOf]
    · have HV : Hid (t = (s.extract i (spanE inValB s i), spanE inValB s i)) := by
        show _ = _
        rw [HT.out]; unfold valR
        rw [if_neg (fun h => h.elim (fun h => hB.out.2.2.2.1 (by omega) (one_is h)) (fun h => hB.out.2.2.2.2 (by omega) (one_is h)))]
      clear HT
      go_wp2_with fail
      refine (take_val hB.out.1.sc hs hi).mono ?_
      rintro e w1 ⟨rfl, hO1, hS1⟩
      have HO1 := hid (hB.out.2.1.trans hO1)
      have HS1 := hid hS1
      clear hO1 hS1
      go_wp2_with fail
      go_ret
      rw [HV.out]
      exact ⟨rfl, HO1.out, HS1.out⟩
end Go.Proofs.YtnoaojjljcbflaaGreatDoor
