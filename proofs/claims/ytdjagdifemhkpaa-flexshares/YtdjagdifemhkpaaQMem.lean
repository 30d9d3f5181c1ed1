/- Rows of memory by places: blocks of their own that are read and written place by place. -/
import Derived.Test.YtdjagdifemhkpaaQShPure
import Derived.Test.YtdjagdifemhkpaaQLeft
import Derived.Test.YtdjagdifemhkpaaQPort
namespace Go.Proofs.Ytdjagdifemhkpaa
open Go.RowKit
set_option linter.unusedVariables false      -- bounds that are for the walk

def BlkF (w : World) (g : Nat) (t : TypeId) (n : Nat) (F : Nat → Value) : Prop := w.heap[g]? = some (.cells ((List.range n).map F).toArray t (0, 0))
section
variable {w w' : World} {g n : Nat} {t : TypeId} {F G : Nat → Value}
theorem BlkF.lt (h : BlkF w g t n F) : g < w.heap.size := ltH h
theorem BlkF.cell (h : BlkF w g t n F) {k : Nat} (hk : k < n) : w.cell? ⟨g, k, none⟩ = some (F k) := by
  rw [cell_of_row _ _ _ _ _ _ h]
  simp [hk]
theorem BlkF.frz (h : BlkF w g t n F) (k : Nat) : w.frozen? ⟨g, k, none⟩ = false := by
  have h' : w.heap[g]? = _ := h
  simp [World.frozen?, h']
theorem BlkF.congr (h : BlkF w g t n F) (e : ∀ j, j < n → F j = G j) : BlkF w g t n G := by
  unfold BlkF at h ⊢
  rw [h]
  congr 3
  apply List.map_congr_left
  intro j hj
  exact e j (List.mem_range.1 hj)
theorem BlkF.set (h : BlkF w g t n F) (k : Nat) (v : Value) : BlkF (w.setCell ⟨g, k, none⟩ v) g t n (fun j => if j = k then v else F j) := by
  unfold BlkF
  rw [heap_setCell_same w g k _ t v h]
  congr 2
  apply Array.ext'
  rw [Array.toList_setIfInBounds]
  apply List.ext_getElem?
  intro j
  rw [List.getElem?_set]
  by_cases hj : j < n
  · by_cases e : k = j
    · subst e; simp [hj]
    · simp [e, hj, Ne.symm e]
  · by_cases e : k = j
    · subst e
      rw [if_pos rfl, if_neg (by simp; omega), List.getElem?_eq_none (by simp; omega)]
    · rw [if_neg e, List.getElem?_eq_none (by simp; omega), List.getElem?_eq_none (by simp; omega)]
theorem BlkF.other (h : BlkF w g t n F) {g2 : Nat} (hg : g ≠ g2) (k : Nat) (v : Value) : BlkF (w.setCell ⟨g2, k, none⟩ v) g t n F := by
  unfold BlkF
  rw [heap_setCell_other w ⟨g2, k, none⟩ g v hg]
  exact h
theorem BlkF.below {B : Nat} (h : BlkF w g t n F) (hb : Below B w w') (hg : g < B) : BlkF w' g t n F := (hb.block g hg).trans h
theorem BlkF.held (h : BlkF w g t n F) (hb : Below w.heap.size w w') : BlkF w' g t n F := h.below hb h.lt
theorem BlkF.ints {f : Nat → Int} (h : BlkF w g 3 n (fun j => .int .i64 (f j))) (hn : n ≤ 9223372036854775807) {l : List Int} (hl : l = (List.range n).map f) : IntL w (.slice (some ⟨g, 0, none⟩) n n) l := by
  subst hl
  refine ⟨_, n, by simp, by simp, hn, fun j x hj => ⟨g, 0, rfl, h.lt, ?_⟩⟩
  have hjl : j < n := by have := (List.getElem?_eq_some_iff.1 hj).1; simpa using this
  rw [Nat.zero_add, h.cell hjl]
  rw [List.getElem?_map, List.getElem?_range hjl] at hj
  cases hj; rfl
theorem BlkF.bools {f : Nat → Bool} (h : BlkF w g 4 n (fun j => .bool (f j))) (hn : n ≤ 9223372036854775807) {l : List Bool} (hl : l = (List.range n).map f) : BoolL w (.slice (some ⟨g, 0, none⟩) n n) l := by
  subst hl
  refine ⟨_, n, by simp, by simp, hn, fun j x hj => ⟨g, 0, rfl, h.lt, ?_⟩⟩
  have hjl : j < n := by have := (List.getElem?_eq_some_iff.1 hj).1; simpa using this
  rw [Nat.zero_add, h.cell hjl]
  rw [List.getElem?_map, List.getElem?_range hjl] at hj
  cases hj; rfl
end

theorem Try.infoBool : (Try.prog.info? 4).map (fun i => (i.zero, i.size, i.bytes)) = some (some (.bool false), 1, 1) := by kernel_rfl
theorem own_blk {w : World} {B g n : Nat} {t : TypeId} {z : Value} (h : w.ownsRow B t 1 (.slice (some ⟨g, 0, none⟩) n n) n (List.replicate n z)) : BlkF w g t n (fun _ => z) := by
  obtain ⟨hl, ⟨h, _⟩ | ⟨g', cap', cur, hv, hg, hh, h1, h2, h3, h4⟩⟩ := h
  · cases h
  · cases hv
    unfold BlkF
    rw [hh]
    congr 2
    apply Array.ext'
    rw [List.take_of_length_le (by rw [Array.length_toList]; omega)] at h4
    rw [h4]
    apply List.ext_getElem?
    intro j
    by_cases hj : j < n
    · simp [hj]
    · rw [List.getElem?_eq_none (by simp; omega), List.getElem?_eq_none (by simp; omega)]
theorem make_intsB (w : World) (n : Nat) (hn : n ≤ 1000) : ∃ w1, (Instr.makeSlice 23 (.int .i64 (n : Int)) (.int .i64 (n : Int))).run Try.prog w = .ok (.slice (some ⟨w.heap.size, 0, none⟩) n n) w1 ∧ BlkF w1 w.heap.size 3 n (fun _ => .int .i64 0) ∧ Below w.heap.size w w1 := by
  obtain ⟨w1, h1, h2, h3⟩ := make_ints w n hn
  exact ⟨w1, h1, own_blk h2, h3⟩
theorem make_boolsB (w : World) (n : Nat) (hn : n ≤ 1000) : ∃ w1, (Instr.makeSlice 80 (.int .i64 (n : Int)) (.int .i64 (n : Int))).run Try.prog w = .ok (.slice (some ⟨w.heap.size, 0, none⟩) n n) w1 ∧ BlkF w1 w.heap.size 4 n (fun _ => .bool false) ∧ Below w.heap.size w w1 := by
  obtain ⟨i0, hi, hz0, hz1, hz2⟩ := info_parts Try.infoBool
  obtain ⟨w1, h1, h2, h3⟩ := run_make_full (P := Try.prog) w w.heap.size 80 4 i0 (.bool false) 1 Try.underlying80 hi hz0 hz1 .i64 .i64 n (by rw [hz2]; omega) (by unfold maxLen; omega) (Nat.le_refl _)
  refine ⟨w1, h1, own_blk (B := w.heap.size) ?_, ⟨h3.os, h3.tape, h3.output, h3.size, fun k hk => h3.block k hk (by simp)⟩⟩
  rw [show (Value.bool false).cells = #[.bool false] from rfl, toList_madeCells_one, Nat.mul_one] at h2
  exact h2

set_option maxHeartbeats 2000000 in
set_option maxRecDepth 100000 in
/-- what there is to share, whatever is settled -/
theorem qleftS_any {w : World} {lv ov dv : Value} {ps : List Pr} (h1 : ItemsL w lv (ps.map Pr.i)) (h2 : IntL w ov (ps.map Pr.size)) (h3 : BoolL w dv (ps.map Pr.settled)) (ho : StOk ps) (room : Int) (r1 : -10000000000 ≤ room) (r2 : room ≤ 10000000000) :
    Calls Try.prog 33 #[lv, ov, dv, .int .i64 room] w fun e w' => e = .returned (.int .i64 (freeN room ps ps.length)) ∧ w' = w := by
  obtain ⟨la, lc, rfl, q1, q2, hl⟩ := h1
  obtain ⟨oa, oc, rfl, q3, q4, hov⟩ := h2
  obtain ⟨da, dc, rfl, q5, q6, hdv⟩ := h3
  have HL := hidF hl
  have HV := hidF hov
  have HD := hidF hdv
  have HO := hidF ho
  simp only [List.length_map] at q1 q3 q5 ⊢
  obtain ⟨n, hn⟩ : ∃ n, ps.length = n := ⟨_, rfl⟩
  have HN := hidF hn
  rw [hn] at q1 q3 q5 ⊢
  clear hl hov hdv ho hn
  go_enter Try.func33, Try.ntmps33
  go_wp2_with fail
  go_loopw [3, 9] (fun rv i wr => ∃ (k : Nat) (z : Int), k ≤ n ∧ i = .int .i64 k ∧ rv = .int .i64 z ∧ wr = w ∧ Hid (z = freeN room ps k)) (fun _ i _ => n - (intV i).toNat)
  case atStart => exact ⟨0, room, Nat.zero_le _, rfl, rfl, rfl, by show _ = _; simp [freeN]⟩
  case round =>
    obtain ⟨k, z, hk, rfl, rfl, hww, HZ⟩ := hrel
    have hww2 := hww.symm
    clear hww
    subst hww2
    have z1 := HO.out.free room k
    rw [← HZ.out] at z1
    obtain ⟨z1, z2⟩ := z1
    by_cases hlt : k < n
    · obtain ⟨p, hp⟩ : ∃ p, ps[k]? = some p := ⟨_, List.getElem?_eq_getElem (by rw [HN.out]; exact hlt)⟩
      obtain ⟨lb, lo, rfl, li⟩ := HL.out k p.i (by rw [List.getElem?_map, hp]; rfl)
      obtain ⟨ob, oo, rfl, ol, oc9⟩ := HV.out k p.size (by rw [List.getElem?_map, hp]; rfl)
      obtain ⟨db, d0, rfl, dl, dc9⟩ := HD.out k p.settled (by rw [List.getElem?_map, hp]; rfl)
      have c0 := li.c0
      have l0 := li.lt
      have g1 := HO.out.gotP (List.mem_of_getElem? hp)
      have HS := hidF (freeN_succ (room := room) hp)
      have i1 : (0 : Int) ≤ (k : Int) := by omega
      have i2 : (k : Int) < (n : Int) := by omega
      clear hp li
      obtain ⟨⟨xb, xmn, xmx, xar, xgr, xsh⟩, sz, mv, st⟩ := p
      unfold gotP at g1 HS
      simp only at c0 oc9 dc9 g1 HS
      cases st
      · simp only [Bool.false_eq_true, if_false] at g1 HS
        obtain ⟨g1, g2⟩ := g1
        go_wp2_with fail
        go_roundw
        case rel => go_light; exact ⟨k + 1, _, by omega, by go_num, rfl, by trivial, by show _ = _; rw [HS.out, ← HZ.out]⟩
        case measure => simp [intV]; omega
      · simp only [if_true] at g1 HS
        obtain ⟨g1, g2⟩ := g1
        go_wp2_with fail
        go_roundw
        case rel => go_light; exact ⟨k + 1, _, by omega, by go_num, rfl, by trivial, by show _ = _; rw [HS.out, ← HZ.out]⟩
        case measure => simp [intV]; omega
    · obtain rfl : k = n := by omega
      go_wp2_with fail
      go_returns
      exact ⟨ret_i HZ.out, rfl⟩
end Go.Proofs.Ytdjagdifemhkpaa
