/- bandOf: a band of tracks, as wide as these tell themselves. -/
import Derived.Test.YtjdndaeobiagcaaTrOf
import Derived.BigQuiet
namespace Go.Proofs.Ytjdndaeobiagcaa
open Go.RowKit
set_option linter.unusedVariables false      -- bounds that are for the walk

/-- numbers in a block of their own -/
def SzAt (w : World) (g n : Nat) (f : Nat → Int) : Prop := w.heap[g]? = some (.cells ((List.range n).map (fun j => Value.int .i64 (f j))).toArray 3 (0, 0))
section
variable {w w' : World} {g n : Nat} {f f' : Nat → Int}
theorem SzAt.lt (h : SzAt w g n f) : g < w.heap.size := ltH h
theorem SzAt.cell (h : SzAt w g n f) {k : Nat} (hk : k < n) : w.cell? ⟨g, k, none⟩ = some (.int .i64 (f k)) := by
  rw [cell_of_row _ _ _ _ _ _ h]
  simp [hk]
theorem SzAt.frz (h : SzAt w g n f) (k : Nat) : w.frozen? ⟨g, k, none⟩ = false := by
  have h' : w.heap[g]? = _ := h
  simp [World.frozen?, h']
theorem SzAt.congr (h : SzAt w g n f) (e : ∀ j, j < n → f j = f' j) : SzAt w g n f' := by
  unfold SzAt at h ⊢
  rw [h]
  congr 3
  apply List.map_congr_left
  intro j hj
  rw [e j (List.mem_range.1 hj)]
theorem SzAt.set (h : SzAt w g n f) (k : Nat) (b : Int) : SzAt (w.setCell ⟨g, k, none⟩ (.int .i64 b)) g n (fun j => if j = k then b else f j) := by
  unfold SzAt
  rw [heap_setCell_same w g k _ 3 _ h]
  congr 2
  apply Array.ext'
  rw [Array.toList_setIfInBounds]
  apply List.ext_getElem?
  intro j
  rw [List.getElem?_set]
  by_cases hj : j < n
  · by_cases e : k = j
    · subst e; simp [hj]
    · simp [e, hj, Ne.symm e]
  · by_cases e : k = j
    · subst e
      rw [if_pos rfl, if_neg (by simp; omega), List.getElem?_eq_none (by simp; omega)]
    · rw [if_neg e, List.getElem?_eq_none (by simp; omega), List.getElem?_eq_none (by simp; omega)]
theorem SzAt.other (h : SzAt w g n f) {g2 : Nat} (hg : g ≠ g2) (k : Nat) (v : Value) : SzAt (w.setCell ⟨g2, k, none⟩ v) g n f := by
  unfold SzAt
  rw [heap_setCell_other w ⟨g2, k, none⟩ g v hg]
  exact h
theorem SzAt.held (h : SzAt w g n f) (hb : Below w.heap.size w w') : SzAt w' g n f := (hb.block g h.lt).trans h
end
theorem Try.infoIntT : (Try.prog.info? 3).map (fun i => (i.zero, i.size, i.bytes)) = some (some (.int .i64 0), 1, 8) := by kernel_rfl
theorem own_sz {w : World} {B g n : Nat} (h : w.ownsRow B 3 1 (.slice (some ⟨g, 0, none⟩) n n) n (List.replicate n (.int .i64 0))) : SzAt w g n (fun _ => 0) := by
  obtain ⟨hl, ⟨h, _⟩ | ⟨g', cap', cur, hv, hg, hh, h1, h2, h3, h4⟩⟩ := h
  · cases h
  · cases hv
    unfold SzAt
    rw [hh]
    congr 2
    apply Array.ext'
    rw [List.take_of_length_le (by rw [Array.length_toList]; omega)] at h4
    rw [h4]
    apply List.ext_getElem?
    intro j
    by_cases hj : j < n
    · simp [hj]
    · rw [List.getElem?_eq_none (by simp; omega), List.getElem?_eq_none (by simp; omega)]
theorem make_intsT (w : World) (n : Nat) (hn : n ≤ 1000) : ∃ w1, (Instr.makeSlice 23 (.int .i64 (n : Int)) (.int .i64 (n : Int))).run Try.prog w = .ok (.slice (some ⟨w.heap.size, 0, none⟩) n n) w1 ∧ SzAt w1 w.heap.size n (fun _ => 0) ∧ Below w.heap.size w w1 := by
  obtain ⟨i0, hi, hz0, hz1, hz2⟩ := info_parts Try.infoIntT
  obtain ⟨w1, h1, h2, h3⟩ := run_make_full (P := Try.prog) w w.heap.size 23 3 i0 (.int .i64 0) 1 Try.underlying23 hi hz0 hz1 .i64 .i64 n (by rw [hz2]; omega) (by unfold maxLen; omega) (Nat.le_refl _)
  refine ⟨w1, h1, own_sz (B := w.heap.size) ?_, ⟨h3.os, h3.tape, h3.output, h3.size, fun k hk => h3.block k hk (by simp)⟩⟩
  rw [show (Value.int .i64 0).cells = #[.int .i64 0] from rfl, toList_madeCells_one, Nat.mul_one] at h2
  exact h2
/-- a band in memory: its tracks lie below -/
structure BdAt (w0 wr : World) (bb sb n : Nat) (tv : Value) (gap : Int) (sz : Nat → Int) : Prop where
  below : Below w0.heap.size w0 wr
  blk : wr.heap[bb]? = some (.cells #[tv, .slice (some ⟨sb, 0, none⟩) n n, .int .i64 gap] 101 (0, 0))
  siz : SzAt wr sb n sz
  lob : w0.heap.size ≤ bb
  los : w0.heap.size ≤ sb
  ne : bb ≠ sb
section
variable {w0 wr W : World} {bb sb n : Nat} {tv : Value} {gap : Int} {sz sz' : Nat → Int}
theorem BdAt.held (h : BdAt w0 wr bb sb n tv gap sz) (hb : Below wr.heap.size wr W) : BdAt w0 W bb sb n tv gap sz :=
  ⟨h.below.trans (hb.mono h.below.size), (hb.block bb (ltH h.blk)).trans h.blk, h.siz.held hb, h.lob, h.los, h.ne⟩
theorem BdAt.cells (h : BdAt w0 wr bb sb n tv gap sz) : bb < wr.heap.size ∧ wr.cell? ⟨bb, 0, none⟩ = some tv ∧ wr.cell? ⟨bb, 1, none⟩ = some (.slice (some ⟨sb, 0, none⟩) n n) ∧ wr.cell? ⟨bb, 2, none⟩ = some (.int .i64 gap) := by
  refine ⟨ltH h.blk, ?_, ?_, ?_⟩ <;> rw [cell_of_row wr bb _ _ _ _ h.blk] <;> rfl
theorem BdAt.set (h : BdAt w0 wr bb sb n tv gap sz) (k : Nat) (x : Int) : BdAt w0 (wr.setCell ⟨sb, k, none⟩ (.int .i64 x)) bb sb n tv gap (fun j => if j = k then x else sz j) :=
  ⟨h.below.setCell h.los _, (heap_setCell_other wr ⟨sb, k, none⟩ bb _ h.ne).trans h.blk, h.siz.set k x, h.lob, h.los, h.ne⟩
theorem BdAt.congr (h : BdAt w0 wr bb sb n tv gap sz) (e : ∀ j, j < n → sz j = sz' j) : BdAt w0 wr bb sb n tv gap sz' :=
  ⟨h.below, h.blk, h.siz.congr e, h.lob, h.los, h.ne⟩
end
/-- how wide a track tells itself to be -/
def ownT (room : Int) (t : Tr2) : Int := if t.k = 1 then t.n else if t.k = 2 then room * t.n / 100000 else 0
/-- tracks as they count -/
structure TrOk (room : Int) (t : Tr2) : Prop where
  n0 : 0 ≤ t.n
  n1 : t.n ≤ 1000000000
  k2 : t.k = 2 → 0 ≤ room
theorem cntT_ok (room : Int) (t : Tr2) : TrOk room (cntT room t) := by
  unfold cntT
  have h1 := heldN_bd t.n
  have h2 : 0 ≤ facN t.n ∧ facN t.n ≤ 1000000000 := by unfold facN; split <;> omega
  split
  · exact ⟨by show 0 ≤ max _ _; omega, by show max _ _ ≤ _; omega, fun e => by have e : (1 : Int) = 2 := e; omega⟩
  · split
    · rename_i h
      exact ⟨h2.1, h2.2, fun _ => h.2⟩
    · exact ⟨Int.le_refl _, by show (0 : Int) ≤ _; omega, fun e => by have e : (0 : Int) = 2 := e; omega⟩

def atT (l : List Tr2) (i : Nat) : Tr2 := (l[i]?).getD ⟨0, 0⟩

set_option maxHeartbeats 4000000 in
set_option maxRecDepth 100000 in
theorem bandOf_any {w : World} {v : Value} {l : List Tr2} (h : TkL w v l) (hlen : l.length ≤ 300) {room gap : Int} (hok : ∀ t ∈ l, TrOk room t) (r1 : -16777216 ≤ room) (r2 : room ≤ 16777216) :
    Calls Try.prog 52 #[v, .int .i64 room, .int .i64 gap] w fun e w' => ∃ bb sb, e = .returned (.pointer (some ⟨bb, 0, none⟩)) ∧ BdAt w w' bb sb l.length v gap (fun j => ownT room (atT l j)) := by
  obtain ⟨a, cap, rfl, hc1, hc2, hl⟩ := h
  have HL := hidF hl
  have HOK := hidF hok
  obtain ⟨n, hn⟩ : ∃ n, l.length = n := ⟨_, rfl⟩
  have HN := hidF hn
  rw [hn] at hlen hc1 ⊢
  obtain ⟨wa, mk1, ba, bwa⟩ := make_intsT w n (by omega)
  have HB0 : Hid (BdAt w (wa.alloc (.cells #[.slice a n cap, .slice (some ⟨w.heap.size, 0, none⟩) n n, .int .i64 gap] 101)) wa.heap.size w.heap.size n (.slice a n cap) gap (fun _ => 0)) :=
    ⟨bwa.alloc bwa.size _, heap_alloc_new wa _, ba.held ((Below.refl _ _).alloc (Nat.le_refl _) _), bwa.size, Nat.le_refl _, fun e => by have := ba.lt; omega⟩
  obtain ⟨bb, hbb⟩ : ∃ b, wa.heap.size = b := ⟨_, rfl⟩
  obtain ⟨sb, hsb⟩ : ∃ b, w.heap.size = b := ⟨_, rfl⟩
  clear hl hok hn ba bwa
  go_enter Try.func52, Try.ntmps52
  go_upto_region 1 with fail
  go_cut [7] (fun p wx => p = .pointer (some ⟨bb, 0, none⟩) ∧ Hid (BdAt w wx bb sb n (.slice a n cap) gap (fun _ => 0)))
  case first =>
    go_wp2_with fail
    go_meet
    case rel =>
      go_light
      refine ⟨by rw [← hbb], ?_⟩
      have := HB0.out
      rw [hbb, hsb] at this
      first | exact this | (rw [← hsb, ← hbb]; exact HB0.out)
  case rest =>
  obtain ⟨rfl, HB⟩ := hcut
  clear HB0 mk1 hbb hsb
  go_wp2_with fail
  go_loopw [19] (fun i wr => ∃ k : Nat, k ≤ n ∧ i = .int .i64 k ∧ Hid (BdAt w wr bb sb n (.slice a n cap) gap (fun j => if j < k then ownT room (atT l j) else 0))) (fun i _ => n - (intV i).toNat)
  case atStart => exact ⟨0, Nat.zero_le _, rfl, HB.out.congr (fun j hj => by simp)⟩
  case round =>
    obtain ⟨k, hk, rfl, HZ⟩ := hrel
    by_cases hlt : k < n
    · obtain ⟨x, hx⟩ : ∃ x, l[k]? = some x := ⟨_, List.getElem?_eq_getElem (by rw [HN.out]; exact hlt)⟩
      obtain ⟨b, o, rfl, e2, e3, e4⟩ := HL.out k x hx
      have hkb := HZ.out.below.block b e2
      have x1 := Nat.lt_of_lt_of_le e2 HZ.out.below.size
      have x2 := (World.cell?_of_block (a := ⟨b, o + k * 2, none⟩) hkb).trans e3
      have x3 := (World.cell?_of_block (a := ⟨b, o + k * 2 + 1, none⟩) hkb).trans e4
      have i1 : (0 : Int) ≤ (k : Int) := by omega
      have i2 : (k : Int) < (n : Int) := by omega
      have hxo := HOK.out x (List.mem_of_getElem? hx)
      have s1 := hxo.n0; have s2 := hxo.n1; have s3 := hxo.k2
      have HAT : Hid (atT l k = x) := by show _ = _; simp [atT, hx]
      have HNX : Hid (∀ (wx : World) (y : Int), y = ownT room x → BdAt w wx bb sb n (.slice (some ⟨b, o, none⟩) n cap) gap (fun j => if j < k then ownT room (atT l j) else 0) → BdAt w (wx.setCell ⟨sb, k, none⟩ (.int .i64 y)) bb sb n (.slice (some ⟨b, o, none⟩) n cap) gap (fun j => if j < k + 1 then ownT room (atT l j) else 0)) := by
        intro wx y hy hbd
        refine (hbd.set k y).congr (fun j hj => ?_)
        by_cases e : j = k
        · subst e; rw [if_pos rfl, if_pos (by omega), HAT.out, hy]
        · rw [if_neg e]
          by_cases e2 : j < k
          · rw [if_pos e2, if_pos (by omega)]
          · rw [if_neg e2, if_neg (by omega)]
      have HNZ : Hid (∀ wx : World, ownT room x = 0 → BdAt w wx bb sb n (.slice (some ⟨b, o, none⟩) n cap) gap (fun j => if j < k then ownT room (atT l j) else 0) → BdAt w wx bb sb n (.slice (some ⟨b, o, none⟩) n cap) gap (fun j => if j < k + 1 then ownT room (atT l j) else 0)) := by
        intro wx hy hbd
        refine hbd.congr (fun j hj => ?_)
        by_cases e : j = k
        · subst e; rw [if_neg (by omega), if_pos (by omega), HAT.out, hy]
        · by_cases e2 : j < k
          · rw [if_pos e2, if_pos (by omega)]
          · rw [if_neg e2, if_neg (by omega)]
      clear hx hkb e2 e3 e4 hxo
      obtain ⟨xk, xn⟩ := x
      simp only at x2 x3 s1 s2 s3
      obtain ⟨w5, hw5⟩ : ∃ w5, w5 = wr := ⟨_, rfl⟩
      subst hw5
      have HAL := hidF (HZ.out.held (W := w5.alloc (.cells #[.int .i64 xk, .int .i64 xn] 54)) ((Below.refl _ _).alloc (Nat.le_refl _) _))
      have hxbb : ¬ w5.heap.size = bb ∧ ¬ w5.heap.size = sb := by have := ltH HZ.out.blk; have := HZ.out.siz.lt; omega
      have HXA : Hid (TxAt (w5.alloc (.cells #[.int .i64 xk, .int .i64 xn] 54)) w5.heap.size ⟨xk, xn⟩) := heap_alloc_new w5 _
      go_upto_region 4 with fail
      go_cut [8, 9] (fun kv p wx => kv = .int .i64 k ∧ p = .pointer (some ⟨w5.heap.size, 0, none⟩) ∧ Hid (BdAt w wx bb sb n (.slice (some ⟨b, o, none⟩) n cap) gap (fun j => if j < k then ownT room (atT l j) else 0) ∧ TxAt wx w5.heap.size ⟨xk, xn⟩))
      case first =>
        go_wp2_with fail
        go_meet
        case rel => go_light; exact ⟨rfl, rfl, HAL.out, HXA.out⟩
      case rest =>
      obtain ⟨rfl, rfl, HC⟩ := hcut
      obtain ⟨z0, z1, z2⟩ := HC.out.2.cells
      obtain ⟨q0, q1, q2, q3⟩ := HC.out.1.cells
      have sl := HC.out.1.siz.lt
      have sc := HC.out.1.siz.cell hlt
      have sf := HC.out.1.siz.frz k
      simp only at z1 z2
      obtain ⟨xb, hxb⟩ : ∃ x, w5.heap.size = x := ⟨_, rfl⟩
      rw [hxb] at z0 z1 z2 HC hxbb ⊢
      obtain ⟨w6, hw6⟩ : ∃ w6, w6 = wc := ⟨_, rfl⟩
      subst hw6
      clear HAL HXA HZ x1 x2 x3 hxb
      by_cases h1 : xk = 1
      · subst h1
        have HN2 := hidF (HNX.out w6 xn (by unfold ownT; rw [if_pos rfl]) HC.out.1)
        go_upto_region 7 with fail
        go_region
        all_goals
          go_wp2_with fail
          go_roundw
          case rel => go_light; exact ⟨k + 1, by omega, by go_num, HN2.out.held (Below.refl _ _).drew⟩
          case measure => simp [intV]; omega
      · have h1' : (xk == 1) = false := by simpa using h1
        by_cases h2 : xk = 2
        · subst h2
          have hr := s3 rfl
          have p1 : 0 ≤ room * xn := Int.mul_nonneg hr s1
          have p2 : room * xn ≤ 16777216 * 1000000000 := Int.mul_le_mul r2 s2 s1 (by omega)
          have W1 : IntKind.i64.wrap (room * xn) = room * xn := wrapT (by omega) (by omega)
          have HN2 := hidF (HNX.out w6 (room * xn / 100000) (by unfold ownT; rw [if_neg (by omega), if_pos rfl]) HC.out.1)
          obtain ⟨m, hm⟩ : ∃ m, room * xn = m := ⟨_, rfl⟩
          have HM := hidF hm
          rw [hm] at W1 p1 p2 HN2
          have W2 : Int.tdiv m 100000 = m / 100000 := Int.tdiv_eq_ediv_of_nonneg p1
          have W3 : IntKind.i64.wrap (m / 100000) = m / 100000 := wrapT (by omega) (by omega)
          clear h1
          go_upto_region 9 with fail
          go_region
          all_goals
            go_wp2_with fail
            go_roundw
            case rel => go_light; exact ⟨k + 1, by omega, by go_num, HN2.out.held (Below.refl _ _).drew⟩
            case measure => simp [intV]; omega
        · have h2' : (xk == 2) = false := by simpa using h2
          have HN2 := hidF (HNZ.out w6 (by unfold ownT; rw [if_neg h1, if_neg h2]) HC.out.1)
          clear h1 h2
          go_wp2_with fail
          go_roundw
          case rel => go_light; exact ⟨k + 1, by omega, by go_num, HN2.out⟩
          case measure => simp [intV]; omega
    · obtain rfl : k = n := by omega
      have hlt' : ¬ (k : Int) < (k : Int) := by omega
      go_wp2_with fail
      go_returns
      exact ⟨bb, rfl, sb, HZ.out.congr (fun j hj => by rw [if_pos hj])⟩
end Go.Proofs.Ytjdndaeobiagcaa
