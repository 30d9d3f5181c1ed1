/- Pictures: blank rows, and the program's Picture. -/
import Derived.Test.YtpkdigjejijiiaaPpPaint
namespace Go.Proofs.Ytpkdigjejijiiaa
open Go.RowKit
set_option linter.unusedVariables false      -- bounds that are for the walk

/-- some rows of a picture in the making -/
structure BkAt (w wr : World) (r H W : Nat) (rb : Nat → Nat) (K : Nat) (G : Nat → Nat → Int) : Prop where
  below : Below w.heap.size w wr
  top : BlkF wr r 34 H (fun y => if y < K then .slice (some ⟨rb y, 0, none⟩) W W else .slice none 0 0)
  row : ∀ y, y < K → BlkF wr (rb y) 3 W (fun x => .int .i64 (G y x))
  lo : w.heap.size ≤ r
  los : ∀ y, y < K → w.heap.size ≤ rb y
  ne : ∀ y, y < K → rb y ≠ r
  inj : ∀ y y', y < K → y' < K → rb y = rb y' → y = y'
section
variable {w wr w6 : World} {r H W K : Nat} {rb : Nat → Nat} {G : Nat → Nat → Int}
theorem BkAt.congr {G' : Nat → Nat → Int} (h : BkAt w wr r H W rb K G) (e : ∀ y x, y < K → x < W → G y x = G' y x) : BkAt w wr r H W rb K G' :=
  ⟨h.below, h.top, fun y hy => (h.row y hy).congr (fun x hx => by rw [e y x hy hx]), h.lo, h.los, h.ne, h.inj⟩
theorem BkAt.made (h : BkAt w wr r H W rb K G) (hb : BlkF w6 wr.heap.size 3 W (fun _ => .int .i64 0)) (bl : Below wr.heap.size wr w6) (hK : K < H) :
    (r < w6.heap.size ∧ w6.cell? ⟨r, K, none⟩ = some (.slice none 0 0) ∧ w6.frozen? ⟨r, K, none⟩ = false) ∧ BkAt w (w6.setCell ⟨r, K, none⟩ (.slice (some ⟨wr.heap.size, 0, none⟩) W W)) r H W (fun y => if y = K then wr.heap.size else rb y) (K + 1) (fun y x => if y = K then 0 else G y x) := by
  have ht := h.top.below bl h.top.lt
  have hc := ht.cell hK
  rw [if_neg (by omega)] at hc
  have hrl := h.top.lt
  refine ⟨⟨ht.lt, hc, ht.frz K⟩, ⟨(h.below.trans (bl.mono h.below.size)).setCell h.lo _, ?_, fun y hy => ?_, h.lo, fun y hy => ?_, fun y hy => ?_, fun y y' hy hy' e => ?_⟩⟩
  · refine (ht.set K _).congr fun y hy => ?_
    by_cases e : y = K
    · subst e; simp
    · by_cases e2 : y < K
      · rw [if_neg e, if_pos e2, if_pos (by omega), if_neg e]
      · rw [if_neg e, if_neg e2, if_neg (by omega)]
  · by_cases e : y = K
    · subst e
      simp only [if_true]
      exact (hb.other (by omega) _ _)
    · simp only [if_neg e]
      have hy' : y < K := by omega
      exact ((h.row y hy').below bl (h.row y hy').lt).other (h.ne y hy') _ _
  · have := h.below.size
    by_cases e : y = K
    · simp only [if_pos e]; exact this
    · simp only [if_neg e]; exact h.los y (by omega)
  · by_cases e : y = K
    · simp only [if_pos e]; omega
    · simp only [if_neg e]; exact h.ne y (by omega)
  · by_cases e1 : y = K
    · by_cases e2 : y' = K
      · omega
      · simp only [if_pos e1, if_neg e2] at e
        have := (h.row y' (by omega)).lt
        omega
    · by_cases e2 : y' = K
      · simp only [if_neg e1, if_pos e2] at e
        have := (h.row y (by omega)).lt
        omega
      · simp only [if_neg e1, if_neg e2] at e
        exact h.inj y y' (by omega) (by omega) e
theorem BkAt.put (h : BkAt w wr r H W rb K G) {y x : Nat} (hy : y < K) (c : Int) : BkAt w (wr.setCell ⟨rb y, x, none⟩ (.int .i64 c)) r H W rb K (fun a b => if a = y ∧ b = x then c else G a b) := by
  refine ⟨h.below.setCell (h.los y hy) _, h.top.other (Ne.symm (h.ne y hy)) _ _, fun a ha => ?_, h.lo, h.los, h.ne, h.inj⟩
  by_cases e : a = y
  · subst e
    refine ((h.row a ha).set x (.int .i64 c)).congr fun j _ => ?_
    by_cases ej : j = x <;> simp [ej]
  · exact ((h.row a ha).other (fun e2 => e (h.inj a y ha hy e2)) _ _).congr (fun j _ => by simp [e])
theorem BkAt.pic (h : BkAt w wr r H W rb H G) : Pic wr w.heap.size r H W rb G :=
  ⟨h.top.congr (fun y hy => by rw [if_pos hy]), h.row, h.lo, h.los, h.ne, h.inj⟩
end

set_option maxHeartbeats 4000000 in
set_option maxRecDepth 100000 in
theorem blank_any (w : World) (W H : Nat) (hW : W ≤ 64) (hH : H ≤ 64) :
    Calls Try.prog 7 #[.int .i64 (W : Int), .int .i64 (H : Int)] w fun e w' => ∃ r, e = .returned (.slice (some ⟨r, 0, none⟩) H H) ∧ Below w.heap.size w w' ∧ ∃ rb, Pic w' w.heap.size r H W rb (fun _ _ => -1) := by
  obtain ⟨w1, mk, bk, bl⟩ := make_rows w H hH
  have HK := hidF (And.intro bk bl)
  have hr0 := bk.lt
  clear bk bl
  go_enter Try.func7, Try.ntmps7
  go_wp2_with fail
  go_loopw [12] (fun iv wr => ∃ (k : Nat) (rb : Nat → Nat), k ≤ H ∧ iv = .int .i64 k ∧ Hid (BkAt w wr w.heap.size H W rb k (fun _ _ => -1))) (fun iv _ => H - (intV iv).toNat)
  case atStart => exact ⟨0, fun _ => 0, Nat.zero_le _, rfl, ⟨HK.out.2, HK.out.1.congr (fun y _ => by simp), fun y hy => by omega, Nat.le_refl _, fun y hy => by omega, fun y hy => by omega, fun y y' hy => by omega⟩⟩
  case round =>
    obtain ⟨k, rb, hk, rfl, HQ⟩ := hrel
    obtain ⟨w5, hw5⟩ : ∃ w5, w5 = wr := ⟨_, rfl⟩
    subst hw5
    by_cases hlt : k < H
    · obtain ⟨w6, mk6, bk6, bl6⟩ := make_row w5 W hW
      obtain ⟨⟨p1, p2, p3⟩, HM⟩ := HQ.out.made bk6 bl6 hlt
      obtain ⟨g6, hg6⟩ : ∃ g, w5.heap.size = g := ⟨_, rfl⟩
      rw [hg6] at mk6 HM
      have HM := hidF HM
      have i1 : (0 : Int) ≤ (k : Int) := by omega
      have i2 : (k : Int) < (H : Int) := by omega
      clear bk6 bl6 mk hg6
      go_wp2_with fail
      go_loopw [25] (fun jv wx => ∃ j : Nat, j ≤ W ∧ jv = .int .i64 j ∧ Hid (BkAt w wx w.heap.size H W (fun y => if y = k then g6 else rb y) (k + 1) (fun y x => if y = k ∧ j ≤ x then 0 else -1))) (fun jv _ => W - (intV jv).toNat)
      case atStart => exact ⟨0, Nat.zero_le _, rfl, HM.out.congr (fun y x _ _ => by by_cases e : y = k <;> simp [e])⟩
      case round =>
        obtain ⟨j, hj, rfl, HY⟩ := hrel
        have t1 := HY.out.top.lt
        have t2 := HY.out.top.cell hlt
        rw [if_pos (by omega)] at t2
        simp only [if_true] at t2
        by_cases hjl : j < W
        · have cx := (HY.out.row k (by omega)).cell hjl
          have fx := (HY.out.row k (by omega)).frz j
          have rl := (HY.out.row k (by omega)).lt
          simp only [if_true] at cx fx rl
          have j1 : (0 : Int) ≤ (j : Int) := by omega
          have j2 : (j : Int) < (W : Int) := by omega
          have HZ := hidF (HY.out.put (y := k) (x := j) (by omega) (-1))
          simp only [if_true] at HZ
          go_wp2_with fail
          go_roundw
          case rel =>
            go_light
            refine ⟨j + 1, by omega, by go_num, HZ.out.congr (fun y x _ _ => ?_)⟩
            by_cases e : y = k
            · subst e
              by_cases e2 : x = j
              · subst e2; simp
              · by_cases e3 : j ≤ x
                · rw [if_neg (by omega), if_pos (by omega), if_pos (by omega)]
                · rw [if_neg (by omega), if_neg (by omega), if_neg (by omega)]
            · rw [if_neg (by omega), if_neg (by omega), if_neg (by omega)]
          case measure => simp [intV]; omega
        · obtain rfl : j = W := by omega
          have hl3 : ¬ (j : Int) < (j : Int) := by omega
          go_wp2_with fail
          go_roundw
          case rel =>
            go_light
            exact ⟨k + 1, _, by omega, by go_num, HY.out.congr (fun y x _ hx => by rw [if_neg (by omega)])⟩
          case measure => simp [intV]; omega
    · obtain rfl : k = H := by omega
      have hl3 : ¬ (k : Int) < (k : Int) := by omega
      go_wp2_with fail
      go_returns
      exact ⟨_, rfl, HQ.out.below, rb, HQ.out.pic⟩

set_option maxHeartbeats 4000000 in
set_option maxRecDepth 100000 in
theorem picture_any {w : World} {v : Value} {l : List Mk} (h : MksL w v l) (ok : ∀ m ∈ l, MkOk m) (wd ht : Int) :
    Calls Try.prog 5 #[v, .int .i64 wd, .int .i64 ht] w fun e w' => ∃ u, e = .returned u ∧ RowsL w' u (picP l (sideN wd) (sideN ht)) ∧ Below w.heap.size w w' := by
  obtain ⟨a, cap, rfl, hc1, hc2, hl⟩ := h
  have HL := hidF hl
  have HO := hidF ok
  obtain ⟨n, hn⟩ : ∃ n, l.length = n := ⟨_, rfl⟩
  have HN := hidF hn
  rw [hn] at hc1 ⊢
  have sW := sideN_le wd
  have sH := sideN_le ht
  have HS1 := hidF (sideOf_any wd)
  have HS2 := hidF (sideOf_any ht)
  obtain ⟨W, hW⟩ : ∃ n, sideN wd = n := ⟨_, rfl⟩
  obtain ⟨H, hH⟩ : ∃ n, sideN ht = n := ⟨_, rfl⟩
  rw [hW] at sW HS1
  rw [hH] at sH HS2
  rw [hW, hH]
  clear hl ok hn hW hH
  go_enter Try.func5, Try.ntmps5
  go_wp2_with (first
    | (go_at_call 7; refine (blank_any _ W H sW sH).mono ?_; rintro e w1 ⟨r, rfl, b1, rb, p1⟩; have HP := hidF (And.intro b1 p1); clear b1 p1)
    | (go_at_call 8; refine (HS1.out _).mono ?_; rintro e w6 ⟨rfl, h6⟩; have h7 := h6.symm; clear h6; subst h7; clear HS1)
    | (go_at_call 8; refine (HS2.out _).mono ?_; rintro e w6 ⟨rfl, h6⟩; have h7 := h6.symm; clear h6; subst h7))
  go_loopw [17] (fun iv wr => ∃ k : Nat, k ≤ n ∧ iv = .int .i64 k ∧ Hid (Below w.heap.size w wr ∧ Pic wr w.heap.size r H W rb (fun y x => pixP (l.take k) x y))) (fun iv _ => n - (intV iv).toNat)
  case atStart => exact ⟨0, Nat.zero_le _, rfl, HP.out⟩
  case round =>
    obtain ⟨k, hk, rfl, HQ⟩ := hrel
    by_cases hlt : k < n
    · obtain ⟨m, hm⟩ : ∃ m, l[k]? = some m := ⟨_, List.getElem?_eq_getElem (by rw [HN.out]; exact hlt)⟩
      obtain ⟨hsz, b, o, rfl, MA⟩ := HL.out k m hm
      have MB := MA.held HQ.out.1 MA.lt
      obtain ⟨m0, m1, m2, m3, m4, m5, m6, m7⟩ := MB
      have HM := hidF hm
      have i1 : (0 : Int) ≤ (k : Int) := by omega
      have i2 : (k : Int) < (n : Int) := by omega
      have hs9 := HQ.out.1.size
      have HPA := hidF (fun o => paint_any (m := m) (HQ.out.2.held ((Below.refl _ wr).alloc (Nat.le_refl _) o)) sH sW (by have := HQ.out.1.size; simp; omega) (HO.out m (List.mem_of_getElem? hm)))
      have HBA := hidF (fun o => HQ.out.1.alloc HQ.out.1.size o)
      obtain ⟨nd, c, x, y, wx, hh, s⟩ := m
      simp only at m1 m2 m3 m4 m5 m6 m7
      clear hm MA
      go_wp2_with (go_at_call 9; refine (HPA.out _).mono ?_; rintro e w6 ⟨rfl, b6, p6⟩; have H6 := hidF (And.intro ((HBA.out _).trans b6) p6); clear b6 p6)
      go_roundw
      case rel =>
        go_light
        exact ⟨k + 1, by omega, by go_num, H6.out.1, H6.out.2.congr (fun a b _ _ => by rw [pixP_take HM.out])⟩
      case measure => simp [intV]; omega
    · obtain rfl : k = n := by omega
      have hl3 : ¬ (k : Int) < (k : Int) := by omega
      go_wp2_with fail
      go_returns
      refine ⟨_, rfl, HQ.out.2.rows sH sW ?_, HQ.out.1⟩
      rw [List.take_of_length_le (by rw [HN.out]; exact Nat.le_refl _)]
      rfl
end Go.Proofs.Ytpkdigjejijiiaa
