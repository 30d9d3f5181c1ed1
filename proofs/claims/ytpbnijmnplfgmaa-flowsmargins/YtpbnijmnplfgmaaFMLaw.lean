/- FlowsMargins: margins that meet are one join. -/
import Derived.Test.YtpbnijmnplfgmaaFMarg
namespace Go.Proofs.Ytpbnijmnplfgmaa
open Go.RowKit

theorem nxt0 {W w1 : World} (hb : Below W.heap.size W w1) : W.heap.size ≤ w1.heap.size ∧ (∀ b, b < W.heap.size → ∀ i, w1.cell? ⟨b, i, none⟩ = W.cell? ⟨b, i, none⟩) :=
  ⟨hb.size, fun _ h _ => hb.cell h⟩

theorem nxt {W w1 : World} {o : Obj} (hb : Below (W.alloc o).heap.size (W.alloc o) w1) : W.heap.size < w1.heap.size ∧ (∀ b, b < W.heap.size → ∀ i, w1.cell? ⟨b, i, none⟩ = W.cell? ⟨b, i, none⟩) ∧ (∀ i, w1.cell? ⟨W.heap.size, i, none⟩ = (W.alloc o).cell? ⟨W.heap.size, i, none⟩) := by
  have hs := hb.size
  have e : (W.alloc o).heap.size = W.heap.size + 1 := by simp
  refine ⟨by omega, fun b h i => ?_, fun i => hb.cell (by show W.heap.size < _; omega)⟩
  rw [hb.cell (by show b < _; omega)]
  have := Below.cell ((Below.refl W.heap.size W).alloc (Nat.le_refl _) o) (p := ⟨b, i, none⟩) h
  exact this

/-- behind a step that adds memory -/
theorem Below.step {w W w1 : World} {o : Obj} (h : Below w.heap.size w W) (hb : Below (W.alloc o).heap.size (W.alloc o) w1) : Below w.heap.size w w1 :=
  ((h.alloc h.size o).trans (hb.mono (by simp; have := h.size; omega)))

theorem Below.step0 {w W w1 : World} (h : Below w.heap.size w W) (hb : Below W.heap.size W w1) : Below w.heap.size w w1 := h.trans (hb.mono h.size)

theorem of_in (n p q : Int) (hp : p = max (heldN n) 0) (hq : q = min (heldN n) 0) (w : World) :
    Calls Try.prog 9 #[.int .i64 n] w fun e w' => e = .returned (.agg #[.int .i64 p, .int .i64 q]) ∧ Below w.heap.size w w' := by
  subst hp hq; exact of_any n w

theorem size_in (a b s : Int) (ha : -16777216 ≤ a ∧ a ≤ 16777216) (hb : -16777216 ≤ b ∧ b ≤ 16777216) (hs : s = a + b) (w : World) :
    Calls Try.prog 10 #[.agg #[.int .i64 a, .int .i64 b]] w fun e w' => e = .returned (.int .i64 s) ∧ Below w.heap.size w w' := by
  subst hs
  have := size_any a b w
  rwa [heldN_of a ha.1 ha.2, heldN_of b hb.1 hb.2] at this

def In24 (a : Int) : Prop := -16777216 ≤ a ∧ a ≤ 16777216

theorem join_in (a b c d p q : Int) (ha : In24 a) (hb : In24 b) (hc : In24 c) (hd : In24 d) (hp : p = max a c) (hq : q = min b d) (w : World) :
    Calls Try.prog 12 #[.agg #[.int .i64 a, .int .i64 b], .agg #[.int .i64 c, .int .i64 d]] w fun e w' => e = .returned (.agg #[.int .i64 p, .int .i64 q]) ∧ Below w.heap.size w w' := by
  subst hp hq
  have := join_any a b c d w
  rwa [heldN_of a ha.1 ha.2, heldN_of b hb.1 hb.2, heldN_of c hc.1 hc.2, heldN_of d hd.1 hd.2] at this

def upK (a b c : Int) : Nat → Int | 0 => 0 | 1 => max 0 a | 2 => max (max 0 a) b | _ => max (max (max 0 a) b) c
def dnK (a b c : Int) : Nat → Int | 0 => 0 | 1 => min 0 a | 2 => min (min 0 a) b | _ => min (min (min 0 a) b) c

theorem held_is (n m : Int) (h : heldN n = m) (w : World) :
    Calls Try.prog 11 #[.int .i64 n] w fun e w' => e = .returned (.int .i64 m) ∧ w' = w := by
  subst h; exact held_any n w

set_option maxHeartbeats 1000000 in
set_option maxRecDepth 100000 in
theorem margins_any (a b c : Int) (w : World) :
    Calls Try.prog 3 #[.int .i64 a, .int .i64 b, .int .i64 c] w fun e w' => e = .returned (.bool true) ∧ Below w.heap.size w w' := by
  obtain ⟨x1, hx1⟩ : ∃ x, x = max (heldN a) 0 := ⟨_, rfl⟩
  obtain ⟨x2, hx2⟩ : ∃ x, x = min (heldN a) 0 := ⟨_, rfl⟩
  obtain ⟨y1, hy1⟩ : ∃ x, x = max (heldN b) 0 := ⟨_, rfl⟩
  obtain ⟨y2, hy2⟩ : ∃ x, x = min (heldN b) 0 := ⟨_, rfl⟩
  obtain ⟨z1, hz1⟩ : ∃ x, x = max (heldN c) 0 := ⟨_, rfl⟩
  obtain ⟨z2, hz2⟩ : ∃ x, x = min (heldN c) 0 := ⟨_, rfl⟩
  have ba := heldN_bd a
  have bb := heldN_bd b
  have bc := heldN_bd c
  obtain ⟨ha, eha⟩ : ∃ x, x = heldN a := ⟨_, rfl⟩
  obtain ⟨hb, ehb⟩ : ∃ x, x = heldN b := ⟨_, rfl⟩
  obtain ⟨hc, ehc⟩ : ∃ x, x = heldN c := ⟨_, rfl⟩
  have A1 : Hid (x1 = max (heldN a) 0) := hx1
  have A2 : Hid (x2 = min (heldN a) 0) := hx2
  have B1 : Hid (y1 = max (heldN b) 0) := hy1
  have B2 : Hid (y2 = min (heldN b) 0) := hy2
  have C1 : Hid (z1 = max (heldN c) 0) := hz1
  have C2 : Hid (z2 = min (heldN c) 0) := hz2
  have SA : Hid (heldN a = x1 + x2) := by show _ = _; omega
  have X1 : In24 x1 := by unfold In24; omega
  have X2 : In24 x2 := by unfold In24; omega
  have Y1 : In24 y1 := by unfold In24; omega
  have Y2 : In24 y2 := by unfold In24; omega
  have Z1 : In24 z1 := by unfold In24; omega
  have Z2 : In24 z2 := by unfold In24; omega
  obtain ⟨p1, hp1⟩ : ∃ x, x = max x1 y1 := ⟨_, rfl⟩
  obtain ⟨p2, hp2⟩ : ∃ x, x = min x2 y2 := ⟨_, rfl⟩
  obtain ⟨l1, hl1⟩ : ∃ x, x = max p1 z1 := ⟨_, rfl⟩
  obtain ⟨l2, hl2⟩ : ∃ x, x = min p2 z2 := ⟨_, rfl⟩
  obtain ⟨q1, hq1⟩ : ∃ x, x = max y1 z1 := ⟨_, rfl⟩
  obtain ⟨q2, hq2⟩ : ∃ x, x = min y2 z2 := ⟨_, rfl⟩
  have PL1 : Hid (p1 = max x1 y1) := hp1
  have PL2 : Hid (p2 = min x2 y2) := hp2
  have LL1 : Hid (l1 = max p1 z1) := hl1
  have LL2 : Hid (l2 = min p2 z2) := hl2
  have QQ1 : Hid (q1 = max y1 z1) := hq1
  have QQ2 : Hid (q2 = min y2 z2) := hq2
  have RR1 : Hid (l1 = max x1 q1) := by show _ = _; omega
  have RR2 : Hid (l2 = min x2 q2) := by show _ = _; omega
  have TT1 : Hid (l1 = max l1 z1) := by show _ = _; omega
  have TT2 : Hid (l2 = min l2 z2) := by show _ = _; omega
  have NN1 : Hid (x1 = max x1 0) := by show _ = _; omega
  have NN2 : Hid (x2 = min x2 0) := by show _ = _; omega
  have UU : Hid (l1 = upK ha hb hc 3 ∧ l2 = dnK ha hb hc 3) := by show _ ∧ _; simp only [upK, dnK]; omega
  have P1 : In24 p1 := by unfold In24; omega
  have P2 : In24 p2 := by unfold In24; omega
  have Q1 : In24 q1 := by unfold In24; omega
  have Q2 : In24 q2 := by unfold In24; omega
  have L1 : In24 l1 := by unfold In24; omega
  have L2 : In24 l2 := by unfold In24; omega
  have O : In24 0 := by unfold In24; omega
  have EA : Hid (heldN a = ha) := eha.symm
  have EB : Hid (heldN b = hb) := ehb.symm
  have EC : Hid (heldN c = hc) := ehc.symm
  clear hp1 hp2 hl1 hl2 hq1 hq2 eha ehb ehc
  clear ba bb bc hx1 hx2 hy1 hy2 hz1 hz2
  go_enter Try.func3, Try.ntmps3
  go_wp2_with fail
  refine (of_in _ x1 x2 A1.out A2.out _).mono ?_
  rintro e w1 ⟨rfl, b1⟩
  go_wp2_with fail
  refine (of_in _ y1 y2 B1.out B2.out _).mono ?_
  rintro e w2 ⟨rfl, b2⟩
  obtain ⟨s2, k2, n2⟩ := nxt b2
  have x2a : w2.cell? ⟨w1.heap.size, 0, none⟩ = some (.int .i64 x1) := by rw [n2 0]; simp [go_sem]
  have x2b : w2.cell? ⟨w1.heap.size, 1, none⟩ = some (.int .i64 x2) := by rw [n2 1]; simp [go_sem]
  have x2z := s2
  replace b2 := Below.step b1 b2
  clear k2 n2 s2 b1
  go_wp2_with fail
  refine (of_in _ z1 z2 C1.out C2.out _).mono ?_
  rintro e w3 ⟨rfl, b3⟩
  obtain ⟨s3, k3, n3⟩ := nxt b3
  have x3a := (k3 _ x2z 0).trans x2a
  have x3b := (k3 _ x2z 1).trans x2b
  have x3z := Nat.lt_of_lt_of_le x2z (Nat.le_of_lt s3)
  clear x2a x2b x2z
  have y3a : w3.cell? ⟨w2.heap.size, 0, none⟩ = some (.int .i64 y1) := by rw [n3 0]; simp [go_sem]
  have y3b : w3.cell? ⟨w2.heap.size, 1, none⟩ = some (.int .i64 y2) := by rw [n3 1]; simp [go_sem]
  have y3z := s3
  replace b3 := Below.step b2 b3
  clear k3 n3 s3 b2
  go_wp2_with fail
  refine (size_in _ _ (heldN a) X1 X2 SA.out _).mono ?_
  rintro e w4 ⟨rfl, b4⟩
  obtain ⟨s4, k4, n4⟩ := nxt b4
  have x4a := (k4 _ x3z 0).trans x3a
  have x4b := (k4 _ x3z 1).trans x3b
  have x4z := Nat.lt_of_lt_of_le x3z (Nat.le_of_lt s4)
  clear x3a x3b x3z
  have y4a := (k4 _ y3z 0).trans y3a
  have y4b := (k4 _ y3z 1).trans y3b
  have y4z := Nat.lt_of_lt_of_le y3z (Nat.le_of_lt s4)
  clear y3a y3b y3z
  have z4a : w4.cell? ⟨w3.heap.size, 0, none⟩ = some (.int .i64 z1) := by rw [n4 0]; simp [go_sem]
  have z4b : w4.cell? ⟨w3.heap.size, 1, none⟩ = some (.int .i64 z2) := by rw [n4 1]; simp [go_sem]
  have z4z := s4
  replace b4 := Below.step b3 b4
  clear k4 n4 s4 b3
  go_wp2_with fail
  refine (held_any _ _).mono ?_
  rintro e w' ⟨rfl, rfl⟩
  go_wp2_with fail
  refine (join_in _ _ _ _ p1 p2 X1 X2 Y1 Y2 PL1.out PL2.out _).mono ?_
  rintro e w5 ⟨rfl, b5⟩
  obtain ⟨s5, k5⟩ := nxt0 b5
  have x5a := (k5 _ x4z 0).trans x4a
  have x5b := (k5 _ x4z 1).trans x4b
  have x5z := Nat.lt_of_lt_of_le x4z s5
  clear x4a x4b x4z
  have y5a := (k5 _ y4z 0).trans y4a
  have y5b := (k5 _ y4z 1).trans y4b
  have y5z := Nat.lt_of_lt_of_le y4z s5
  clear y4a y4b y4z
  have z5a := (k5 _ z4z 0).trans z4a
  have z5b := (k5 _ z4z 1).trans z4b
  have z5z := Nat.lt_of_lt_of_le z4z s5
  clear z4a z4b z4z
  replace b5 := Below.step0 b4 b5
  clear k5 s5 b4
  go_wp2_with fail
  refine (join_in _ _ _ _ l1 l2 P1 P2 Z1 Z2 LL1.out LL2.out _).mono ?_
  rintro e w6 ⟨rfl, b6⟩
  obtain ⟨s6, k6, n6⟩ := nxt b6
  have x6a := (k6 _ x5z 0).trans x5a
  have x6b := (k6 _ x5z 1).trans x5b
  have x6z := Nat.lt_of_lt_of_le x5z (Nat.le_of_lt s6)
  clear x5a x5b x5z
  have y6a := (k6 _ y5z 0).trans y5a
  have y6b := (k6 _ y5z 1).trans y5b
  have y6z := Nat.lt_of_lt_of_le y5z (Nat.le_of_lt s6)
  clear y5a y5b y5z
  have z6a := (k6 _ z5z 0).trans z5a
  have z6b := (k6 _ z5z 1).trans z5b
  have z6z := Nat.lt_of_lt_of_le z5z (Nat.le_of_lt s6)
  clear z5a z5b z5z
  have p6a : w6.cell? ⟨w5.heap.size, 0, none⟩ = some (.int .i64 p1) := by rw [n6 0]; simp [go_sem]
  have p6b : w6.cell? ⟨w5.heap.size, 1, none⟩ = some (.int .i64 p2) := by rw [n6 1]; simp [go_sem]
  have p6z := s6
  replace b6 := Below.step b5 b6
  clear k6 n6 s6 b5
  go_wp2_with fail
  refine (join_in _ _ _ _ q1 q2 Y1 Y2 Z1 Z2 QQ1.out QQ2.out _).mono ?_
  rintro e w7 ⟨rfl, b7⟩
  obtain ⟨s7, k7, n7⟩ := nxt b7
  have x7a := (k7 _ x6z 0).trans x6a
  have x7b := (k7 _ x6z 1).trans x6b
  have x7z := Nat.lt_of_lt_of_le x6z (Nat.le_of_lt s7)
  clear x6a x6b x6z
  have y7a := (k7 _ y6z 0).trans y6a
  have y7b := (k7 _ y6z 1).trans y6b
  have y7z := Nat.lt_of_lt_of_le y6z (Nat.le_of_lt s7)
  clear y6a y6b y6z
  have z7a := (k7 _ z6z 0).trans z6a
  have z7b := (k7 _ z6z 1).trans z6b
  have z7z := Nat.lt_of_lt_of_le z6z (Nat.le_of_lt s7)
  clear z6a z6b z6z
  have p7a := (k7 _ p6z 0).trans p6a
  have p7b := (k7 _ p6z 1).trans p6b
  have p7z := Nat.lt_of_lt_of_le p6z (Nat.le_of_lt s7)
  clear p6a p6b p6z
  have l7a : w7.cell? ⟨w6.heap.size, 0, none⟩ = some (.int .i64 l1) := by rw [n7 0]; simp [go_sem]
  have l7b : w7.cell? ⟨w6.heap.size, 1, none⟩ = some (.int .i64 l2) := by rw [n7 1]; simp [go_sem]
  have l7z := s7
  replace b7 := Below.step b6 b7
  clear k7 n7 s7 b6
  go_wp2_with fail
  refine (join_in _ _ _ _ l1 l2 X1 X2 Q1 Q2 RR1.out RR2.out _).mono ?_
  rintro e w8 ⟨rfl, b8⟩
  obtain ⟨s8, k8, n8⟩ := nxt b8
  have x8a := (k8 _ x7z 0).trans x7a
  have x8b := (k8 _ x7z 1).trans x7b
  have x8z := Nat.lt_of_lt_of_le x7z (Nat.le_of_lt s8)
  clear x7a x7b x7z
  have y8a := (k8 _ y7z 0).trans y7a
  have y8b := (k8 _ y7z 1).trans y7b
  have y8z := Nat.lt_of_lt_of_le y7z (Nat.le_of_lt s8)
  clear y7a y7b y7z
  have z8a := (k8 _ z7z 0).trans z7a
  have z8b := (k8 _ z7z 1).trans z7b
  have z8z := Nat.lt_of_lt_of_le z7z (Nat.le_of_lt s8)
  clear z7a z7b z7z
  have p8a := (k8 _ p7z 0).trans p7a
  have p8b := (k8 _ p7z 1).trans p7b
  have p8z := Nat.lt_of_lt_of_le p7z (Nat.le_of_lt s8)
  clear p7a p7b p7z
  have l8a := (k8 _ l7z 0).trans l7a
  have l8b := (k8 _ l7z 1).trans l7b
  have l8z := Nat.lt_of_lt_of_le l7z (Nat.le_of_lt s8)
  clear l7a l7b l7z
  have q8a : w8.cell? ⟨w7.heap.size, 0, none⟩ = some (.int .i64 q1) := by rw [n8 0]; simp [go_sem]
  have q8b : w8.cell? ⟨w7.heap.size, 1, none⟩ = some (.int .i64 q2) := by rw [n8 1]; simp [go_sem]
  have q8z := s8
  replace b8 := Below.step b7 b8
  clear k8 n8 s8 b7
  go_wp2_with fail
  refine (join_in _ _ _ _ l1 l2 L1 L2 Z1 Z2 TT1.out TT2.out _).mono ?_
  rintro e w9 ⟨rfl, b9⟩
  obtain ⟨s9, k9, n9⟩ := nxt b9
  have x9a := (k9 _ x8z 0).trans x8a
  have x9b := (k9 _ x8z 1).trans x8b
  have x9z := Nat.lt_of_lt_of_le x8z (Nat.le_of_lt s9)
  clear x8a x8b x8z
  have y9a := (k9 _ y8z 0).trans y8a
  have y9b := (k9 _ y8z 1).trans y8b
  have y9z := Nat.lt_of_lt_of_le y8z (Nat.le_of_lt s9)
  clear y8a y8b y8z
  have z9a := (k9 _ z8z 0).trans z8a
  have z9b := (k9 _ z8z 1).trans z8b
  have z9z := Nat.lt_of_lt_of_le z8z (Nat.le_of_lt s9)
  clear z8a z8b z8z
  have p9a := (k9 _ p8z 0).trans p8a
  have p9b := (k9 _ p8z 1).trans p8b
  have p9z := Nat.lt_of_lt_of_le p8z (Nat.le_of_lt s9)
  clear p8a p8b p8z
  have l9a := (k9 _ l8z 0).trans l8a
  have l9b := (k9 _ l8z 1).trans l8b
  have l9z := Nat.lt_of_lt_of_le l8z (Nat.le_of_lt s9)
  clear l8a l8b l8z
  have q9a := (k9 _ q8z 0).trans q8a
  have q9b := (k9 _ q8z 1).trans q8b
  have q9z := Nat.lt_of_lt_of_le q8z (Nat.le_of_lt s9)
  clear q8a q8b q8z
  have r9a : w9.cell? ⟨w8.heap.size, 0, none⟩ = some (.int .i64 l1) := by rw [n9 0]; simp [go_sem]
  have r9b : w9.cell? ⟨w8.heap.size, 1, none⟩ = some (.int .i64 l2) := by rw [n9 1]; simp [go_sem]
  have r9z := s9
  replace b9 := Below.step b8 b9
  clear k9 n9 s9 b8
  go_wp2_with fail
  refine (join_in _ _ _ _ x1 x2 X1 X2 O O NN1.out NN2.out _).mono ?_
  rintro e w10 ⟨rfl, b10⟩
  obtain ⟨s10, k10, n10⟩ := nxt b10
  have x10a := (k10 _ x9z 0).trans x9a
  have x10b := (k10 _ x9z 1).trans x9b
  have x10z := Nat.lt_of_lt_of_le x9z (Nat.le_of_lt s10)
  clear x9a x9b x9z
  have y10a := (k10 _ y9z 0).trans y9a
  have y10b := (k10 _ y9z 1).trans y9b
  have y10z := Nat.lt_of_lt_of_le y9z (Nat.le_of_lt s10)
  clear y9a y9b y9z
  have z10a := (k10 _ z9z 0).trans z9a
  have z10b := (k10 _ z9z 1).trans z9b
  have z10z := Nat.lt_of_lt_of_le z9z (Nat.le_of_lt s10)
  clear z9a z9b z9z
  have p10a := (k10 _ p9z 0).trans p9a
  have p10b := (k10 _ p9z 1).trans p9b
  have p10z := Nat.lt_of_lt_of_le p9z (Nat.le_of_lt s10)
  clear p9a p9b p9z
  have l10a := (k10 _ l9z 0).trans l9a
  have l10b := (k10 _ l9z 1).trans l9b
  have l10z := Nat.lt_of_lt_of_le l9z (Nat.le_of_lt s10)
  clear l9a l9b l9z
  have q10a := (k10 _ q9z 0).trans q9a
  have q10b := (k10 _ q9z 1).trans q9b
  have q10z := Nat.lt_of_lt_of_le q9z (Nat.le_of_lt s10)
  clear q9a q9b q9z
  have r10a := (k10 _ r9z 0).trans r9a
  have r10b := (k10 _ r9z 1).trans r9b
  have r10z := Nat.lt_of_lt_of_le r9z (Nat.le_of_lt s10)
  clear r9a r9b r9z
  have t10a : w10.cell? ⟨w9.heap.size, 0, none⟩ = some (.int .i64 l1) := by rw [n10 0]; simp [go_sem]
  have t10b : w10.cell? ⟨w9.heap.size, 1, none⟩ = some (.int .i64 l2) := by rw [n10 1]; simp [go_sem]
  have t10z := s10
  replace b10 := Below.step b9 b10
  clear k10 n10 s10 b9
  go_wp2_with fail
  refine (held_is _ ha EA.out _).mono ?_
  rintro e w' ⟨rfl, rfl⟩
  go_wp2_with fail
  refine (held_is _ hb EB.out _).mono ?_
  rintro e w' ⟨rfl, rfl⟩
  go_wp2_with fail
  refine (held_is _ hc EC.out _).mono ?_
  rintro e w' ⟨rfl, rfl⟩
  go_wp2_with fail
  go_loop [16, 17, 19] (fun up dn i => ∃ k : Nat, k ≤ 3 ∧ i = .int .i64 k ∧ up = .int .i64 (upK ha hb hc k) ∧ dn = .int .i64 (dnK ha hb hc k)) (fun _ _ i => 3 - (intV i).toNat)
  case atStart => exact ⟨0, by omega, rfl, rfl, rfl⟩
  case round =>
    obtain ⟨k, hk, rfl, rfl, rfl⟩ := hrel
    obtain rfl | rfl | rfl | rfl : k = 0 ∨ k = 1 ∨ k = 2 ∨ k = 3 := by omega
    · simp only [upK, dnK]
      go_wp2
      all_goals
        go_round
        case rel => exact ⟨1, by omega, rfl, by refine congrArg (Value.int .i64) ?_; show _ = max 0 ha; omega, by refine congrArg (Value.int .i64) ?_; show _ = min 0 ha; omega⟩
        case measure => simp [intV]
    · obtain ⟨u, hu⟩ : ∃ u, u = upK ha hb hc 1 := ⟨_, rfl⟩
      obtain ⟨d, hd⟩ : ∃ u, u = dnK ha hb hc 1 := ⟨_, rfl⟩
      rw [← hu, ← hd]
      have HU : Hid (u = upK ha hb hc 1) := hu
      have HD : Hid (d = dnK ha hb hc 1) := hd
      clear hu hd
      go_wp2
      all_goals
        go_round
        case rel =>
          have e1 := HU.out
          have e2 := HD.out
          simp only [upK, dnK] at e1 e2
          exact ⟨2, by omega, rfl, by simp only [upK]; congr 1; omega, by simp only [dnK]; congr 1; omega⟩
        case measure => simp [intV]
    · obtain ⟨u, hu⟩ : ∃ u, u = upK ha hb hc 2 := ⟨_, rfl⟩
      obtain ⟨d, hd⟩ : ∃ u, u = dnK ha hb hc 2 := ⟨_, rfl⟩
      rw [← hu, ← hd]
      have HU : Hid (u = upK ha hb hc 2) := hu
      have HD : Hid (d = dnK ha hb hc 2) := hd
      clear hu hd
      go_wp2
      all_goals
        go_round
        case rel =>
          have e1 := HU.out
          have e2 := HD.out
          simp only [upK, dnK] at e1 e2
          exact ⟨3, by omega, rfl, by simp only [upK]; congr 1; omega, by simp only [dnK]; congr 1; omega⟩
        case measure => simp [intV]
    · rw [← UU.out.1, ← UU.out.2]
      obtain ⟨m1, m2⟩ : -16777216 ≤ l1 ∧ l1 ≤ 16777216 := L1
      obtain ⟨m3, m4⟩ : -16777216 ≤ l2 ∧ l2 ≤ 16777216 := L2
      go_wp2_with fail
      refine (size_in l1 l2 (l1 + l2) ⟨m1, m2⟩ ⟨m3, m4⟩ rfl _).mono ?_
      rintro e w12 ⟨rfl, b12⟩
      go_wp2_with fail
      go_returns
      exact ⟨rfl, Below.step (b10.alloc b10.size _) b12⟩
end Go.Proofs.Ytpbnijmnplfgmaa
