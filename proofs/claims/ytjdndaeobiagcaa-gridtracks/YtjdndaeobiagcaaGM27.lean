/- portion: so much of an amount, rounded down; shares. -/
import Derived.Test.YtjdndaeobiagcaaDv64
import Derived.Test.YtjdndaeobiagcaaGM23
namespace Go.Proofs.Ytjdndaeobiagcaa
open Go.RowKit
set_option linter.unusedVariables false      -- bounds that are for the walk

theorem div64_any (m y : Nat) (h1 : m / 18446744073709551616 < y) (h2 : y < 9223372036854775808) (w : World) :
    Calls Try.prog 91 #[.int .u64 ((m / 18446744073709551616 : Nat) : Int), .int .u64 ((m % 18446744073709551616 : Nat) : Int), .int .u64 y] w fun e w' => e = .returned (.tuple #[.int .u64 ((m / y : Nat) : Int), .int .u64 ((m % y : Nat) : Int)]) ∧ Below w.heap.size w w' := by
  have hm := Nat.div_add_mod' m 18446744073709551616
  have hl : m % 18446744073709551616 < 18446744073709551616 := Nat.mod_lt _ (by omega)
  rcases Nat.eq_zero_or_pos (m / 18446744073709551616) with h0 | h0
  · rw [h0]
    have := div64_small (m % 18446744073709551616) y (by omega) h2 hl w
    rw [h0, Nat.zero_mul, Nat.zero_add] at hm
    rw [hm] at this
    rw [hm]
    exact this
  · have := div64_great (m / 18446744073709551616) (m % 18446744073709551616) y h0 h1 h2 hl w
    rw [hm] at this
    exact this

set_option maxHeartbeats 400000 in
theorem magnitude_any (n : Int) (h1 : -4000000000000000000 ≤ n) (h2 : n ≤ 4000000000000000000) (w : World) : Calls Try.prog 83 #[.int .i64 n] w fun e w' => e = .returned (.int .i64 (n.natAbs : Int)) ∧ w' = w := by
  rcases Int.lt_or_le n 0 with h0 | h0
  · have g1 : n < -n := by omega
    go_enter Try.func83, Try.ntmps83
    go_wp2
    all_goals
      go_returns
      exact ⟨ret_i (by omega), rfl⟩
  · have g1 : ¬ n < -n := by omega
    go_enter Try.func83, Try.ntmps83
    go_wp2
    all_goals
      go_returns
      exact ⟨ret_i (by omega), rfl⟩

theorem neg_floor (m c : Nat) (hc : 0 < c) : (-(m : Int)) / (c : Int) = if m % c = 0 then -((m / c : Nat) : Int) else -((m / c + 1 : Nat) : Int) := by
  have e := Nat.div_add_mod' m c
  have hl := Nat.mod_lt m hc
  split
  · rename_i h
    rw [h, Nat.add_zero] at e
    apply Int.ediv_eq_of_eq_mul_left (by omega)
    rw [Int.neg_mul, ← Int.natCast_mul, e]
  · rename_i h
    have key : (-(m : Int)) = (c - m % c : Nat) + (c : Int) * -((m / c + 1 : Nat) : Int) := by
      have e2 : (c : Int) * ((m / c + 1 : Nat) : Int) = ((m / c * c : Nat) : Int) + c := by
        rw [← Int.natCast_mul, Nat.mul_add, Nat.mul_comm c]; simp
      rw [Int.mul_neg, e2]
      omega
    rw [key, Int.add_mul_ediv_left _ _ (by omega), Int.ediv_eq_zero_of_lt (by omega) (by omega)]
    omega

set_option maxHeartbeats 1000000 in
set_option maxRecDepth 100000 in
theorem portion_any (a : Int) (n c : Nat) (a1 : -4000000000000000000 ≤ a) (a2 : a ≤ 4000000000000000000) (hn : n ≤ c) (hc : 0 < c) (hc2 : c < 4000000000000000000) (w : World) :
    Calls Try.prog 82 #[.int .i64 a, .int .i64 (n : Int), .int .i64 (c : Int)] w fun e w' => e = .returned (.int .i64 (a * n / c)) ∧ Below w.heap.size w w' := by
  obtain ⟨m, hm⟩ : ∃ m, a.natAbs = m := ⟨_, rfl⟩
  have hmb : m ≤ 4000000000000000000 := by omega
  have hmn : m * n ≤ m * c := Nat.mul_le_mul_left m hn
  have hq : m * n / c ≤ m := by
    apply Nat.le_of_lt_succ
    rw [Nat.div_lt_iff_lt_mul hc, Nat.succ_mul]
    omega
  have hhi : m * n / 18446744073709551616 < c := by
    rw [Nat.div_lt_iff_lt_mul (by omega)]
    have : m * c ≤ 4000000000000000000 * c := Nat.mul_le_mul_right c hmb
    omega
  have MU := hidF (Try.bits_Mul64 m n (by omega) (by omega))
  have DV := hidF (div64_any (m * n) c hhi (by omega))
  obtain ⟨q, hqq⟩ : ∃ q, m * n / c = q := ⟨_, rfl⟩
  obtain ⟨r, hrr⟩ : ∃ r, m * n % c = r := ⟨_, rfl⟩
  obtain ⟨H, hH⟩ : ∃ q, m * n / 18446744073709551616 = q := ⟨_, rfl⟩
  obtain ⟨L, hL⟩ : ∃ r, m * n % 18446744073709551616 = r := ⟨_, rfl⟩
  have k1 : IntKind.u64.wrap (m : Int) = (m : Int) := wrapU m (by omega)
  have k2 : IntKind.u64.wrap (n : Int) = (n : Int) := wrapU n (by omega)
  have k3 : IntKind.u64.wrap (c : Int) = (c : Int) := wrapU c (by omega)
  rw [hqq, hrr, hH, hL] at DV
  rw [hH, hL] at MU
  rw [hqq] at hq
  rcases Int.lt_or_le a 0 with h0 | h0
  · have g0 : ¬ 0 ≤ a := by omega
    have GM := hidF (show max a (-a) = (m : Int) by omega)
    have ha : a * n / c = (-((m * n : Nat) : Int)) / (c : Int) := by
      rw [show a = -(m : Int) by omega, Int.neg_mul, Int.natCast_mul]
    have HR := hidF (ha.trans (neg_floor (m * n) c hc))
    rw [hrr, hqq] at HR
    clear hm hqq hrr hH hL ha hmn hhi
    by_cases hr0 : r = 0
    · subst hr0
      have HR2 := hidF (HR.out.trans (if_pos rfl))
      clear HR
      go_enter Try.func82, Try.ntmps82
      go_wp2_with fail
      rw [GM.out]
      refine (MU.out w).mono ?_
      rintro e w'' ⟨rfl, hw''⟩
      rw [hw'']
      clear hw''
      go_wp2_with fail
      refine (DV.out w).mono ?_
      rintro e w3 ⟨rfl, hb3⟩
      go_wp2_with fail
      all_goals
        go_returns
        exact ⟨ret_i (by rw [HR2.out]), hb3⟩
    · have HR2 := hidF (HR.out.trans (if_neg hr0))
      have g9 : (0 : Int) < (r : Int) := by omega
      clear HR hr0
      have k4 : IntKind.u64.wrap ((q : Int) + 1) = ((q + 1 : Nat) : Int) := wrapU (q + 1) (by omega)
      go_enter Try.func82, Try.ntmps82
      go_wp2_with fail
      rw [GM.out]
      refine (MU.out w).mono ?_
      rintro e w'' ⟨rfl, hw''⟩
      rw [hw'']
      clear hw''
      go_wp2_with fail
      refine (DV.out w).mono ?_
      rintro e w3 ⟨rfl, hb3⟩
      go_wp2_with fail
      all_goals
        go_returns
        exact ⟨ret_i (by rw [HR2.out]; simp), hb3⟩
  · have GM := hidF (show max a (-a) = (m : Int) by omega)
    have ha : a * n / c = (q : Int) := by
      rw [show a = (m : Int) by omega, ← Int.natCast_mul, ← Int.natCast_ediv, hqq]
    have HR := hidF ha
    clear hm hqq hrr hH hL ha hmn hhi
    go_enter Try.func82, Try.ntmps82
    go_wp2_with fail
    rw [GM.out]
    refine (MU.out w).mono ?_
    rintro e w'' ⟨rfl, hw''⟩
    rw [hw'']
    clear hw''
    go_wp2_with fail
    refine (DV.out w).mono ?_
    rintro e w3 ⟨rfl, hb3⟩
    go_wp2_with fail
    all_goals
      go_returns
      exact ⟨ret_i (by rw [HR.out]), hb3⟩
end Go.Proofs.Ytjdndaeobiagcaa

/- free, open, amount. -/
namespace Go.Proofs.Ytjdndaeobiagcaa
open Go.RowKit
set_option linter.unusedVariables false      -- bounds that are for the walk

set_option maxHeartbeats 2000000 in
set_option maxRecDepth 100000 in
theorem freeR_any {w : World} {B rb : Nat} {pv : Value} {ps : List Pr} {grow : Bool} {room start : Int} (h : RwAt w B rb pv ps grow room start) (ho : RowOk ps) (r1 : -10000000000 ≤ room) (r2 : room ≤ 10000000000) :
    Calls Try.prog 60 #[.pointer (some ⟨rb, 0, none⟩)] w fun e w' => e = .returned (.int .i64 (freeN room ps ps.length)) ∧ Below w.heap.size w w' := by
  obtain ⟨hl, hc0, _, hc2, _⟩ := h.cells
  obtain ⟨a, c, rfl, q1, q2⟩ := own_shape9 h.row
  have H := hidF h
  have HO := hidF ho
  obtain ⟨n, hn⟩ : ∃ n, ps.length = n := ⟨_, rfl⟩
  have HN := hidF hn
  rw [hn] at q1 hc0 H ⊢
  clear h ho hn
  go_enter Try.func60, Try.ntmps60
  go_wp2_with fail
  go_loopw [3, 15] (fun f i wr => ∃ (k : Nat) (z : Int), k ≤ n ∧ i = .int .i64 k ∧ f = .int .i64 z ∧ Hid (z = freeN room ps k ∧ Below w.heap.size w wr)) (fun _ i _ => n - (intV i).toNat)
  case atStart => exact ⟨0, room, Nat.zero_le _, rfl, rfl, by simp [freeN], Below.refl _ _⟩
  case round =>
    obtain ⟨k, z, hk, rfl, rfl, HZ⟩ := hrel
    have z1 := HO.out.free room k
    rw [← HZ.out.1] at z1
    obtain ⟨z1, z2⟩ := z1
    by_cases hlt : k < n
    · obtain ⟨p, hp⟩ : ∃ p, ps[k]? = some p := ⟨_, List.getElem?_eq_getElem (by rw [HN.out]; exact hlt)⟩
      obtain ⟨b, c9, hv, _, _, _, bl, _, pa⟩ := (H.out.below HZ.out.2).at hp
      have hvv : a = some ⟨b, 0, none⟩ := by cases hv; rfl
      subst hvv
      clear hv
      obtain ⟨⟨p0, p1, p2, p3, p4, p5, p6⟩, p7, p8, p9, _, _, _⟩ := pa
      have g1 := HO.out.gotP (List.mem_of_getElem? hp)
      have HS := hidF (freeN_succ (room := room) hp)
      have i1 : (0 : Int) ≤ (k : Int) := by omega
      have i2 : (k : Int) < (n : Int) := by omega
      have bl2 : b < wr.heap.size + 1 := by omega
      have B2 := hidF (fun o => HZ.out.2.alloc (o := o) HZ.out.2.size)
      clear hp
      obtain ⟨⟨xb, xmn, xmx, xar, xgr, xsh⟩, sz, mv, st⟩ := p
      unfold gotP at g1 HS
      simp only at p1 p2 p3 p4 p5 p6 p7 p8 p9 g1 HS
      cases st
      · simp only [Bool.false_eq_true, if_false] at g1 HS
        obtain ⟨g1, g2⟩ := g1
        go_wp2_with fail
        go_roundw
        case rel => go_light; exact ⟨k + 1, _, by omega, by go_num, rfl, by rw [HS.out, ← HZ.out.1], B2.out _⟩
        case measure => simp [intV]; omega
      · simp only [if_true] at g1 HS
        obtain ⟨g1, g2⟩ := g1
        go_wp2_with fail
        go_roundw
        case rel => go_light; exact ⟨k + 1, _, by omega, by go_num, rfl, by rw [HS.out, ← HZ.out.1], B2.out _⟩
        case measure => simp [intV]; omega
    · obtain rfl : k = n := by omega
      go_wp2_with fail
      go_returns
      exact ⟨ret_i HZ.out.1, HZ.out.2⟩

/-- the addresses of those that are open -/
def ptrs (b : Nat) (is : List Nat) : List Value := is.map fun k => .pointer (some ⟨b, k * 9, none⟩)
/-- the parts' own block -/
def blkOf : Value → Nat | .slice (some a) _ _ => a.block | _ => 0

theorem Try.infoPP : (Try.prog.info? 106).map (fun i => (i.zero, i.size, i.bytes)) = some (some (.pointer none), 1, 8) := by kernel_rfl

theorem openL_take_succ {ps : List Pr} {k : Nat} {p : Pr} (h : ps[k]? = some p) : openL (ps.take (k + 1)) = openL (ps.take k) ++ (if p.settled = true then [] else [k]) := by
  have hk : k < ps.length := (List.getElem?_eq_some_iff.1 h).1
  have e : ∀ m, m ≤ ps.length → openL (ps.take m) = (List.range m).filter fun k => match ps[k]? with | some p => !p.settled | none => false := by
    intro m hm
    unfold openL
    rw [List.length_take, Nat.min_eq_left hm]
    apply List.filter_congr
    intro j hj
    rw [List.getElem?_take_of_lt (List.mem_range.1 hj)]
    rfl
  rw [e (k + 1) (by omega), e k (by omega), List.range_succ, List.filter_append]
  congr 1
  cases hs : p.settled <;> simp [h, hs]

set_option maxHeartbeats 2000000 in
set_option maxRecDepth 100000 in
theorem openR_any {w : World} {B rb : Nat} {pv : Value} {ps : List Pr} {grow : Bool} {room start : Int} (h : RwAt w B rb pv ps grow room start) (ho : ps.length ≤ 200) :
    Calls Try.prog 27 #[.pointer (some ⟨rb, 0, none⟩)] w fun e w' => ∃ v', e = .returned v' ∧ w'.ownsRow w.heap.size 106 1 v' (openL ps).length (ptrs (blkOf pv) (openL ps)) ∧ Below w.heap.size w w' := by
  obtain ⟨i0, hi, hz0, hz1, hz2⟩ := info_parts Try.infoPP
  obtain ⟨hl, hc0, _, hc2, _⟩ := h.cells
  obtain ⟨a, c, rfl, q1, q2⟩ := own_shape9 h.row
  have H := hidF h
  obtain ⟨n, hn⟩ : ∃ n, ps.length = n := ⟨_, rfl⟩
  have HN := hidF hn
  rw [hn] at q1 hc0 H ho ⊢
  clear h hn
  go_enter Try.func27, Try.ntmps27
  go_wp2_with fail
  go_loopw [3, 11] (fun ov i wr => ∃ (k : Nat), k ≤ n ∧ i = .int .i64 k ∧ Hid (Below w.heap.size w wr ∧ wr.ownsRow w.heap.size 106 1 ov (openL (ps.take k)).length (ptrs (blkOf (.slice a n c)) (openL (ps.take k))))) (fun _ i _ => n - (intV i).toNat)
  case atStart => exact ⟨0, Nat.zero_le _, rfl, Below.refl _ _, World.ownsRow_nil _ _ _ _⟩
  case round =>
    obtain ⟨k, hk, rfl, HZ⟩ := hrel
    by_cases hlt : k < n
    · obtain ⟨p, hp⟩ : ∃ p, ps[k]? = some p := ⟨_, List.getElem?_eq_getElem (by rw [HN.out]; exact hlt)⟩
      obtain ⟨b, c9, hv, _, _, _, bl, _, pa⟩ := (H.out.below HZ.out.1).at hp
      have hvv : a = some ⟨b, 0, none⟩ := by cases hv; rfl
      subst hvv
      clear hv
      have p9 := pa.c8
      have HS := hidF (openL_take_succ hp)
      have i1 : (0 : Int) ≤ (k : Int) := by omega
      have i2 : (k : Int) < (n : Int) := by omega
      have d0 := (HZ.out.1.cell (p := ⟨rb, 0, none⟩) hl).trans hc0
      have d1 : rb < wr.heap.size := Nat.lt_of_lt_of_le hl HZ.out.1.size
      have ol : (openL (ps.take k)).length ≤ 200 := by
        have := openL_le (ps.take k)
        rw [List.length_take, HN.out] at this
        omega
      clear hp pa
      obtain ⟨i9, sz, mv, st⟩ := p
      simp only at p9 HS
      cases st
      · simp only [Bool.false_eq_true, if_false] at HS
        obtain ⟨m, hm⟩ : ∃ m, (openL (ps.take k)).length = m := ⟨_, rfl⟩
        obtain ⟨xs, hxs⟩ : ∃ xs, ptrs (blkOf (.slice (some ⟨b, 0, none⟩) n c)) (openL (ps.take k)) = xs := ⟨_, rfl⟩
        rw [hm, hxs] at HZ
        rw [hm] at ol
        have HM := hidF hm
        have HXS := hidF hxs
        clear hm hxs
        go_wp2_with (at_builtin; refine wpList_append_own_at _ rfl (.tmp 25) (.tmp 27) 68 rfl w.heap.size 106 i0 _ 1 8 Try.underlying68 hi hz0 hz1 hz2 rfl (by decide) _ _ _ rfl (HZ.out.2.alloc _) ⟨_, 0, none⟩ 1 1 [.pointer (some ⟨b, k * 9, none⟩)] rfl rfl (cell_one_new _ _ _) (by simp [Value.oneCell']) (by unfold maxLen; omega) (by omega) (by have := HZ.out.1.size; simp; omega) ?_; intro v1 w1 hv1 hg1 hx1 hx2; clear hx1 hx2; have H3 := hidF (And.intro ((HZ.out.1.alloc HZ.out.1.size _).grown hg1 (by have := HZ.out.1.size; simp; omega) (fun q hq => (HZ.out.2.lt q hq).1)) hv1); clear hv1 hg1)
        go_roundw
        case rel =>
          go_light
          refine ⟨k + 1, by omega, by go_num, H3.out.1, ?_⟩
          rw [HS.out, List.length_append, HM.out]
          have e : ptrs (blkOf (.slice (some ⟨b, 0, none⟩) n c)) (openL (ps.take k) ++ [k]) = xs ++ [.pointer (some ⟨b, k * 9, none⟩)] := by
            rw [← HXS.out]; simp [ptrs, blkOf]
          rw [e]
          exact H3.out.2
        case measure => simp [intV]; omega
      · simp only [if_true, List.append_nil] at HS
        go_wp2_with fail
        go_roundw
        case rel => go_light; exact ⟨k + 1, by omega, by go_num, HZ.out.1, by rw [HS.out]; exact HZ.out.2⟩
        case measure => simp [intV]; omega
    · obtain rfl : k = n := by omega
      have e : ps.take k = ps := List.take_of_length_le (by rw [HN.out]; exact Nat.le_refl _)
      rw [e] at HZ
      go_wp2_with fail
      go_returns
      exact ⟨_, rfl, HZ.out.2, HZ.out.1⟩
end Go.Proofs.Ytjdndaeobiagcaa
