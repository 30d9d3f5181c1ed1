/- The law: the order of a tree's nodes is one. -/
import Derived.Test.YtebnioflphafmabDoorPlainT
namespace Go.Proofs.YtebnioflphafmabDoor
open Go.RowKit

theorem hasB_nat {n : Nat} {x : Int} (h : hasB n x = true) : ∃ i : Nat, x = i ∧ i < n := by
  unfold hasB at h
  simp at h
  exact ⟨x.toNat, by omega, by omega⟩

theorem order_facts {w1 : World} {M : Nat → Lab} {tb : Nat} {nv uv : Value} {ps : List Pn} {us : List Value} {B : Nat} (h : Lies w1 M tb nv uv ps us) (hg : Good ps B) (hn : ps.length ≤ 61) :
    ∃ (oi : Int → Int → Int) (ob : Int → Int → Bool),
      (∀ wx, Below w1.heap.size w1 wx → ∀ x y, Calls Tryd.prog 7 #[.pointer (some ⟨tb, 0, none⟩), .int .i64 x, .int .i64 y] wx fun e w' => e = .returned (.tuple #[.int .i64 (oi x y), .bool (ob x y)]) ∧ Below wx.heap.size wx w') ∧
      (ob 0 0 = true ∧ oi 0 0 = 0) ∧ (∀ x y, ob y x = ob x y ∧ oi y x = - oi x y) ∧ (∀ x y z, ob x y = true → ob y z = true → ob x z = true) ∧ (∀ x y, ob x y = true → (oi x y = 0 ↔ x = y)) ∧
      (∀ x y z, ob x y = true → ob y z = true → oi x y < 0 → oi y z < 0 → oi x z < 0) ∧ (∀ x y, -1 ≤ oi x y ∧ oi x y ≤ 1) := by
  have hway : ∀ j : Nat, ∃ sr : List Int × Nat, j < ps.length → Way (nodesOf ps) j sr.1 sr.2 ∧ sr.1.length ≤ ps.length := fun j => by
    by_cases hj : j < ps.length
    · obtain ⟨s, r, hw, hs⟩ := hg.ways j hj
      exact ⟨(s, r), fun _ => ⟨hw, hs⟩⟩
    · exact ⟨([], 0), fun h => absurd h hj⟩
  obtain ⟨f, hf⟩ := Classical.skolem.1 hway
  have h0 : 0 < ps.length := by
    obtain ⟨p0, hp0, _⟩ := hg.1
    exact (List.getElem?_eq_some_iff.1 hp0).1
  let ob : Int → Int → Bool := fun x y => hasB ps.length x && hasB ps.length y && decide ((f x.toNat).2 = (f y.toNat).2)
  let oi : Int → Int → Int := fun x y => if ob x y = true then cmpL (f x.toNat).1 (f y.toNat).1 else 0
  have obT : ∀ x y, ob x y = true → ∃ i j : Nat, x = i ∧ y = j ∧ i < ps.length ∧ j < ps.length ∧ (f i).2 = (f j).2 ∧ oi x y = cmpL (f i).1 (f j).1 := by
    intro x y hxy
    have hxy' := hxy
    simp only [ob, Bool.and_eq_true, decide_eq_true_eq] at hxy
    obtain ⟨⟨hx, hy⟩, he⟩ := hxy
    obtain ⟨i, rfl, hi⟩ := hasB_nat hx
    obtain ⟨j, rfl, hj⟩ := hasB_nat hy
    simp only [Int.toNat_natCast] at he
    refine ⟨i, j, rfl, rfl, hi, hj, he, ?_⟩
    simp only [oi, hxy', if_true, Int.toNat_natCast]
  have obF : ∀ x y, ob x y = false → oi x y = 0 := fun x y hxy => by simp [oi, hxy]
  have obS : ∀ x y, ob y x = ob x y := fun x y => by
    simp only [ob]
    rw [Bool.and_comm (hasB ps.length y)]
    congr 1
    exact decide_eq_decide.2 ⟨Eq.symm, Eq.symm⟩
  refine ⟨oi, ob, ?_, ?_, ?_, ?_, ?_, ?_, ?_⟩
  · intro wx hb x y
    have hL := h.below hb
    cases hx : hasB ps.length x
    · refine (order_none hL x y (.inl hx)).mono ?_
      rintro e w' ⟨rfl, hB⟩
      have e1 : ob x y = false := by simp [ob, hx]
      rw [e1, obF x y e1]
      exact ⟨rfl, hB⟩
    · cases hy : hasB ps.length y
      · refine (order_none hL x y (.inr hy)).mono ?_
        rintro e w' ⟨rfl, hB⟩
        have e1 : ob x y = false := by simp [ob, hy]
        rw [e1, obF x y e1]
        exact ⟨rfl, hB⟩
      · obtain ⟨i, rfl, hi⟩ := hasB_nat hx
        obtain ⟨j, rfl, hj⟩ := hasB_nat hy
        refine (order_two hL (hf i hi).1 (hf j hj).1 (by have := (hf i hi).2; omega) (by have := (hf j hj).2; omega)).mono ?_
        rintro e w' ⟨rfl, hB⟩
        refine ⟨?_, hB⟩
        unfold ordV
        by_cases he : (f i).2 = (f j).2
        · have e1 : ob i j = true := by simp [ob, hx, hy, he]
          rw [if_pos he, e1]
          simp [oi, e1, he]
        · have e1 : ob i j = false := by simp [ob, he]
          rw [if_neg he, e1, obF _ _ e1]
          simp [he]
  · have e1 : ob 0 0 = true := by
      have : hasB ps.length 0 = true := by unfold hasB; simp; omega
      simp [ob, this]
    refine ⟨e1, ?_⟩
    simp only [oi, e1, if_true]
    exact (cmpL_zero _ _).2 rfl
  · intro x y
    refine ⟨obS x y, ?_⟩
    cases hxy : ob x y
    · rw [obF x y hxy, obF y x (by rw [obS]; exact hxy)]
      rfl
    · have hyx : ob y x = true := by rw [obS]; exact hxy
      simp only [oi, hxy, hyx, if_true]
      exact cmpL_anti _ _
  · intro x y z h1 h2
    simp only [ob, Bool.and_eq_true, decide_eq_true_eq] at h1 h2 ⊢
    exact ⟨⟨h1.1.1, h2.1.2⟩, h1.2.trans h2.2⟩
  · intro x y hxy
    obtain ⟨i, j, rfl, rfl, hi, hj, he, ho⟩ := obT x y hxy
    rw [ho, cmpL_zero]
    constructor
    · intro hs
      have w1 := (hf i hi).1
      have w2 := (hf j hj).1
      rw [hs, he] at w1
      have := w1.inj w2
      omega
    · intro hij
      have : i = j := by omega
      rw [this]
  · intro x y z h1 h2 l1 l2
    obtain ⟨i, j, rfl, rfl, hi, hj, he, ho⟩ := obT x y h1
    obtain ⟨j', k, hjj, rfl, hj', hk, he2, ho2⟩ := obT _ z h2
    obtain rfl : j = j' := by omega
    have h3 : ob i k = true := by
      simp only [ob, Bool.and_eq_true, decide_eq_true_eq] at h1 h2 ⊢
      exact ⟨⟨h1.1.1, h2.1.2⟩, h1.2.trans h2.2⟩
    rw [ho] at l1
    rw [ho2] at l2
    simp only [oi, h3, if_true, Int.toNat_natCast]
    exact cmpL_trans _ _ _ l1 l2
  · intro x y
    simp only [oi]
    split
    · exact cmpL_bd _ _
    · omega

theorem no_way {ab a b : Int} (T : ab = 0 ↔ a = b) (hh : (!(ab == 0) == (a == b)) = true) : False := by
  by_cases h1 : ab = 0
  · have h2 := T.1 h1
    subst h1
    subst h2
    simp at hh
  · have h2 : ¬ a = b := fun h => h1 (T.2 h)
    have e1 : (ab == 0) = false := by simpa using h1
    have e2 : (a == b) = false := by simpa using h2
    rw [e1, e2] at hh
    simp at hh

theorem moved_below {W w : World} {M : Nat → Lab} (m : Moved W M0 w M) : Below W.heap.size W w := ⟨m.os, m.tape, m.output, m.size, fun b hb => m.far b hb rfl⟩

set_option maxHeartbeats 20000000 in
set_option maxRecDepth 100000 in
theorem orders_any {W : World} {cap : Nat} {ad : Option Addr} {ts : List Tw} (h : TwigsIn W W.heap.size ad ts) (hE : Errs W M0) (a b c : Int) :
    Calls Tryd.prog 3 #[.slice ad ts.length cap, .int .i64 a, .int .i64 b, .int .i64 c] W fun e w' => e = .returned (.bool true) ∧ Below W.heap.size W w' := by
  have H : Hid (TwigsIn W W.heap.size ad ts) := h
  have HE : Hid (Errs W M0) := hE
  clear h hE
  go_enter Tryd.func3, Tryd.ntmps3
  go_wp2_with fail
  refine (fewTwigs_any H.out).mono ?_
  rintro e w' ⟨⟨r, rfl, hr⟩, rfl⟩
  cases r
  · go_wp2
    go_ret
    exact ⟨rfl, Below.refl _ _⟩
  · have HF : Hid (Few ts) := hr rfl
    clear hr
    go_wp2_with fail
    refine (tree_any H.out HE.out HF.out).mono ?_
    rintro e w1 ⟨tb, M, nv, uv, ps, us, B, rfl, hL, hmv, hg, hps⟩
    obtain ⟨oi, ob, ho, ⟨z1, z2⟩, hsym, htr, heq, hlt, hbd⟩ := order_facts hL hg hps
    have b1 : Hid (Below w'.heap.size w' w1) := moved_below hmv
    have HO : Hid _ := ho
    obtain ⟨s1, s2⟩ := hsym a b
    have t1 := htr a b c
    have t2 := heq a b
    have t3 := hlt a b c
    have t4 := hbd a b
    obtain ⟨p, hp⟩ : ∃ p, ob a b = p := ⟨_, rfl⟩
    obtain ⟨ab, hab⟩ : ∃ z, oi a b = z := ⟨_, rfl⟩
    obtain ⟨r, hr⟩ : ∃ p, ob b c = p := ⟨_, rfl⟩
    obtain ⟨bc, hbc⟩ : ∃ z, oi b c = z := ⟨_, rfl⟩
    obtain ⟨s, hs⟩ : ∃ p, ob a c = p := ⟨_, rfl⟩
    obtain ⟨ac, hac⟩ : ∃ z, oi a c = z := ⟨_, rfl⟩
    rw [hp] at s1 t1 t2 t3
    rw [hab] at s2 t2 t3 t4
    rw [hr] at t1 t3
    rw [hbc, hac] at t3
    rw [hs] at t1
    have E1 : Hid (ob a b = p ∧ oi a b = ab) := ⟨hp, hab⟩
    have E2 : Hid (ob b a = p ∧ oi b a = -ab) := ⟨s1, s2⟩
    have E3 : Hid (ob b c = r ∧ oi b c = bc) := ⟨hr, hbc⟩
    have E4 : Hid (ob a c = s ∧ oi a c = ac) := ⟨hs, hac⟩
    have T : Hid ((p = true → r = true → s = true) ∧ (p = true → (ab = 0 ↔ a = b)) ∧ (p = true → r = true → ab < 0 → bc < 0 → ac < 0)) := ⟨t1, t2, t3⟩
    obtain ⟨t4, t5⟩ := t4
    clear hp hab hr hbc hs hac s1 s2 t1 t2 t3
    clear hL hmv hg hps ho hsym htr heq hlt hbd
    go_wp2_with fail
    refine (HO.out _ (Below.refl _ _) 0 0).mono ?_
    rintro e w2 ⟨rfl, hB2⟩
    rw [z1, z2]
    have c2 : Hid (Below w1.heap.size w1 w2) := hB2
    clear hB2 z1 z2
    go_wp2_with fail
    refine (HO.out _ c2.out a b).mono ?_
    rintro e w3 ⟨rfl, hB3⟩
    rw [E1.out.1, E1.out.2]
    have c3 : Hid (Below w1.heap.size w1 w3) := c2.out.trans (hB3.mono c2.out.size)
    clear hB3
    go_wp2_with fail
    refine (HO.out _ c3.out b a).mono ?_
    rintro e w4 ⟨rfl, hB4⟩
    rw [E2.out.1, E2.out.2]
    have c4 : Hid (Below w1.heap.size w1 w4) := c3.out.trans (hB4.mono c3.out.size)
    clear hB4
    go_wp2_with fail
    refine (HO.out _ c4.out b c).mono ?_
    rintro e w5 ⟨rfl, hB5⟩
    rw [E3.out.1, E3.out.2]
    have c5 : Hid (Below w1.heap.size w1 w5) := c4.out.trans (hB5.mono c4.out.size)
    clear hB5
    go_wp2_with fail
    refine (HO.out _ c5.out a c).mono ?_
    rintro e w6 ⟨rfl, hB6⟩
    rw [E4.out.1, E4.out.2]
    have c6 : Hid (Below w1.heap.size w1 w6) := c5.out.trans (hB6.mono c5.out.size)
    clear hB6 HO E1 E2 E3 E4
    cases p <;> cases r <;> cases s
    all_goals go_wp2
    all_goals go_ret
    all_goals go_light
    all_goals have hbl := b1.out.trans (c6.out.mono b1.out.size)
    all_goals have T' := T.out
    all_goals first
      | exact ⟨rfl, hbl⟩
      | (exfalso; simp at T'; done)
      | (rename_i hh; exact absurd hh (fun hh => no_way (T'.2.1 (by trivial)) hh))
      | (refine ⟨ret_bool ?_, hbl⟩; have := T'.2.2 (by trivial) (by trivial) (by assumption) (by assumption); simpa using this)
end Go.Proofs.YtebnioflphafmabDoor
