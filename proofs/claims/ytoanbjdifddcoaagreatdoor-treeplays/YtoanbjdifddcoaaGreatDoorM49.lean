/- The order of two ways is the order of places among all that lies in a root. -/
import Derived.Test.YtoanbjdifddcoaaGreatDoorM48
import Derived.Test.YtoanbjdifddcoaaGreatDoorUUnd
import Derived.Test.YtoanbjdifddcoaaGreatDoorM03
import Derived.BigRegion
namespace Go.Proofs.YtoanbjdifddcoaaGreatDoor

/-- a way down from a node -/
inductive Dn (ns : List Nd) : Nat → List Int → Nat → Prop where
  | here (i : Nat) : Dn ns i [] i
  | down {i x a k : Nat} {n : Nd} {s : List Int} (hi : ns[i]? = some n) (hk : n.kids[k]? = some (x : Int)) (h : Dn ns x s a) : Dn ns i ((k : Int) :: s) a
theorem Dn.snoc {ns : List Nd} {r p i k : Nat} {s : List Int} {m : Nd} (h : Dn ns r s p) (hm : ns[p]? = some m) (hk : m.kids[k]? = some (i : Int)) : Dn ns r (s ++ [(k : Int)]) i := by
  induction h with
  | here => exact .down hm hk (.here i)
  | down hi hk' _ ih => exact .down hi hk' (ih hm)
theorem Way.dn {ns : List Nd} {i r : Nat} {s : List Int} (h : Way ns i s r) : Dn ns r s i := by
  induction h with
  | root => exact .here _
  | down _ _ hm hk _ ih => exact ih.snoc hm (idx_get hk)

theorem flat_at {l : List Int} {g : Int → List Int} {k j : Nat} {x y : Int} (hk : l[k]? = some x) (hj : (g x)[j]? = some y) : (l.flatMap g)[((l.take k).flatMap g).length + j]? = some y := by
  induction l generalizing k with
  | nil => simp at hk
  | cons z l ih =>
    cases k with
    | zero =>
      simp at hk
      subst hk
      rw [List.flatMap_cons, List.getElem?_append_left (by simp; exact (List.getElem?_eq_some_iff.1 hj).1)]
      simpa using hj
    | succ k =>
      rw [List.getElem?_cons_succ] at hk
      rw [List.flatMap_cons, List.take_succ_cons, List.flatMap_cons, List.length_append, Nat.add_assoc, List.getElem?_append_right (by omega), Nat.add_sub_cancel_left]
      exact ih hk
theorem flat_lt {l : List Int} {g : Int → List Int} {k m j : Nat} {x : Int} (hk : l[k]? = some x) (hkm : k < m) (hj : j < (g x).length) : ((l.take k).flatMap g).length + j < ((l.take m).flatMap g).length := by
  induction l generalizing k m with
  | nil => simp at hk
  | cons z l ih =>
    obtain ⟨m, rfl⟩ : ∃ m', m = m' + 1 := ⟨m - 1, by omega⟩
    cases k with
    | zero =>
      simp at hk
      subst hk
      rw [List.take_succ_cons, List.flatMap_cons, List.length_append]
      simp
      omega
    | succ k =>
      rw [List.getElem?_cons_succ] at hk
      rw [List.take_succ_cons, List.take_succ_cons, List.flatMap_cons, List.flatMap_cons, List.length_append, List.length_append]
      have := ih hk (by omega : k < m)
      omega

theorem cmpN_add (a b c : Nat) : cmpN ((c + a : Nat) : Int) ((c + b : Nat) : Int) = cmpN (a : Int) (b : Int) := by
  unfold cmpN
  have e1 : (((c + a : Nat) : Int) < ((c + b : Nat) : Int)) ↔ ((a : Int) < (b : Int)) := by omega
  have e2 : (((c + b : Nat) : Int) < ((c + a : Nat) : Int)) ↔ ((b : Int) < (a : Int)) := by omega
  simp only [e1, e2]

theorem und_order {ns : List Nd} (hs : WF ns) : ∀ (f i : Nat), i < ns.length → rkU ns i < f → ∀ (s t : List Int) (a b : Nat), Dn ns i s a → Dn ns i t b → ∃ ja jb : Nat, (und ns f i)[ja]? = some (a : Int) ∧ (und ns f i)[jb]? = some (b : Int) ∧ cmpN (ja : Int) (jb : Int) = cmpL s t := by
  intro f
  induction f with
  | zero => intro i _ h; omega
  | succ f ih =>
    intro i hi hr s t a b hA hB
    have hg : ns[i]? = some ns[i] := List.getElem?_eq_getElem hi
    rw [und_succ hg]
    -- where a node below lies
    have below : ∀ {k x c : Nat} {s : List Int} {n : Nd}, ns[i]? = some n → n.kids[k]? = some (x : Int) → Dn ns x s c → x < ns.length ∧ rkU ns x < f ∧ n = ns[i] := by
      intro k x c s n h1 h2 _
      obtain rfl := Option.some.inj (h1.symm.trans hg)
      obtain ⟨b', m, e1, e2, _, _, e3⟩ := hs.rank hg (List.mem_of_getElem? h2)
      have e := Int.ofNat.inj e1
      subst e
      exact ⟨e2, by omega, rfl⟩
    cases hA with
    | here =>
      cases hB with
      | here => exact ⟨0, 0, by simp, by simp, rfl⟩
      | @down _ x _ k n t hn hk hd =>
        obtain ⟨p1, p2, rfl⟩ := below hn hk hd
        obtain ⟨jb, _, q1, _, _⟩ := ih x p1 p2 t t b b hd hd
        have := flat_at (g := fun x => und ns f x.toNat) hk (by simpa using q1)
        refine ⟨0, _ + 1, by simp, by rw [List.getElem?_cons_succ]; exact this, ?_⟩
        unfold cmpN
        rw [if_pos (by omega)]
        rfl
    | @down _ x _ k n s hn hk hd =>
      obtain ⟨p1, p2, rfl⟩ := below hn hk hd
      cases hB with
      | here =>
        obtain ⟨ja, _, q1, _, _⟩ := ih x p1 p2 s s a a hd hd
        have := flat_at (g := fun x => und ns f x.toNat) hk (by simpa using q1)
        refine ⟨_ + 1, 0, by rw [List.getElem?_cons_succ]; exact this, by simp, ?_⟩
        unfold cmpN
        rw [if_neg (by omega), if_pos (by omega)]
        rfl
      | @down _ y _ m n' t hn' hm he =>
        obtain ⟨r1, r2, rfl⟩ := below hn' hm he
        rcases Nat.lt_trichotomy k m with h | h | h
        · obtain ⟨ja, _, q1, _, _⟩ := ih x p1 p2 s s a a hd hd
          obtain ⟨jb, _, u1, _, _⟩ := ih y r1 r2 t t b b he he
          have e1 := flat_at (g := fun x => und ns f x.toNat) hk (by simpa using q1)
          have e2 := flat_at (g := fun x => und ns f x.toNat) hm (by simpa using u1)
          have hlt := flat_lt (g := fun x => und ns f x.toNat) hk h (j := ja) (by have := (List.getElem?_eq_some_iff.1 q1).1; simpa using this)
          refine ⟨_ + 1, _ + 1, by rw [List.getElem?_cons_succ]; exact e1, by rw [List.getElem?_cons_succ]; exact e2, ?_⟩
          unfold cmpN
          rw [if_pos (by omega)]
          simp only [cmpL]
          rw [if_pos (by omega)]
        · subst h
          have exy := Int.ofNat.inj (Option.some.inj (hk.symm.trans hm))
          subst exy
          obtain ⟨ja, jb, q1, q2, q3⟩ := ih x p1 p2 s t a b hd he
          have e1 := flat_at (g := fun x => und ns f x.toNat) hk (by simpa using q1)
          have e2 := flat_at (g := fun x => und ns f x.toNat) hk (by simpa using q2)
          refine ⟨_ + 1, _ + 1, by rw [List.getElem?_cons_succ]; exact e1, by rw [List.getElem?_cons_succ]; exact e2, ?_⟩
          simp only [cmpL]
          rw [if_neg (by omega), if_neg (by omega), ← q3, ← cmpN_add ja jb (((ns[i]).kids.take k).flatMap fun x => und ns f x.toNat).length]
          have := cmpN_add ((((ns[i]).kids.take k).flatMap fun x => und ns f x.toNat).length + ja) ((((ns[i]).kids.take k).flatMap fun x => und ns f x.toNat).length + jb) 1
          rw [← this, Nat.add_comm 1, Nat.add_comm 1]
        · obtain ⟨ja, _, q1, _, _⟩ := ih x p1 p2 s s a a hd hd
          obtain ⟨jb, _, u1, _, _⟩ := ih y r1 r2 t t b b he he
          have e1 := flat_at (g := fun x => und ns f x.toNat) hk (by simpa using q1)
          have e2 := flat_at (g := fun x => und ns f x.toNat) hm (by simpa using u1)
          have hlt := flat_lt (g := fun x => und ns f x.toNat) hm h (j := jb) (by have := (List.getElem?_eq_some_iff.1 u1).1; simpa using this)
          refine ⟨_ + 1, _ + 1, by rw [List.getElem?_cons_succ]; exact e1, by rw [List.getElem?_cons_succ]; exact e2, ?_⟩
          unfold cmpN
          rw [if_neg (by omega), if_pos (by omega)]
          simp only [cmpL]
          rw [if_neg (by omega), if_pos (by omega)]

/-- every node has a way -/
theorem WF.way {ns : List Nd} (hs : WF ns) {i : Nat} {l : List Nat} (h : Up ns i l) : ∃ s r, Way ns i s r ∧ l.getLast? = some r ∧ s.length < l.length := by
  induction h with
  | root h hp => exact ⟨[], _, .root h hp, rfl, by simp⟩
  | @up i p l n h hp hu ih =>
    obtain ⟨s, r, h1, h2, h3⟩ := ih
    rcases hs.par i n h with e | ⟨q, m, e1, e2, e3⟩
    · omega
    · have e := Int.ofNat.inj (hp.symm.trans e1)
      subst e
      refine ⟨_, r, .down h hp e2 e3 h1, ?_, by simp; omega⟩
      cases l with
      | nil => simp at h3
      | cons z l => rw [List.getLast?_cons_cons]; exact h2
theorem order_eq {ns : List Nd} (hs : WF ns) {a b r : Nat} {s t : List Int} (hA : Way ns a s r) (hB : Way ns b t r) : cmpN (lastAt (und ns (ns.length + 1) r) a (und ns (ns.length + 1) r).length) (lastAt (und ns (ns.length + 1) r) b (und ns (ns.length + 1) r).length) = cmpL s t := by
  have hr := hA.lt.2
  obtain ⟨ja, jb, h1, h2, h3⟩ := und_order hs (ns.length + 1) r hr (by have := rkU_le ns r; omega) s t a b hA.dn hB.dn
  have hnd := und_nodup hs (ns.length + 1) r hr
  rw [lastAt_nodup hnd h1 _ (List.getElem?_eq_some_iff.1 h1).1 (Nat.le_refl _), lastAt_nodup hnd h2 _ (List.getElem?_eq_some_iff.1 h2).1 (Nat.le_refl _)]
  exact h3
end Go.Proofs.YtoanbjdifddcoaaGreatDoor

/- Ways from roots down to nodes, and which of two stands first. -/
namespace Go.Proofs.YtoanbjdifddcoaaGreatDoor
open Go.RowKit


theorem isNaN_any (x : Int) (w : World) : Calls Tryz.prog 101 #[.int .i64 x] w fun e w' => e = .returned (.bool false) ∧ w' = w := by
  go_enter Tryz.func101, Tryz.ntmps101
  go_wp2
  all_goals go_ret
  all_goals exact ⟨ret_bool (by simp), rfl⟩

def cmpI (x y : Int) : Int := if x < y then -1 else if y < x then 1 else 0
theorem cmp_any (x y : Int) (w : World) : Calls Tryz.prog 90 #[.int .i64 x, .int .i64 y] w fun e w' => e = .returned (.int .i64 (cmpI x y)) ∧ w' = w := by
  go_enter Tryz.func90, Tryz.ntmps90
  go_wp2_with (go_at_call 101; refine (isNaN_any _ _).mono ?_; rintro e w' ⟨rfl, rfl⟩)
  all_goals go_ret
  all_goals refine ⟨ret_int ?_, rfl⟩
  all_goals (unfold cmpI; repeat' split)
  all_goals first | rfl | omega


/-- the rest of two lists, behind so many that are alike -/
theorem cmpL_drop (s t : List Int) (k : Nat) (x y : Int) (hs : s[k]? = some x) (ht : t[k]? = some y) : cmpL (s.drop k) (t.drop k) = if x < y then -1 else if y < x then 1 else cmpL (s.drop (k + 1)) (t.drop (k + 1)) := by
  obtain ⟨hks, rfl⟩ := List.getElem?_eq_some_iff.1 hs
  obtain ⟨hkt, rfl⟩ := List.getElem?_eq_some_iff.1 ht
  rw [List.drop_eq_getElem_cons hks, List.drop_eq_getElem_cons hkt]
  rfl

set_option maxHeartbeats 4000000 in
set_option maxRecDepth 100000 in
theorem compare_any {w : World} {A B : Nat} {v u : Value} {n m : Nat} {s t : List Int} (hv : w.ownsRow A 3 1 v n (s.map intV)) (hu : w.ownsRow B 3 1 u m (t.map intV)) :
    Calls Tryz.prog 72 #[v, u] w fun e w' => e = .returned (.int .i64 (cmpL s t)) ∧ w' = w := by
  obtain ⟨rfl, a, ca, rfl, h1, h2, hcv⟩ := own_cell hv
  obtain ⟨rfl, b, cb, rfl, h3, h4, hcu⟩ := own_cell hu
  have HV : Hid (∀ k y, s[k]? = some y → ∃ g, a = some ⟨g, 0, none⟩ ∧ w.cell? ⟨g, k, none⟩ = some (.int .i64 y) ∧ w.frozen? ⟨g, k, none⟩ = false) := hcv
  have HU : Hid (∀ k y, t[k]? = some y → ∃ g, b = some ⟨g, 0, none⟩ ∧ w.cell? ⟨g, k, none⟩ = some (.int .i64 y) ∧ w.frozen? ⟨g, k, none⟩ = false) := hcu
  unfold maxLen at h2 h4
  clear hcv hcu hv hu
  go_enter Tryz.func72, Tryz.ntmps72
  go_wp2
  go_loop [11] (fun i => ∃ k : Nat, k ≤ s.length ∧ k ≤ t.length ∧ i = .int .i64 k ∧ Hid (cmpL (s.drop k) (t.drop k) = cmpL s t)) (fun i => s.length - (intOf i).toNat)
  case atStart => exact ⟨0, by omega, by omega, rfl, (rfl : cmpL (s.drop 0) (t.drop 0) = cmpL s t)⟩
  case round =>
    obtain ⟨k, hk, hkt, rfl, hrest⟩ := hrel
    by_cases hks : k < s.length
    · have hx : s[k]? = some s[k] := List.getElem?_eq_getElem hks
      obtain ⟨g, rfl, cg, _⟩ := HV.out k _ hx
      by_cases hkt2 : k < t.length
      · have hy : t[k]? = some t[k] := List.getElem?_eq_getElem hkt2
        obtain ⟨g2, rfl, cg2, _⟩ := HU.out k _ hy
        have hst : Hid _ := cmpL_drop s t k _ _ hx hy
        clear hx hy
        generalize s[k] = x at *
        generalize t[k] = y at *
        by_cases hxy : cmpI x y = 0
        · have HC : Hid (cmpL (s.drop (k + 1)) (t.drop (k + 1)) = cmpL s t) := by
            have e1 := hst.out
            have e2 := hrest.out
            rw [e1] at e2
            unfold cmpI at hxy
            split at hxy
            · omega
            · split at hxy
              · omega
              · rw [if_neg (by assumption), if_neg (by assumption)] at e2
                exact e2
          go_wp2_with (go_at_call 90; refine (cmp_any _ _ _).mono ?_; rintro e w' ⟨rfl, rfl⟩; rw [hxy])
          go_round
          case rel => exact ⟨k + 1, by omega, by omega, by go_num, HC⟩
          case measure => simp [intOf]; omega
        · have HC : Hid (cmpI x y = cmpL s t) := by
            have e1 := hst.out
            have e2 := hrest.out
            rw [e1] at e2
            show cmpI x y = cmpL s t
            rw [← e2]
            unfold cmpI at hxy ⊢
            split
            · rfl
            · split
              · rfl
              · rename_i q1 q2
                rw [if_neg q1, if_neg q2] at hxy
                omega
          have hb : (cmpI x y == 0) = false := by simpa using hxy
          go_wp2_with (go_at_call 90; refine (cmp_any _ _ _).mono ?_; rintro e w' ⟨rfl, rfl⟩)
          all_goals go_ret
          all_goals exact ⟨ret_int HC.out, rfl⟩
      · have HC : Hid (1 = cmpL s t) := by
          have e2 := hrest.out
          rw [List.drop_eq_getElem_cons hks, List.drop_of_length_le (l := t) (by omega)] at e2
          exact e2
        go_wp2
        all_goals go_ret
        all_goals exact ⟨ret_int HC.out, rfl⟩
    · by_cases hkt2 : k < t.length
      · have HC : Hid (-1 = cmpL s t) := by
          have e2 := hrest.out
          rw [List.drop_eq_getElem_cons hkt2, List.drop_of_length_le (l := s) (by omega)] at e2
          exact e2
        have hlt : s.length < t.length := by omega
        go_wp2
        all_goals go_ret
        all_goals exact ⟨ret_int HC.out, rfl⟩
      · have HC : Hid (0 = cmpL s t) := by
          have e2 := hrest.out
          rw [List.drop_of_length_le (l := t) (by omega), List.drop_of_length_le (l := s) (by omega)] at e2
          exact e2
        have hlt : ¬ s.length < t.length := by omega
        go_wp2
        all_goals go_ret
        all_goals exact ⟨ret_int HC.out, rfl⟩

/-- a list whose two ends have been exchanged, so many times -/
def revTo (xs : List Int) (k : Nat) : List Int := (List.range xs.length).map fun i => if i < k ∨ xs.length ≤ i + k then xs.getD (xs.length - 1 - i) 0 else xs.getD i 0
theorem revTo_length (xs : List Int) (k : Nat) : (revTo xs k).length = xs.length := by simp [revTo]
theorem revTo_get (xs : List Int) (k i : Nat) (h : i < xs.length) : (revTo xs k)[i]? = some (if i < k ∨ xs.length ≤ i + k then xs.getD (xs.length - 1 - i) 0 else xs.getD i 0) := by
  simp [revTo, List.getElem?_range h]
theorem revTo_zero (xs : List Int) : revTo xs 0 = xs := by
  apply List.ext_getElem?
  intro i
  by_cases h : i < xs.length
  · rw [revTo_get xs 0 i h, if_neg (by omega), List.getD_eq_getElem?_getD, List.getElem?_eq_getElem h]
    rfl
  · rw [List.getElem?_eq_none (by rw [revTo_length]; omega), List.getElem?_eq_none (by omega)]
theorem revTo_done (xs : List Int) (k : Nat) (hk : xs.length ≤ 2 * k + 1) : revTo xs k = xs.reverse := by
  apply List.ext_getElem?
  intro i
  by_cases h : i < xs.length
  · rw [revTo_get xs k i h, List.getElem?_reverse h, List.getElem?_eq_getElem (by omega)]
    split
    · rw [List.getD_eq_getElem?_getD, List.getElem?_eq_getElem (by omega)]
      rfl
    · rw [List.getD_eq_getElem?_getD, List.getElem?_eq_getElem h]
      have e : i = xs.length - 1 - i := by omega
      simp only [Option.getD_some]
      congr 2
  · rw [List.getElem?_eq_none (by rw [revTo_length]; omega), List.getElem?_eq_none (by simp; omega)]
theorem revTo_step (xs : List Int) (k : Nat) (hk : 2 * k + 1 < xs.length) : ((revTo xs k).set k (xs.getD (xs.length - 1 - k) 0)).set (xs.length - 1 - k) (xs.getD k 0) = revTo xs (k + 1) := by
  apply List.ext_getElem?
  intro i
  by_cases h : i < xs.length
  · rw [revTo_get xs (k + 1) i h]
    by_cases h1 : i = xs.length - 1 - k
    · subst h1
      rw [List.getElem?_set_self (by rw [List.length_set, revTo_length]; omega), if_pos (by omega)]
      congr 2
      omega
    · rw [List.getElem?_set_ne (by omega)]
      by_cases h2 : i = k
      · subst h2
        rw [List.getElem?_set_self (by rw [revTo_length]; omega), if_pos (by omega)]
      · rw [List.getElem?_set_ne (by omega), revTo_get xs k i h]
        by_cases h3 : i < k ∨ xs.length ≤ i + k
        · rw [if_pos h3, if_pos (by omega)]
        · rw [if_neg h3, if_neg (by omega)]
  · rw [List.getElem?_eq_none (by rw [List.length_set, List.length_set, revTo_length]; omega), List.getElem?_eq_none (by rw [revTo_length]; omega)]

/-- a store into a row of one's own -/
theorem own_set {w : World} {B : Nat} {g n c : Nat} {xs : List Int} (h : w.ownsRow B 3 1 (.slice (some ⟨g, 0, none⟩) n c) n (xs.map intV)) (j : Nat) (x : Int) :
    (w.setCell ⟨g, j, none⟩ (.int .i64 x)).ownsRow B 3 1 (.slice (some ⟨g, 0, none⟩) n c) n ((xs.set j x).map intV) := by
  refine ⟨by have := h.1; simpa using this, ?_⟩
  rcases h.2 with ⟨h0, _⟩ | ⟨g', cap, cur, hv, hb, hg, h1, h2, h3, h4⟩
  · cases h0
  · cases hv
    refine .inr ⟨g, _, _, rfl, hb, setCell_heap w g j _ cur 3 (0, 0) hg, h1, h2, by rw [Array.size_setIfInBounds]; exact h3, ?_⟩
    rw [Array.toList_setIfInBounds, List.take_set, h4, List.map_set]
    rfl

set_option maxHeartbeats 4000000 in
set_option maxRecDepth 100000 in
theorem reverse_any {w : World} {B : Nat} {v : Value} {n : Nat} {xs : List Int} (h : w.ownsRow B 3 1 v n (xs.map intV)) (hn : n ≤ 1099511627776) :
    Calls Tryz.prog 89 #[v] w fun e w' => e = .returned (.tuple #[]) ∧ w'.ownsRow B 3 1 v n (xs.reverse.map intV) ∧ Below B w w' := by
  obtain ⟨rfl, a, ca, rfl, h1, h2, hcv⟩ := own_cell h
  have hbg : ∀ g, a = some ⟨g, 0, none⟩ → B ≤ g := fun g hg => (h.lt g (by subst hg; rfl)).1
  unfold maxLen at h2
  have H : Hid (w.ownsRow B 3 1 (.slice a xs.length ca) xs.length (xs.map intV)) := h
  clear hcv h
  go_enter Tryz.func89, Tryz.ntmps89
  go_wp2
  go_loopw [2, 3] (fun i j wr => ∃ k : Nat, 2 * k ≤ xs.length + 1 ∧ i = .int .i64 k ∧ j = .int .i64 ((xs.length : Int) - 1 - k) ∧ Hid (wr.ownsRow B 3 1 (.slice a xs.length ca) xs.length ((revTo xs k).map intV)) ∧ Hid (Below B w wr)) (fun i _ _ => xs.length - (intOf i).toNat)
  case atStart => exact ⟨0, by omega, rfl, by simp, (by rw [revTo_zero]; exact H.out : w.ownsRow B 3 1 (.slice a xs.length ca) xs.length ((revTo xs 0).map intV)), Below.refl _ _⟩
  case round =>
    obtain ⟨k, hk, rfl, rfl, hown, hbel⟩ := hrel
    by_cases hlt : 2 * k + 1 < xs.length
    · obtain ⟨_, a', c', hv', _, _, hcell⟩ := own_cell hown.out
      cases hv'
      obtain ⟨g, rfl, ck, fk⟩ := hcell k _ (revTo_get xs k k (by omega))
      obtain ⟨g', hg', cm, fm⟩ := hcell (xs.length - 1 - k) _ (revTo_get xs k (xs.length - 1 - k) (by omega))
      cases hg'
      rw [if_neg (by omega)] at ck cm
      have hj : ((xs.length : Int) - 1 - k) = ((xs.length - 1 - k : Nat) : Int) := by omega
      have hne : k ≠ xs.length - 1 - k := by omega
      have hkx : xs.length - 1 - k < xs.length := by omega
      have s1 := own_set hown.out k (xs.getD (xs.length - 1 - k) 0)
      have s2 := own_set s1 (xs.length - 1 - k) (xs.getD k 0)
      have hx2 : (wr.setCell ⟨g, k, none⟩ (.int .i64 (xs.getD (xs.length - 1 - k) 0))).cell? ⟨g, xs.length - 1 - k, none⟩ = some (.int .i64 (xs.getD (xs.length - 1 - k) 0)) ∧ (wr.setCell ⟨g, k, none⟩ (.int .i64 (xs.getD (xs.length - 1 - k) 0))).frozen? ⟨g, xs.length - 1 - k, none⟩ = false := by
        obtain ⟨_, a2, c2, hv2, _, _, hcell2⟩ := own_cell s1
        cases hv2
        obtain ⟨g2, hg2, q1, q2⟩ := hcell2 (xs.length - 1 - k) (xs.getD (xs.length - 1 - k) 0) (by rw [List.getElem?_set_ne hne, revTo_get xs k _ (by omega), if_neg (by omega)])
        cases hg2
        exact ⟨q1, q2⟩
      obtain ⟨hx2, hx3⟩ := hx2
      have hkr : k < xs.length - 1 - k := by omega
      rw [revTo_step xs k hlt] at s2
      have S2 : Hid _ := s2
      rw [hj]
      have HJ : Hid ((xs.length : Int) - 1 - (k + 1 : Nat) = ((xs.length - 1 - k : Nat) : Int) - 1) := by show _ = _; omega
      clear s1 s2 hj hcell
      generalize xs.length - 1 - k = r at *
      generalize xs.getD k 0 = x at *
      generalize xs.getD r 0 = y at *
      have i1 : (k : Int) < (r : Int) := by omega
      have i2 : (r : Int) < (xs.length : Int) := by omega
      have i3 : (k : Int) < (xs.length : Int) := by omega
      have i4 : (0 : Int) ≤ (k : Int) := by omega
      have i5 : (0 : Int) ≤ (r : Int) := by omega
      go_wp2
      go_region
      go_wp2
      go_roundw
      case rel => go_light; exact ⟨k + 1, by omega, by go_num, congrArg (Value.int .i64) HJ.out.symm, S2.out, ((hbel.out.setCell (hbg g rfl) _).setCell (hbg g rfl) _).drew⟩
      case measure => go_light; simp [intOf]; omega
    · go_wp2
      go_end0
      exact ⟨rfl, by rw [← revTo_done xs k (by omega)]; exact hown.out, hbel.out⟩
end Go.Proofs.YtoanbjdifddcoaaGreatDoor
