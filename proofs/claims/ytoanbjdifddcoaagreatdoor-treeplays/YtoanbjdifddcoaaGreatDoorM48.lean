/- What the program's tree tells of a number that is no node's, and of an attribute. -/
import Derived.Test.YtoanbjdifddcoaaGreatDoorM40
import Derived.Test.YtoanbjdifddcoaaGreatDoorM03
import Derived.Test.YtoanbjdifddcoaaGreatDoorM17
import Derived.Test.YtoanbjdifddcoaaGreatDoorM42
namespace Go.Proofs.YtoanbjdifddcoaaGreatDoor
open Go.RowKit

section
variable {w : World} {M : Nat → Lab} {tb : Nat} {nv uv : Value} {ps : List Pn} {us : List Value}
set_option maxHeartbeats 1000000 in
theorem kind_none (h : Lies w M tb nv uv ps us) {a : Int} (hb : hasB ps.length a = false) : Calls Tryz.prog 10 #[.pointer (some ⟨tb, 0, none⟩), .int .i64 a] w fun e w' => e = .returned (.int .i64 0) ∧ w' = w := by
  have H : Hid (Lies w M tb nv uv ps us) := h
  clear h
  go_enter Tryz.func10, Tryz.ntmps10
  go_wp2_with (go_at_call 45; refine (has_any H.out _).mono ?_; rintro e w' ⟨rfl, rfl⟩; rw [hb])
  go_ret
  exact ⟨rfl, rfl⟩
set_option maxHeartbeats 1000000 in
theorem tag_none (h : Lies w M tb nv uv ps us) {a : Int} (hb : hasB ps.length a = false) : Calls Tryz.prog 11 #[.pointer (some ⟨tb, 0, none⟩), .int .i64 a] w fun e w' => e = .returned (.string ⟨#[]⟩) ∧ w' = w := by
  have H : Hid (Lies w M tb nv uv ps us) := h
  clear h
  go_enter Tryz.func11, Tryz.ntmps11
  go_wp2_with (go_at_call 45; refine (has_any H.out _).mono ?_; rintro e w' ⟨rfl, rfl⟩; rw [hb])
  go_ret
  exact ⟨rfl, rfl⟩
set_option maxHeartbeats 1000000 in
theorem words_none (h : Lies w M tb nv uv ps us) {a : Int} (hb : hasB ps.length a = false) : Calls Tryz.prog 12 #[.pointer (some ⟨tb, 0, none⟩), .int .i64 a] w fun e w' => e = .returned (.string ⟨#[]⟩) ∧ w' = w := by
  have H : Hid (Lies w M tb nv uv ps us) := h
  clear h
  go_enter Tryz.func12, Tryz.ntmps12
  go_wp2_with (go_at_call 45; refine (has_any H.out _).mono ?_; rintro e w' ⟨rfl, rfl⟩; rw [hb])
  go_ret
  exact ⟨rfl, rfl⟩
set_option maxHeartbeats 1000000 in
theorem parent_none (h : Lies w M tb nv uv ps us) {a : Int} (hb : hasB ps.length a = false) : Calls Tryz.prog 13 #[.pointer (some ⟨tb, 0, none⟩), .int .i64 a] w fun e w' => e = .returned (.int .i64 (-1)) ∧ w' = w := by
  have H : Hid (Lies w M tb nv uv ps us) := h
  clear h
  go_enter Tryz.func13, Tryz.ntmps13
  go_wp2_with (go_at_call 45; refine (has_any H.out _).mono ?_; rintro e w' ⟨rfl, rfl⟩; rw [hb])
  go_ret
  exact ⟨rfl, rfl⟩
set_option maxHeartbeats 1000000 in
theorem kids_none (h : Lies w M tb nv uv ps us) {a : Int} (hb : hasB ps.length a = false) : Calls Tryz.prog 17 #[.pointer (some ⟨tb, 0, none⟩), .int .i64 a] w fun e w' => e = .returned (.slice none 0 0) ∧ w' = w := by
  have H : Hid (Lies w M tb nv uv ps us) := h
  clear h
  go_enter Tryz.func17, Tryz.ntmps17
  go_wp2_with (go_at_call 45; refine (has_any H.out _).mono ?_; rintro e w' ⟨rfl, rfl⟩; rw [hb])
  go_ret
  exact ⟨rfl, rfl⟩
set_option maxHeartbeats 1000000 in
theorem under_none (h : Lies w M tb nv uv ps us) {a : Int} (hb : hasB ps.length a = false) : Calls Tryz.prog 18 #[.pointer (some ⟨tb, 0, none⟩), .int .i64 a] w fun e w' => e = .returned (.slice none 0 0) ∧ w' = w := by
  have H : Hid (Lies w M tb nv uv ps us) := h
  clear h
  go_enter Tryz.func18, Tryz.ntmps18
  go_wp2_with (go_at_call 45; refine (has_any H.out _).mono ?_; rintro e w' ⟨rfl, rfl⟩; rw [hb])
  go_ret
  exact ⟨rfl, rfl⟩
set_option maxHeartbeats 1000000 in
theorem attrs_none (h : Lies w M tb nv uv ps us) {a : Int} (hb : hasB ps.length a = false) : Calls Tryz.prog 15 #[.pointer (some ⟨tb, 0, none⟩), .int .i64 a] w fun e w' => e = .returned (.slice none 0 0) ∧ w' = w := by
  have H : Hid (Lies w M tb nv uv ps us) := h
  clear h
  go_enter Tryz.func15, Tryz.ntmps15
  go_wp2_with (go_at_call 45; refine (has_any H.out _).mono ?_; rintro e w' ⟨rfl, rfl⟩; rw [hb])
  go_ret
  exact ⟨rfl, rfl⟩
set_option maxHeartbeats 1000000 in
theorem attr_none (h : Lies w M tb nv uv ps us) {a : Int} (hb : hasB ps.length a = false) (name : ByteArray) : Calls Tryz.prog 42 #[.pointer (some ⟨tb, 0, none⟩), .int .i64 a, .string name] w fun e w' => e = .returned (.tuple #[.string ⟨#[]⟩, .bool false]) ∧ Below w.heap.size w w' := by
  have H : Hid (Lies w M tb nv uv ps us) := h
  clear h
  go_enter Tryz.func42, Tryz.ntmps42
  go_wp2_with (go_at_call 45; refine (has_any H.out _).mono ?_; rintro e w' ⟨rfl, rfl⟩; rw [hb])
  go_ret2
  exact ⟨rfl, Below.refl _ _⟩

/-- what Attr answers -/
def attrV (l : List (ByteArray × ByteArray)) (name : ByteArray) : Value := match findA l name with
  | some k => .tuple #[.string (l.getD k (⟨#[]⟩, ⟨#[]⟩)).2, .bool true]
  | none => .tuple #[.string ⟨#[]⟩, .bool false]
set_option maxHeartbeats 4000000 in
set_option maxRecDepth 100000 in
theorem attr_some (h : Lies w M tb nv uv ps us) {i : Nat} {p : Pn} (hp : ps[i]? = some p) (ha : p.n.attrs.length ≤ 1000000) (name : ByteArray) : Calls Tryz.prog 42 #[.pointer (some ⟨tb, 0, none⟩), .int .i64 i, .string name] w fun e w' => e = .returned (attrV p.n.attrs name) ∧ Below w.heap.size w w' := by
  have hb := hasB_of hp
  obtain ⟨nb, cap, rfl, hc, hm, _, hnl, hil⟩ := h.form hp
  obtain ⟨xa, xc, hav, hx1, hx2⟩ := (h.node i p hp).1.shape
  have c0 := h.cell0
  have hlt : tb < w.heap.size := lt_of_heap h.head
  have c3 := (h.cellN rfl (f := 3) hp (by omega) rfl).1
  rw [hav] at c3
  have H : Hid (Lies w M tb (.slice (some ⟨nb, 0, none⟩) ps.length cap) uv ps us) := h
  have HP : Hid (ps[i]? = some p) := hp
  have i1 : (0 : Int) ≤ (i : Int) := by omega
  have i2 : (i : Int) < (ps.length : Int) := by omega
  unfold maxLen at hm hx2
  cases hf : findA p.n.attrs name with
  | none =>
    have hfi : findI p.n.attrs name = -1 := by simp only [findI, hf]
    have E : Hid (attrV p.n.attrs name = .tuple #[.string ⟨#[]⟩, .bool false]) := by show attrV _ _ = _; unfold attrV; rw [hf]
    clear h hp hf
    go_enter Tryz.func42, Tryz.ntmps42
    go_wp2_with (first
      | (go_at_call 45; refine (has_any H.out _).mono ?_; rintro e w' ⟨rfl, rfl⟩; rw [hb])
      | (go_at_call 61; refine (find_any H.out HP.out name).mono ?_; rintro e w1 ⟨rfl, hB1⟩; rw [hfi]; have HB1 : Hid _ := hB1; clear hB1))
    go_ret2
    exact ⟨by rw [E.out]; rfl, HB1.out⟩
  | some k =>
    have hfi : findI p.n.attrs name = k := by simp only [findI, hf]
    have hkl : k < p.n.attrs.length := by
      unfold findA at hf
      rw [List.findIdx?_eq_some_iff_getElem] at hf
      exact hf.1
    obtain ⟨x, hx⟩ : ∃ x, p.n.attrs[k]? = some x := ⟨_, List.getElem?_eq_getElem hkl⟩
    have E : Hid (attrV p.n.attrs name = .tuple #[.string x.2, .bool true]) := by
      show attrV _ _ = _
      unfold attrV
      rw [hf]
      simp only [List.getD_eq_getElem?_getD, hx, Option.getD_some]
    obtain ⟨ag, ac', hav', _, _, _, hagl⟩ := (h.node i p hp).1.form (by omega)
    have cx := ((h.node i p hp).1.cell hav' (attrCells_get p.n.attrs k x hx).2).1
    rw [hav] at hav'
    cases hav'
    have i3 : (0 : Int) ≤ (k : Int) := by omega
    have i4 : (k : Int) < (p.n.attrs.length : Int) := by omega
    clear h hp hf hx
    go_enter Tryz.func42, Tryz.ntmps42
    go_wp2_with (first
      | (go_at_call 45; refine (has_any H.out _).mono ?_; rintro e w' ⟨rfl, rfl⟩; rw [hb])
      | (go_at_call 61; refine (find_any H.out HP.out name).mono ?_; rintro e w1 ⟨rfl, hB1⟩; rw [hfi]
         have d3 := (hB1.cell (p := ⟨nb, i * 6 + 3, none⟩) hnl).trans c3
         have dx := (hB1.cell (p := ⟨ag, k * 2 + 1, none⟩) hagl).trans cx
         have HB1 : Hid _ := hB1
         clear hB1))
    all_goals first
      | (go_ret2; exact ⟨by rw [E.out]; rfl, HB1.out⟩)
      | (go_quiet (fail); go_wp2; go_ret2; exact ⟨by rw [E.out]; rfl, below_drewN HB1.out _⟩)
end
end Go.Proofs.YtoanbjdifddcoaaGreatDoor

/- The document's answer: the order of two nodes. -/
namespace Go.Proofs.YtoanbjdifddcoaaGreatDoor
open Go.RowKit

set_option maxHeartbeats 4000000 in
set_option maxRecDepth 100000 in
theorem rorder_none {w : World} {M : Nat → Lab} {tb : Nat} {nv uv : Value} {ps : List Pn} {us : List Value} (h : RLies w M tb nv uv ps us) {a b : Int} (hb : ¬ (hasB ps.length a = true ∧ hasB ps.length b = true)) :
    Calls Tryz.prog 41 #[.pointer (some ⟨tb, 0, none⟩), .int .i64 a, .int .i64 b] w fun e w' => e = .returned (.tuple #[.int .i64 0, .bool false]) ∧ w' = w := by
  have H : Hid (RLies w M tb nv uv ps us) := h
  clear h
  cases h1 : hasB ps.length a
  · clear hb
    cases h2 : hasB ps.length b
    all_goals
      go_enter Tryz.func41, Tryz.ntmps41
      go_wp2_with (go_at_call 43; refine (rhas_any H.out _).mono ?_; rintro e w' ⟨rfl, hw'⟩; subst hw'; simp only [h1, h2])
    all_goals go_ret2
    all_goals exact ⟨rfl, rfl⟩
  · have h2 : hasB ps.length b = false := by
      cases h2 : hasB ps.length b
      · rfl
      · exact absurd ⟨h1, h2⟩ hb
    clear hb
    go_enter Tryz.func41, Tryz.ntmps41
    go_wp2_with (go_at_call 43; refine (rhas_any H.out _).mono ?_; rintro e w' ⟨rfl, hw'⟩; subst hw'; simp only [h1, h2])
    all_goals go_ret2
    all_goals exact ⟨rfl, rfl⟩

/-- two numbers compared -/
def cmpN (i k : Int) : Int := if i < k then -1 else if k < i then 1 else 0

/-- the last place of a number in a list, 0 where it is in none -/
def lastAt (l : List Int) (x : Int) : Nat → Int
  | 0 => 0
  | n + 1 => if l[n]? = some x then (n : Int) else lastAt l x n
theorem lastAt_nodup {l : List Int} (hl : l.Nodup) {x : Int} {j : Nat} (hj : l[j]? = some x) : ∀ n, j < n → n ≤ l.length → lastAt l x n = j := by
  intro n
  induction n with
  | zero => intro h; omega
  | succ n ih =>
    intro h1 h2
    by_cases e : l[n]? = some x
    · simp only [lastAt, if_pos e]
      have hn : n < l.length := by omega
      have hjl := (List.getElem?_eq_some_iff.1 hj).1
      have : l[n] = l[j] := by
        rw [(List.getElem?_eq_some_iff.1 e).2, (List.getElem?_eq_some_iff.1 hj).2]
      rcases Nat.lt_trichotomy n j with h | h | h
      · exact absurd this (List.pairwise_iff_getElem.1 hl n j hn hjl h)
      · rw [h]
      · exact absurd this.symm (List.pairwise_iff_getElem.1 hl j n hjl hn h)
    · simp only [lastAt, if_neg e]
      have : j ≠ n := fun e' => e (e' ▸ hj)
      exact ih (by omega) (by omega)

set_option maxHeartbeats 4000000 in
set_option maxRecDepth 100000 in
theorem rorder_apart {w : World} {M : Nat → Lab} {tb : Nat} {nv uv : Value} {ps : List Pn} {us : List Value} (h : RLies w M tb nv uv ps us) {a b ra rb : Nat} {la lb : List Nat} (ha : Up (nodesOf ps) a la) (hb : Up (nodesOf ps) b lb) (hra : la.getLast? = some ra) (hrb : lb.getLast? = some rb) (hne : ra ≠ rb) (hal : a < ps.length) (hbl : b < ps.length) :
    Calls Tryz.prog 41 #[.pointer (some ⟨tb, 0, none⟩), .int .i64 a, .int .i64 b] w fun e w' => e = .returned (.tuple #[.int .i64 0, .bool false]) ∧ w' = w := by
  have h1 : hasB ps.length a = true := hasB_lt hal
  have h2 : hasB ps.length b = true := hasB_lt hbl
  have H : Hid (RLies w M tb nv uv ps us) := h
  have HA : Hid (Up (nodesOf ps) a la ∧ la.getLast? = some ra) := ⟨ha, hra⟩
  have HB : Hid (Up (nodesOf ps) b lb ∧ lb.getLast? = some rb) := ⟨hb, hrb⟩
  have hn : ((ra : Int) != (rb : Int)) = true := by simp; omega
  have hn' : ((ra : Int) == (rb : Int)) = false := by simp; omega
  clear h ha hb hra hrb
  by_cases hab : a = b
  · subst hab
    have e := HA.out.1.det HB.out.1
    have := HA.out.2.symm.trans (e ▸ HB.out.2)
    exact absurd (Option.some.inj this) hne
  have hab' : ¬ ((a : Int) = (b : Int)) := by omega
  go_enter Tryz.func41, Tryz.ntmps41
  go_wp2_with (first
    | (go_at_call 43; refine (rhas_any H.out _).mono ?_; rintro e w' ⟨rfl, hw'⟩; subst hw'; simp only [h1, h2])
    | (go_at_call 73; refine (root_any H.out HA.out.1 HA.out.2).mono ?_; rintro e w' ⟨rfl, hw'⟩; subst hw'; clear HA)
    | (go_at_call 73; refine (root_any H.out HB.out.1 HB.out.2).mono ?_; rintro e w' ⟨rfl, hw'⟩; subst hw'))
  all_goals go_ret2
  all_goals exact ⟨rfl, rfl⟩

set_option maxHeartbeats 4000000 in
set_option maxRecDepth 100000 in
theorem rorder_good {w : World} {M : Nat → Lab} {tb : Nat} {nv uv : Value} {ps : List Pn} {us : List Value} (h : RLies w M tb nv uv ps us) (hW : WF (nodesOf ps)) {a b r : Nat} {la lb : List Nat} (ha : Up (nodesOf ps) a la) (hb : Up (nodesOf ps) b lb) (hra : la.getLast? = some r) (hrb : lb.getLast? = some r) (hal : a < ps.length) (hbl : b < ps.length) (hrl : r < ps.length) :
    Calls Tryz.prog 41 #[.pointer (some ⟨tb, 0, none⟩), .int .i64 a, .int .i64 b] w fun e w' => e = .returned (.tuple #[.int .i64 (cmpN (lastAt (und (nodesOf ps) (ps.length + 1) r) a (und (nodesOf ps) (ps.length + 1) r).length) (lastAt (und (nodesOf ps) (ps.length + 1) r) b (und (nodesOf ps) (ps.length + 1) r).length)), .bool true]) ∧ Below w.heap.size w w' := by
  have h1 : hasB ps.length a = true := hasB_lt hal
  have h2 : hasB ps.length b = true := hasB_lt hbl
  have hun : (und (nodesOf ps) (ps.length + 1) r).length ≤ 400 := Nat.le_trans (und_short hW _ r (by simpa [nodesOf] using hrl)) hW.len
  have HU : Hid (∀ w', Below w.heap.size w w' → Calls Tryz.prog 19 #[.pointer (some ⟨tb, 0, none⟩), .int .i64 r] w' (UndPost w' (und (nodesOf ps) (ps.length + 1) r))) := fun w' hB => runder_any h hW (ps.length + 1) r hrl (by have := rkU_le (nodesOf ps) r; simp [nodesOf] at this; simp [nodesOf]; omega) w' r rfl hB (by omega)
  have H : Hid (RLies w M tb nv uv ps us) := h
  have HA : Hid (Up (nodesOf ps) a la ∧ la.getLast? = some r) := ⟨ha, hra⟩
  have HB : Hid (Up (nodesOf ps) b lb ∧ lb.getLast? = some r) := ⟨hb, hrb⟩
  generalize und (nodesOf ps) (ps.length + 1) r = l at *
  clear h ha hb hra hrb hW
  go_enter Tryz.func41, Tryz.ntmps41
  go_wp2_with (first
    | (go_at_call 43; refine (rhas_any H.out _).mono ?_; rintro e w' ⟨rfl, hw'⟩; subst hw'; simp only [h1, h2])
    | (go_at_call 73; refine (root_any H.out HA.out.1 HA.out.2).mono ?_; rintro e w' ⟨rfl, hw'⟩; subst hw'; clear HA)
    | (go_at_call 73; refine (root_any H.out HB.out.1 HB.out.2).mono ?_; rintro e w' ⟨rfl, hw'⟩; subst hw')
    | (go_at_call 19; refine (HU.out _ (Below.refl _ _)).mono ?_; rintro e w2 ⟨v2, rfl, ho2, hB2⟩
       obtain ⟨a2, e2, hv2⟩ := own_shape ho2
       subst hv2
       have hli := own_ints ho2
       have H2 : Hid _ := hB2
       clear ho2 hB2))
  have HC : Hid (∀ (k : Nat) (y : Int), l[k]? = some y → ∃ g, a2 = some ⟨g, 0, none⟩ ∧ w2.cell? ⟨g, k, none⟩ = some (.int .i64 y)) := by
    obtain ⟨a', c', e, hcl⟩ := hli
    cases e
    exact hcl
  clear hli
  go_loop [12, 13, 14] (fun iv kv nv => ∃ j : Nat, j ≤ l.length ∧ nv = .int .i64 j ∧ iv = .int .i64 (lastAt l a j) ∧ kv = .int .i64 (lastAt l b j)) (fun _ _ nv => l.length - (intOf nv).toNat)
  case atStart => exact ⟨0, by omega, rfl, rfl, rfl⟩
  case round =>
    obtain ⟨j, hj, rfl, rfl, rfl⟩ := hrel
    by_cases hjl : j < l.length
    · obtain ⟨y, hy⟩ : ∃ y, l[j]? = some y := ⟨_, List.getElem?_eq_getElem hjl⟩
      obtain ⟨g, rfl, cy⟩ := HC.out j y hy
      have ea : Hid (lastAt l a (j + 1) = if y = a then (j : Int) else lastAt l a j) := by
        show lastAt l a (j + 1) = _
        simp only [lastAt, hy, Option.some.injEq]
      have eb : Hid (lastAt l b (j + 1) = if y = b then (j : Int) else lastAt l b j) := by
        show lastAt l b (j + 1) = _
        simp only [lastAt, hy, Option.some.injEq]
      clear hy
      by_cases ya : y = (a : Int) <;> by_cases yb : y = (b : Int)
      all_goals
        first
          | (have yab : (y == (a : Int)) = true := by simpa using ya)
          | (have yab : (y == (a : Int)) = false := by simpa using ya)
        first
          | (have ybb : (y == (b : Int)) = true := by simpa using yb)
          | (have ybb : (y == (b : Int)) = false := by simpa using yb)
        have EA : Hid _ := (ea.out.trans (by first | rw [if_pos ya] | rw [if_neg ya]) : lastAt l a (j + 1) = _)
        have EB : Hid _ := (eb.out.trans (by first | rw [if_pos yb] | rw [if_neg yb]) : lastAt l b (j + 1) = _)
        clear ya yb ea eb
        go_wp2
        go_round
        case rel => exact ⟨j + 1, by omega, by go_num, by rw [EA.out], by rw [EB.out]⟩
        case measure => simp [intOf]; omega
    · obtain rfl : j = l.length := by omega
      have hc : Hid (cmpN (lastAt l a l.length) (lastAt l b l.length) = if lastAt l a l.length < lastAt l b l.length then -1 else if lastAt l b l.length < lastAt l a l.length then 1 else 0) := rfl
      rcases Int.lt_trichotomy (lastAt l a l.length) (lastAt l b l.length) with h | h | h
      · have e : Hid (cmpN (lastAt l a l.length) (lastAt l b l.length) = -1) := by show _ = _; rw [hc.out, if_pos h]
        go_wp2
        go_ret2
        exact ⟨(by first | (rw [e.out]; done) | (rw [e.out]; rfl)), H2.out⟩
      · have e : Hid (cmpN (lastAt l a l.length) (lastAt l b l.length) = 0) := by show _ = _; rw [hc.out, if_neg (by omega), if_neg (by omega)]
        have h1' : ¬ lastAt l a l.length < lastAt l b l.length := by omega
        have h2' : ¬ lastAt l b l.length < lastAt l a l.length := by omega
        clear h
        go_wp2
        go_ret2
        exact ⟨(by first | (rw [e.out]; done) | (rw [e.out]; rfl)), H2.out⟩
      · have e : Hid (cmpN (lastAt l a l.length) (lastAt l b l.length) = 1) := by show _ = _; rw [hc.out, if_neg (by omega), if_pos h]
        have h' : ¬ lastAt l a l.length < lastAt l b l.length := by omega
        go_wp2
        go_ret2
        exact ⟨(by first | (rw [e.out]; done) | (rw [e.out]; rfl)), H2.out⟩
end Go.Proofs.YtoanbjdifddcoaaGreatDoor
