/- What the program's tree tells of a number that is no node's, and of an attribute. -/
import Derived.Test.YtjfklhfdonbpgaaGreatDoorM20
import Derived.Test.YtjfklhfdonbpgaaGreatDoorM00
import Derived.Test.YtjfklhfdonbpgaaGreatDoorM11
import Derived.BigRegion
namespace Go.Proofs.YtjfklhfdonbpgaaGreatDoor
open Go.RowKit

section
variable {w : World} {M : Nat → Lab} {tb : Nat} {nv uv : Value} {ps : List Pn} {us : List Value}
set_option maxHeartbeats 1000000 in
theorem kind_none (h : Lies w M tb nv uv ps us) {a : Int} (hb : hasB ps.length a = false) : Calls Tryz.prog 10 #[.pointer (some ⟨tb, 0, none⟩), .int .i64 a] w fun e w' => e = .returned (.int .i64 0) ∧ w' = w := by
  have H : Hid (Lies w M tb nv uv ps us) := h
  clear h
  go_enter Tryz.func10, Tryz.ntmps10
  go_wp2_with (go_at_call 45; refine (has_any H.out _).mono ?_; rintro e w' ⟨rfl, rfl⟩; rw [hb])
  go_ret
  exact ⟨rfl, rfl⟩
set_option maxHeartbeats 1000000 in
theorem tag_none (h : Lies w M tb nv uv ps us) {a : Int} (hb : hasB ps.length a = false) : Calls Tryz.prog 11 #[.pointer (some ⟨tb, 0, none⟩), .int .i64 a] w fun e w' => e = .returned (.string ⟨#[]⟩) ∧ w' = w := by
  have H : Hid (Lies w M tb nv uv ps us) := h
  clear h
  go_enter Tryz.func11, Tryz.ntmps11
  go_wp2_with (go_at_call 45; refine (has_any H.out _).mono ?_; rintro e w' ⟨rfl, rfl⟩; rw [hb])
  go_ret
  exact ⟨rfl, rfl⟩
set_option maxHeartbeats 1000000 in
theorem words_none (h : Lies w M tb nv uv ps us) {a : Int} (hb : hasB ps.length a = false) : Calls Tryz.prog 12 #[.pointer (some ⟨tb, 0, none⟩), .int .i64 a] w fun e w' => e = .returned (.string ⟨#[]⟩) ∧ w' = w := by
  have H : Hid (Lies w M tb nv uv ps us) := h
  clear h
  go_enter Tryz.func12, Tryz.ntmps12
  go_wp2_with (go_at_call 45; refine (has_any H.out _).mono ?_; rintro e w' ⟨rfl, rfl⟩; rw [hb])
  go_ret
  exact ⟨rfl, rfl⟩
set_option maxHeartbeats 1000000 in
theorem parent_none (h : Lies w M tb nv uv ps us) {a : Int} (hb : hasB ps.length a = false) : Calls Tryz.prog 13 #[.pointer (some ⟨tb, 0, none⟩), .int .i64 a] w fun e w' => e = .returned (.int .i64 (-1)) ∧ w' = w := by
  have H : Hid (Lies w M tb nv uv ps us) := h
  clear h
  go_enter Tryz.func13, Tryz.ntmps13
  go_wp2_with (go_at_call 45; refine (has_any H.out _).mono ?_; rintro e w' ⟨rfl, rfl⟩; rw [hb])
  go_ret
  exact ⟨rfl, rfl⟩
set_option maxHeartbeats 1000000 in
theorem kids_none (h : Lies w M tb nv uv ps us) {a : Int} (hb : hasB ps.length a = false) : Calls Tryz.prog 17 #[.pointer (some ⟨tb, 0, none⟩), .int .i64 a] w fun e w' => e = .returned (.slice none 0 0) ∧ w' = w := by
  have H : Hid (Lies w M tb nv uv ps us) := h
  clear h
  go_enter Tryz.func17, Tryz.ntmps17
  go_wp2_with (go_at_call 45; refine (has_any H.out _).mono ?_; rintro e w' ⟨rfl, rfl⟩; rw [hb])
  go_ret
  exact ⟨rfl, rfl⟩
set_option maxHeartbeats 1000000 in
theorem under_none (h : Lies w M tb nv uv ps us) {a : Int} (hb : hasB ps.length a = false) : Calls Tryz.prog 18 #[.pointer (some ⟨tb, 0, none⟩), .int .i64 a] w fun e w' => e = .returned (.slice none 0 0) ∧ w' = w := by
  have H : Hid (Lies w M tb nv uv ps us) := h
  clear h
  go_enter Tryz.func18, Tryz.ntmps18
  go_wp2_with (go_at_call 45; refine (has_any H.out _).mono ?_; rintro e w' ⟨rfl, rfl⟩; rw [hb])
  go_ret
  exact ⟨rfl, rfl⟩
set_option maxHeartbeats 1000000 in
theorem attrs_none (h : Lies w M tb nv uv ps us) {a : Int} (hb : hasB ps.length a = false) : Calls Tryz.prog 15 #[.pointer (some ⟨tb, 0, none⟩), .int .i64 a] w fun e w' => e = .returned (.slice none 0 0) ∧ w' = w := by
  have H : Hid (Lies w M tb nv uv ps us) := h
  clear h
  go_enter Tryz.func15, Tryz.ntmps15
  go_wp2_with (go_at_call 45; refine (has_any H.out _).mono ?_; rintro e w' ⟨rfl, rfl⟩; rw [hb])
  go_ret
  exact ⟨rfl, rfl⟩
set_option maxHeartbeats 1000000 in
theorem attr_none (h : Lies w M tb nv uv ps us) {a : Int} (hb : hasB ps.length a = false) (name : ByteArray) : Calls Tryz.prog 42 #[.pointer (some ⟨tb, 0, none⟩), .int .i64 a, .string name] w fun e w' => e = .returned (.tuple #[.string ⟨#[]⟩, .bool false]) ∧ Below w.heap.size w w' := by
  have H : Hid (Lies w M tb nv uv ps us) := h
  clear h
  go_enter Tryz.func42, Tryz.ntmps42
  go_wp2_with (go_at_call 45; refine (has_any H.out _).mono ?_; rintro e w' ⟨rfl, rfl⟩; rw [hb])
  go_ret2
  exact ⟨rfl, Below.refl _ _⟩

/-- what Attr answers -/
def attrV (l : List (ByteArray × ByteArray)) (name : ByteArray) : Value := match findA l name with
  | some k => .tuple #[.string (l.getD k (⟨#[]⟩, ⟨#[]⟩)).2, .bool true]
  | none => .tuple #[.string ⟨#[]⟩, .bool false]
set_option maxHeartbeats 4000000 in
set_option maxRecDepth 100000 in
theorem attr_some (h : Lies w M tb nv uv ps us) {i : Nat} {p : Pn} (hp : ps[i]? = some p) (ha : p.n.attrs.length ≤ 1000000) (name : ByteArray) : Calls Tryz.prog 42 #[.pointer (some ⟨tb, 0, none⟩), .int .i64 i, .string name] w fun e w' => e = .returned (attrV p.n.attrs name) ∧ Below w.heap.size w w' := by
  have hb := hasB_of hp
  obtain ⟨nb, cap, rfl, hc, hm, _, hnl, hil⟩ := h.form hp
  obtain ⟨xa, xc, hav, hx1, hx2⟩ := (h.node i p hp).1.shape
  have c0 := h.cell0
  have hlt : tb < w.heap.size := lt_of_heap h.head
  have c3 := (h.cellN rfl (f := 3) hp (by omega) rfl).1
  rw [hav] at c3
  have H : Hid (Lies w M tb (.slice (some ⟨nb, 0, none⟩) ps.length cap) uv ps us) := h
  have HP : Hid (ps[i]? = some p) := hp
  have i1 : (0 : Int) ≤ (i : Int) := by omega
  have i2 : (i : Int) < (ps.length : Int) := by omega
  unfold maxLen at hm hx2
  cases hf : findA p.n.attrs name with
  | none =>
    have hfi : findI p.n.attrs name = -1 := by simp only [findI, hf]
    have E : Hid (attrV p.n.attrs name = .tuple #[.string ⟨#[]⟩, .bool false]) := by show attrV _ _ = _; unfold attrV; rw [hf]
    clear h hp hf
    go_enter Tryz.func42, Tryz.ntmps42
    go_wp2_with (first
      | (go_at_call 45; refine (has_any H.out _).mono ?_; rintro e w' ⟨rfl, rfl⟩; rw [hb])
      | (go_at_call 61; refine (find_any H.out HP.out name).mono ?_; rintro e w1 ⟨rfl, hB1⟩; rw [hfi]; have HB1 : Hid _ := hB1; clear hB1))
    go_ret2
    exact ⟨by rw [E.out]; rfl, HB1.out⟩
  | some k =>
    have hfi : findI p.n.attrs name = k := by simp only [findI, hf]
    have hkl : k < p.n.attrs.length := by
      unfold findA at hf
      rw [List.findIdx?_eq_some_iff_getElem] at hf
      exact hf.1
    obtain ⟨x, hx⟩ : ∃ x, p.n.attrs[k]? = some x := ⟨_, List.getElem?_eq_getElem hkl⟩
    have E : Hid (attrV p.n.attrs name = .tuple #[.string x.2, .bool true]) := by
      show attrV _ _ = _
      unfold attrV
      rw [hf]
      simp only [List.getD_eq_getElem?_getD, hx, Option.getD_some]
    obtain ⟨ag, ac', hav', _, _, _, hagl⟩ := (h.node i p hp).1.form (by omega)
    have cx := ((h.node i p hp).1.cell hav' (attrCells_get p.n.attrs k x hx).2).1
    rw [hav] at hav'
    cases hav'
    have i3 : (0 : Int) ≤ (k : Int) := by omega
    have i4 : (k : Int) < (p.n.attrs.length : Int) := by omega
    clear h hp hf hx
    go_enter Tryz.func42, Tryz.ntmps42
    go_wp2_with (first
      | (go_at_call 45; refine (has_any H.out _).mono ?_; rintro e w' ⟨rfl, rfl⟩; rw [hb])
      | (go_at_call 61; refine (find_any H.out HP.out name).mono ?_; rintro e w1 ⟨rfl, hB1⟩; rw [hfi]
         have d3 := (hB1.cell (p := ⟨nb, i * 6 + 3, none⟩) hnl).trans c3
         have dx := (hB1.cell (p := ⟨ag, k * 2 + 1, none⟩) hagl).trans cx
         have HB1 : Hid _ := hB1
         clear hB1))
    all_goals first
      | (go_ret2; exact ⟨by rw [E.out]; rfl, HB1.out⟩)
      | (go_quiet (fail); go_wp2; go_ret2; exact ⟨by rw [E.out]; rfl, below_drewN HB1.out _⟩)
end
end Go.Proofs.YtjfklhfdonbpgaaGreatDoor

/- The document's answer: the order of two nodes. -/
namespace Go.Proofs.YtjfklhfdonbpgaaGreatDoor
open Go.RowKit

set_option maxHeartbeats 4000000 in
set_option maxRecDepth 100000 in
theorem rorder_none {w : World} {M : Nat → Lab} {tb : Nat} {nv uv : Value} {ps : List Pn} {us : List Value} (h : RLies w M tb nv uv ps us) {a b : Int} (hb : ¬ (hasB ps.length a = true ∧ hasB ps.length b = true)) :
    Calls Tryz.prog 41 #[.pointer (some ⟨tb, 0, none⟩), .int .i64 a, .int .i64 b] w fun e w' => e = .returned (.tuple #[.int .i64 0, .bool false]) ∧ w' = w := by
  have H : Hid (RLies w M tb nv uv ps us) := h
  clear h
  cases h1 : hasB ps.length a
  · clear hb
    cases h2 : hasB ps.length b
    all_goals
      go_enter Tryz.func41, Tryz.ntmps41
      go_wp2_with (go_at_call 43; refine (rhas_any H.out _).mono ?_; rintro e w' ⟨rfl, hw'⟩; subst hw'; simp only [h1, h2])
    all_goals go_ret2
    all_goals exact ⟨rfl, rfl⟩
  · have h2 : hasB ps.length b = false := by
      cases h2 : hasB ps.length b
      · rfl
      · exact absurd ⟨h1, h2⟩ hb
    clear hb
    go_enter Tryz.func41, Tryz.ntmps41
    go_wp2_with (go_at_call 43; refine (rhas_any H.out _).mono ?_; rintro e w' ⟨rfl, hw'⟩; subst hw'; simp only [h1, h2])
    all_goals go_ret2
    all_goals exact ⟨rfl, rfl⟩

/-- two numbers compared -/
def cmpN (i k : Int) : Int := if i < k then -1 else if k < i then 1 else 0

/-- the last place of a number in a list, 0 where it is in none -/
def lastAt (l : List Int) (x : Int) : Nat → Int
  | 0 => 0
  | n + 1 => if l[n]? = some x then (n : Int) else lastAt l x n
theorem lastAt_nodup {l : List Int} (hl : l.Nodup) {x : Int} {j : Nat} (hj : l[j]? = some x) : ∀ n, j < n → n ≤ l.length → lastAt l x n = j := by
  intro n
  induction n with
  | zero => intro h; omega
  | succ n ih =>
    intro h1 h2
    by_cases e : l[n]? = some x
    · simp only [lastAt, if_pos e]
      have hn : n < l.length := by omega
      have hjl := (List.getElem?_eq_some_iff.1 hj).1
      have : l[n] = l[j] := by
        rw [(List.getElem?_eq_some_iff.1 e).2, (List.getElem?_eq_some_iff.1 hj).2]
      rcases Nat.lt_trichotomy n j with h | h | h
      · exact absurd this (List.pairwise_iff_getElem.1 hl n j hn hjl h)
      · rw [h]
      · exact absurd this.symm (List.pairwise_iff_getElem.1 hl j n hjl hn h)
    · simp only [lastAt, if_neg e]
      have : j ≠ n := fun e' => e (e' ▸ hj)
      exact ih (by omega) (by omega)

set_option maxHeartbeats 4000000 in
set_option maxRecDepth 100000 in
theorem rorder_apart {w : World} {M : Nat → Lab} {tb : Nat} {nv uv : Value} {ps : List Pn} {us : List Value} (h : RLies w M tb nv uv ps us) {a b ra rb : Nat} {la lb : List Nat} (ha : Up (nodesOf ps) a la) (hb : Up (nodesOf ps) b lb) (hra : la.getLast? = some ra) (hrb : lb.getLast? = some rb) (hne : ra ≠ rb) (hal : a < ps.length) (hbl : b < ps.length) :
    Calls Tryz.prog 41 #[.pointer (some ⟨tb, 0, none⟩), .int .i64 a, .int .i64 b] w fun e w' => e = .returned (.tuple #[.int .i64 0, .bool false]) ∧ w' = w := by
  have h1 : hasB ps.length a = true := hasB_lt hal
  have h2 : hasB ps.length b = true := hasB_lt hbl
  have H : Hid (RLies w M tb nv uv ps us) := h
  have HA : Hid (Up (nodesOf ps) a la ∧ la.getLast? = some ra) := ⟨ha, hra⟩
  have HB : Hid (Up (nodesOf ps) b lb ∧ lb.getLast? = some rb) := ⟨hb, hrb⟩
  have hn : ((ra : Int) != (rb : Int)) = true := by simp; omega
  have hn' : ((ra : Int) == (rb : Int)) = false := by simp; omega
  clear h ha hb hra hrb
  by_cases hab : a = b
  · subst hab
    have e := HA.out.1.det HB.out.1
    have := HA.out.2.symm.trans (e ▸ HB.out.2)
    exact absurd (Option.some.inj this) hne
  have hab' : ¬ ((a : Int) = (b : Int)) := by omega
  go_enter Tryz.func41, Tryz.ntmps41
  go_wp2_with (first
    | (go_at_call 43; refine (rhas_any H.out _).mono ?_; rintro e w' ⟨rfl, hw'⟩; subst hw'; simp only [h1, h2])
    | (go_at_call 73; refine (root_any H.out HA.out.1 HA.out.2).mono ?_; rintro e w' ⟨rfl, hw'⟩; subst hw'; clear HA)
    | (go_at_call 73; refine (root_any H.out HB.out.1 HB.out.2).mono ?_; rintro e w' ⟨rfl, hw'⟩; subst hw'))
  all_goals go_ret2
  all_goals exact ⟨rfl, rfl⟩

set_option maxHeartbeats 4000000 in
set_option maxRecDepth 100000 in
theorem rorder_good {w : World} {M : Nat → Lab} {tb : Nat} {nv uv : Value} {ps : List Pn} {us : List Value} (h : RLies w M tb nv uv ps us) (hW : WF (nodesOf ps)) {a b r : Nat} {la lb : List Nat} (ha : Up (nodesOf ps) a la) (hb : Up (nodesOf ps) b lb) (hra : la.getLast? = some r) (hrb : lb.getLast? = some r) (hal : a < ps.length) (hbl : b < ps.length) (hrl : r < ps.length) :
    Calls Tryz.prog 41 #[.pointer (some ⟨tb, 0, none⟩), .int .i64 a, .int .i64 b] w fun e w' => e = .returned (.tuple #[.int .i64 (cmpN (lastAt (und (nodesOf ps) (ps.length + 1) r) a (und (nodesOf ps) (ps.length + 1) r).length) (lastAt (und (nodesOf ps) (ps.length + 1) r) b (und (nodesOf ps) (ps.length + 1) r).length)), .bool true]) ∧ Below w.heap.size w w' := by
  have h1 : hasB ps.length a = true := hasB_lt hal
  have h2 : hasB ps.length b = true := hasB_lt hbl
  have hun : (und (nodesOf ps) (ps.length + 1) r).length ≤ 400 := Nat.le_trans (und_short hW _ r (by simpa [nodesOf] using hrl)) hW.len
  have HU : Hid (∀ w', Below w.heap.size w w' → Calls Tryz.prog 19 #[.pointer (some ⟨tb, 0, none⟩), .int .i64 r] w' (UndPost w' (und (nodesOf ps) (ps.length + 1) r))) := fun w' hB => runder_any h hW (ps.length + 1) r hrl (by have := rkU_le (nodesOf ps) r; simp [nodesOf] at this; simp [nodesOf]; omega) w' r rfl hB (by omega)
  have H : Hid (RLies w M tb nv uv ps us) := h
  have HA : Hid (Up (nodesOf ps) a la ∧ la.getLast? = some r) := ⟨ha, hra⟩
  have HB : Hid (Up (nodesOf ps) b lb ∧ lb.getLast? = some r) := ⟨hb, hrb⟩
  generalize und (nodesOf ps) (ps.length + 1) r = l at *
  clear h ha hb hra hrb hW
  go_enter Tryz.func41, Tryz.ntmps41
  go_wp2_with (first
    | (go_at_call 43; refine (rhas_any H.out _).mono ?_; rintro e w' ⟨rfl, hw'⟩; subst hw'; simp only [h1, h2])
    | (go_at_call 73; refine (root_any H.out HA.out.1 HA.out.2).mono ?_; rintro e w' ⟨rfl, hw'⟩; subst hw'; clear HA)
    | (go_at_call 73; refine (root_any H.out HB.out.1 HB.out.2).mono ?_; rintro e w' ⟨rfl, hw'⟩; subst hw')
    | (go_at_call 19; refine (HU.out _ (Below.refl _ _)).mono ?_; rintro e w2 ⟨v2, rfl, ho2, hB2⟩
       obtain ⟨a2, e2, hv2⟩ := own_shape ho2
       subst hv2
       have hli := own_ints ho2
       have H2 : Hid _ := hB2
       clear ho2 hB2))
  have HC : Hid (∀ (k : Nat) (y : Int), l[k]? = some y → ∃ g, a2 = some ⟨g, 0, none⟩ ∧ w2.cell? ⟨g, k, none⟩ = some (.int .i64 y)) := by
    obtain ⟨a', c', e, hcl⟩ := hli
    cases e
    exact hcl
  clear hli
  go_loop [12, 13, 14] (fun iv kv nv => ∃ j : Nat, j ≤ l.length ∧ nv = .int .i64 j ∧ iv = .int .i64 (lastAt l a j) ∧ kv = .int .i64 (lastAt l b j)) (fun _ _ nv => l.length - (intOf nv).toNat)
  case atStart => exact ⟨0, by omega, rfl, rfl, rfl⟩
  case round =>
    obtain ⟨j, hj, rfl, rfl, rfl⟩ := hrel
    by_cases hjl : j < l.length
    · obtain ⟨y, hy⟩ : ∃ y, l[j]? = some y := ⟨_, List.getElem?_eq_getElem hjl⟩
      obtain ⟨g, rfl, cy⟩ := HC.out j y hy
      have ea : Hid (lastAt l a (j + 1) = if y = a then (j : Int) else lastAt l a j) := by
        show lastAt l a (j + 1) = _
        simp only [lastAt, hy, Option.some.injEq]
      have eb : Hid (lastAt l b (j + 1) = if y = b then (j : Int) else lastAt l b j) := by
        show lastAt l b (j + 1) = _
        simp only [lastAt, hy, Option.some.injEq]
      clear hy
      by_cases ya : y = (a : Int) <;> by_cases yb : y = (b : Int)
      all_goals
        first
          | (have yab : (y == (a : Int)) = true := by simpa using ya)
          | (have yab : (y == (a : Int)) = false := by simpa using ya)
        first
          | (have ybb : (y == (b : Int)) = true := by simpa using yb)
          | (have ybb : (y == (b : Int)) = false := by simpa using yb)
        have EA : Hid _ := (ea.out.trans (by first | rw [if_pos ya] | rw [if_neg ya]) : lastAt l a (j + 1) = _)
        have EB : Hid _ := (eb.out.trans (by first | rw [if_pos yb] | rw [if_neg yb]) : lastAt l b (j + 1) = _)
        clear ya yb ea eb
        go_wp2
        go_round
        case rel => exact ⟨j + 1, by omega, by go_num, by rw [EA.out], by rw [EB.out]⟩
        case measure => simp [intOf]; omega
    · obtain rfl : j = l.length := by omega
      have hc : Hid (cmpN (lastAt l a l.length) (lastAt l b l.length) = if lastAt l a l.length < lastAt l b l.length then -1 else if lastAt l b l.length < lastAt l a l.length then 1 else 0) := rfl
      rcases Int.lt_trichotomy (lastAt l a l.length) (lastAt l b l.length) with h | h | h
      · have e : Hid (cmpN (lastAt l a l.length) (lastAt l b l.length) = -1) := by show _ = _; rw [hc.out, if_pos h]
        go_wp2
        go_ret2
        exact ⟨(by first | (rw [e.out]; done) | (rw [e.out]; rfl)), H2.out⟩
      · have e : Hid (cmpN (lastAt l a l.length) (lastAt l b l.length) = 0) := by show _ = _; rw [hc.out, if_neg (by omega), if_neg (by omega)]
        have h1' : ¬ lastAt l a l.length < lastAt l b l.length := by omega
        have h2' : ¬ lastAt l b l.length < lastAt l a l.length := by omega
        clear h
        go_wp2
        go_ret2
        exact ⟨(by first | (rw [e.out]; done) | (rw [e.out]; rfl)), H2.out⟩
      · have e : Hid (cmpN (lastAt l a l.length) (lastAt l b l.length) = 1) := by show _ = _; rw [hc.out, if_neg (by omega), if_pos h]
        have h' : ¬ lastAt l a l.length < lastAt l b l.length := by omega
        go_wp2
        go_ret2
        exact ⟨(by first | (rw [e.out]; done) | (rw [e.out]; rfl)), H2.out⟩
end Go.Proofs.YtjfklhfdonbpgaaGreatDoor

/- The order of two ways is the order of places among all that lies in a root. -/
namespace Go.Proofs.YtjfklhfdonbpgaaGreatDoor

/-- a way down from a node -/
inductive Dn (ns : List Nd) : Nat → List Int → Nat → Prop where
  | here (i : Nat) : Dn ns i [] i
  | down {i x a k : Nat} {n : Nd} {s : List Int} (hi : ns[i]? = some n) (hk : n.kids[k]? = some (x : Int)) (h : Dn ns x s a) : Dn ns i ((k : Int) :: s) a
theorem Dn.snoc {ns : List Nd} {r p i k : Nat} {s : List Int} {m : Nd} (h : Dn ns r s p) (hm : ns[p]? = some m) (hk : m.kids[k]? = some (i : Int)) : Dn ns r (s ++ [(k : Int)]) i := by
  induction h with
  | here => exact .down hm hk (.here i)
  | down hi hk' _ ih => exact .down hi hk' (ih hm)
theorem Way.dn {ns : List Nd} {i r : Nat} {s : List Int} (h : Way ns i s r) : Dn ns r s i := by
  induction h with
  | root => exact .here _
  | down _ _ hm hk _ ih => exact ih.snoc hm (idx_get hk)

theorem flat_at {l : List Int} {g : Int → List Int} {k j : Nat} {x y : Int} (hk : l[k]? = some x) (hj : (g x)[j]? = some y) : (l.flatMap g)[((l.take k).flatMap g).length + j]? = some y := by
  induction l generalizing k with
  | nil => simp at hk
  | cons z l ih =>
    cases k with
    | zero =>
      simp at hk
      subst hk
      rw [List.flatMap_cons, List.getElem?_append_left (by simp; exact (List.getElem?_eq_some_iff.1 hj).1)]
      simpa using hj
    | succ k =>
      rw [List.getElem?_cons_succ] at hk
      rw [List.flatMap_cons, List.take_succ_cons, List.flatMap_cons, List.length_append, Nat.add_assoc, List.getElem?_append_right (by omega), Nat.add_sub_cancel_left]
      exact ih hk
theorem flat_lt {l : List Int} {g : Int → List Int} {k m j : Nat} {x : Int} (hk : l[k]? = some x) (hkm : k < m) (hj : j < (g x).length) : ((l.take k).flatMap g).length + j < ((l.take m).flatMap g).length := by
  induction l generalizing k m with
  | nil => simp at hk
  | cons z l ih =>
    obtain ⟨m, rfl⟩ : ∃ m', m = m' + 1 := ⟨m - 1, by omega⟩
    cases k with
    | zero =>
      simp at hk
      subst hk
      rw [List.take_succ_cons, List.flatMap_cons, List.length_append]
      simp
      omega
    | succ k =>
      rw [List.getElem?_cons_succ] at hk
      rw [List.take_succ_cons, List.take_succ_cons, List.flatMap_cons, List.flatMap_cons, List.length_append, List.length_append]
      have := ih hk (by omega : k < m)
      omega

theorem cmpN_add (a b c : Nat) : cmpN ((c + a : Nat) : Int) ((c + b : Nat) : Int) = cmpN (a : Int) (b : Int) := by
  unfold cmpN
  have e1 : (((c + a : Nat) : Int) < ((c + b : Nat) : Int)) ↔ ((a : Int) < (b : Int)) := by omega
  have e2 : (((c + b : Nat) : Int) < ((c + a : Nat) : Int)) ↔ ((b : Int) < (a : Int)) := by omega
  simp only [e1, e2]

theorem und_order {ns : List Nd} (hs : WF ns) : ∀ (f i : Nat), i < ns.length → rkU ns i < f → ∀ (s t : List Int) (a b : Nat), Dn ns i s a → Dn ns i t b → ∃ ja jb : Nat, (und ns f i)[ja]? = some (a : Int) ∧ (und ns f i)[jb]? = some (b : Int) ∧ cmpN (ja : Int) (jb : Int) = cmpL s t := by
  intro f
  induction f with
  | zero => intro i _ h; omega
  | succ f ih =>
    intro i hi hr s t a b hA hB
    have hg : ns[i]? = some ns[i] := List.getElem?_eq_getElem hi
    rw [und_succ hg]
    -- where a node below lies
    have below : ∀ {k x c : Nat} {s : List Int} {n : Nd}, ns[i]? = some n → n.kids[k]? = some (x : Int) → Dn ns x s c → x < ns.length ∧ rkU ns x < f ∧ n = ns[i] := by
      intro k x c s n h1 h2 _
      obtain rfl := Option.some.inj (h1.symm.trans hg)
      obtain ⟨b', m, e1, e2, _, _, e3⟩ := hs.rank hg (List.mem_of_getElem? h2)
      have e := Int.ofNat.inj e1
      subst e
      exact ⟨e2, by omega, rfl⟩
    cases hA with
    | here =>
      cases hB with
      | here => exact ⟨0, 0, by simp, by simp, rfl⟩
      | @down _ x _ k n t hn hk hd =>
        obtain ⟨p1, p2, rfl⟩ := below hn hk hd
        obtain ⟨jb, _, q1, _, _⟩ := ih x p1 p2 t t b b hd hd
        have := flat_at (g := fun x => und ns f x.toNat) hk (by simpa using q1)
        refine ⟨0, _ + 1, by simp, by rw [List.getElem?_cons_succ]; exact this, ?_⟩
        unfold cmpN
        rw [if_pos (by omega)]
        rfl
    | @down _ x _ k n s hn hk hd =>
      obtain ⟨p1, p2, rfl⟩ := below hn hk hd
      cases hB with
      | here =>
        obtain ⟨ja, _, q1, _, _⟩ := ih x p1 p2 s s a a hd hd
        have := flat_at (g := fun x => und ns f x.toNat) hk (by simpa using q1)
        refine ⟨_ + 1, 0, by rw [List.getElem?_cons_succ]; exact this, by simp, ?_⟩
        unfold cmpN
        rw [if_neg (by omega), if_pos (by omega)]
        rfl
      | @down _ y _ m n' t hn' hm he =>
        obtain ⟨r1, r2, rfl⟩ := below hn' hm he
        rcases Nat.lt_trichotomy k m with h | h | h
        · obtain ⟨ja, _, q1, _, _⟩ := ih x p1 p2 s s a a hd hd
          obtain ⟨jb, _, u1, _, _⟩ := ih y r1 r2 t t b b he he
          have e1 := flat_at (g := fun x => und ns f x.toNat) hk (by simpa using q1)
          have e2 := flat_at (g := fun x => und ns f x.toNat) hm (by simpa using u1)
          have hlt := flat_lt (g := fun x => und ns f x.toNat) hk h (j := ja) (by have := (List.getElem?_eq_some_iff.1 q1).1; simpa using this)
          refine ⟨_ + 1, _ + 1, by rw [List.getElem?_cons_succ]; exact e1, by rw [List.getElem?_cons_succ]; exact e2, ?_⟩
          unfold cmpN
          rw [if_pos (by omega)]
          simp only [cmpL]
          rw [if_pos (by omega)]
        · subst h
          have exy := Int.ofNat.inj (Option.some.inj (hk.symm.trans hm))
          subst exy
          obtain ⟨ja, jb, q1, q2, q3⟩ := ih x p1 p2 s t a b hd he
          have e1 := flat_at (g := fun x => und ns f x.toNat) hk (by simpa using q1)
          have e2 := flat_at (g := fun x => und ns f x.toNat) hk (by simpa using q2)
          refine ⟨_ + 1, _ + 1, by rw [List.getElem?_cons_succ]; exact e1, by rw [List.getElem?_cons_succ]; exact e2, ?_⟩
          simp only [cmpL]
          rw [if_neg (by omega), if_neg (by omega), ← q3, ← cmpN_add ja jb (((ns[i]).kids.take k).flatMap fun x => und ns f x.toNat).length]
          have := cmpN_add ((((ns[i]).kids.take k).flatMap fun x => und ns f x.toNat).length + ja) ((((ns[i]).kids.take k).flatMap fun x => und ns f x.toNat).length + jb) 1
          rw [← this, Nat.add_comm 1, Nat.add_comm 1]
        · obtain ⟨ja, _, q1, _, _⟩ := ih x p1 p2 s s a a hd hd
          obtain ⟨jb, _, u1, _, _⟩ := ih y r1 r2 t t b b he he
          have e1 := flat_at (g := fun x => und ns f x.toNat) hk (by simpa using q1)
          have e2 := flat_at (g := fun x => und ns f x.toNat) hm (by simpa using u1)
          have hlt := flat_lt (g := fun x => und ns f x.toNat) hm h (j := jb) (by have := (List.getElem?_eq_some_iff.1 u1).1; simpa using this)
          refine ⟨_ + 1, _ + 1, by rw [List.getElem?_cons_succ]; exact e1, by rw [List.getElem?_cons_succ]; exact e2, ?_⟩
          unfold cmpN
          rw [if_neg (by omega), if_pos (by omega)]
          simp only [cmpL]
          rw [if_neg (by omega), if_pos (by omega)]

/-- every node has a way -/
theorem WF.way {ns : List Nd} (hs : WF ns) {i : Nat} {l : List Nat} (h : Up ns i l) : ∃ s r, Way ns i s r ∧ l.getLast? = some r ∧ s.length < l.length := by
  induction h with
  | root h hp => exact ⟨[], _, .root h hp, rfl, by simp⟩
  | @up i p l n h hp hu ih =>
    obtain ⟨s, r, h1, h2, h3⟩ := ih
    rcases hs.par i n h with e | ⟨q, m, e1, e2, e3⟩
    · omega
    · have e := Int.ofNat.inj (hp.symm.trans e1)
      subst e
      refine ⟨_, r, .down h hp e2 e3 h1, ?_, by simp; omega⟩
      cases l with
      | nil => simp at h3
      | cons z l => rw [List.getLast?_cons_cons]; exact h2
theorem order_eq {ns : List Nd} (hs : WF ns) {a b r : Nat} {s t : List Int} (hA : Way ns a s r) (hB : Way ns b t r) : cmpN (lastAt (und ns (ns.length + 1) r) a (und ns (ns.length + 1) r).length) (lastAt (und ns (ns.length + 1) r) b (und ns (ns.length + 1) r).length) = cmpL s t := by
  have hr := hA.lt.2
  obtain ⟨ja, jb, h1, h2, h3⟩ := und_order hs (ns.length + 1) r hr (by have := rkU_le ns r; omega) s t a b hA.dn hB.dn
  have hnd := und_nodup hs (ns.length + 1) r hr
  rw [lastAt_nodup hnd h1 _ (List.getElem?_eq_some_iff.1 h1).1 (Nat.le_refl _), lastAt_nodup hnd h2 _ (List.getElem?_eq_some_iff.1 h2).1 (Nat.le_refl _)]
  exact h3
end Go.Proofs.YtjfklhfdonbpgaaGreatDoor

/- Ways from roots down to nodes, and which of two stands first. -/
namespace Go.Proofs.YtjfklhfdonbpgaaGreatDoor
open Go.RowKit


theorem isNaN_any (x : Int) (w : World) : Calls Tryz.prog 101 #[.int .i64 x] w fun e w' => e = .returned (.bool false) ∧ w' = w := by
  go_enter Tryz.func101, Tryz.ntmps101
  go_wp2
  all_goals go_ret
  all_goals exact ⟨ret_bool (by simp), rfl⟩

def cmpI (x y : Int) : Int := if x < y then -1 else if y < x then 1 else 0
theorem cmp_any (x y : Int) (w : World) : Calls Tryz.prog 90 #[.int .i64 x, .int .i64 y] w fun e w' => e = .returned (.int .i64 (cmpI x y)) ∧ w' = w := by
  go_enter Tryz.func90, Tryz.ntmps90
  go_wp2_with (go_at_call 101; refine (isNaN_any _ _).mono ?_; rintro e w' ⟨rfl, rfl⟩)
  all_goals go_ret
  all_goals refine ⟨ret_int ?_, rfl⟩
  all_goals (unfold cmpI; repeat' split)
  all_goals first | rfl | omega


/-- the rest of two lists, behind so many that are alike -/
theorem cmpL_drop (s t : List Int) (k : Nat) (x y : Int) (hs : s[k]? = some x) (ht : t[k]? = some y) : cmpL (s.drop k) (t.drop k) = if x < y then -1 else if y < x then 1 else cmpL (s.drop (k + 1)) (t.drop (k + 1)) := by
  obtain ⟨hks, rfl⟩ := List.getElem?_eq_some_iff.1 hs
  obtain ⟨hkt, rfl⟩ := List.getElem?_eq_some_iff.1 ht
  rw [List.drop_eq_getElem_cons hks, List.drop_eq_getElem_cons hkt]
  rfl

set_option maxHeartbeats 4000000 in
set_option maxRecDepth 100000 in
theorem compare_any {w : World} {A B : Nat} {v u : Value} {n m : Nat} {s t : List Int} (hv : w.ownsRow A 3 1 v n (s.map intV)) (hu : w.ownsRow B 3 1 u m (t.map intV)) :
    Calls Tryz.prog 72 #[v, u] w fun e w' => e = .returned (.int .i64 (cmpL s t)) ∧ w' = w := by
  obtain ⟨rfl, a, ca, rfl, h1, h2, hcv⟩ := own_cell hv
  obtain ⟨rfl, b, cb, rfl, h3, h4, hcu⟩ := own_cell hu
  have HV : Hid (∀ k y, s[k]? = some y → ∃ g, a = some ⟨g, 0, none⟩ ∧ w.cell? ⟨g, k, none⟩ = some (.int .i64 y) ∧ w.frozen? ⟨g, k, none⟩ = false) := hcv
  have HU : Hid (∀ k y, t[k]? = some y → ∃ g, b = some ⟨g, 0, none⟩ ∧ w.cell? ⟨g, k, none⟩ = some (.int .i64 y) ∧ w.frozen? ⟨g, k, none⟩ = false) := hcu
  unfold maxLen at h2 h4
  clear hcv hcu hv hu
  go_enter Tryz.func72, Tryz.ntmps72
  go_wp2
  go_loop [11] (fun i => ∃ k : Nat, k ≤ s.length ∧ k ≤ t.length ∧ i = .int .i64 k ∧ Hid (cmpL (s.drop k) (t.drop k) = cmpL s t)) (fun i => s.length - (intOf i).toNat)
  case atStart => exact ⟨0, by omega, by omega, rfl, (rfl : cmpL (s.drop 0) (t.drop 0) = cmpL s t)⟩
  case round =>
    obtain ⟨k, hk, hkt, rfl, hrest⟩ := hrel
    by_cases hks : k < s.length
    · have hx : s[k]? = some s[k] := List.getElem?_eq_getElem hks
      obtain ⟨g, rfl, cg, _⟩ := HV.out k _ hx
      by_cases hkt2 : k < t.length
      · have hy : t[k]? = some t[k] := List.getElem?_eq_getElem hkt2
        obtain ⟨g2, rfl, cg2, _⟩ := HU.out k _ hy
        have hst : Hid _ := cmpL_drop s t k _ _ hx hy
        clear hx hy
        generalize s[k] = x at *
        generalize t[k] = y at *
        by_cases hxy : cmpI x y = 0
        · have HC : Hid (cmpL (s.drop (k + 1)) (t.drop (k + 1)) = cmpL s t) := by
            have e1 := hst.out
            have e2 := hrest.out
            rw [e1] at e2
            unfold cmpI at hxy
            split at hxy
            · omega
            · split at hxy
              · omega
              · rw [if_neg (by assumption), if_neg (by assumption)] at e2
                exact e2
          go_wp2_with (go_at_call 90; refine (cmp_any _ _ _).mono ?_; rintro e w' ⟨rfl, rfl⟩; rw [hxy])
          go_round
          case rel => exact ⟨k + 1, by omega, by omega, by go_num, HC⟩
          case measure => simp [intOf]; omega
        · have HC : Hid (cmpI x y = cmpL s t) := by
            have e1 := hst.out
            have e2 := hrest.out
            rw [e1] at e2
            show cmpI x y = cmpL s t
            rw [← e2]
            unfold cmpI at hxy ⊢
            split
            · rfl
            · split
              · rfl
              · rename_i q1 q2
                rw [if_neg q1, if_neg q2] at hxy
                omega
          have hb : (cmpI x y == 0) = false := by simpa using hxy
          go_wp2_with (go_at_call 90; refine (cmp_any _ _ _).mono ?_; rintro e w' ⟨rfl, rfl⟩)
          all_goals go_ret
          all_goals exact ⟨ret_int HC.out, rfl⟩
      · have HC : Hid (1 = cmpL s t) := by
          have e2 := hrest.out
          rw [List.drop_eq_getElem_cons hks, List.drop_of_length_le (l := t) (by omega)] at e2
          exact e2
        go_wp2
        all_goals go_ret
        all_goals exact ⟨ret_int HC.out, rfl⟩
    · by_cases hkt2 : k < t.length
      · have HC : Hid (-1 = cmpL s t) := by
          have e2 := hrest.out
          rw [List.drop_eq_getElem_cons hkt2, List.drop_of_length_le (l := s) (by omega)] at e2
          exact e2
        have hlt : s.length < t.length := by omega
        go_wp2
        all_goals go_ret
        all_goals exact ⟨ret_int HC.out, rfl⟩
      · have HC : Hid (0 = cmpL s t) := by
          have e2 := hrest.out
          rw [List.drop_of_length_le (l := t) (by omega), List.drop_of_length_le (l := s) (by omega)] at e2
          exact e2
        have hlt : ¬ s.length < t.length := by omega
        go_wp2
        all_goals go_ret
        all_goals exact ⟨ret_int HC.out, rfl⟩

/-- a list whose two ends have been exchanged, so many times -/
def revTo (xs : List Int) (k : Nat) : List Int := (List.range xs.length).map fun i => if i < k ∨ xs.length ≤ i + k then xs.getD (xs.length - 1 - i) 0 else xs.getD i 0
theorem revTo_length (xs : List Int) (k : Nat) : (revTo xs k).length = xs.length := by simp [revTo]
theorem revTo_get (xs : List Int) (k i : Nat) (h : i < xs.length) : (revTo xs k)[i]? = some (if i < k ∨ xs.length ≤ i + k then xs.getD (xs.length - 1 - i) 0 else xs.getD i 0) := by
  simp [revTo, List.getElem?_range h]
theorem revTo_zero (xs : List Int) : revTo xs 0 = xs := by
  apply List.ext_getElem?
  intro i
  by_cases h : i < xs.length
  · rw [revTo_get xs 0 i h, if_neg (by omega), List.getD_eq_getElem?_getD, List.getElem?_eq_getElem h]
    rfl
  · rw [List.getElem?_eq_none (by rw [revTo_length]; omega), List.getElem?_eq_none (by omega)]
theorem revTo_done (xs : List Int) (k : Nat) (hk : xs.length ≤ 2 * k + 1) : revTo xs k = xs.reverse := by
  apply List.ext_getElem?
  intro i
  by_cases h : i < xs.length
  · rw [revTo_get xs k i h, List.getElem?_reverse h, List.getElem?_eq_getElem (by omega)]
    split
    · rw [List.getD_eq_getElem?_getD, List.getElem?_eq_getElem (by omega)]
      rfl
    · rw [List.getD_eq_getElem?_getD, List.getElem?_eq_getElem h]
      have e : i = xs.length - 1 - i := by omega
      simp only [Option.getD_some]
      congr 2
  · rw [List.getElem?_eq_none (by rw [revTo_length]; omega), List.getElem?_eq_none (by simp; omega)]
theorem revTo_step (xs : List Int) (k : Nat) (hk : 2 * k + 1 < xs.length) : ((revTo xs k).set k (xs.getD (xs.length - 1 - k) 0)).set (xs.length - 1 - k) (xs.getD k 0) = revTo xs (k + 1) := by
  apply List.ext_getElem?
  intro i
  by_cases h : i < xs.length
  · rw [revTo_get xs (k + 1) i h]
    by_cases h1 : i = xs.length - 1 - k
    · subst h1
      rw [List.getElem?_set_self (by rw [List.length_set, revTo_length]; omega), if_pos (by omega)]
      congr 2
      omega
    · rw [List.getElem?_set_ne (by omega)]
      by_cases h2 : i = k
      · subst h2
        rw [List.getElem?_set_self (by rw [revTo_length]; omega), if_pos (by omega)]
      · rw [List.getElem?_set_ne (by omega), revTo_get xs k i h]
        by_cases h3 : i < k ∨ xs.length ≤ i + k
        · rw [if_pos h3, if_pos (by omega)]
        · rw [if_neg h3, if_neg (by omega)]
  · rw [List.getElem?_eq_none (by rw [List.length_set, List.length_set, revTo_length]; omega), List.getElem?_eq_none (by rw [revTo_length]; omega)]

/-- a store into a row of one's own -/
theorem own_set {w : World} {B : Nat} {g n c : Nat} {xs : List Int} (h : w.ownsRow B 3 1 (.slice (some ⟨g, 0, none⟩) n c) n (xs.map intV)) (j : Nat) (x : Int) :
    (w.setCell ⟨g, j, none⟩ (.int .i64 x)).ownsRow B 3 1 (.slice (some ⟨g, 0, none⟩) n c) n ((xs.set j x).map intV) := by
  refine ⟨by have := h.1; simpa using this, ?_⟩
  rcases h.2 with ⟨h0, _⟩ | ⟨g', cap, cur, hv, hb, hg, h1, h2, h3, h4⟩
  · cases h0
  · cases hv
    refine .inr ⟨g, _, _, rfl, hb, setCell_heap w g j _ cur 3 (0, 0) hg, h1, h2, by rw [Array.size_setIfInBounds]; exact h3, ?_⟩
    rw [Array.toList_setIfInBounds, List.take_set, h4, List.map_set]
    rfl

set_option maxHeartbeats 4000000 in
set_option maxRecDepth 100000 in
theorem reverse_any {w : World} {B : Nat} {v : Value} {n : Nat} {xs : List Int} (h : w.ownsRow B 3 1 v n (xs.map intV)) (hn : n ≤ 1099511627776) :
    Calls Tryz.prog 89 #[v] w fun e w' => e = .returned (.tuple #[]) ∧ w'.ownsRow B 3 1 v n (xs.reverse.map intV) ∧ Below B w w' := by
  obtain ⟨rfl, a, ca, rfl, h1, h2, hcv⟩ := own_cell h
  have hbg : ∀ g, a = some ⟨g, 0, none⟩ → B ≤ g := fun g hg => (h.lt g (by subst hg; rfl)).1
  unfold maxLen at h2
  have H : Hid (w.ownsRow B 3 1 (.slice a xs.length ca) xs.length (xs.map intV)) := h
  clear hcv h
  go_enter Tryz.func89, Tryz.ntmps89
  go_wp2
  go_loopw [2, 3] (fun i j wr => ∃ k : Nat, 2 * k ≤ xs.length + 1 ∧ i = .int .i64 k ∧ j = .int .i64 ((xs.length : Int) - 1 - k) ∧ Hid (wr.ownsRow B 3 1 (.slice a xs.length ca) xs.length ((revTo xs k).map intV)) ∧ Hid (Below B w wr)) (fun i _ _ => xs.length - (intOf i).toNat)
  case atStart => exact ⟨0, by omega, rfl, by simp, (by rw [revTo_zero]; exact H.out : w.ownsRow B 3 1 (.slice a xs.length ca) xs.length ((revTo xs 0).map intV)), Below.refl _ _⟩
  case round =>
    obtain ⟨k, hk, rfl, rfl, hown, hbel⟩ := hrel
    by_cases hlt : 2 * k + 1 < xs.length
    · obtain ⟨_, a', c', hv', _, _, hcell⟩ := own_cell hown.out
      cases hv'
      obtain ⟨g, rfl, ck, fk⟩ := hcell k _ (revTo_get xs k k (by omega))
      obtain ⟨g', hg', cm, fm⟩ := hcell (xs.length - 1 - k) _ (revTo_get xs k (xs.length - 1 - k) (by omega))
      cases hg'
      rw [if_neg (by omega)] at ck cm
      have hj : ((xs.length : Int) - 1 - k) = ((xs.length - 1 - k : Nat) : Int) := by omega
      have hne : k ≠ xs.length - 1 - k := by omega
      have hkx : xs.length - 1 - k < xs.length := by omega
      have s1 := own_set hown.out k (xs.getD (xs.length - 1 - k) 0)
      have s2 := own_set s1 (xs.length - 1 - k) (xs.getD k 0)
      have hx2 : (wr.setCell ⟨g, k, none⟩ (.int .i64 (xs.getD (xs.length - 1 - k) 0))).cell? ⟨g, xs.length - 1 - k, none⟩ = some (.int .i64 (xs.getD (xs.length - 1 - k) 0)) ∧ (wr.setCell ⟨g, k, none⟩ (.int .i64 (xs.getD (xs.length - 1 - k) 0))).frozen? ⟨g, xs.length - 1 - k, none⟩ = false := by
        obtain ⟨_, a2, c2, hv2, _, _, hcell2⟩ := own_cell s1
        cases hv2
        obtain ⟨g2, hg2, q1, q2⟩ := hcell2 (xs.length - 1 - k) (xs.getD (xs.length - 1 - k) 0) (by rw [List.getElem?_set_ne hne, revTo_get xs k _ (by omega), if_neg (by omega)])
        cases hg2
        exact ⟨q1, q2⟩
      obtain ⟨hx2, hx3⟩ := hx2
      have hkr : k < xs.length - 1 - k := by omega
      rw [revTo_step xs k hlt] at s2
      have S2 : Hid _ := s2
      rw [hj]
      have HJ : Hid ((xs.length : Int) - 1 - (k + 1 : Nat) = ((xs.length - 1 - k : Nat) : Int) - 1) := by show _ = _; omega
      clear s1 s2 hj hcell
      generalize xs.length - 1 - k = r at *
      generalize xs.getD k 0 = x at *
      generalize xs.getD r 0 = y at *
      have i1 : (k : Int) < (r : Int) := by omega
      have i2 : (r : Int) < (xs.length : Int) := by omega
      have i3 : (k : Int) < (xs.length : Int) := by omega
      have i4 : (0 : Int) ≤ (k : Int) := by omega
      have i5 : (0 : Int) ≤ (r : Int) := by omega
      go_wp2
      go_region
      go_wp2
      go_roundw
      case rel => go_light; exact ⟨k + 1, by omega, by go_num, congrArg (Value.int .i64) HJ.out.symm, S2.out, ((hbel.out.setCell (hbg g rfl) _).setCell (hbg g rfl) _).drew⟩
      case measure => go_light; simp [intOf]; omega
    · go_wp2
      go_end0
      exact ⟨rfl, by rw [← revTo_done xs k (by omega)]; exact hown.out, hbel.out⟩
end Go.Proofs.YtjfklhfdonbpgaaGreatDoor

/- What Order answers. -/
namespace Go.Proofs.YtjfklhfdonbpgaaGreatDoor
open Go.RowKit




set_option maxHeartbeats 4000000 in
set_option maxRecDepth 100000 in
theorem way_any {w : World} {M : Nat → Lab} {tb : Nat} {nv uv : Value} {ps : List Pn} {us : List Value} (h : Lies w M tb nv uv ps us) {i r : Nat} {s : List Int} (hw : Way (nodesOf ps) i s r) (hs : s.length ≤ 1099511627776) :
    Calls Tryz.prog 71 #[.pointer (some ⟨tb, 0, none⟩), .int .i64 i] w fun e w' => ∃ v, e = .returned (.tuple #[.int .i64 r, v]) ∧ w'.ownsRow w.heap.size 3 1 v s.length (s.map intV) ∧ Below w.heap.size w w' := by
  obtain ⟨i0, hi, hz0, hz1, hz2⟩ := info_parts Tryz.infoInt
  have H : Hid (Lies w M tb nv uv ps us) := h
  have HW : Hid (Way (nodesOf ps) i s r) := hw
  clear h hw
  go_enter Tryz.func71, Tryz.ntmps71
  go_wp2
  go_loopg [1, 5] s.length (fun k id st wr => ∃ (j : Nat) (s' t : List Int), id = .int .i64 j ∧ s'.length = k ∧ Hid (Way (nodesOf ps) j s' r) ∧ Hid (s = s' ++ t.reverse) ∧ Hid (wr.ownsRow w.heap.size 3 1 st t.length (t.map intV)) ∧ Hid (Below w.heap.size w wr))
  case atStart => exact ⟨i, s, [], rfl, rfl, HW, (by simp : s = s ++ ([] : List Int).reverse), World.ownsRow_nil _ _ _ _, Below.refl _ _⟩
  case round =>
    obtain ⟨j, s', t, rfl, hk, hway, hsp, hown, hbel⟩ := hrel
    have hL := H.out.below hbel.out
    have hlen : s.length = s'.length + t.length := by rw [hsp.out]; simp
    have hwo := hway.out
    cases hwo with
    | root hn hp =>
      obtain ⟨p, hp1, rfl⟩ := nodesOf_get hn
      obtain ⟨nb, cap, rfl, hc, hm, _, _, hjl⟩ := hL.form hp1
      have c0 := hL.cell0
      have c4 := (hL.cellN rfl (f := 4) hp1 (by omega) rfl).1
      rw [hp] at c4
      unfold maxLen at hm
      have e : s = t.reverse := by have := hsp.out; simpa using this
      have E : Hid (s = t.reverse) := e
      have hlen2 : t.length = s.length := by rw [e]; simp
      clear hL hn hp hp1 e hlen
      go_wp2_with (go_at_call 89; refine (reverse_any hown.out (by omega)).mono ?_; rintro e w1 ⟨rfl, ho, hB⟩)
      go_ret2
      refine ⟨_, rfl, ?_, hbel.out.trans hB⟩
      rw [E.out, List.length_reverse]
      exact ho
    | @down _ q _ s2 n m hn hpq hmq hmem hw2 =>
      obtain ⟨p, hp1, rfl⟩ := nodesOf_get hn
      obtain ⟨mp, hmp, rfl⟩ := nodesOf_get hmq
      obtain ⟨nb, cap, hnv, hc, hm, _, _, hjl⟩ := hL.form hp1
      have hL2 := hL
      rw [hnv] at hL2
      have c0 := hL2.cell0
      have c4 := (hL2.cellN rfl (f := 4) hp1 (by omega) rfl).1
      rw [hpq] at c4
      have hne : ¬ ((q : Int) = -1) := by omega
      have hneb : ((q : Int) == -1) = false := by simp
      unfold maxLen at hm
      have HL : Hid (Lies wr M tb nv uv ps us) := hL
      have HP : Hid _ := And.intro hp1 (And.intro hpq (And.intro hmp hmem))
      have hw2' : Hid (Way (nodesOf ps) q s2 r) := hw2
      have hlen2 : t.length + 1 + s2.length = s.length := by rw [hlen]; simp; omega
      have hk2 : s2.length < gk := by rw [← hk]; simp
      have HS : Hid (s = s2 ++ (t ++ [(idx mp.n.kids j : Int)]).reverse) := by
        show s = _
        rw [hsp.out]
        simp
      clear hL hL2 hn hpq hmq hmem hp1 hmp hw2 hlen hk
      go_wp2_with (first
        | (go_at_call 88; refine (place_any HL.out HP.out.1 HP.out.2.1 HP.out.2.2.1 HP.out.2.2.2).mono ?_; rintro e w1 ⟨rfl, nd, hw1⟩; have c0' : w1.cell? ⟨tb, 0, none⟩ = some (.slice (some ⟨nb, 0, none⟩) ps.length cap) := by (rw [hw1]; exact c0)
           have c4' : w1.cell? ⟨nb, j * 6 + 4, none⟩ = some (.int .i64 q) := by (rw [hw1]; exact c4)
           have hown1 : Hid (w1.ownsRow w.heap.size 3 1 u5 t.length (t.map intV)) := by (rw [hw1]; exact hown.out)
           have hbel1 : Hid (Below w.heap.size w w1) := by (rw [hw1]; exact below_drewN hbel.out nd)
           have HL1 : Hid (Lies w1 M tb nv uv ps us) := H.out.below hbel1.out
           clear hw1 c0 c4)
        | (at_builtin; refine wpList_append_own_at _ (by rfl) (.tmp 15) (.tmp 19) 38 (by rfl) w.heap.size 3 i0 (.int .i64 0) 1 8 Tryz.underlying38 hi hz0 hz1 hz2 rfl (by decide) u5 t.length (t.map intV) (by rfl) (hown1.out.alloc _) ⟨w1.heap.size, 0, none⟩ 1 1 [.int .i64 (idx mp.n.kids j : Nat)] (by rfl) rfl (cell_one_new _ _ _) (by simp [Value.oneCell']) (by unfold maxLen; omega) (by omega) (by have := below_size hbel1.out; simp; omega) ?_; intro v2 w2 hv2 hg2 _ _; have hbel2 : Hid (Below w.heap.size w w2) := (hbel1.out.alloc (below_size hbel1.out) _).grown hg2 (by have := below_size hbel1.out; simp; omega) (fun k hk => ((hown1.out.lt k hk).1))
           have HL2 := H.out.below hbel2.out
           rw [hnv] at HL2
           have c0'' := HL2.cell0
           have c4'' := (HL2.cellN rfl (f := 4) HP.out.1 (by omega) rfl).1
           rw [HP.out.2.1] at c4''
           have hown2 : Hid _ := hv2
           clear HL2 hv2 hg2 c0' c4'))
      go_roundg s2.length
      case measure => exact hk2
      case rel =>
        go_light
        refine ⟨q, s2, t ++ [(idx mp.n.kids j : Int)], rfl, rfl, hw2', HS, ?_, hbel2⟩
        rw [List.length_append, List.map_append]
        exact hown2

/-- what Order answers of two nodes -/
def ordV (r q : Nat) (s t : List Int) : Value := .tuple #[.int .i64 (if r = q then cmpL s t else 0), .bool (decide (r = q))]

set_option maxHeartbeats 4000000 in
set_option maxRecDepth 100000 in
theorem order_none {w : World} {M : Nat → Lab} {tb : Nat} {nv uv : Value} {ps : List Pn} {us : List Value} (h : Lies w M tb nv uv ps us) (a b : Int) (hab : hasB ps.length a = false ∨ hasB ps.length b = false) :
    Calls Tryz.prog 40 #[.pointer (some ⟨tb, 0, none⟩), .int .i64 a, .int .i64 b] w fun e w' => e = .returned (.tuple #[.int .i64 0, .bool false]) ∧ Below w.heap.size w w' := by
  have H : Hid (Lies w M tb nv uv ps us) := h
  clear h
  cases ha : hasB ps.length a
  · go_enter Tryz.func40, Tryz.ntmps40
    go_wp2_with (go_at_call 45; refine (has_any H.out _).mono ?_; rintro e w' ⟨rfl, rfl⟩; rw [ha])
    go_ret2
    exact ⟨rfl, Below.refl _ _⟩
  · have hb : hasB ps.length b = false := by
      rcases hab with h | h
      · rw [ha] at h; cases h
      · exact h
    go_enter Tryz.func40, Tryz.ntmps40
    go_wp2_with (first | (go_at_call_of 45 a; refine (has_any H.out _).mono ?_; rintro e w' ⟨rfl, rfl⟩; rw [ha]) | (go_at_call_of 45 b; refine (has_any H.out _).mono ?_; rintro e w' ⟨rfl, rfl⟩; rw [hb]))
    go_ret2
    exact ⟨rfl, Below.refl _ _⟩



set_option maxHeartbeats 4000000 in
set_option maxRecDepth 100000 in
theorem order_two {w : World} {M : Nat → Lab} {tb : Nat} {nv uv : Value} {ps : List Pn} {us : List Value} (h : Lies w M tb nv uv ps us) {i j r q : Nat} {s t : List Int} (hi : Way (nodesOf ps) i s r) (hj : Way (nodesOf ps) j t q) (hs : s.length ≤ 1099511627776) (ht : t.length ≤ 1099511627776) :
    Calls Tryz.prog 40 #[.pointer (some ⟨tb, 0, none⟩), .int .i64 i, .int .i64 j] w fun e w' => e = .returned (ordV r q s t) ∧ Below w.heap.size w w' := by
  have li := hi.lt.1
  have lj := hj.lt.1
  simp only [nodesOf, List.length_map] at li lj
  have ha := hasB_lt li
  have hb := hasB_lt lj
  have H : Hid (Lies w M tb nv uv ps us) := h
  have HI : Hid (Way (nodesOf ps) i s r) := hi
  have HJ : Hid (Way (nodesOf ps) j t q) := hj
  clear h hi hj
  by_cases hrq : r = q
  · subst hrq
    have E : Hid (ordV r r s t = .tuple #[.int .i64 (cmpL s t), .bool true]) := by
      show ordV r r s t = _
      simp [ordV]
    go_enter Tryz.func40, Tryz.ntmps40
    go_wp2_with (first
      | (go_at_call_of 45 (i : Int); refine (has_any H.out _).mono ?_; rintro e w' ⟨rfl, rfl⟩; rw [ha])
      | (go_at_call_of 45 (j : Int); refine (has_any H.out _).mono ?_; rintro e w' ⟨rfl, rfl⟩; rw [hb])
      | (go_at_call_of 71 (i : Int); refine (way_any H.out HI.out hs).mono ?_; rintro e w1 ⟨v1, rfl, ho1, hB1⟩; have A1 : Hid _ := And.intro ho1 hB1; clear ho1 hB1)
      | (go_at_call_of 71 (j : Int); refine (way_any (H.out.below A1.out.2) HJ.out ht).mono ?_; rintro e w2 ⟨v2, rfl, ho2, hB2⟩; have A2 : Hid _ := And.intro ho2 hB2; clear ho2 hB2)
      | (go_at_call 72; refine (compare_any (own_keep A1.out.1 A2.out.2 (fun k hk => (A1.out.1.lt k hk).2)) A2.out.1).mono ?_; rintro e w3 ⟨rfl, rfl⟩))
    go_ret2
    exact ⟨by rw [E.out]; rfl, A1.out.2.trans (A2.out.2.mono (below_size A1.out.2))⟩
  · have E : Hid (ordV r q s t = .tuple #[.int .i64 0, .bool false]) := by
      show ordV r q s t = _
      simp [ordV, hrq]
    have hne : ¬ ((r : Int) = (q : Int)) := by omega
    have hneb : ((r : Int) == (q : Int)) = false := by simpa using hne
    go_enter Tryz.func40, Tryz.ntmps40
    go_wp2_with (first
      | (go_at_call_of 45 (i : Int); refine (has_any H.out _).mono ?_; rintro e w' ⟨rfl, rfl⟩; rw [ha])
      | (go_at_call_of 45 (j : Int); refine (has_any H.out _).mono ?_; rintro e w' ⟨rfl, rfl⟩; rw [hb])
      | (go_at_call_of 71 (i : Int); refine (way_any H.out HI.out hs).mono ?_; rintro e w1 ⟨v1, rfl, ho1, hB1⟩; have A1 : Hid _ := And.intro ho1 hB1; clear ho1 hB1)
      | (go_at_call_of 71 (j : Int); refine (way_any (H.out.below A1.out.2) HJ.out ht).mono ?_; rintro e w2 ⟨v2, rfl, ho2, hB2⟩; have A2 : Hid _ := And.intro ho2 hB2; clear ho2 hB2)
      | (go_at_call 72; refine (compare_any (own_keep A1.out.1 A2.out.2 (fun k hk => (A1.out.1.lt k hk).2)) A2.out.1).mono ?_; rintro e w3 ⟨rfl, rfl⟩))
    go_ret2
    exact ⟨by rw [E.out]; rfl, A1.out.2.trans (A2.out.2.mono (below_size A1.out.2))⟩
end Go.Proofs.YtjfklhfdonbpgaaGreatDoor

/- The law's looks at both trees. -/
namespace Go.Proofs.YtjfklhfdonbpgaaGreatDoor
open Go.RowKit

section
variable {W : World} {X : List (Nat × Obj)} {tb rb K : Nat} {ns : List Nd} {past : List (List Nd)} {w : World} {M N : Nat → Lab} {nv uv nv2 uv2 : Value} {ps qs : List Pn} {us vs : List Value}

theorem order_both (h : BothS W X tb rb K ns past ns past w M N nv uv nv2 uv2 ps qs us vs) (a b : Int) : ∃ (x : Int) (ok : Bool), (-1 ≤ x ∧ x ≤ 1) ∧
    (∀ w', Below w.heap.size w w' → Calls Tryz.prog 40 #[.pointer (some ⟨tb, 0, none⟩), .int .i64 a, .int .i64 b] w' fun e w'' => e = .returned (.tuple #[.int .i64 x, .bool ok]) ∧ Below w'.heap.size w' w'') ∧
    (∀ w', Below w.heap.size w w' → Calls Tryz.prog 41 #[.pointer (some ⟨rb, 0, none⟩), .int .i64 a, .int .i64 b] w' fun e w'' => e = .returned (.tuple #[.int .i64 x, .bool ok]) ∧ Below w'.heap.size w' w'') := by
  have hlp : ps.length = ns.length := by have := congrArg List.length h.eqp; simpa [nodesOf] using this
  have hlq : qs.length = ns.length := by have := congrArg List.length h.eqr; simpa [nodesOf] using this
  by_cases hab : hasB ns.length a = true ∧ hasB ns.length b = true
  case neg =>
    refine ⟨0, false, by omega, fun w' hb => ?_, fun w' hb => ?_⟩
    · refine order_none (h.lies.below hb) a b ?_
      rw [hlp]
      cases h1 : hasB ns.length a
      · exact .inl rfl
      · refine .inr ?_
        cases h2 : hasB ns.length b
        · rfl
        · exact absurd ⟨h1, h2⟩ hab
    · refine (rorder_none (h.rlies.below hb) (a := a) (b := b) (by rw [hlq]; exact hab)).mono ?_
      rintro e w'' ⟨rfl, rfl⟩
      exact ⟨rfl, Below.refl _ _⟩
  obtain ⟨i, p, rfl, hp⟩ := hasB_get (ps := ps) (by rw [hlp]; exact hab.1)
  obtain ⟨j, q, rfl, hq⟩ := hasB_get (ps := ps) (by rw [hlp]; exact hab.2)
  have hil := (List.getElem?_eq_some_iff.1 hp).1
  have hjl := (List.getElem?_eq_some_iff.1 hq).1
  have hpn : ns[i]? = some p.n := by rw [← h.eqp]; exact nodes_get hp
  have hqn : ns[j]? = some q.n := by rw [← h.eqp]; exact nodes_get hq
  obtain ⟨la, hla⟩ := h.wf.up i _ hpn
  obtain ⟨lb, hlb⟩ := h.wf.up j _ hqn
  obtain ⟨s, r, ws, es, ls⟩ := h.wf.way hla
  obtain ⟨t, r', wt, et, lt⟩ := h.wf.way hlb
  have hs1 := hla.short
  have hs2 := hlb.short
  have hl := h.wf.len
  have ord : ∀ w', Below w.heap.size w w' → Calls Tryz.prog 40 #[.pointer (some ⟨tb, 0, none⟩), .int .i64 i, .int .i64 j] w' fun e w'' => e = .returned (ordV r r' s t) ∧ Below w'.heap.size w' w'' := fun w' hb => order_two (h.lies.below hb) (h.eqp ▸ ws) (h.eqp ▸ wt) (by omega) (by omega)
  by_cases hrr : r = r'
  · subst hrr
    have hb1 := cmpL_bd s t
    refine ⟨cmpL s t, true, hb1, fun w' hb => ?_, fun w' hb => ?_⟩
    · have e : ordV r r s t = .tuple #[.int .i64 (cmpL s t), .bool true] := by simp [ordV]
      rw [← e]
      exact ord w' hb
    · have hr := rorder_good (h.rlies.below hb) (h.eqr ▸ h.wf) (a := i) (b := j) (r := r) (la := la) (lb := lb) (h.eqr ▸ hla) (h.eqr ▸ hlb) es et (by omega) (by omega) (by have := ws.lt.2; omega)
      rw [h.eqr, hlq, order_eq h.wf ws wt] at hr
      exact hr
  · refine ⟨0, false, by omega, fun w' hb => ?_, fun w' hb => ?_⟩
    · have e : ordV r r' s t = .tuple #[.int .i64 0, .bool false] := by simp [ordV, hrr]
      rw [← e]
      exact ord w' hb
    · refine (rorder_apart (h.rlies.below hb) (a := i) (b := j) (la := la) (lb := lb) (h.eqr ▸ hla) (h.eqr ▸ hlb) es et hrr (by omega) (by omega)).mono ?_
      rintro e w'' ⟨rfl, rfl⟩
      exact ⟨rfl, Below.refl _ _⟩

set_option maxHeartbeats 8000000 in
set_option maxRecDepth 100000 in
theorem looked_any (h : BothS W X tb rb K ns past ns past w M N nv uv nv2 uv2 ps qs us vs) (hK : K ≤ 1000) (a b : Int) (name : ByteArray) :
    Calls Tryz.prog 8 #[.pointer (some ⟨tb, 0, none⟩), .pointer (some ⟨rb, 0, none⟩), .int .i64 a, .int .i64 b, .string name] w fun e w' => e = .returned (.bool true) ∧ Below w.heap.size w w' := by
  obtain ⟨x, ok, hx, hO, hR⟩ := order_both h a b
  have HO : Hid _ := hO
  have HR : Hid _ := hR
  have H : Hid (∀ w', Below w.heap.size w w' → Lies w' M tb nv uv ps us ∧ RLies w' N rb nv2 uv2 qs vs) := fun w' hb => ⟨h.lies.below hb, h.rlies.below hb⟩
  have hlp : ps.length = ns.length := by have := congrArg List.length h.eqp; simpa [nodesOf] using this
  have hlq : qs.length = ns.length := by have := congrArg List.length h.eqr; simpa [nodesOf] using this
  clear hO hR
  cases hb : hasB ns.length a with
  | false =>
    have hbp : hasB ps.length a = false := by rw [hlp]; exact hb
    have hbq : hasB qs.length a = false := by rw [hlq]; exact hb
    clear h hb hlp hlq
    go_enter Tryz.func8, Tryz.ntmps8
    go_wp2_with (first
      | (go_at_call 40; refine (HO.out _ (Below.refl _ _)).mono ?_; rintro e w1 ⟨rfl, hB1⟩; have HB1 : Hid (Below w.heap.size w w1) := hB1; clear hB1 HO)
      | (go_at_call 41; refine (HR.out _ HB1.out).mono ?_; rintro e w2 ⟨rfl, hB2⟩; have HB2 : Hid (Below w.heap.size w w2) := HB1.out.trans (hB2.mono HB1.out.size); clear hB2 HR)
      | (go_at_call 42; refine (attr_none (H.out _ HB2.out).1 hbp name).mono ?_; rintro e w3 ⟨rfl, hB3⟩; have HB3 : Hid (Below w.heap.size w w3) := HB2.out.trans (hB3.mono HB2.out.size); clear hB3)
      | (go_at_call 43; refine (rhas_any (H.out _ HB3.out).2 _).mono ?_; rintro e w4 ⟨rfl, hw4⟩; subst hw4; rw [hbq])
      | (go_at_call 10; refine (kind_none (H.out _ HB3.out).1 hbp).mono ?_; rintro e w5 ⟨rfl, hw5⟩; subst hw5)
      | (go_at_call 11; refine (tag_none (H.out _ HB3.out).1 hbp).mono ?_; rintro e w5 ⟨rfl, hw5⟩; subst hw5)
      | (go_at_call 12; refine (words_none (H.out _ HB3.out).1 hbp).mono ?_; rintro e w5 ⟨rfl, hw5⟩; subst hw5)
      | (go_at_call 13; refine (parent_none (H.out _ HB3.out).1 hbp).mono ?_; rintro e w5 ⟨rfl, hw5⟩; subst hw5)
      | (go_at_call 17; refine (kids_none (H.out _ HB3.out).1 hbp).mono ?_; rintro e w5 ⟨rfl, hw5⟩; subst hw5)
      | (go_at_call 18; refine (under_none (H.out _ HB3.out).1 hbp).mono ?_; rintro e w5 ⟨rfl, hw5⟩; subst hw5)
      | (go_at_call 15; refine (attrs_none (H.out _ HB3.out).1 hbp).mono ?_; rintro e w5 ⟨rfl, hw5⟩; subst hw5))
    all_goals go_ret
    all_goals exact ⟨rfl, HB3.out⟩
  | true =>
    obtain ⟨i, p, rfl, hp⟩ := hasB_get (ps := ps) (by rw [hlp]; exact hb)
    have hpn : ns[i]? = some p.n := by rw [← h.eqp]; exact nodes_get hp
    obtain ⟨q, hq, hqn⟩ := nodesOf_get (ps := qs) (by rw [h.eqr]; exact hpn)
    have hbq : hasB qs.length i = true := hasB_of hq
    have hpa : p.n.attrs.length ≤ 1000000 := by have := h.few i _ hpn; omega
    obtain ⟨nb, cap, rfl, hc, hm, _, hnl, hil⟩ := h.rlies.form hq
    obtain ⟨xa, xc, hav, hx1, hx2⟩ := (h.rlies.node i q hq).1.shape
    have c0 := h.rlies.cell0
    have hlt : rb < w.heap.size := lt_of_heap h.rlies.head
    have c3 := (h.rlies.cellN rfl (f := 3) hq (by omega) rfl).1
    rw [hav, hqn] at c3
    have HRow : Hid (∀ w', Below w.heap.size w w' → Row w' N (.attrs i) 79 2 (.slice xa p.n.attrs.length xc) p.n.attrs.length (attrCells p.n.attrs)) := fun w' hb => by
      have := ((h.rlies.below hb).node i q hq).1
      rw [hav, hqn] at this
      exact this
    have HP : Hid (ps[i]? = some p) := hp
    have i1 : (0 : Int) ≤ (i : Int) := by omega
    have i2 : (i : Int) < (qs.length : Int) := by omega
    unfold maxLen at hm hx2
    rw [hqn] at hx1
    cases hf : findA p.n.attrs name with
    | none =>
      have hfi : findI p.n.attrs name = -1 := by simp only [findI, hf]
      have hv : attrV p.n.attrs name = .tuple #[.string ⟨#[]⟩, .bool false] := by unfold attrV; rw [hf]
      have HA : Hid (∀ w', Below w.heap.size w w' → Calls Tryz.prog 42 #[.pointer (some ⟨tb, 0, none⟩), .int .i64 i, .string name] w' fun e w'' => e = .returned (.tuple #[.string ⟨#[]⟩, .bool false]) ∧ Below w'.heap.size w' w'') := fun w' hb => hv ▸ attr_some (H.out _ hb).1 HP.out hpa name
      clear h hb hlp hlq hp hpn hq hqn hav hf hv
      go_enter Tryz.func8, Tryz.ntmps8
      go_wp2_with (first
        | (go_at_call 40; refine (HO.out _ (Below.refl _ _)).mono ?_; rintro e w1 ⟨rfl, hB1⟩; have HB1 : Hid (Below w.heap.size w w1) := hB1; clear hB1 HO)
        | (go_at_call 41; refine (HR.out _ HB1.out).mono ?_; rintro e w2 ⟨rfl, hB2⟩; have HB2 : Hid (Below w.heap.size w w2) := HB1.out.trans (hB2.mono HB1.out.size); clear hB2 HR)
        | (go_at_call 42; refine (HA.out _ HB2.out).mono ?_; rintro e w3 ⟨rfl, hB3⟩; have HB3 : Hid (Below w.heap.size w w3) := HB2.out.trans (hB3.mono HB2.out.size)
           have d0 := (HB3.out.cell (p := ⟨rb, 0, none⟩) hlt).trans c0
           have d3 := (HB3.out.cell (p := ⟨nb, i * 6 + 3, none⟩) hnl).trans c3
           clear hB3)
        | (go_at_call 43; refine (rhas_any (H.out _ HB3.out).2 _).mono ?_; rintro e w4 ⟨rfl, hw4⟩; subst hw4; rw [hbq])
        | (go_at_call 44; refine (at_any (HRow.out _ HB3.out) name).mono ?_; rintro e w5 ⟨rfl, hw5⟩; subst hw5; rw [hfi]))
      all_goals go_ret
      all_goals exact ⟨rfl, HB3.out⟩
    | some k =>
      have hfi : findI p.n.attrs name = k := by simp only [findI, hf]
      have hkl : k < p.n.attrs.length := by
        unfold findA at hf
        rw [List.findIdx?_eq_some_iff_getElem] at hf
        exact hf.1
      obtain ⟨y, hy⟩ : ∃ y, p.n.attrs[k]? = some y := ⟨_, List.getElem?_eq_getElem hkl⟩
      have hv : attrV p.n.attrs name = .tuple #[.string y.2, .bool true] := by
        unfold attrV
        rw [hf]
        simp only [List.getD_eq_getElem?_getD, hy, Option.getD_some]
      have HA : Hid (∀ w', Below w.heap.size w w' → Calls Tryz.prog 42 #[.pointer (some ⟨tb, 0, none⟩), .int .i64 i, .string name] w' fun e w'' => e = .returned (.tuple #[.string y.2, .bool true]) ∧ Below w'.heap.size w' w'') := fun w' hb => hv ▸ attr_some (H.out _ hb).1 HP.out hpa name
      obtain ⟨ag, ac', hav', _, _, _, hagl⟩ := (HRow.out w (Below.refl _ _)).form (by omega)
      cases hav'
      have cx := ((HRow.out w (Below.refl _ _)).cell rfl (attrCells_get p.n.attrs k y hy).2).1
      have i3 : (0 : Int) ≤ (k : Int) := by omega
      have i4 : (k : Int) < (p.n.attrs.length : Int) := by omega
      clear h hb hlp hlq hp hpn hq hqn hav hf hv hy
      go_enter Tryz.func8, Tryz.ntmps8
      go_wp2_with (first
        | (go_at_call 40; refine (HO.out _ (Below.refl _ _)).mono ?_; rintro e w1 ⟨rfl, hB1⟩; have HB1 : Hid (Below w.heap.size w w1) := hB1; clear hB1 HO)
        | (go_at_call 41; refine (HR.out _ HB1.out).mono ?_; rintro e w2 ⟨rfl, hB2⟩; have HB2 : Hid (Below w.heap.size w w2) := HB1.out.trans (hB2.mono HB1.out.size); clear hB2 HR)
        | (go_at_call 42; refine (HA.out _ HB2.out).mono ?_; rintro e w3 ⟨rfl, hB3⟩; have HB3 : Hid (Below w.heap.size w w3) := HB2.out.trans (hB3.mono HB2.out.size)
           have d0 := (HB3.out.cell (p := ⟨rb, 0, none⟩) hlt).trans c0
           have d3 := (HB3.out.cell (p := ⟨nb, i * 6 + 3, none⟩) hnl).trans c3
           have dx := (HB3.out.cell (p := ⟨ag, k * 2 + 1, none⟩) hagl).trans cx
           clear hB3)
        | (go_at_call 43; refine (rhas_any (H.out _ HB3.out).2 _).mono ?_; rintro e w4 ⟨rfl, hw4⟩; subst hw4; rw [hbq])
        | (go_at_call 44; refine (at_any (HRow.out _ HB3.out) name).mono ?_; rintro e w5 ⟨rfl, hw5⟩; subst hw5; rw [hfi]))
      all_goals first
        | (go_ret; exact ⟨by first | rfl | simp, HB3.out⟩)
        | (go_quiet (fail); go_wp2; go_ret; exact ⟨by first | rfl | simp, below_drewN HB3.out _⟩)
end
end Go.Proofs.YtjfklhfdonbpgaaGreatDoor
