/- A kid becomes a root, and what is kept to undo that. -/
import Derived.Test.YtjfklhfdonbpgaaGreatDoorPull
import Derived.Test.YtjfklhfdonbpgaaGreatDoorM00
import Derived.Test.YtjfklhfdonbpgaaGreatDoorPush
import Derived.Test.YtjfklhfdonbpgaaGreatDoorDel
namespace Go.Proofs.YtjfklhfdonbpgaaGreatDoor
open Go.RowKit

/-- a function that moves a node back -/
def MvF (w : World) (M : Nat → Lab) (f : Value) (tb id : Nat) (frm was : Int) : Prop :=
  ∃ b1 b2 b3 b4, f = .func (.func 80) #[] #[.pointer (some ⟨b1, 0, none⟩), .pointer (some ⟨b2, 0, none⟩), .pointer (some ⟨b3, 0, none⟩), .pointer (some ⟨b4, 0, none⟩)] ∧ (M b1 = .other ∧ M b2 = .other ∧ M b3 = .other ∧ M b4 = .other) ∧
    w.cell? ⟨b1, 0, none⟩ = some (.pointer (some ⟨tb, 0, none⟩)) ∧ w.cell? ⟨b2, 0, none⟩ = some (.int .i64 id) ∧ w.cell? ⟨b3, 0, none⟩ = some (.int .i64 frm) ∧ w.cell? ⟨b4, 0, none⟩ = some (.int .i64 was)

theorem MvF.moved {w w' : World} {M M' : Nat → Lab} {f : Value} {tb id : Nat} {frm was : Int} (h : MvF w M f tb id frm was) (m : Moved w M w' M') : MvF w' M' f tb id frm was := by
  obtain ⟨b1, b2, b3, b4, rfl, ⟨h1, h2, h3, h4⟩, k1, k2, k3, k4⟩ := h
  have lb : ∀ {b : Nat} {v : Value}, w.cell? ⟨b, 0, none⟩ = some v → M b = .other → M' b = .other := fun {b v} hc ho => (m.lab b (World.block_lt_of_cell? w _ hc)).trans ho
  exact ⟨b1, b2, b3, b4, rfl, ⟨lb k1 h1, lb k2 h2, lb k3 h3, lb k4 h4⟩, moved_cell m h1 k1, moved_cell m h2 k2, moved_cell m h3 k3, moved_cell m h4 k4⟩

set_option maxHeartbeats 1000000 in
theorem push_none (tb : Nat) (i k : Int) (w : World) : Calls Tryz.prog 79 #[.pointer (some ⟨tb, 0, none⟩), .int .i64 (-1), .int .i64 i, .int .i64 k] w fun e w' => e = .returned (.tuple #[]) ∧ w' = w := by
  go_enter Tryz.func79, Tryz.ntmps79
  go_wp2
  first
    | (go_end0; exact ⟨rfl, rfl⟩)
    | exact bodyPost_ret (v := .tuple #[]) (by simp [results, go_sem]) rfl ⟨rfl, rfl⟩

set_option maxHeartbeats 4000000 in
set_option maxRecDepth 100000 in
theorem move_take {w : World} {M : Nat → Lab} {tb : Nat} {nv uv : Value} {ps : List Pn} {us : List Value} (h : Lies w M tb nv uv ps us) {i q : Nat} {p m : Pn} (hp : ps[i]? = some p) (hq : p.n.parent = q) (hm : ps[q]? = some m) (hk : (i : Int) ∈ m.n.kids) (hiq : q ≠ i) :
    Calls Tryz.prog 56 #[.pointer (some ⟨tb, 0, none⟩), .int .i64 (-1), .int .i64 i, .int .i64 0] w fun e w' => ∃ ca, e = .returned (.func (.func 80) #[] ca) ∧ ∃ kv', Lies w' M tb nv uv (pullP ps q i m p kv') us ∧ Moved w M w' M ∧ MvF w' M (.func (.func 80) #[] ca) tb i q (idx m.n.kids i : Nat) := by
  have HP : Hid (ps[i]? = some p ∧ p.n.parent = q ∧ ps[q]? = some m ∧ (i : Int) ∈ m.n.kids) := ⟨hp, hq, hm, hk⟩
  have H : Hid (Lies w M tb nv uv ps us) := h
  clear h hp hq hm hk
  go_enter Tryz.func56, Tryz.ntmps56
  go_wp2_with (first
    | (go_at_call 78; refine (pull_kid ((H.out.alloc _).alloc _) HP.out.1 HP.out.2.1 HP.out.2.2.1 HP.out.2.2.2 hiq).mono ?_; rintro e w1 ⟨rfl, kv1, hL1, hm1⟩
       have b0 : w1.cell? ⟨w.heap.size, 0, none⟩ = some (.pointer (some ⟨tb, 0, none⟩)) := moved_cell hm1 (H.out.fresh _ (Nat.le_refl _)) (by simp)
       have b1 : w1.cell? ⟨w.heap.size + 1, 0, none⟩ = some (.int .i64 i) := moved_cell hm1 (H.out.fresh _ (by omega)) (by simp)
       have l0 : w.heap.size + 1 < w1.heap.size := World.block_lt_of_cell? w1 _ b1
       have l1 : w.heap.size < w1.heap.size := by omega
       have H1 : Hid _ := And.intro hL1 hm1
       clear hL1 hm1)
    | (go_at_call 79; refine (push_none tb _ _ _).mono ?_; rintro e w2 ⟨rfl, rfl⟩))
  go_ret
  have h0 := H.out.fresh w.heap.size (Nat.le_refl _)
  have h1 := H.out.fresh (w.heap.size + 1) (by omega)
  refine ⟨_, rfl, kv1, (H1.out.1.alloc _).alloc _, ((((Moved.refl w M).alloc _).alloc _).trans H1.out.2 |>.alloc _).alloc _, ⟨_, _, _, _, rfl, ⟨h0, h1, H1.out.1.fresh _ (Nat.le_refl _), H1.out.1.fresh _ (by omega)⟩, ?_, ?_, ?_, ?_⟩⟩
  · exact moved_cell (((Moved.refl w1 M).alloc _).alloc _) h0 b0
  · exact moved_cell (((Moved.refl w1 M).alloc _).alloc _) h1 b1
  · simp
  · simp
end Go.Proofs.YtjfklhfdonbpgaaGreatDoor

/- Whether a node is another one, or lies in it. -/
namespace Go.Proofs.YtjfklhfdonbpgaaGreatDoor
open Go.RowKit

/-- a node and all in which it lies, up to its root -/
inductive Up (ns : List Nd) : Nat → List Nat → Prop where
  | root {i : Nat} {n : Nd} (h : ns[i]? = some n) (hp : n.parent = -1) : Up ns i [i]
  | up {i p : Nat} {l : List Nat} {n : Nd} (h : ns[i]? = some n) (hp : n.parent = p) (hu : Up ns p l) : Up ns i (i :: l)

set_option maxHeartbeats 4000000 in
set_option maxRecDepth 100000 in
theorem within_any {w : World} {M : Nat → Lab} {tb : Nat} {nv uv : Value} {ps : List Pn} {us : List Value} (h : Lies w M tb nv uv ps us) {i : Nat} {l : List Nat} (hu : Up (nodesOf ps) i l) (j : Nat) :
    Calls Tryz.prog 54 #[.pointer (some ⟨tb, 0, none⟩), .int .i64 i, .int .i64 j] w fun e w' => e = .returned (.bool (decide (j ∈ l))) ∧ w' = w := by
  have H : Hid (Lies w M tb nv uv ps us) := h
  have HU : Hid (Up (nodesOf ps) i l) := hu
  clear h hu
  go_enter Tryz.func54, Tryz.ntmps54
  go_wp2
  go_loopg [1] (l.length + 1) (fun k id wr => wr = w ∧ ((∃ (x : Nat) (l' : List Nat), id = .int .i64 x ∧ l'.length + 1 = k ∧ Hid (Up (nodesOf ps) x l') ∧ Hid (j ∈ l' ↔ j ∈ l)) ∨ (id = .int .i64 (-1) ∧ k = 0 ∧ Hid (¬ j ∈ l))))
  case atStart => exact ⟨rfl, .inl ⟨i, l, rfl, rfl, HU, (Iff.rfl : j ∈ l ↔ j ∈ l)⟩⟩
  case round =>
    obtain ⟨rfl, hrel⟩ := hrel
    rcases hrel with ⟨x, l', rfl, hk, hup, hiff⟩ | ⟨rfl, hk, hno⟩
    · by_cases hxj : x = j
      · subst hxj
        have HD : Hid (decide (x ∈ l) = true) := by
          show decide _ = true
          rw [decide_eq_true_eq]
          refine hiff.out.1 ?_
          have := hup.out
          cases this <;> simp
        go_wp2
        go_ret
        exact ⟨ret_bool HD.out.symm, rfl⟩
      · have hne : ¬ ((x : Int) = (j : Int)) := by omega
        have hb1 : ((x : Int) != (j : Int)) = true := by simp [hne]
        have hneb : ((x : Int) == (j : Int)) = false := by simpa using hne
        have hn1 : ¬ ((x : Int) = -1) := by omega
        have hb2 : ((x : Int) != -1) = true := by simp
        have hupo := hup.out
        cases hupo with
        | root hn hp =>
          obtain ⟨p, hp1, rfl⟩ := nodesOf_get hn
          obtain ⟨nb, cap, hnv, hc, hm, _, _, hxl⟩ := H.out.form hp1
          have hL := H.out
          rw [hnv] at hL
          have c0 := hL.cell0
          have c4 := (hL.cellN rfl (f := 4) hp1 (by omega) rfl).1
          rw [hp] at c4
          unfold maxLen at hm
          have HN : Hid (¬ j ∈ l) := by
            intro hj
            have := hiff.out.2 hj
            simp at this
            omega
          clear hL hn hp hp1 hnv
          go_wp2
          go_roundg 0
          case measure => omega
          case rel => exact ⟨rfl, .inr ⟨rfl, rfl, HN⟩⟩
        | @up _ q l2 n hn hp hu2 =>
          obtain ⟨p, hp1, rfl⟩ := nodesOf_get hn
          obtain ⟨nb, cap, hnv, hc, hm, _, _, hxl⟩ := H.out.form hp1
          have hL := H.out
          rw [hnv] at hL
          have c0 := hL.cell0
          have c4 := (hL.cellN rfl (f := 4) hp1 (by omega) rfl).1
          rw [hp] at c4
          unfold maxLen at hm
          have HN : Hid (j ∈ l2 ↔ j ∈ l) := by
            show _ ↔ _
            rw [← hiff.out, List.mem_cons]
            constructor
            · exact .inr
            · rintro (h | h)
              · omega
              · exact h
          have HU2 : Hid (Up (nodesOf ps) q l2) := hu2
          clear hL hn hp hp1 hnv hu2
          go_wp2
          go_roundg (l2.length + 1)
          case measure => simp at hk; omega
          case rel => exact ⟨rfl, .inl ⟨q, l2, rfl, rfl, HU2, HN⟩⟩
    · have hn2 : ¬ ((-1 : Int) = (j : Int)) := by omega
      have hn2b : ((-1 : Int) == (j : Int)) = false := by simp
      have HD : Hid (decide (j ∈ l) = false) := by
        show decide _ = false
        rw [decide_eq_false_iff_not]
        exact hno.out
      go_wp2
      go_ret
      exact ⟨ret_bool HD.out.symm, rfl⟩
end Go.Proofs.YtjfklhfdonbpgaaGreatDoor

/- Trees in general, and what undoes a change: plain mathematics. -/
namespace Go.Proofs.YtjfklhfdonbpgaaGreatDoor

theorem Up.get {ns : List Nd} {j : Nat} {l : List Nat} (h : Up ns j l) : ∃ n, ns[j]? = some n := by
  cases h with
  | root h _ => exact ⟨_, h⟩
  | up h _ _ => exact ⟨_, h⟩
theorem Up.head {ns : List Nd} {j : Nat} {l : List Nat} (h : Up ns j l) : j ∈ l := by
  cases h <;> simp
theorem Up.det {ns : List Nd} {j : Nat} {l : List Nat} (h : Up ns j l) : ∀ {k : List Nat}, Up ns j k → l = k := by
  induction h with
  | root h hp =>
    intro k hk
    cases hk with
    | root _ _ => rfl
    | up h' hp' _ =>
      obtain rfl := Option.some.inj (h.symm.trans h')
      omega
  | up h hp hu ih =>
    intro k hk
    cases hk with
    | root h' hp' =>
      obtain rfl := Option.some.inj (h.symm.trans h')
      omega
    | up h' hp' hu' =>
      obtain rfl := Option.some.inj (h.symm.trans h')
      have e := Int.ofNat.inj (hp.symm.trans hp')
      subst e
      rw [ih hu']
theorem Up.lt {ns : List Nd} {j : Nat} {l : List Nat} (h : Up ns j l) : ∀ x ∈ l, x < ns.length := by
  induction h with
  | root h _ => intro x hx; simp at hx; subst hx; exact (List.getElem?_eq_some_iff.1 h).1
  | up h _ _ ih =>
    intro x hx
    rcases List.mem_cons.1 hx with rfl | hx
    · exact (List.getElem?_eq_some_iff.1 h).1
    · exact ih x hx
/-- from a node of a chain on, the rest is that node's chain -/
theorem Up.tail {ns : List Nd} {j : Nat} {l : List Nat} (h : Up ns j l) : ∀ x ∈ l, ∃ k, Up ns x k ∧ k.length ≤ l.length := by
  induction h with
  | root h hp => intro x hx; simp at hx; subst hx; exact ⟨_, .root h hp, Nat.le_refl _⟩
  | up h hp hu ih =>
    intro x hx
    rcases List.mem_cons.1 hx with rfl | hx
    · exact ⟨_, .up h hp hu, Nat.le_refl _⟩
    · obtain ⟨k, h1, h2⟩ := ih x hx
      exact ⟨k, h1, by simp; omega⟩
theorem Up.nodup {ns : List Nd} {j : Nat} {l : List Nat} (h : Up ns j l) : l.Nodup := by
  induction h with
  | root h hp => simp
  | @up i p l n h hp hu ih =>
    rw [List.nodup_cons]
    refine ⟨fun hm => ?_, ih⟩
    obtain ⟨k, h1, h2⟩ := hu.tail _ hm
    have := h1.det (.up h hp hu)
    rw [this] at h2
    simp at h2
    omega

theorem short {N : Nat} : ∀ (l : List Int), l.Nodup → (∀ x ∈ l, ∃ b : Nat, x = b ∧ b < N) → l.length ≤ N := by
  induction N with
  | zero =>
    intro l _ h
    cases l with
    | nil => exact Nat.le_refl _
    | cons x l => obtain ⟨b, _, h2⟩ := h x (List.mem_cons_self ..); omega
  | succ N ih =>
    intro l hl h
    have h1 := ih (l.erase (N : Int)) (hl.erase _) (fun x hx => by
      have hx' := (List.Nodup.mem_erase_iff hl).1 hx
      obtain ⟨b, e1, e2⟩ := h x hx'.2
      refine ⟨b, e1, ?_⟩
      have : b ≠ N := fun e => hx'.1 (by rw [e1, e])
      omega)
    by_cases hm : (N : Int) ∈ l
    · rw [List.length_erase_of_mem hm] at h1
      omega
    · rw [List.erase_of_not_mem hm] at h1
      omega
theorem nodup_cast : ∀ (l : List Nat), l.Nodup → (l.map fun (x : Nat) => (x : Int)).Nodup
  | [], _ => List.nodup_nil
  | x :: l, h => by
    obtain ⟨h1, h2⟩ := List.nodup_cons.1 h
    rw [List.map_cons, List.nodup_cons]
    refine ⟨fun hm => ?_, nodup_cast l h2⟩
    obtain ⟨y, hy, e⟩ := List.mem_map.1 hm
    have e := Int.ofNat.inj e
    subst e
    exact h1 hy
theorem Up.short {ns : List Nd} {j : Nat} {l : List Nat} (h : Up ns j l) : l.length ≤ ns.length := by
  have := Go.Proofs.YtjfklhfdonbpgaaGreatDoor.short (N := ns.length) (l.map fun (x : Nat) => (x : Int)) (nodup_cast l h.nodup) (by
    intro x hx
    obtain ⟨y, hy, e⟩ := List.mem_map.1 hx
    exact ⟨y, e.symm, h.lt y hy⟩)
  simpa using this

/-- what holds of every tree -/
structure WF (ns : List Nd) : Prop where
  root : ∃ n, ns[0]? = some n ∧ n.kind = 1 ∧ n.parent = -1
  len : ns.length ≤ 400
  nodup : ∀ (j : Nat) (n : Nd), ns[j]? = some n → n.kids.Nodup
  kid : ∀ (j : Nat) (n : Nd), ns[j]? = some n → ∀ x ∈ n.kids, ∃ (c : Nat) (m : Nd), x = c ∧ ns[c]? = some m ∧ m.parent = j
  par : ∀ (j : Nat) (n : Nd), ns[j]? = some n → n.parent = -1 ∨ ∃ (q : Nat) (m : Nd), n.parent = q ∧ ns[q]? = some m ∧ (j : Int) ∈ m.kids
  up : ∀ (j : Nat) (n : Nd), ns[j]? = some n → ∃ l, Up ns j l

theorem WF.pne {ns : List Nd} (h : WF ns) {j q : Nat} {n : Nd} (hj : ns[j]? = some n) (hq : n.parent = q) : q ≠ j := by
  intro e
  subst e
  obtain ⟨l, hl⟩ := h.up q n hj
  cases hl with
  | root h' hp' =>
    obtain rfl := Option.some.inj (hj.symm.trans h')
    omega
  | @up _ p l2 _ h' hp' hu =>
    obtain rfl := Option.some.inj (hj.symm.trans h')
    have e := Int.ofNat.inj (hq.symm.trans hp')
    subst e
    have := hu.det (.up h' hp' hu)
    have := congrArg List.length this
    simp at this
theorem WF.few {ns : List Nd} (h : WF ns) {j : Nat} {n : Nd} (hj : ns[j]? = some n) : n.kids.length ≤ 400 := by
  refine Nat.le_trans (short (N := ns.length) n.kids (h.nodup j n hj) fun x hx => ?_) h.len
  obtain ⟨c, m, e1, e2, _⟩ := h.kid j n hj x hx
  exact ⟨c, e1, (List.getElem?_eq_some_iff.1 e2).1⟩
theorem WF.rootNotKid {ns : List Nd} (h : WF ns) {a i : Nat} {m n : Nd} (ha : ns[a]? = some m) (hi : ns[i]? = some n) (hr : n.parent = -1) : (i : Int) ∉ m.kids := by
  intro hm
  obtain ⟨c, k, e1, e2, e3⟩ := h.kid a m ha _ hm
  have e := Int.ofNat.inj e1
  subst e
  obtain rfl := Option.some.inj (e2.symm.trans hi)
  omega

theorem get2 (ns : List Nd) {a i : Nat} (x y : Nd) (hai : a ≠ i) (ha : a < ns.length) (hi : i < ns.length) (j : Nat) : ((ns.set a x).set i y)[j]? = if j = i then some y else if j = a then some x else ns[j]? := by
  by_cases h1 : j = i
  · subst h1
    rw [if_pos rfl, List.getElem?_set_self (by rw [List.length_set]; exact hi)]
  · rw [if_neg h1, List.getElem?_set_ne (Ne.symm h1)]
    by_cases h2 : j = a
    · subst h2
      rw [if_pos rfl, List.getElem?_set_self ha]
    · rw [if_neg h2, List.getElem?_set_ne (Ne.symm h2)]

/-- a node was pulled out of where it was -/
inductive Pulled (ns : List Nd) (i : Nat) : List Nd → Int → Nat → Prop where
  | root {n : Nd} (h : ns[i]? = some n) (hp : n.parent = -1) : Pulled ns i ns (-1) 0
  | kid {n m : Nd} {q : Nat} (h : ns[i]? = some n) (hp : n.parent = q) (hm : ns[q]? = some m) (hk : (i : Int) ∈ m.kids) (hq : q ≠ i) : Pulled ns i ((ns.set q { m with kids := m.kids.eraseIdx (idx m.kids i) }).set i { n with parent := -1 }) q (idx m.kids i)
/-- a root was pushed among the kids of another node -/
inductive Pushed (ns : List Nd) (i k : Nat) : Int → List Nd → Prop where
  | none : Pushed ns i k (-1) ns
  | kid {n m : Nd} {a : Nat} (hm : ns[a]? = some m) (h : ns[i]? = some n) (ha : a ≠ i) (hk : k ≤ m.kids.length) : Pushed ns i k a ((ns.set a { m with kids := m.kids.take k ++ (i : Int) :: m.kids.drop k }).set i { n with parent := a })

theorem WF.pulls {ns : List Nd} (h : WF ns) {i : Nat} {n : Nd} (hi : ns[i]? = some n) : ∃ ns' f w, Pulled ns i ns' f w := by
  rcases h.par i n hi with e | ⟨q, m, e1, e2, e3⟩
  · exact ⟨_, _, _, .root hi e⟩
  · exact ⟨_, _, _, .kid hi e1 e2 e3 (h.pne hi e1)⟩

theorem idx_lt {l : List Int} {x : Int} (h : x ∈ l) : idx l x < l.length := List.findIdx_lt_length.2 ⟨x, h, by simp⟩

theorem erase_mem {l : List Int} {x y : Int} (hn : l.Nodup) (hx : x ∈ l) : y ∈ l.eraseIdx (idx l x) ↔ y ∈ l ∧ y ≠ x := by
  have hg := idx_get hx
  have hlt := idx_lt hx
  generalize idx l x = k at *
  have e : l = l.take k ++ x :: l.drop (k + 1) := by
    have := List.getElem?_eq_some_iff.1 hg
    obtain ⟨h1, h2⟩ := this
    rw [← h2, ← List.drop_eq_getElem_cons h1, List.take_append_drop]
  have en := hn
  rw [e, List.nodup_append] at en
  obtain ⟨n1, n2, n3⟩ := en
  obtain ⟨n4, n5⟩ := List.nodup_cons.1 n2
  rw [List.eraseIdx_eq_take_drop_succ]
  constructor
  · intro hy
    rcases List.mem_append.1 hy with hy | hy
    · exact ⟨List.mem_of_mem_take hy, n3 y hy x (List.mem_cons_self ..)⟩
    · refine ⟨List.mem_of_mem_drop hy, fun e => ?_⟩
      subst e
      exact n4 hy
  · rintro ⟨hy, hne⟩
    rw [e] at hy
    rcases List.mem_append.1 hy with hy | hy
    · exact List.mem_append_left _ hy
    · rcases List.mem_cons.1 hy with hy | hy
      · exact absurd hy hne
      · exact List.mem_append_right _ hy

theorem WF.pulled {ns ns' : List Nd} {i w : Nat} {f : Int} (h : WF ns) (hp : Pulled ns i ns' f w) : WF ns' := by
  cases hp with
  | root _ _ => exact h
  | @kid n m q hi hq hm hk hqi =>
    have hil := (List.getElem?_eq_some_iff.1 hi).1
    have hql := (List.getElem?_eq_some_iff.1 hm).1
    have G := get2 ns { m with kids := m.kids.eraseIdx (idx m.kids i) } { n with parent := -1 } hqi hql hil
    -- every node that was there is there, with its parent (but for i)
    have F : ∀ (c : Nat) (x : Nd), ns[c]? = some x → c ≠ i → ∃ x', ((ns.set q { m with kids := m.kids.eraseIdx (idx m.kids i) }).set i { n with parent := -1 })[c]? = some x' ∧ x'.parent = x.parent ∧ x'.kind = x.kind ∧ (c ≠ q → x'.kids = x.kids) := by
      intro c x hc hci
      rw [G c, if_neg hci]
      by_cases hcq : c = q
      · subst hcq
        obtain rfl := Option.some.inj (hc.symm.trans hm)
        exact ⟨_, if_pos rfl, rfl, rfl, fun e => absurd rfl e⟩
      · rw [if_neg hcq]
        exact ⟨x, hc, rfl, rfl, fun _ => rfl⟩
    have Gi := G i
    rw [if_pos rfl] at Gi
    have Gq := G q
    rw [if_neg hqi, if_pos rfl] at Gq
    refine ⟨?_, by rw [List.length_set, List.length_set]; exact h.len, ?_, ?_, ?_, ?_⟩
    · obtain ⟨n0, h0, h1, h2⟩ := h.root
      have h0i : 0 ≠ i := by
        intro e
        subst e
        obtain rfl := Option.some.inj (h0.symm.trans hi)
        omega
      obtain ⟨x', g1, g2, g3, _⟩ := F 0 n0 h0 h0i
      exact ⟨x', g1, g3.trans h1, g2.trans h2⟩
    · intro j x hx
      rw [G j] at hx
      split at hx
      · cases hx; exact h.nodup i n hi
      · split at hx
        · cases hx; exact List.Nodup.sublist (List.eraseIdx_sublist ..) (h.nodup q m hm)
        · exact h.nodup j x hx
    · intro j x hx y hy
      rw [G j] at hx
      have main : ∀ y, (∃ x0, ns[j]? = some x0 ∧ y ∈ x0.kids) → y ≠ i → ∃ (c : Nat) (m' : Nd), y = c ∧ ((ns.set q { m with kids := m.kids.eraseIdx (idx m.kids i) }).set i { n with parent := -1 })[c]? = some m' ∧ m'.parent = j := by
        rintro y ⟨x0, k1, k2⟩ hne
        obtain ⟨c, m', e1, e2, e3⟩ := h.kid j x0 k1 y k2
        have hci : c ≠ i := fun e => hne (by rw [e1, e])
        obtain ⟨x', g1, g2, _, _⟩ := F c m' e2 hci
        exact ⟨c, x', e1, g1, g2.trans e3⟩
      split at hx
      · rename_i hji
        subst hji
        cases hx
        refine main y ⟨n, hi, hy⟩ ?_
        intro e
        subst e
        obtain ⟨c, m', e1, e2, e3⟩ := h.kid j n hi _ hy
        have e := Int.ofNat.inj e1
        subst e
        exact h.pne e2 e3 rfl
      · split at hx
        · rename_i hjq
          subst hjq
          cases hx
          have := (erase_mem (h.nodup j m hm) hk).1 hy
          exact main y ⟨m, hm, this.1⟩ this.2
        · refine main y ⟨x, hx, hy⟩ ?_
          intro e
          subst e
          obtain ⟨c, m', e1, e2, e3⟩ := h.kid j x hx _ hy
          have e := Int.ofNat.inj e1
          subst e
          obtain rfl := Option.some.inj (e2.symm.trans hi)
          have := Int.ofNat.inj (hq.symm.trans e3)
          omega
    · intro j x hx
      by_cases hji : j = i
      · subst hji
        rw [Gi] at hx
        cases hx
        exact .inl rfl
      · have hx0 : ∃ x0, ns[j]? = some x0 ∧ x.parent = x0.parent := by
          rw [G j, if_neg hji] at hx
          split at hx
          · rename_i hjq
            subst hjq
            cases hx
            exact ⟨m, hm, rfl⟩
          · exact ⟨x, hx, rfl⟩
        obtain ⟨x0, h0, h1⟩ := hx0
        rcases h.par j x0 h0 with e | ⟨r, y, e1, e2, e3⟩
        · exact .inl (h1.trans e)
        · refine .inr ?_
          by_cases hri : r = i
          · subst hri
            obtain rfl := Option.some.inj (e2.symm.trans hi)
            exact ⟨r, _, h1.trans e1, Gi, e3⟩
          · by_cases hrq : r = q
            · subst hrq
              obtain rfl := Option.some.inj (e2.symm.trans hm)
              exact ⟨r, _, h1.trans e1, Gq, (erase_mem (h.nodup r y hm) hk).2 ⟨e3, by omega⟩⟩
            · exact ⟨r, y, h1.trans e1, by rw [G r, if_neg hri, if_neg hrq]; exact e2, e3⟩
    · have U : ∀ (j : Nat) l, Up ns j l → ∃ l', Up ((ns.set q { m with kids := m.kids.eraseIdx (idx m.kids i) }).set i { n with parent := -1 }) j l' := by
        intro j l hl
        induction hl with
        | @root j x hx hp =>
          by_cases hji : j = i
          · subst hji; exact ⟨_, .root Gi rfl⟩
          · obtain ⟨x', g1, g2, _⟩ := F j x hx hji
            exact ⟨_, .root g1 (g2.trans hp)⟩
        | @up j p l x hx hp hu ih =>
          by_cases hji : j = i
          · subst hji; exact ⟨_, .root Gi rfl⟩
          · obtain ⟨x', g1, g2, _⟩ := F j x hx hji
            obtain ⟨l', hl'⟩ := ih
            exact ⟨_, .up g1 (g2.trans hp) hl'⟩
      intro j x hx
      have hj : j < ns.length := by
        have := (List.getElem?_eq_some_iff.1 hx).1
        simpa using this
      obtain ⟨l, hl⟩ := h.up j _ (List.getElem?_eq_getElem hj)
      exact U j l hl
end Go.Proofs.YtjfklhfdonbpgaaGreatDoor

/- A root is pushed among the kids of another node; what was moved is moved back. -/
namespace Go.Proofs.YtjfklhfdonbpgaaGreatDoor

theorem ins_mem {l : List Int} {x y : Int} {k : Nat} : y ∈ l.take k ++ x :: l.drop k ↔ y = x ∨ y ∈ l := by
  constructor
  · intro h
    rcases List.mem_append.1 h with h | h
    · exact .inr (List.mem_of_mem_take h)
    · rcases List.mem_cons.1 h with h | h
      · exact .inl h
      · exact .inr (List.mem_of_mem_drop h)
  · rintro (h | h)
    · subst h; simp
    · rw [← List.take_append_drop k l] at h
      rcases List.mem_append.1 h with h | h
      · exact List.mem_append_left _ h
      · exact List.mem_append_right _ (List.mem_cons_of_mem _ h)
theorem ins_nodup {l : List Int} {x : Int} {k : Nat} (h : l.Nodup) (hx : x ∉ l) : (l.take k ++ x :: l.drop k).Nodup := by
  have e := h
  rw [← List.take_append_drop k l, List.nodup_append] at e
  obtain ⟨n1, n2, n3⟩ := e
  rw [List.nodup_append]
  refine ⟨n1, List.nodup_cons.2 ⟨fun hm => hx (List.mem_of_mem_drop hm), n2⟩, ?_⟩
  intro a ha b hb hab
  rcases List.mem_cons.1 hb with hb | hb
  · subst hb; subst hab; exact hx (List.mem_of_mem_take ha)
  · exact n3 a ha b hb hab

theorem WF.pushed {ns : List Nd} {i a k : Nat} {n m : Nd} {la : List Nat} (h : WF ns) (hi : ns[i]? = some n) (hr : n.parent = -1) (h0 : i ≠ 0) (hm : ns[a]? = some m) (hu : Up ns a la) (hn : i ∉ la) : WF ((ns.set a { m with kids := m.kids.take k ++ (i : Int) :: m.kids.drop k }).set i { n with parent := a }) := by
  have hai : a ≠ i := fun e => hn (e ▸ hu.head)
  have hil := (List.getElem?_eq_some_iff.1 hi).1
  have hal := (List.getElem?_eq_some_iff.1 hm).1
  have G := get2 ns { m with kids := m.kids.take k ++ (i : Int) :: m.kids.drop k } { n with parent := a } hai hal hil
  generalize hN : (ns.set a { m with kids := m.kids.take k ++ (i : Int) :: m.kids.drop k }).set i { n with parent := a } = N at *
  have F : ∀ (c : Nat) (x : Nd), ns[c]? = some x → c ≠ i → ∃ x', N[c]? = some x' ∧ x'.parent = x.parent ∧ x'.kind = x.kind := by
    intro c x hc hci
    rw [G c, if_neg hci]
    by_cases hca : c = a
    · subst hca
      obtain rfl := Option.some.inj (hc.symm.trans hm)
      exact ⟨_, if_pos rfl, rfl, rfl⟩
    · rw [if_neg hca]
      exact ⟨x, hc, rfl, rfl⟩
  have Gi := G i
  rw [if_pos rfl] at Gi
  have Ga := G a
  rw [if_neg hai, if_pos rfl] at Ga
  have hnk := h.rootNotKid hm hi hr
  refine ⟨?_, by rw [← hN, List.length_set, List.length_set]; exact h.len, ?_, ?_, ?_, ?_⟩
  · obtain ⟨n0, g0, g1, g2⟩ := h.root
    obtain ⟨x', k1, k2, k3⟩ := F 0 n0 g0 (Ne.symm h0)
    exact ⟨x', k1, k3.trans g1, k2.trans g2⟩
  · intro j x hx
    rw [G j] at hx
    split at hx
    · cases hx; exact h.nodup i n hi
    · split at hx
      · cases hx; exact ins_nodup (h.nodup a m hm) hnk
      · exact h.nodup j x hx
  · intro j x hx y hy
    have main : ∀ y, (∃ x0, ns[j]? = some x0 ∧ y ∈ x0.kids) → ∃ (c : Nat) (m' : Nd), y = c ∧ N[c]? = some m' ∧ m'.parent = j := by
      rintro y ⟨x0, k1, k2⟩
      obtain ⟨c, m', e1, e2, e3⟩ := h.kid j x0 k1 y k2
      have hci : c ≠ i := by
        intro e
        subst e
        obtain rfl := Option.some.inj (e2.symm.trans hi)
        omega
      obtain ⟨x', g1, g2, _⟩ := F c m' e2 hci
      exact ⟨c, x', e1, g1, g2.trans e3⟩
    rw [G j] at hx
    split at hx
    · rename_i hji
      subst hji
      cases hx
      exact main y ⟨n, hi, hy⟩
    · split at hx
      · rename_i hja
        subst hja
        cases hx
        rcases ins_mem.1 hy with hy | hy
        · exact ⟨i, _, hy, Gi, rfl⟩
        · exact main y ⟨m, hm, hy⟩
      · exact main y ⟨x, hx, hy⟩
  · intro j x hx
    by_cases hji : j = i
    · subst hji
      rw [Gi] at hx
      cases hx
      exact .inr ⟨a, _, rfl, Ga, ins_mem.2 (.inl rfl)⟩
    · have hx0 : ∃ x0, ns[j]? = some x0 ∧ x.parent = x0.parent := by
        rw [G j, if_neg hji] at hx
        split at hx
        · rename_i hja
          subst hja
          cases hx
          exact ⟨m, hm, rfl⟩
        · exact ⟨x, hx, rfl⟩
      obtain ⟨x0, g0, g1⟩ := hx0
      rcases h.par j x0 g0 with e | ⟨r, y, e1, e2, e3⟩
      · exact .inl (g1.trans e)
      · refine .inr ?_
        by_cases hri : r = i
        · subst hri
          obtain rfl := Option.some.inj (e2.symm.trans hi)
          exact ⟨r, _, g1.trans e1, Gi, e3⟩
        · by_cases hra : r = a
          · subst hra
            obtain rfl := Option.some.inj (e2.symm.trans hm)
            exact ⟨r, _, g1.trans e1, Ga, ins_mem.2 (.inr e3)⟩
          · exact ⟨r, y, g1.trans e1, by rw [G r, if_neg hri, if_neg hra]; exact e2, e3⟩
  · have U0 : ∀ (j : Nat) l, Up ns j l → i ∉ l → Up N j l := by
      intro j l hl
      induction hl with
      | @root j x hx hp =>
        intro hno
        obtain ⟨x', g1, g2, _⟩ := F j x hx (fun e => hno (by simp [e]))
        exact .root g1 (g2.trans hp)
      | @up j p l x hx hp hu ih =>
        intro hno
        obtain ⟨x', g1, g2, _⟩ := F j x hx (fun e => hno (by simp [e]))
        exact .up g1 (g2.trans hp) (ih fun hm => hno (List.mem_cons_of_mem _ hm))
    have Ui : Up N i (i :: la) := .up Gi rfl (U0 a la hu hn)
    have U : ∀ (j : Nat) l, Up ns j l → ∃ l', Up N j l' := by
      intro j l hl
      induction hl with
      | @root j x hx hp =>
        by_cases hji : j = i
        · subst hji; exact ⟨_, Ui⟩
        · obtain ⟨x', g1, g2, _⟩ := F j x hx hji
          exact ⟨_, .root g1 (g2.trans hp)⟩
      | @up j p l x hx hp hu ih =>
        by_cases hji : j = i
        · subst hji; exact ⟨_, Ui⟩
        · obtain ⟨x', g1, g2, _⟩ := F j x hx hji
          obtain ⟨l', hl'⟩ := ih
          exact ⟨_, .up g1 (g2.trans hp) hl'⟩
    intro j x hx
    have hj : j < ns.length := by
      have := (List.getElem?_eq_some_iff.1 hx).1
      rw [← hN] at this
      simpa using this
    obtain ⟨l, hl⟩ := h.up j _ (List.getElem?_eq_getElem hj)
    exact U j l hl

/-- who is pulled out is a root then -/
theorem Pulled.isRoot {ns ns' : List Nd} {i w : Nat} {f : Int} (hp : Pulled ns i ns' f w) : ∃ n, ns'[i]? = some n ∧ n.parent = -1 := by
  cases hp with
  | root h hp => exact ⟨_, h, hp⟩
  | @kid n m q h hp hm hk hq =>
    refine ⟨{ n with parent := -1 }, ?_, rfl⟩
    rw [List.getElem?_set_self]
    rw [List.length_set]
    exact (List.getElem?_eq_some_iff.1 h).1
theorem Pulled.length {ns ns' : List Nd} {i w : Nat} {f : Int} (hp : Pulled ns i ns' f w) : ns'.length = ns.length := by
  cases hp <;> simp
/-- the other nodes are as they were, but for kids -/
theorem Pulled.get {ns ns' : List Nd} {i w : Nat} {f : Int} (hp : Pulled ns i ns' f w) {c : Nat} {x : Nd} (hc : ns[c]? = some x) (hci : c ≠ i) : ∃ x', ns'[c]? = some x' ∧ x'.parent = x.parent ∧ x'.kind = x.kind := by
  cases hp with
  | root _ _ => exact ⟨x, hc, rfl, rfl⟩
  | @kid n m q h hp hm hk hq =>
    rw [get2 ns _ _ hq (List.getElem?_eq_some_iff.1 hm).1 (List.getElem?_eq_some_iff.1 h).1 c, if_neg hci]
    split
    · rename_i e
      subst e
      obtain rfl := Option.some.inj (hc.symm.trans hm)
      exact ⟨_, rfl, rfl, rfl⟩
    · exact ⟨x, hc, rfl, rfl⟩
/-- the chain of a node that doesn't lie in it -/
theorem Pulled.chain {ns ns' : List Nd} {i w : Nat} {f : Int} (hp : Pulled ns i ns' f w) {j : Nat} {l : List Nat} (hu : Up ns j l) (hn : i ∉ l) : Up ns' j l := by
  induction hu with
  | @root j x hx hpx =>
    obtain ⟨x', g1, g2, _⟩ := hp.get hx (fun e => hn (by simp [e]))
    exact .root g1 (g2.trans hpx)
  | @up j p l x hx hpx hu ih =>
    obtain ⟨x', g1, g2, _⟩ := hp.get hx (fun e => hn (by simp [e]))
    exact .up g1 (g2.trans hpx) (ih fun hm => hn (List.mem_cons_of_mem _ hm))

theorem idx_ins {l : List Int} {x : Int} {k : Nat} (hx : x ∉ l) (hk : k ≤ l.length) : idx (l.take k ++ x :: l.drop k) x = k := by
  unfold idx
  have hl : (l.take k).length = k := by simp; omega
  have hno : ∀ y ∈ l.take k, ¬ ((y == x) = true) := by
    intro y hy e
    have e : y = x := by simpa using e
    exact hx (e ▸ List.mem_of_mem_take hy)
  rw [List.findIdx_append, List.findIdx_cons]
  have h1 : ¬ (List.findIdx (fun y => y == x) (l.take k) < (l.take k).length) := by
    rw [List.findIdx_lt_length]
    rintro ⟨y, hy, e⟩
    exact hno y hy e
  rw [if_neg h1]
  simp
  omega
theorem erase_ins {l : List Int} {x : Int} {k : Nat} (hk : k ≤ l.length) : (l.take k ++ x :: l.drop k).eraseIdx k = l := by
  have hl : (l.take k).length = k := by simp; omega
  rw [List.eraseIdx_append_of_length_le (by omega), hl, Nat.sub_self, List.eraseIdx_cons_zero, List.take_append_drop]
theorem ins_erase {l : List Int} {x : Int} (hx : x ∈ l) : (l.eraseIdx (idx l x)).take (idx l x) ++ x :: (l.eraseIdx (idx l x)).drop (idx l x) = l := by
  have hg := idx_get hx
  have hlt := idx_lt hx
  generalize idx l x = k at *
  obtain ⟨h1, h2⟩ := List.getElem?_eq_some_iff.1 hg
  have hl : (l.take k).length = k := by simp; omega
  rw [List.eraseIdx_eq_take_drop_succ]
  have e1 : (l.take k ++ l.drop (k + 1)).take k = l.take k := by rw [List.take_append_of_le_length (by omega), List.take_take, Nat.min_self]
  have e2 : (l.take k ++ l.drop (k + 1)).drop k = l.drop (k + 1) := by
    have : k = (l.take k).length := hl.symm
    conv => lhs; lhs; rw [this]
    rw [List.drop_left]
  rw [e1, e2, ← h2, ← List.drop_eq_getElem_cons h1, List.take_append_drop]

/-- what is pushed can be pulled out again -/
theorem push_pull {ns : List Nd} (h : WF ns) {i k : Nat} {a : Int} {ns' : List Nd} (hr : ∃ n, ns[i]? = some n ∧ n.parent = -1) (hp : Pushed ns i k a ns') : ∃ f w, Pulled ns' i ns f w := by
  obtain ⟨n, hi, hn⟩ := hr
  cases hp with
  | none => exact ⟨_, _, .root hi hn⟩
  | @kid n' m a hm h' ha hk =>
    obtain rfl := Option.some.inj (hi.symm.trans h')
    have hil := (List.getElem?_eq_some_iff.1 hi).1
    have hal := (List.getElem?_eq_some_iff.1 hm).1
    have hnk := h.rootNotKid hm hi hn
    have G := get2 ns { m with kids := m.kids.take k ++ (i : Int) :: m.kids.drop k } { n with parent := a } ha hal hil
    have Gi := G i
    rw [if_pos rfl] at Gi
    have Ga := G a
    rw [if_neg ha, if_pos rfl] at Ga
    have P := Pulled.kid (q := a) Gi rfl Ga (ins_mem.2 (.inl rfl)) ha
    have e : ((((ns.set a { m with kids := m.kids.take k ++ (i : Int) :: m.kids.drop k }).set i { n with parent := a }).set a { m with kids := (m.kids.take k ++ (i : Int) :: m.kids.drop k).eraseIdx (idx (m.kids.take k ++ (i : Int) :: m.kids.drop k) i) }).set i { n with parent := -1 }) = ns := by
      apply List.ext_getElem?
      intro j
      rw [idx_ins hnk hk, erase_ins hk, get2 _ _ _ ha (by simp; exact hal) (by simp; exact hil) j, G j]
      split
      · rename_i e; subst e; rw [hi]; rw [← hn]
      · split
        · rename_i e; subst e; rw [hm]
        · rfl
    rw [e] at P
    exact ⟨_, _, P⟩

/-- what was pulled out can be pushed back -/
theorem pull_push {ns mid : List Nd} {i w : Nat} {f : Int} (hp : Pulled ns i mid f w) : Pushed mid i w f ns := by
  cases hp with
  | root _ _ => exact .none
  | @kid n m q hi hq hm hk hqi =>
    have hil := (List.getElem?_eq_some_iff.1 hi).1
    have hql := (List.getElem?_eq_some_iff.1 hm).1
    have G := get2 ns { m with kids := m.kids.eraseIdx (idx m.kids i) } { n with parent := -1 } hqi hql hil
    have Gi := G i
    rw [if_pos rfl] at Gi
    have Gq := G q
    rw [if_neg hqi, if_pos rfl] at Gq
    have hlt := idx_lt hk
    have P := Pushed.kid (k := idx m.kids i) Gq Gi hqi (by simp only [List.length_eraseIdx, if_pos hlt]; omega)
    have e : (((ns.set q { m with kids := m.kids.eraseIdx (idx m.kids i) }).set i { n with parent := -1 }).set q { m with kids := (m.kids.eraseIdx (idx m.kids i)).take (idx m.kids i) ++ (i : Int) :: (m.kids.eraseIdx (idx m.kids i)).drop (idx m.kids i) }).set i { n with parent := (q : Int) } = ns := by
      apply List.ext_getElem?
      intro j
      rw [ins_erase hk, get2 _ _ _ hqi (by simp; exact hql) (by simp; exact hil) j, G j]
      split
      · rename_i e; subst e; rw [hi]; rw [← hq]
      · split
        · rename_i e; subst e; rw [hm]
        · rfl
    rw [e] at P
    exact P

/-- what a kept function does -/
inductive Rec where
  | forget (n : Nat)
  | move (i : Nat) (f : Int) (w : Nat)
  | cut (i : Nat)
  | back (i k : Nat) (old : ByteArray)
  | ins (i k : Nat) (x : ByteArray × ByteArray)
  | say (i : Nat) (old : ByteArray)

/-- what it makes of the nodes -/
def Undoes (ns ns' : List Nd) : Rec → Prop
  | .forget n => n < ns.length ∧ ns' = ns.take n
  | .move i f w => ∃ mid f' w', Pulled ns i mid f' w' ∧ Pushed mid i w f ns'
  | .cut i => ∃ n xs x, ns[i]? = some n ∧ n.attrs = xs ++ [x] ∧ ns' = ns.set i { n with attrs := xs }
  | .back i k old => ∃ n x, ns[i]? = some n ∧ n.attrs[k]? = some x ∧ ns' = ns.set i { n with attrs := n.attrs.set k (x.1, old) }
  | .ins i k x => ∃ n, ns[i]? = some n ∧ k ≤ n.attrs.length ∧ ns' = ns.set i { n with attrs := n.attrs.take k ++ x :: n.attrs.drop k }
  | .say i old => ∃ n, ns[i]? = some n ∧ ns' = ns.set i { n with words := old }

/-- no node has too many attributes -/
def Few (ns : List Nd) (K : Nat) : Prop := ∀ (j : Nat) (n : Nd), ns[j]? = some n → n.attrs.length ≤ K
theorem Few.mono {ns : List Nd} {K L : Nat} (h : Few ns K) (hKL : K ≤ L) : Few ns L := fun j n hn => Nat.le_trans (h j n hn) hKL

theorem undo_move {ns mid ns' : List Nd} (hm : WF mid) {i k w : Nat} {f a : Int} (hp : Pulled ns i mid f w) (hq : Pushed mid i k a ns') : Undoes ns' ns (.move i f w) := by
  obtain ⟨f', w', h⟩ := push_pull hm hp.isRoot hq
  exact ⟨mid, f', w', h, pull_push hp⟩

/-- a node's attributes or words turn -/
theorem WF.turn {ns : List Nd} (h : WF ns) {i : Nat} {n n' : Nd} (hi : ns[i]? = some n) (h1 : n'.kind = n.kind) (h2 : n'.parent = n.parent) (h3 : n'.kids = n.kids) : WF (ns.set i n') := by
  have hil := (List.getElem?_eq_some_iff.1 hi).1
  have G : ∀ j : Nat, (ns.set i n')[j]? = if j = i then some n' else ns[j]? := by
    intro j
    by_cases hj : j = i
    · subst hj; rw [if_pos rfl, List.getElem?_set_self hil]
    · rw [if_neg hj, List.getElem?_set_ne (Ne.symm hj)]
  have back : ∀ (j : Nat) x, (ns.set i n')[j]? = some x → ∃ x0, ns[j]? = some x0 ∧ x.kind = x0.kind ∧ x.parent = x0.parent ∧ x.kids = x0.kids := by
    intro j x hx
    rw [G j] at hx
    split at hx
    · rename_i e; subst e; cases hx; exact ⟨n, hi, h1, h2, h3⟩
    · exact ⟨x, hx, rfl, rfl, rfl⟩
  have forth : ∀ (j : Nat) x, ns[j]? = some x → ∃ x', (ns.set i n')[j]? = some x' ∧ x'.kind = x.kind ∧ x'.parent = x.parent ∧ x'.kids = x.kids := by
    intro j x hx
    rw [G j]
    split
    · rename_i e; subst e; obtain rfl := Option.some.inj (hx.symm.trans hi); exact ⟨n', rfl, h1, h2, h3⟩
    · exact ⟨x, hx, rfl, rfl, rfl⟩
  refine ⟨?_, by rw [List.length_set]; exact h.len, ?_, ?_, ?_, ?_⟩
  · obtain ⟨n0, g0, g1, g2⟩ := h.root
    obtain ⟨x', k1, k2, k3, _⟩ := forth 0 n0 g0
    exact ⟨x', k1, k2.trans g1, k3.trans g2⟩
  · intro j x hx
    obtain ⟨x0, k0, _, _, k3⟩ := back j x hx
    rw [k3]; exact h.nodup j x0 k0
  · intro j x hx y hy
    obtain ⟨x0, k0, _, _, k3⟩ := back j x hx
    rw [k3] at hy
    obtain ⟨c, m, e1, e2, e3⟩ := h.kid j x0 k0 y hy
    obtain ⟨m', g1, _, g3, _⟩ := forth c m e2
    exact ⟨c, m', e1, g1, g3.trans e3⟩
  · intro j x hx
    obtain ⟨x0, k0, _, k2, _⟩ := back j x hx
    rcases h.par j x0 k0 with e | ⟨r, y, e1, e2, e3⟩
    · exact .inl (k2.trans e)
    · obtain ⟨m', g1, _, _, g4⟩ := forth r y e2
      exact .inr ⟨r, m', k2.trans e1, g1, by rw [g4]; exact e3⟩
  · have U : ∀ (j : Nat) l, Up ns j l → Up (ns.set i n') j l := by
      intro j l hl
      induction hl with
      | @root j x hx hp =>
        obtain ⟨x', g1, _, g3, _⟩ := forth j x hx
        exact .root g1 (g3.trans hp)
      | @up j p l x hx hp hu ih =>
        obtain ⟨x', g1, _, g3, _⟩ := forth j x hx
        exact .up g1 (g3.trans hp) ih
    intro j x hx
    obtain ⟨x0, k0, _⟩ := back j x hx
    obtain ⟨l, hl⟩ := h.up j x0 k0
    exact ⟨l, U j l hl⟩

/-- a new root -/
theorem WF.snoc {ns : List Nd} (h : WF ns) (hl : ns.length < 400) (n : Nd) (hp : n.parent = -1) (hk : n.kids = []) : WF (ns ++ [n]) := by
  have ext : ∀ (j : Nat) x, ns[j]? = some x → (ns ++ [n])[j]? = some x := fun j x hx => by
    rw [List.getElem?_append_left (List.getElem?_eq_some_iff.1 hx).1]; exact hx
  have back : ∀ (j : Nat) x, (ns ++ [n])[j]? = some x → ns[j]? = some x ∨ (j = ns.length ∧ x = n) := fun j x hx => by
    by_cases hj : j < ns.length
    · rw [List.getElem?_append_left hj] at hx; exact .inl hx
    · rw [List.getElem?_append_right (by omega)] at hx
      rcases Nat.eq_zero_or_pos (j - ns.length) with e | e
      · rw [e] at hx; cases hx; exact .inr ⟨by omega, rfl⟩
      · rw [List.getElem?_eq_none (by simp; omega)] at hx; cases hx
  refine ⟨?_, by simp; omega, ?_, ?_, ?_, ?_⟩
  · obtain ⟨n0, g0, g1, g2⟩ := h.root
    exact ⟨n0, ext 0 n0 g0, g1, g2⟩
  · intro j x hx
    rcases back j x hx with hx | ⟨_, rfl⟩
    · exact h.nodup j x hx
    · rw [hk]; exact List.nodup_nil
  · intro j x hx y hy
    rcases back j x hx with hx | ⟨_, rfl⟩
    · obtain ⟨c, m, e1, e2, e3⟩ := h.kid j x hx y hy
      exact ⟨c, m, e1, ext c m e2, e3⟩
    · rw [hk] at hy; cases hy
  · intro j x hx
    rcases back j x hx with hx | ⟨_, rfl⟩
    · rcases h.par j x hx with e | ⟨r, y, e1, e2, e3⟩
      · exact .inl e
      · exact .inr ⟨r, y, e1, ext r y e2, e3⟩
    · exact .inl hp
  · have U : ∀ (j : Nat) l, Up ns j l → Up (ns ++ [n]) j l := by
      intro j l hl
      induction hl with
      | @root j x hx hp => exact .root (ext j x hx) hp
      | @up j p l x hx hp hu ih => exact .up (ext j x hx) hp ih
    intro j x hx
    rcases back j x hx with hx' | ⟨_, rfl⟩
    · obtain ⟨l, hl⟩ := h.up j x hx'
      exact ⟨l, U j l hl⟩
    · exact ⟨_, .root hx hp⟩
end Go.Proofs.YtjfklhfdonbpgaaGreatDoor

/- A node is moved, and moved back. -/
namespace Go.Proofs.YtjfklhfdonbpgaaGreatDoor
open Go.RowKit

/-- no list of kids is too long -/
def KidsFew (ns : List Nd) : Prop := ∀ (j : Nat) (n : Nd), ns[j]? = some n → n.kids.length ≤ 1099511627776
theorem WF.kidsFew {ns : List Nd} (h : WF ns) : KidsFew ns := fun j n hn => Nat.le_trans (h.few hn) (by omega)

theorem pull_any {w : World} {M : Nat → Lab} {tb : Nat} {nv uv : Value} {ps : List Pn} {us : List Value} (h : Lies w M tb nv uv ps us) {i wz : Nat} {f : Int} {ns' : List Nd} (hp : Pulled (nodesOf ps) i ns' f wz) :
    Calls Tryz.prog 78 #[.pointer (some ⟨tb, 0, none⟩), .int .i64 i] w fun e w' => e = .returned (.tuple #[.int .i64 f, .int .i64 wz]) ∧ ∃ ps', Lies w' M tb nv uv ps' us ∧ nodesOf ps' = ns' ∧ Moved w M w' M := by
  cases hp with
  | root hi hr =>
    obtain ⟨p, hp, rfl⟩ := nodesOf_get hi
    refine (pull_root h hp hr).mono ?_
    rintro e w' ⟨rfl, rfl⟩
    exact ⟨rfl, ps, h, rfl, Moved.refl _ _⟩
  | kid hi hq hm hk hqi =>
    obtain ⟨p, hp, rfl⟩ := nodesOf_get hi
    obtain ⟨m, hm', rfl⟩ := nodesOf_get hm
    refine (pull_kid h hp hq hm' hk hqi).mono ?_
    rintro e w' ⟨rfl, kv', h1, h2⟩
    exact ⟨rfl, _, h1, by simp [nodesOf, pullP, List.map_set], h2⟩

theorem push_gen {w : World} {M : Nat → Lab} {tb : Nat} {nv uv : Value} {ps : List Pn} {us : List Value} (h : Lies w M tb nv uv ps us) {i k : Nat} {a : Int} {ns' : List Nd} (hp : Pushed (nodesOf ps) i k a ns') (hf : KidsFew (nodesOf ps)) :
    Calls Tryz.prog 79 #[.pointer (some ⟨tb, 0, none⟩), .int .i64 a, .int .i64 i, .int .i64 k] w fun e w' => e = .returned (.tuple #[]) ∧ ∃ M' ps', Lies w' M' tb nv uv ps' us ∧ nodesOf ps' = ns' ∧ Moved w M w' M' := by
  cases hp with
  | none =>
    refine (push_none tb _ _ _).mono ?_
    rintro e w' ⟨rfl, rfl⟩
    exact ⟨rfl, M, ps, h, rfl, Moved.refl _ _⟩
  | kid hm hi ha hk =>
    obtain ⟨p, hp, rfl⟩ := nodesOf_get hi
    obtain ⟨m, hm', rfl⟩ := nodesOf_get hm
    refine (push_all h hm' hp ha (hf _ _ hm) hk).mono ?_
    rintro e w' ⟨rfl, M', kv', h1, h2⟩
    exact ⟨rfl, M', _, h1, by simp [nodesOf, List.map_set], h2⟩

set_option maxHeartbeats 4000000 in
set_option maxRecDepth 100000 in
theorem move_any {w : World} {M : Nat → Lab} {tb : Nat} {nv uv : Value} {ps : List Pn} {us : List Value} (h : Lies w M tb nv uv ps us) {i k wz : Nat} {f a : Int} {mid ns' : List Nd} (hp : Pulled (nodesOf ps) i mid f wz) (hq : Pushed mid i k a ns') (hf : KidsFew mid) :
    Calls Tryz.prog 56 #[.pointer (some ⟨tb, 0, none⟩), .int .i64 a, .int .i64 i, .int .i64 k] w fun e w' => ∃ ca, e = .returned (.func (.func 80) #[] ca) ∧ ∃ M' ps', Lies w' M' tb nv uv ps' us ∧ nodesOf ps' = ns' ∧ Moved w M w' M' ∧ MvF w' M' (.func (.func 80) #[] ca) tb i f wz := by
  have HP : Hid (Pulled (nodesOf ps) i mid f wz) := hp
  have HQ : Hid (Pushed mid i k a ns') := hq
  have HF : Hid (KidsFew mid) := hf
  have H : Hid (Lies w M tb nv uv ps us) := h
  clear h hp hq hf
  go_enter Tryz.func56, Tryz.ntmps56
  go_wp2_with (first
    | (go_at_call 78; refine (pull_any ((H.out.alloc _).alloc _) HP.out).mono ?_; rintro e w1 ⟨rfl, ps1, hL1, hn1, hm1⟩
       have b0 : w1.cell? ⟨w.heap.size, 0, none⟩ = some (.pointer (some ⟨tb, 0, none⟩)) := moved_cell hm1 (H.out.fresh _ (Nat.le_refl _)) (by simp)
       have b1 : w1.cell? ⟨w.heap.size + 1, 0, none⟩ = some (.int .i64 i) := moved_cell hm1 (H.out.fresh _ (by omega)) (by simp)
       have l0 : w.heap.size + 1 < w1.heap.size := World.block_lt_of_cell? w1 _ b1
       have l1 : w.heap.size < w1.heap.size := by omega
       have H1 : Hid _ := And.intro hL1 (And.intro hm1 hn1)
       clear hL1 hm1 hn1)
    | (go_at_call 79; refine (push_gen ((H1.out.1.alloc _).alloc _) (H1.out.2.2.symm ▸ HQ.out) (H1.out.2.2.symm ▸ HF.out)).mono ?_; rintro e w2 ⟨rfl, M2, ps2, hL2, hn2, hm2⟩))
  go_ret
  have h0 := H.out.fresh w.heap.size (Nat.le_refl _)
  have h1 := H.out.fresh (w.heap.size + 1) (by omega)
  have h2 := H1.out.1.fresh w1.heap.size (Nat.le_refl _)
  have h3 := H1.out.1.fresh (w1.heap.size + 1) (by omega)
  have lb : ∀ {b : Nat}, b < w1.heap.size + 1 + 1 → M b = .other → M2 b = .other := fun {b} hb ho => (hm2.lab b (by simpa using hb)).trans ho
  refine ⟨_, rfl, M2, ps2, hL2, hn2, ((((((Moved.refl w M).alloc _).alloc _).trans H1.out.2.1).alloc _).alloc _).trans hm2, ⟨_, _, _, _, rfl, ⟨lb (by omega) h0, lb (by omega) h1, lb (by omega) h2, lb (by omega) h3⟩, ?_, ?_, ?_, ?_⟩⟩
  · exact moved_cell hm2 h0 (moved_cell (((Moved.refl w1 M).alloc _).alloc _) h0 b0)
  · exact moved_cell hm2 h1 (moved_cell (((Moved.refl w1 M).alloc _).alloc _) h1 b1)
  · exact moved_cell hm2 h2 (by simp)
  · exact moved_cell hm2 h3 (by simp)

set_option maxHeartbeats 4000000 in
set_option maxRecDepth 100000 in
theorem move1_any {w : World} {M : Nat → Lab} {tb : Nat} {nv uv : Value} {ps : List Pn} {us : List Value} (h : Lies w M tb nv uv ps us) {i wz wz' : Nat} {f f' : Int} {mid ns' : List Nd} {ca : Array Value} (hM : MvF w M (.func (.func 80) #[] ca) tb i f wz) (hp : Pulled (nodesOf ps) i mid f' wz') (hq : Pushed mid i wz f ns') (hf : KidsFew mid) :
    Calls Tryz.prog 80 ca w fun e w' => e = .returned (.tuple #[]) ∧ ∃ M' ps', Lies w' M' tb nv uv ps' us ∧ nodesOf ps' = ns' ∧ Moved w M w' M' := by
  obtain ⟨b1, b2, b3, b4, he, ⟨m1, m2, m3, m4⟩, k1, k2, k3, k4⟩ := hM
  cases he
  have HP : Hid (Pulled (nodesOf ps) i mid f' wz') := hp
  have HQ : Hid (Pushed mid i wz f ns') := hq
  have HF : Hid (KidsFew mid) := hf
  have H : Hid (Lies w M tb nv uv ps us) := h
  have HM : Hid (M b1 = .other ∧ M b2 = .other ∧ M b3 = .other ∧ M b4 = .other) := ⟨m1, m2, m3, m4⟩
  clear h hp hq hf m1 m2 m3 m4
  go_enter Tryz.func80, Tryz.ntmps80
  go_wp2_with (first
    | (go_at_call 78; refine (pull_any H.out HP.out).mono ?_; rintro e w1 ⟨rfl, ps1, hL1, hn1, hm1⟩
       have c1 := moved_cell hm1 HM.out.1 k1
       have c2 := moved_cell hm1 HM.out.2.1 k2
       have c3 := moved_cell hm1 HM.out.2.2.1 k3
       have c4 := moved_cell hm1 HM.out.2.2.2 k4
       have H1 : Hid _ := And.intro hL1 (And.intro hm1 hn1)
       clear hL1 hm1 hn1)
    | (go_at_call 79; refine (push_gen H1.out.1 (H1.out.2.2.symm ▸ HQ.out) (H1.out.2.2.symm ▸ HF.out)).mono ?_; rintro e w2 ⟨rfl, M2, ps2, hL2, hn2, hm2⟩))
  go_end0
  exact ⟨rfl, M2, ps2, hL2, hn2, H1.out.2.1.trans hm2⟩
end Go.Proofs.YtjfklhfdonbpgaaGreatDoor

/- What Put and Take make of any tree. -/
namespace Go.Proofs.YtjfklhfdonbpgaaGreatDoor
open Go.RowKit

theorem hasB_get {ps : List Pn} {a : Int} (h : hasB ps.length a = true) : ∃ (i : Nat) (p : Pn), a = i ∧ ps[i]? = some p := by
  unfold hasB at h
  simp at h
  obtain ⟨i, rfl⟩ : ∃ i : Nat, a = i := ⟨a.toNat, by omega⟩
  exact ⟨i, _, rfl, List.getElem?_eq_getElem (by omega)⟩

/-- nothing was done, and an error is told -/
def Refused (w : World) (e : Ending) (w' : World) : Prop := (∃ v, e = .returned v ∧ isErr v) ∧ Below w.heap.size w w'
/-- a node was moved -/
def WasMoved (w : World) (M : Nat → Lab) (tb : Nat) (nv : Value) (ps : List Pn) (us : List Value) (e : Ending) (w' : World) : Prop :=
  e = .returned .nilIface ∧ ∃ M' uv' ps' f i fr wz, Lies w' M' tb nv uv' ps' (us ++ [f]) ∧ MvF w' M' f tb i fr (wz : Nat) ∧ WF (nodesOf ps') ∧ Undoes (nodesOf ps') (nodesOf ps) (.move i fr wz) ∧ Moved w M w' M' ∧ (nodesOf ps').map Nd.attrs = (nodesOf ps).map Nd.attrs

theorem set_attrs {ns : List Nd} {i : Nat} {n n' : Nd} (h : ns[i]? = some n) (he : n'.attrs = n.attrs) : (ns.set i n').map Nd.attrs = ns.map Nd.attrs := by
  apply List.ext_getElem?
  intro j
  rw [List.map_set, he]
  by_cases hj : j = i
  · subst hj
    rw [List.getElem?_set_self (by simp; exact (List.getElem?_eq_some_iff.1 h).1)]
    simp [h]
  · rw [List.getElem?_set_ne (Ne.symm hj)]
theorem Pulled.attrs {ns ns' : List Nd} {i w : Nat} {f : Int} (hp : Pulled ns i ns' f w) : ns'.map Nd.attrs = ns.map Nd.attrs := by
  cases hp with
  | root _ _ => rfl
  | @kid n m q h hp hm hk hq =>
    refine Eq.trans (set_attrs (n := n) ?_ (by rfl)) (set_attrs hm (by rfl))
    rw [List.getElem?_set_ne hq]; exact h
theorem Pushed.attrs {ns ns' : List Nd} {i k : Nat} {a : Int} (hp : Pushed ns i k a ns') : ns'.map Nd.attrs = ns.map Nd.attrs := by
  cases hp with
  | none => rfl
  | @kid n m a hm h ha hk =>
    refine Eq.trans (set_attrs (n := n) ?_ (by rfl)) (set_attrs hm (by rfl))
    rw [List.getElem?_set_ne ha]; exact h

set_option maxHeartbeats 4000000 in
set_option maxRecDepth 100000 in
theorem take_any {w : World} {M : Nat → Lab} {tb : Nat} {nv uv : Value} {ps : List Pn} {us : List Value} (h : Lies w M tb nv uv ps us) (hE : Errs w M) (hW : WF (nodesOf ps)) (hu : us.length ≤ 1099511627776) (b : Int) :
    Calls Tryz.prog 28 #[.pointer (some ⟨tb, 0, none⟩), .int .i64 b] w fun e w' => Refused w e w' ∨ WasMoved w M tb nv ps us e w' := by
  obtain ⟨t1, a1, hc1⟩ := hE.cell 1 (by decide)
  obtain ⟨t2, a2, hc2⟩ := hE.cell 2 (by decide)
  have H : Hid (Lies w M tb nv uv ps us) := h
  have HW : Hid (WF (nodesOf ps)) := hW
  clear hE hW
  cases hb : hasB ps.length b
  · clear h
    go_enter Tryz.func28, Tryz.ntmps28
    go_wp2_with (go_at_call 45; refine (has_any H.out _).mono ?_; rintro e w' ⟨rfl, rfl⟩; rw [hb])
    go_ret
    exact .inl ⟨⟨_, rfl, ⟨t1, a1, rfl⟩⟩, Below.refl _ _⟩
  · obtain ⟨i, p, rfl, hp⟩ := hasB_get hb
    have hpn := nodes_get hp
    obtain ⟨nb, cap, rfl, hc, hm, _, _, hil⟩ := h.form hp
    have c0 := h.cell0
    have c4 := (h.cellN rfl (f := 4) hp (by omega) rfl).1
    have i1 : (0 : Int) ≤ (i : Int) := by omega
    have i2 : (i : Int) < (ps.length : Int) := by omega
    unfold maxLen at hm
    by_cases hr : p.n.parent = -1
    · rw [hr] at c4
      clear h hp hpn
      go_enter Tryz.func28, Tryz.ntmps28
      go_wp2_with (go_at_call 45; refine (has_any H.out _).mono ?_; rintro e w' ⟨rfl, rfl⟩; rw [hb])
      go_ret
      exact .inl ⟨⟨_, rfl, ⟨t2, a2, rfl⟩⟩, Below.refl _ _⟩
    · obtain ⟨mid, fr, wz, hP⟩ := HW.out.pulls hpn
      have HP : Hid (Pulled (nodesOf ps) i mid fr wz) := hP
      have hrb : (p.n.parent == -1) = false := by simpa using hr
      clear h hp hpn hP
      go_enter Tryz.func28, Tryz.ntmps28
      go_wp2_with (first
        | (go_at_call 45; refine (has_any H.out _).mono ?_; rintro e w' ⟨rfl, rfl⟩; rw [hb])
        | (go_at_call 56; refine (move_any (k := 0) H.out HP.out .none (HW.out.pulled HP.out).kidsFew).mono ?_; rintro e w1 ⟨ca, rfl, M1, ps1, hL1, hn1, hm1, hv1⟩; have H1 : Hid _ := And.intro hL1 (And.intro hn1 (And.intro hm1 hv1)); clear hL1 hn1 hm1 hv1)
        | (go_at_call 55; refine (keep_any H1.out.1 _ _ ca hu).mono ?_; rintro e w2 ⟨rfl, M2, uv2, hL2, hm2⟩; have H2 : Hid _ := And.intro hL2 hm2; clear hL2 hm2))
      go_ret
      refine .inr ⟨rfl, M2, uv2, ps1, _, i, fr, wz, H2.out.1, H1.out.2.2.2.moved H2.out.2, ?_, ?_, H1.out.2.2.1.trans H2.out.2, ?_⟩
      · rw [H1.out.2.1]; exact HW.out.pulled HP.out
      · rw [H1.out.2.1]; exact undo_move (k := 0) (HW.out.pulled HP.out) HP.out .none
      · rw [H1.out.2.1]; exact HP.out.attrs

/-- how many others a node has beside it, if it goes there -/
def others (a : Nat) (p : Pn) (m : Pn) : Int := if p.n.parent = (a : Int) then (m.n.kids.length : Int) - 1 else m.n.kids.length

theorem others_mid {ns mid : List Nd} {i a wz : Nat} {fr : Int} {n m : Nd} (hp : Pulled ns i mid fr wz) (hi : ns[i]? = some n) (ha : ns[a]? = some m) (hai : a ≠ i) : ∃ m', mid[a]? = some m' ∧ (m'.kids.length : Int) = if n.parent = (a : Int) then (m.kids.length : Int) - 1 else m.kids.length := by
  cases hp with
  | root h hr =>
    obtain rfl := Option.some.inj (hi.symm.trans h)
    exact ⟨m, ha, by rw [if_neg (by omega)]⟩
  | @kid n' m' q h hq hm hk hqi =>
    obtain rfl := Option.some.inj (hi.symm.trans h)
    have G := get2 ns { m' with kids := m'.kids.eraseIdx (idx m'.kids i) } { n with parent := -1 } hqi (List.getElem?_eq_some_iff.1 hm).1 (List.getElem?_eq_some_iff.1 h).1 a
    rw [if_neg hai] at G
    by_cases haq : a = q
    · subst haq
      obtain rfl := Option.some.inj (ha.symm.trans hm)
      rw [if_pos rfl] at G
      have hlt := idx_lt hk
      refine ⟨_, G, ?_⟩
      rw [if_pos hq]
      simp only [List.length_eraseIdx, if_pos hlt]
      omega
    · rw [if_neg haq] at G
      exact ⟨m, G.trans ha, by rw [if_neg (by omega)]⟩

set_option maxHeartbeats 8000000 in
set_option maxRecDepth 100000 in
theorem put_good {w : World} {M : Nat → Lab} {tb : Nat} {nv uv : Value} {ps : List Pn} {us : List Value} (h : Lies w M tb nv uv ps us) (hW : WF (nodesOf ps)) (hu : us.length ≤ 1099511627776) {a i c : Nat} {p m : Pn} (hp : ps[i]? = some p) (hm : ps[a]? = some m) (h0 : i ≠ 0) (hk : kidsB m.n.kind = true) {la : List Nat} (hup : Up (nodesOf ps) a la) (hno : i ∉ la) (hc : (c : Int) ≤ others a p m) :
    Calls Tryz.prog 25 #[.pointer (some ⟨tb, 0, none⟩), .int .i64 a, .int .i64 i, .int .i64 c] w (WasMoved w M tb nv ps us) := by
  have hai : a ≠ i := fun e => hno (e ▸ hup.head)
  obtain ⟨mid, fr, wz, hP⟩ := hW.pulls (nodes_get hp)
  obtain ⟨m', hm', hl'⟩ := others_mid hP (nodes_get hp) (nodes_get hm) hai
  obtain ⟨n', hn', hr'⟩ := hP.isRoot
  have hcl : c ≤ m'.kids.length := by unfold others at hc; omega
  have HP : Hid (Pulled (nodesOf ps) i mid fr wz) := hP
  have HQ : Hid (Pushed mid i c a _) := Pushed.kid hm' hn' hai hcl
  have HWm : Hid (WF mid) := hW.pulled hP
  have HWf : Hid (WF ((mid.set a { m' with kids := m'.kids.take c ++ (i : Int) :: m'.kids.drop c }).set i { n' with parent := a })) := (hW.pulled hP).pushed hn' hr' h0 hm' (hP.chain hup hno) hno
  have hb1 := hasB_of hm
  have hb2 := hasB_of hp
  have hwi : decide (i ∈ la) = false := by simpa using hno
  have hi0 : ((i : Int) == 0) = false := by simp; omega
  have hi0' : ¬ ((i : Int) = 0) := by omega
  obtain ⟨nb, cap, rfl, hcp, hmx, _, _, hil⟩ := h.form hp
  have hal := (List.getElem?_eq_some_iff.1 hm).1
  have c0 := h.cell0
  have c4 := (h.cellN rfl (f := 4) hp (by omega) rfl).1
  have c5 := (h.cellN rfl (f := 5) hm (by omega) rfl).1
  obtain ⟨ka, kc, hkv, hk1, hk2⟩ := (h.node a m hm).2.shape
  rw [hkv] at c5
  have hfew := hW.few (nodes_get hm)
  have H : Hid (Lies w M tb (.slice (some ⟨nb, 0, none⟩) ps.length cap) uv ps us) := h
  have HM : Hid (ps[a]? = some m) := hm
  have HU : Hid (Up (nodesOf ps) a la) := hup
  have i1 : (0 : Int) ≤ (i : Int) := by omega
  have i2 : (i : Int) < (ps.length : Int) := by omega
  have i3 : (0 : Int) ≤ (a : Int) := by omega
  have i4 : (a : Int) < (ps.length : Int) := by omega
  have i5 : (0 : Int) ≤ (c : Int) := by omega
  unfold maxLen at hmx hk2
  unfold others at hc
  clear h hW hp hm hup hP hm' hn' hkv hl' hcl hr'
  by_cases hpa : p.n.parent = (a : Int)
  all_goals (first | rw [if_pos hpa] at hc | rw [if_neg hpa] at hc)
  all_goals
    go_enter Tryz.func25, Tryz.ntmps25
    go_wp2_with (first
      | (go_at_call 45; refine (has_any H.out _).mono ?_; rintro e w' ⟨rfl, rfl⟩; simp only [hb1, hb2])
      | (go_at_call 53; refine (mayHaveKids_any H.out HM.out).mono ?_; rintro e w' ⟨rfl, rfl⟩; rw [hk])
      | (go_at_call 54; refine (within_any H.out HU.out i).mono ?_; rintro e w' ⟨rfl, rfl⟩; rw [hwi])
      | (go_at_call 56; refine (move_any H.out HP.out HQ.out HWm.out.kidsFew).mono ?_; rintro e w1 ⟨ca, rfl, M1, ps1, hL1, hn1, hm1, hv1⟩; have H1 : Hid _ := And.intro hL1 (And.intro hn1 (And.intro hm1 hv1)); clear hL1 hn1 hm1 hv1)
      | (go_at_call 55; refine (keep_any H1.out.1 _ _ ca hu).mono ?_; rintro e w2 ⟨rfl, M2, uv2, hL2, hm2⟩; have H2 : Hid _ := And.intro hL2 hm2; clear hL2 hm2))
  all_goals go_ret
  all_goals refine ⟨rfl, M2, uv2, ps1, _, i, fr, wz, H2.out.1, H1.out.2.2.2.moved H2.out.2, ?_, ?_, H1.out.2.2.1.trans H2.out.2, ?_⟩
  all_goals rw [H1.out.2.1]
  all_goals first
    | exact HWf.out
    | exact undo_move HWm.out HP.out HQ.out
    | exact HQ.out.attrs.trans HP.out.attrs

set_option maxHeartbeats 8000000 in
set_option maxRecDepth 100000 in
theorem put_any {w : World} {M : Nat → Lab} {tb : Nat} {nv uv : Value} {ps : List Pn} {us : List Value} (h : Lies w M tb nv uv ps us) (hE : Errs w M) (hW : WF (nodesOf ps)) (hu : us.length ≤ 1099511627776) (a b c : Int) :
    Calls Tryz.prog 25 #[.pointer (some ⟨tb, 0, none⟩), .int .i64 a, .int .i64 b, .int .i64 c] w fun e w' => Refused w e w' ∨ WasMoved w M tb nv ps us e w' := by
  obtain ⟨t1, a1, hc1⟩ := hE.cell 1 (by decide)
  obtain ⟨t2, a2, hc2⟩ := hE.cell 2 (by decide)
  have H : Hid (Lies w M tb nv uv ps us) := h
  have HW : Hid (WF (nodesOf ps)) := hW
  clear hE hW
  cases hb1 : hasB ps.length a
  · clear h
    go_enter Tryz.func25, Tryz.ntmps25
    go_wp2_with (go_at_call 45; refine (has_any H.out _).mono ?_; rintro e w' ⟨rfl, rfl⟩; simp only [hb1])
    all_goals go_ret
    all_goals exact .inl ⟨⟨_, rfl, ⟨t1, a1, rfl⟩⟩, Below.refl _ _⟩
  cases hb2 : hasB ps.length b
  · clear h
    go_enter Tryz.func25, Tryz.ntmps25
    go_wp2_with (go_at_call 45; refine (has_any H.out _).mono ?_; rintro e w' ⟨rfl, rfl⟩; simp only [hb1, hb2])
    all_goals go_ret
    all_goals exact .inl ⟨⟨_, rfl, ⟨t1, a1, rfl⟩⟩, Below.refl _ _⟩
  obtain ⟨an, m, rfl, hm⟩ := hasB_get hb1
  obtain ⟨i, p, rfl, hp⟩ := hasB_get hb2
  have HM : Hid (ps[an]? = some m) := hm
  have HP : Hid (ps[i]? = some p) := hp
  by_cases h0 : i = 0
  · subst h0
    have hb3 : hasB ps.length 0 = true := hb2
    clear h hm hp
    go_enter Tryz.func25, Tryz.ntmps25
    go_wp2_with (go_at_call 45; refine (has_any H.out _).mono ?_; rintro e w' ⟨rfl, rfl⟩; first | rw [hb1] | rw [hb3])
    all_goals go_ret
    all_goals exact .inl ⟨⟨_, rfl, ⟨t2, a2, rfl⟩⟩, Below.refl _ _⟩
  have hi0 : ((i : Int) == 0) = false := by simp; omega
  have hi0' : ¬ ((i : Int) = 0) := by omega
  cases hk : kidsB m.n.kind
  · clear h hm hp
    go_enter Tryz.func25, Tryz.ntmps25
    go_wp2_with (first
      | (go_at_call 45; refine (has_any H.out _).mono ?_; rintro e w' ⟨rfl, rfl⟩; simp only [hb1, hb2])
      | (go_at_call 53; refine (mayHaveKids_any H.out HM.out).mono ?_; rintro e w' ⟨rfl, rfl⟩; rw [hk]))
    all_goals go_ret
    all_goals exact .inl ⟨⟨_, rfl, ⟨t2, a2, rfl⟩⟩, Below.refl _ _⟩
  obtain ⟨la, hup⟩ := HW.out.up an _ (nodes_get hm)
  have HU : Hid (Up (nodesOf ps) an la) := hup
  by_cases hno : i ∈ la
  · have hwi : decide (i ∈ la) = true := by simpa using hno
    clear h hm hp hup
    go_enter Tryz.func25, Tryz.ntmps25
    go_wp2_with (first
      | (go_at_call 45; refine (has_any H.out _).mono ?_; rintro e w' ⟨rfl, rfl⟩; simp only [hb1, hb2])
      | (go_at_call 53; refine (mayHaveKids_any H.out HM.out).mono ?_; rintro e w' ⟨rfl, rfl⟩; rw [hk])
      | (go_at_call 54; refine (within_any H.out HU.out i).mono ?_; rintro e w' ⟨rfl, rfl⟩; rw [hwi]))
    all_goals go_ret
    all_goals exact .inl ⟨⟨_, rfl, ⟨t2, a2, rfl⟩⟩, Below.refl _ _⟩
  by_cases hc : 0 ≤ c ∧ c ≤ others an p m
  · obtain ⟨cn, rfl⟩ : ∃ cn : Nat, c = cn := ⟨c.toNat, by omega⟩
    exact (put_good H.out HW.out hu hp hm h0 hk hup hno hc.2).mono fun _ _ hq => .inr hq
  have hwi : decide (i ∈ la) = false := by simpa using hno
  obtain ⟨nb, cap, rfl, hcp, hmx, _, _, hil⟩ := h.form hp
  have hal := (List.getElem?_eq_some_iff.1 hm).1
  have c0 := h.cell0
  have c4 := (h.cellN rfl (f := 4) hp (by omega) rfl).1
  have c5 := (h.cellN rfl (f := 5) hm (by omega) rfl).1
  obtain ⟨ka, kc, hkv, hk1, hk2⟩ := (h.node an m hm).2.shape
  rw [hkv] at c5
  have hfew := HW.out.few (nodes_get hm)
  have i1 : (0 : Int) ≤ (i : Int) := by omega
  have i2 : (i : Int) < (ps.length : Int) := by omega
  have i3 : (0 : Int) ≤ (an : Int) := by omega
  have i4 : (an : Int) < (ps.length : Int) := by omega
  unfold maxLen at hmx hk2
  unfold others at hc
  clear h hm hp hup hkv
  by_cases hpa : p.n.parent = (an : Int)
  all_goals (first | rw [if_pos hpa] at hc | rw [if_neg hpa] at hc)
  all_goals
    have hc' : c < 0 ∨ 0 ≤ c := by omega
    rcases hc' with hc' | hc'
  all_goals
    go_enter Tryz.func25, Tryz.ntmps25
    go_wp2_with (first
      | (go_at_call 45; refine (has_any H.out _).mono ?_; rintro e w' ⟨rfl, rfl⟩; simp only [hb1, hb2])
      | (go_at_call 53; refine (mayHaveKids_any H.out HM.out).mono ?_; rintro e w' ⟨rfl, rfl⟩; rw [hk])
      | (go_at_call 54; refine (within_any H.out HU.out i).mono ?_; rintro e w' ⟨rfl, rfl⟩; rw [hwi]))
  all_goals go_ret
  all_goals exact .inl ⟨⟨_, rfl, ⟨t2, a2, rfl⟩⟩, Below.refl _ _⟩
end Go.Proofs.YtjfklhfdonbpgaaGreatDoor

/- What is kept to undo a change, as it lies in memory. -/
namespace Go.Proofs.YtjfklhfdonbpgaaGreatDoor
open Go.RowKit

/-- a cell that a kept function has captured -/
def Cap (w : World) (M : Nat → Lab) (b o : Nat) (v : Value) : Prop := M b = .other ∧ w.cell? ⟨b, o, none⟩ = some v
theorem Cap.moved {w w' : World} {M M' : Nat → Lab} {b o : Nat} {v : Value} (h : Cap w M b o v) (m : Moved w M w' M') : Cap w' M' b o v :=
  ⟨(m.lab b (World.block_lt_of_cell? w _ h.2)).trans h.1, moved_cell m h.1 h.2⟩

def at0 (b : Nat) : Value := .pointer (some ⟨b, 0, none⟩)

/-- a function that is kept, and what it has captured -/
def KeptF (w : World) (M : Nat → Lab) (tb : Nat) (f : Value) : Rec → Prop
  | .forget n => Frg w M f tb n
  | .move i fr wz => MvF w M f tb i fr (wz : Nat)
  | .cut i => ∃ b1 b2, f = .func (.func 62) #[] #[.pointer (some ⟨b1, 0, none⟩), .pointer (some ⟨b2, 0, none⟩)] ∧ Cap w M b1 0 (at0 tb) ∧ Cap w M b2 0 (.int .i64 i)
  | .back i k old => ∃ b0 b1 b2 b3, f = .func (.func 64) #[] #[.pointer (some ⟨b0, 0, none⟩), .pointer (some ⟨b1, 0, none⟩), .pointer (some ⟨b2, 0, none⟩), .pointer (some ⟨b3, 0, none⟩)] ∧ Cap w M b0 0 (.string old) ∧ Cap w M b1 0 (at0 tb) ∧ Cap w M b2 0 (.int .i64 i) ∧ Cap w M b3 0 (.int .i64 k)
  | .ins i k x => ∃ b1 b2 b3 b4, f = .func (.func 65) #[] #[.pointer (some ⟨b1, 0, none⟩), .pointer (some ⟨b2, 0, none⟩), .pointer (some ⟨b3, 0, none⟩), .pointer (some ⟨b4, 0, none⟩)] ∧ Cap w M b1 0 (at0 tb) ∧ Cap w M b2 0 (.int .i64 i) ∧ Cap w M b3 0 (.int .i64 k) ∧ Cap w M b4 0 (.string x.1) ∧ Cap w M b4 1 (.string x.2)
  | .say i old => ∃ b0 b1 b2, f = .func (.func 67) #[] #[.pointer (some ⟨b0, 0, none⟩), .pointer (some ⟨b1, 0, none⟩), .pointer (some ⟨b2, 0, none⟩)] ∧ Cap w M b0 0 (.string old) ∧ Cap w M b1 0 (at0 tb) ∧ Cap w M b2 0 (.int .i64 i)

theorem KeptF.moved {w w' : World} {M M' : Nat → Lab} {tb : Nat} {f : Value} {r : Rec} (h : KeptF w M tb f r) (m : Moved w M w' M') : KeptF w' M' tb f r := by
  cases r with
  | forget n => exact Frg.moved h m
  | move i fr wz => exact MvF.moved h m
  | cut i =>
    obtain ⟨b1, b2, h0, h1, h2⟩ := h
    exact ⟨b1, b2, h0, h1.moved m, h2.moved m⟩
  | back i k old =>
    obtain ⟨b0, b1, b2, b3, h0, h1, h2, h3, h4⟩ := h
    exact ⟨b0, b1, b2, b3, h0, h1.moved m, h2.moved m, h3.moved m, h4.moved m⟩
  | ins i k x =>
    obtain ⟨b1, b2, b3, b4, h0, h1, h2, h3, h4, h5⟩ := h
    exact ⟨b1, b2, b3, b4, h0, h1.moved m, h2.moved m, h3.moved m, h4.moved m, h5.moved m⟩
  | say i old =>
    obtain ⟨b0, b1, b2, h0, h1, h2, h3⟩ := h
    exact ⟨b0, b1, b2, h0, h1.moved m, h2.moved m, h3.moved m⟩

/-- a change was made, and what undoes it is kept -/
def Done (w : World) (M : Nat → Lab) (tb : Nat) (ps : List Pn) (us : List Value) (K : Nat) (w' : World) : Prop :=
  ∃ M' nv' uv' ps' f r, Lies w' M' tb nv' uv' ps' (us ++ [f]) ∧ KeptF w' M' tb f r ∧ WF (nodesOf ps') ∧ Undoes (nodesOf ps') (nodesOf ps) r ∧ Moved w M w' M' ∧ Few (nodesOf ps') (K + 1)

theorem few_of_attrs {ns ns' : List Nd} {K : Nat} (h : Few ns K) (he : ns'.map Nd.attrs = ns.map Nd.attrs) : Few ns' (K + 1) := by
  intro j n hn
  have : (ns'.map Nd.attrs)[j]? = some n.attrs := by simp [hn]
  rw [he, List.getElem?_map] at this
  obtain ⟨m, h1, h2⟩ := Option.map_eq_some_iff.1 this
  rw [← h2]
  exact Nat.le_succ_of_le (h j m h1)
theorem few_set {ns : List Nd} {K i : Nat} (h : Few ns K) {n' : Nd} (hn : n'.attrs.length ≤ K + 1) : Few (ns.set i n') (K + 1) := by
  intro j m hm
  by_cases hj : i = j
  · subst hj
    have hl : i < ns.length := by have := (List.getElem?_eq_some_iff.1 hm).1; simpa using this
    rw [List.getElem?_set_self hl] at hm
    cases hm
    exact hn
  · rw [List.getElem?_set_ne hj] at hm
    exact Nat.le_succ_of_le (h j m hm)

theorem WasMoved.done {w w' : World} {M : Nat → Lab} {tb : Nat} {nv : Value} {ps : List Pn} {us : List Value} {K : Nat} {e : Ending} (h : WasMoved w M tb nv ps us e w') (hf : Few (nodesOf ps) K) : Done w M tb ps us K w' := by
  obtain ⟨_, M', uv', ps', f, i, fr, wz, h1, h2, h3, h4, h5, h6⟩ := h
  exact ⟨M', nv, uv', ps', f, .move i fr wz, h1, h2, h3, h4, h5, few_of_attrs hf h6⟩
theorem Made.done {w w' : World} {M : Nat → Lab} {tb : Nat} {ps : List Pn} {us : List Value} {p : Pn} {K : Nat} {e : Ending} (h : Made w M tb ps us p e w') (hW : WF (nodesOf ps)) (hl : ps.length < 400) (hf : Few (nodesOf ps) K) (h1 : p.n.parent = -1) (h2 : p.n.kids = []) (h3 : p.n.attrs = []) : Done w M tb ps us K w' := by
  obtain ⟨_, M', nv', uv', f, g1, g2, g3⟩ := h
  have e : nodesOf (ps ++ [p]) = nodesOf ps ++ [p.n] := by simp [nodesOf]
  have hl' : (nodesOf ps).length = ps.length := by simp [nodesOf]
  refine ⟨M', nv', uv', _, f, .forget ps.length, g1, g2, ?_, ?_, g3, ?_⟩
  · rw [e]; exact hW.snoc (by omega) _ h1 h2
  · rw [e]; exact ⟨by simp [hl'], by rw [← hl', List.take_left]⟩
  · rw [e]
    intro j n hn
    by_cases hj : j < (nodesOf ps).length
    · rw [List.getElem?_append_left hj] at hn; exact Nat.le_succ_of_le (hf j n hn)
    · rw [List.getElem?_append_right (by omega)] at hn
      rcases Nat.eq_zero_or_pos (j - (nodesOf ps).length) with e | e
      · rw [e] at hn; cases hn; rw [h3]; simp
      · rw [List.getElem?_eq_none (by simp; omega)] at hn; cases hn
end Go.Proofs.YtjfklhfdonbpgaaGreatDoor

/- What Set makes of any tree, and what it keeps. -/
namespace Go.Proofs.YtjfklhfdonbpgaaGreatDoor
open Go.RowKit

theorem set_same {ns : List Nd} {i : Nat} {n : Nd} (h : ns[i]? = some n) : ns.set i n = ns := by
  apply List.ext_getElem?
  intro j
  by_cases hj : i = j
  · subst hj; rw [List.getElem?_set_self (List.getElem?_eq_some_iff.1 h).1, h]
  · rw [List.getElem?_set_ne hj]

theorem cell_new2 (w : World) (B : Nat) (hB : w.heap.size = B) (o1 : Obj) (v : Value) (t : TypeId) : ((w.alloc o1).alloc (.cells #[v] t)).drew.drew.cell? ⟨B + 1, 0, none⟩ = some v := by
  subst hB
  simp
theorem cell_new1 (w : World) (B : Nat) (hB : w.heap.size = B) (o2 : Obj) (v : Value) (t : TypeId) : ((w.alloc (.cells #[v] t)).alloc o2).drew.drew.cell? ⟨B, 0, none⟩ = some v := by
  subst hB
  simp
theorem set_attr_same {l : List (ByteArray × ByteArray)} {k : Nat} {x : ByteArray × ByteArray} (h : l[k]? = some x) : l.set k (x.1, x.2) = l := by
  apply List.ext_getElem?
  intro j
  by_cases hj : k = j
  · subst hj; rw [List.getElem?_set_self (List.getElem?_eq_some_iff.1 h).1, h]
  · rw [List.getElem?_set_ne hj]

set_option maxHeartbeats 4000000 in
set_option maxRecDepth 100000 in
theorem setU_new {w : World} {M : Nat → Lab} {tb : Nat} {nv uv : Value} {ps : List Pn} {us : List Value} (h : Lies w M tb nv uv ps us) (hE : Errs w M) (hW : WF (nodesOf ps)) {K : Nat} (hF : Few (nodesOf ps) K) {i : Nat} {p : Pn} (hp : ps[i]? = some p) (name value : ByteArray) (hk : p.n.kind = 2) (hn : nameB name = true) (hv : value.size ≤ 20000) (hu : us.length ≤ 1099511627776) (ha : p.n.attrs.length ≤ 1099511627776) (hf : findA p.n.attrs name = none) :
    Calls Tryz.prog 30 #[.pointer (some ⟨tb, 0, none⟩), .int .i64 i, .string name, .string value] w fun e w' => e = .returned .nilIface ∧ Done w M tb ps us K w' := by
  obtain ⟨i0, hi, hz0, hz1, hz2⟩ := info_parts Tryz.infoAttr
  have hfi : findI p.n.attrs name = -1 := by simp only [findI, hf]
  have hsa : Hid (setAttr p.n.attrs name value = p.n.attrs ++ [(name, value)]) := by
    show setAttr _ _ _ = _
    simp only [setAttr, hf]
  obtain ⟨nb, nc, rfl, hc, hm, hnM, hnl, hil⟩ := h.form hp
  obtain ⟨aa, ac, hav, hac1, hac2⟩ := (h.node i p hp).1.shape
  have hlt : tb < w.heap.size := lt_of_heap h.head
  have c0 := h.cell0
  have W0 : Hid (∀ w', Below w.heap.size w w' → Lies w' M tb (.slice (some ⟨nb, 0, none⟩) ps.length nc) uv ps us ∧ Errs w' M) := fun w' hb => ⟨h.below hb, hE.below hb⟩
  have HP : Hid (ps[i]? = some p) := hp
  have HF : Hid (∀ b, w.heap.size ≤ b → M b = .other) := h.fresh
  have i1 : (0 : Int) ≤ (i : Int) := by omega
  have i2 : (i : Int) < (ps.length : Int) := by omega
  unfold maxLen at hm hac2
  clear h hE hp hf
  go_enter Tryz.func30, Tryz.ntmps30
  go_wp2_with (first
    | (go_at_call 60; refine (wantElement_any (W0.out _ (((Below.refl _ _).alloc (Nat.le_refl _) _).alloc (by simp) _)).1 (W0.out _ (((Below.refl _ _).alloc (Nat.le_refl _) _).alloc (by simp) _)).2 HP.out).mono ?_; rintro e w' ⟨⟨v, rfl, hv⟩, rfl⟩; rw [if_pos hk] at hv; subst hv)
    | (go_at_call 49; refine (name_any _ _).mono ?_; rintro e w' ⟨rfl, rfl⟩; rw [hn]))
  go_quiet (fail)
  go_wp2_with (first
    | (go_at_call 61; refine (find_any (W0.out _ (below_drewN (((Below.refl _ _).alloc (Nat.le_refl _) _).alloc (by simp) _) _)).1 HP.out name).mono ?_; rintro e w1 ⟨rfl, hB⟩; rw [hfi]
       have b0 : w1.cell? ⟨w.heap.size, 0, none⟩ = some (.pointer (some ⟨tb, 0, none⟩)) := (hB.cell (p := ⟨w.heap.size, 0, none⟩) (by simp; omega)).trans (by simp)
       have b1 : w1.cell? ⟨w.heap.size + 1, 0, none⟩ = some (.int .i64 i) := (hB.cell (p := ⟨w.heap.size + 1, 0, none⟩) (by simp)).trans (by simp)
       have hB1 : Hid (Below w.heap.size w w1) := (below_drewN (((Below.refl _ _).alloc (Nat.le_refl _) _).alloc (by simp) _) _).trans (hB.mono (by simp; omega))
       have c3 := ((W0.out w1 hB1.out).1.cellN rfl (f := 3) HP.out (by omega) rfl)
       rw [hav] at c3
       obtain ⟨c3, c3f⟩ := c3
       have l0 : w.heap.size + 1 < w1.heap.size := World.block_lt_of_cell? w1 _ b1
       have l1 : nb < w1.heap.size := World.block_lt_of_cell? w1 _ c3
       have HB2 : Hid (∀ o1 o2, Below w1.heap.size w1 ((w1.alloc o1).alloc o2)) := fun o1 o2 => ((Below.refl _ _).alloc (Nat.le_refl _) _).alloc (by simp) _
       have HLW : Hid (∀ o1 o2, Lies ((w1.alloc o1).alloc o2) M tb (.slice (some ⟨nb, 0, none⟩) ps.length nc) uv ps us) := fun o1 o2 => ((W0.out w1 hB1.out).1.alloc o1).alloc o2
       have HRW : Hid (∀ o1 o2, Row ((w1.alloc o1).alloc o2) M (.attrs i) 79 2 (.slice aa p.n.attrs.length ac) p.n.attrs.length (attrCells p.n.attrs)) := fun o1 o2 => hav ▸ ((HLW.out o1 o2).node i p HP.out).1
       clear hB)
    | (at_builtin; (refine wpList_app_row _ (by rfl) (.tmp 42) (.tmp 46) 37 (by rfl) M (.attrs i) 79 i0 _ 2 32 Tryz.underlying37 hi hz0 hz1 hz2 rfl (by decide) (.slice aa p.n.attrs.length ac) p.n.attrs.length (attrCells p.n.attrs) (by rfl) (HRW.out _ _) ⟨w1.heap.size + 1, 0, none⟩ 1 1 [.string name, .string value] (by rfl) rfl (news_new (w1.alloc _) #[.string name, .string value] 79 _ (by simp)) (by simp [Value.oneCell']) (by decide) (by unfold maxLen; omega) (by omega) (HLW.out _ _).fresh ?_); intro g cap1 w2 M2 hr st
       (obtain ⟨q1, q2, ⟨u3, q3⟩, q4⟩ := (HLW.out _ _).setAttrs rfl HP.out st (at' := p.n.attrs ++ [(name, value)]) (by rw [List.length_append, attrCells_append]; exact hr))
       (have b0' : (w2.setCell ⟨nb, i * 6 + 3, none⟩ (.slice (some ⟨g, 0, none⟩) (p.n.attrs.length + 1) cap1)).cell? ⟨w.heap.size, 0, none⟩ = some (.pointer (some ⟨tb, 0, none⟩)) := moved_cell q2 (HF.out _ (Nat.le_refl _)) (((HB2.out _ _).cell (p := ⟨w.heap.size, 0, none⟩) (by show w.heap.size < w1.heap.size; omega)).trans b0))
       (have HQ : Hid _ := And.intro q1 (((((Moved.refl w M).below hB1.out).alloc _).alloc _).trans q2))
       (have HQ2 : Hid (Moved w1 M _ M2) := (((Moved.refl w1 M).alloc _).alloc _).trans q2)
       clear q1 q2 hr st)
    | (go_at_call 55; refine (keep_any HQ.out.1 _ _ _ hu).mono ?_; rintro e w3 ⟨rfl, M3, uv3, hL3, hm3⟩))
  go_ret
  refine ⟨rfl, M3, _, uv3, _, _, .cut i, hL3, ⟨_, _, rfl, ((show Cap w1 M _ 0 (at0 tb) from ⟨HF.out _ (Nat.le_refl _), b0⟩).moved HQ2.out).moved hm3, ((show Cap w1 M _ 0 (.int .i64 i) from ⟨HF.out _ (by omega), b1⟩).moved HQ2.out).moved hm3⟩, ?_, ?_, HQ.out.2.trans hm3, ?_⟩
  all_goals rw [show nodesOf (ps.set i _) = (nodesOf ps).set i _ by rw [nodesOf, List.map_set]; rfl]
  · exact hW.turn (nodes_get HP.out) rfl rfl rfl
  · refine ⟨_, p.n.attrs, (name, value), List.getElem?_set_self (by simpa [nodesOf] using hil), rfl, ?_⟩
    rw [List.set_set]
    exact (set_same (nodes_get HP.out)).symm
  · refine few_set hF ?_
    have := hF i _ (nodes_get HP.out)
    simp
    omega

set_option maxHeartbeats 4000000 in
set_option maxRecDepth 100000 in
theorem setU_old {w : World} {M : Nat → Lab} {tb : Nat} {nv uv : Value} {ps : List Pn} {us : List Value} (h : Lies w M tb nv uv ps us) (hE : Errs w M) (hW : WF (nodesOf ps)) {K : Nat} (hF : Few (nodesOf ps) K) {i : Nat} {p : Pn} (hp : ps[i]? = some p) (name value : ByteArray) (hk : p.n.kind = 2) (hn : nameB name = true) (hv : value.size ≤ 20000) (hu : us.length ≤ 1099511627776) {k : Nat} (hf : findA p.n.attrs name = some k) :
    Calls Tryz.prog 30 #[.pointer (some ⟨tb, 0, none⟩), .int .i64 i, .string name, .string value] w fun e w' => e = .returned .nilIface ∧ Done w M tb ps us K w' := by
  have hfi : findI p.n.attrs name = k := by simp only [findI, hf]
  have hkl : k < p.n.attrs.length := by
    unfold findA at hf
    rw [List.findIdx?_eq_some_iff_getElem] at hf
    exact hf.1
  obtain ⟨x, hx⟩ : ∃ x, p.n.attrs[k]? = some x := ⟨_, List.getElem?_eq_getElem hkl⟩
  have hsa : Hid (setAttr p.n.attrs name value = p.n.attrs.set k (x.1, value)) := by
    show setAttr _ _ _ = _
    simp only [setAttr, hf]
    rw [List.getD_eq_getElem?_getD, hx]
    rfl
  obtain ⟨nb, nc, rfl, hc, hm, hnM, hnl, hil⟩ := h.form hp
  obtain ⟨ag, ac, hav, hac1, hac2, hagM, hagl⟩ := (h.node i p hp).1.form (by omega)
  have hlt : tb < w.heap.size := lt_of_heap h.head
  have c0 := h.cell0
  have W0 : Hid (∀ w', Below w.heap.size w w' → Lies w' M tb (.slice (some ⟨nb, 0, none⟩) ps.length nc) uv ps us ∧ Errs w' M) := fun w' hb => ⟨h.below hb, hE.below hb⟩
  have HP : Hid (ps[i]? = some p) := hp
  have HX : Hid (p.n.attrs[k]? = some x) := hx
  have HF : Hid (∀ b, w.heap.size ≤ b → M b = .other) := h.fresh
  have i1 : (0 : Int) ≤ (i : Int) := by omega
  have i2 : (i : Int) < (ps.length : Int) := by omega
  have i3 : (0 : Int) ≤ (k : Int) := by omega
  have i4 : (k : Int) < (p.n.attrs.length : Int) := by omega
  unfold maxLen at hm hac2
  clear h hE hp hf hx
  go_enter Tryz.func30, Tryz.ntmps30
  go_wp2_with (first
    | (go_at_call 60; refine (wantElement_any (W0.out _ (((Below.refl _ _).alloc (Nat.le_refl _) _).alloc (by simp) _)).1 (W0.out _ (((Below.refl _ _).alloc (Nat.le_refl _) _).alloc (by simp) _)).2 HP.out).mono ?_; rintro e w' ⟨⟨v, rfl, hv⟩, rfl⟩; rw [if_pos hk] at hv; subst hv)
    | (go_at_call 49; refine (name_any _ _).mono ?_; rintro e w' ⟨rfl, rfl⟩; rw [hn]))
  go_quiet (fail)
  go_wp2_with (first
    | (go_at_call 61; refine (find_any (W0.out _ (below_drewN (((Below.refl _ _).alloc (Nat.le_refl _) _).alloc (by simp) _) _)).1 HP.out name).mono ?_; rintro e w1 ⟨rfl, hB⟩; rw [hfi]
       have b0 : w1.cell? ⟨w.heap.size, 0, none⟩ = some (.pointer (some ⟨tb, 0, none⟩)) := (hB.cell (p := ⟨w.heap.size, 0, none⟩) (by simp; omega)).trans (by simp)
       have b1 : w1.cell? ⟨w.heap.size + 1, 0, none⟩ = some (.int .i64 i) := (hB.cell (p := ⟨w.heap.size + 1, 0, none⟩) (by simp)).trans (by simp)
       have hB1 : Hid (Below w.heap.size w w1) := (below_drewN (((Below.refl _ _).alloc (Nat.le_refl _) _).alloc (by simp) _) _).trans (hB.mono (by simp; omega))
       obtain ⟨c3, c3f⟩ := ((W0.out w1 hB1.out).1.cellN rfl (f := 3) HP.out (by omega) rfl)
       rw [hav] at c3
       have cx := ((W0.out w1 hB1.out).1.node i p HP.out).1.cell hav (attrCells_get p.n.attrs k x HX.out).2
       obtain ⟨cx, cxf⟩ := cx
       have l0 : w.heap.size + 1 < w1.heap.size := World.block_lt_of_cell? w1 _ b1
       have l1 : nb < w1.heap.size := World.block_lt_of_cell? w1 _ c3
       have l2 : ag < w1.heap.size := World.block_lt_of_cell? w1 _ cx
       have st : Step w1 M (w1.setCell ⟨ag, k * 2 + 1, none⟩ (.string value)) M (.attrs i) := step_setCell _ hagM (W0.out w1 hB1.out).1.fresh
       have hrs := ((W0.out w1 hB1.out).1.node i p HP.out).1.set hav (k * 2 + 1) (.string value) (by rw [attrCells_length]; omega)
       have HQ : Hid _ := (W0.out w1 hB1.out).1.turnAttrs HP.out st (at' := p.n.attrs.set k (x.1, value)) (by rw [List.length_set, attrCells_set p.n.attrs k x value HX.out]; exact hrs)
       have bx : (w1.setCell ⟨ag, k * 2 + 1, none⟩ (.string value)).cell? ⟨w.heap.size, 0, none⟩ = some (.pointer (some ⟨tb, 0, none⟩)) := moved_cell HQ.out.2 (HF.out _ (Nat.le_refl _)) b0
       have hbx : ∀ o1 o2, (((w1.setCell ⟨ag, k * 2 + 1, none⟩ (.string value)).alloc o1).alloc o2).cell? ⟨w.heap.size, 0, none⟩ = some (.pointer (some ⟨tb, 0, none⟩)) := fun o1 o2 => moved_cell (((Moved.refl _ M).alloc o1).alloc o2) (HF.out _ (Nat.le_refl _)) bx
       have hne1 : ¬ (w.heap.size = ag) := by omega
       have hne2 : ¬ (ag = w.heap.size) := by omega
       clear hB st hrs))
  go_region
  all_goals go_wp2_with fail
  all_goals go_region
  all_goals go_wp2_with (go_at_call 55; refine (keep_any ((HQ.out.1.alloc _).alloc _).drew.drew _ _ _ hu).mono ?_; rintro e w3 ⟨rfl, M3, uv3, hL3, hm3⟩)
  all_goals go_ret
  all_goals
    have hL := (W0.out w1 hB1.out).1
    have mv : Moved w1 M _ M := ((HQ.out.2.alloc (.cells #[.int .i64 k] 3)).alloc (.cells #[.string x.2] 9)).drew.drew
    refine ⟨rfl, M3, _, uv3, _, _, .back i k x.2, hL3, ⟨_, _, _, _, rfl, Cap.moved ⟨hL.fresh _ (by omega), ?_⟩ hm3, ((show Cap w1 M _ 0 (at0 tb) from ⟨HF.out _ (Nat.le_refl _), b0⟩).moved mv).moved hm3, ((show Cap w1 M _ 0 (.int .i64 i) from ⟨HF.out _ (by omega), b1⟩).moved mv).moved hm3, Cap.moved ⟨hL.fresh _ (Nat.le_refl _), ?_⟩ hm3⟩, ?_, ?_, ((Moved.refl w M).below hB1.out).trans (mv.trans hm3), ?_⟩
    · exact cell_new2 _ _ (by simp [World.setCell]) _ _ _
    · exact cell_new1 _ _ (by simp [World.setCell]) _ _ _
    · rw [show nodesOf (ps.set i _) = (nodesOf ps).set i _ by rw [nodesOf, List.map_set]; rfl]
      exact hW.turn (nodes_get HP.out) rfl rfl rfl
    · rw [show nodesOf (ps.set i _) = (nodesOf ps).set i _ by rw [nodesOf, List.map_set]; rfl]
      refine ⟨_, (x.1, value), List.getElem?_set_self (by simpa [nodesOf] using hil), List.getElem?_set_self hkl, ?_⟩
      rw [List.set_set]
      simp only [List.set_set]
      rw [set_attr_same HX.out]
      exact (set_same (nodes_get HP.out)).symm
    · rw [show nodesOf (ps.set i _) = (nodesOf ps).set i _ by rw [nodesOf, List.map_set]; rfl]
      refine few_set hF ?_
      have := hF i _ (nodes_get HP.out)
      simp
      omega
end Go.Proofs.YtjfklhfdonbpgaaGreatDoor

/- slices.Delete of one attribute. -/
namespace Go.Proofs.YtjfklhfdonbpgaaGreatDoor
open Go.RowKit

theorem zeroAttr (w : World) : (zeroValue 79).run Tryz.prog w = .ok (.agg #[.string ⟨#[]⟩, .string ⟨#[]⟩]) w := by
  obtain ⟨i0, hi, hz0, hz1, hz2⟩ := info_parts Tryz.infoAttr
  simp [zeroValue, typeInfo, hi, hz0]
theorem attrs_one (xs : List (ByteArray × ByteArray)) : ∀ u ∈ attrCells xs, u.oneCell' = true := by
  intro u hu
  obtain ⟨x, _, hx⟩ := List.mem_flatMap.1 hu
  simp at hx
  rcases hx with rfl | rfl <;> rfl
theorem attrCells_take (l : List (ByteArray × ByteArray)) : ∀ k, attrCells (l.take k) = (attrCells l).take (k * 2) := by
  induction l with
  | nil => intro k; simp [attrCells]
  | cons y l ih =>
    intro k
    cases k with
    | zero => simp [attrCells]
    | succ k =>
      have e : ∀ l', attrCells (y :: l') = .string y.1 :: .string y.2 :: attrCells l' := fun _ => rfl
      rw [List.take_succ_cons, e, e, ih k, show (k + 1) * 2 = k * 2 + 1 + 1 by omega, List.take_succ_cons, List.take_succ_cons]
theorem attrCells_drop (l : List (ByteArray × ByteArray)) : ∀ k, attrCells (l.drop k) = (attrCells l).drop (k * 2) := by
  induction l with
  | nil => intro k; simp [attrCells]
  | cons y l ih =>
    intro k
    cases k with
    | zero => simp
    | succ k =>
      have e : ∀ l', attrCells (y :: l') = .string y.1 :: .string y.2 :: attrCells l' := fun _ => rfl
      rw [List.drop_succ_cons, e, ih k, show (k + 1) * 2 = k * 2 + 1 + 1 by omega, List.drop_succ_cons, List.drop_succ_cons]
theorem erase_attrs (xs : List (ByteArray × ByteArray)) (k : Nat) : attrCells (xs.eraseIdx k) = (attrCells xs).take (k * 2) ++ (attrCells xs).drop ((k + 1) * 2) := by
  rw [List.eraseIdx_eq_take_drop_succ, attrCells_append, attrCells_take, attrCells_drop]

set_option maxHeartbeats 4000000 in
set_option maxRecDepth 100000 in
theorem deleteA_any {w : World} {M : Nat → Lab} {l : Lab} {g m cap : Nat} {xs : List (ByteArray × ByteArray)} (h : Row w M l 79 2 (.slice (some ⟨g, 0, none⟩) (m + 1) cap) (m + 1) (attrCells xs)) (k : Nat) (hk : k < m + 1) (hf : ∀ b, w.heap.size ≤ b → M b = .other) :
    Calls Tryz.prog 63 #[.slice (some ⟨g, 0, none⟩) (m + 1) cap, .int .i64 k, .int .i64 ((k : Int) + 1)] w fun e w' => e = .returned (.slice (some ⟨g, 0, none⟩) m cap) ∧ Row w' M l 79 2 (.slice (some ⟨g, 0, none⟩) m cap) m (attrCells (xs.eraseIdx k)) ∧ Step w M w' M l := by
  obtain ⟨i0, hi, hz0, hz1, hz2⟩ := info_parts Tryz.infoAttr
  obtain ⟨a, cap2, hv, hc, hm⟩ := h.shape
  cases hv
  have hd : Row w.drew M l 79 2 (.slice (some ⟨g, 0, none⟩) (m + 1) cap) (m + 1) (attrCells xs) := h
  have hlen : (attrCells xs).length = (m + 1) * 2 := h.1
  obtain ⟨w1, hr1, hrow1, st1⟩ := del_row (P := Tryz.prog) w.drew M l 37 79 i0 2 Tryz.underlying37 hi hz1 g (m + 1) cap k _ hd hk (by
    intro u hu
    exact attrs_one xs u hu) hf
  rw [← erase_attrs] at hrow1
  have hel : (attrCells (xs.eraseIdx k)).length = m * 2 := by
    rw [attrCells_length] at hlen
    rw [attrCells_length, List.length_eraseIdx, if_pos (by omega)]
    omega
  obtain ⟨w2, hr2, hrow2, st2⟩ := clear_tail (P := Tryz.prog) w1 M l 37 79 _ 2 Tryz.underlying37 zeroAttr rfl (by simp [Value.cells, Value.oneCell']) (by decide) g m 1 cap (cap - m) (attrCells (xs.eraseIdx k)) _ hrow1 hel (by decide) st1.fresh
  have HA : Hid (∀ ty, (Builtin.append_ #[37, 37] ty #[.slice (some ⟨g, 0, none⟩) k cap, .slice (cutAt g 2 cap (k + 1)) (m - k) (cap - (k + 1))]).run Tryz.prog w.drew = .ok (.slice (some ⟨g, 0, none⟩) m cap) w1) := by
    intro ty
    have := hr1 ty
    rw [show m + 1 - (k + 1) = m - k by omega, show m + 1 - 1 = m by omega] at this
    exact this
  have hcl : ∀ ty, (Builtin.clear_ #[37] ty #[.slice (some ⟨g, m * 2, none⟩) 1 (cap - m)]).run Tryz.prog w1 = .ok (.tuple #[]) w2 := by
    intro ty
    exact hr2 ty
  have HR : Hid (Row w2 M l 79 2 (.slice (some ⟨g, 0, none⟩) m cap) m (attrCells (xs.eraseIdx k)) ∧ Step w M w2 M l) := ⟨hrow2, ⟨st2.os.trans st1.os, st2.tape.trans st1.tape, st2.output.trans st1.output, Nat.le_trans st1.size st2.size, fun b hb => (st2.lab b (Nat.lt_of_lt_of_le hb st1.size)).trans (st1.lab b hb), st2.fresh, fun b hb hne => (st2.far b (Nat.lt_of_lt_of_le hb st1.size) (by rw [st1.lab b hb]; exact hne)).trans (st1.far b hb hne)⟩⟩
  unfold maxLen at hm
  have HC : Hid (cutAt g 2 cap (k + 1) = if cap = k + 1 then some ⟨g, 0, none⟩ else some ⟨g, (k + 1) * 2, none⟩) := by
    show cutAt _ _ _ _ = _
    simp [cutAt]
  have n1 : ((k : Int) == (k : Int) + 1) = false := by simp; omega
  have n2 : ¬ ((k : Int) = (k : Int) + 1) := by omega
  have n3 : ¬ cap = m := by omega
  have i1 : (k : Int) ≤ (cap : Int) := by omega
  have i2 : (k : Int) + 1 ≤ (m : Int) + 1 := by omega
  have i3 : (m : Int) + 1 ≤ (cap : Int) := by omega
  have i4 : (0 : Int) ≤ (k : Int) := by omega
  have i5 : (0 : Int) ≤ (k : Int) + 1 := by omega
  clear h hf hd hr1 hrow1 st1 hr2 hrow2 st2 hel hlen
  go_enter Tryz.func63, Tryz.ntmps63
  go_wp2_with fail
  go_region_law ((refine step_append_run _ (by rfl) (.tmp 22) (.tmp 25) 37 (by rfl) (.slice (some ⟨g, 0, none⟩) k cap) (.slice (cutAt g 2 cap (k + 1)) (m - k) (cap - (k + 1))) (by simp [Act.eval, Act.put]) (by rw [HC.out]; simp [Act.eval, Act.put]) _ w1 HA.out ?_))
  all_goals go_wp2
  all_goals go_ret
  all_goals go_light
  all_goals first
    | exact ⟨rfl, HR.out.1, HR.out.2⟩
    | (obtain rfl : cap = k + 1 := by assumption
       exact ⟨rfl, HR.out.1, HR.out.2⟩)
end Go.Proofs.YtjfklhfdonbpgaaGreatDoor
