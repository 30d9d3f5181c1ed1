/- The document's turn of a node, as plain mathematics, and the program's: who takes the focus, and when. -/
import Derived.Test.YtlfepdecgfcifaaGreatDoorM18
import Derived.Lib.AtoiErr
import Derived.Laws.IdiomCopy
namespace Go.Proofs.YtlfepdecgfcifaaGreatDoor
set_option linter.unusedVariables false

/-- a minus at the head, and what stands behind it -/
def negB (l : List UInt8) : Bool := match l with | b :: _ => b == 45 | [] => false
def unsg (l : List UInt8) : List UInt8 := if negB l then l.drop 1 else l
/-- the number that a text tells; -1: none -/
def numQ (l : List UInt8) : Int :=
  if (unsg l).length < 1 ∨ 9 < (unsg l).length then -1
  else match Lib.decFrom 0 (unsg l) with
    | some v => if negB l = true ∧ 0 < v then -1 else v
    | none => -1
def hasN (n : Nd) (name : ByteArray) : Bool := decide (0 ≤ findI n.attrs name)
def valN (n : Nd) (name : ByteArray) : ByteArray := (attrN n name).1
def turnQ (n : Nd) : Int :=
  if n.kind ≠ 2 ∨ hasN n ⟨#[100, 105, 115, 97, 98, 108, 101, 100]⟩ = true then -1
  else if hasN n ⟨#[116, 97, 98, 105, 110, 100, 101, 120]⟩ = false then (if takesN n = true then 0 else -1)
  else numQ (valN n ⟨#[116, 97, 98, 105, 110, 100, 101, 120]⟩).data.toList

theorem hasN_attr (n : Nd) (name : ByteArray) : hasN n name = (attrN n name).2 := by
  unfold hasN attrN findI
  cases h : findA n.attrs name with
  | none => simp
  | some k => simp
theorem unsg_trim (l : List UInt8) : Lib.trimPrefix l [45] = unsg l := by
  unfold Lib.trimPrefix unsg negB Lib.hasPrefix
  cases l with
  | nil => rfl
  | cons b l =>
    by_cases hb : b = 45
    · subst hb; simp [List.isPrefixOf]
    · have h1 : (b == 45) = false := by simpa using hb
      have h2 : (45 == b) = false := by rw [beq_eq_false_iff_ne]; exact fun e => hb e.symm
      simp [List.isPrefixOf, h1, h2]
theorem digs_val (b : UInt8) : digs.contains b = (Lib.digitVal b).isSome := by
  unfold Lib.digitVal
  by_cases h : 48 ≤ b.toNat ∧ b.toNat ≤ 57
  · rw [if_pos h]
    have : b.toNat = 48 ∨ b.toNat = 49 ∨ b.toNat = 50 ∨ b.toNat = 51 ∨ b.toNat = 52 ∨ b.toNat = 53 ∨ b.toNat = 54 ∨ b.toNat = 55 ∨ b.toNat = 56 ∨ b.toNat = 57 := by omega
    have e : b = UInt8.ofNat b.toNat := by simp
    rcases this with q | q | q | q | q | q | q | q | q | q <;> (rw [q] at e; subst e; rfl)
  · rw [if_neg h]
    simp only [Option.isSome_none]
    rw [Bool.eq_false_iff]
    intro hc
    apply h
    have : b ∈ digs := by simpa using hc
    unfold digs at this
    simp only [List.mem_cons, List.not_mem_nil, or_false] at this
    rcases this with q | q | q | q | q | q | q | q | q | q <;> (subst q; decide)
theorem dropWhile_nilE {α : Type} {p : α → Bool} : ∀ {l : List α}, l.dropWhile p = [] ↔ ∀ x ∈ l, p x = true
  | [] => by simp
  | y :: l => by
    simp only [List.dropWhile_cons, List.mem_cons, forall_eq_or_imp]
    cases h : p y
    · simp
    · simp only [if_true, true_and]
      exact dropWhile_nilE
theorem takeWhile_memE {α : Type} {p : α → Bool} : ∀ {l : List α} {x : α}, x ∈ l.takeWhile p → p x = true
  | [], x, h => by simp at h
  | y :: l, x, h => by
    simp only [List.takeWhile_cons] at h
    cases hy : p y
    · rw [hy] at h; simp at h
    · rw [hy] at h
      simp only [if_true, List.mem_cons] at h
      rcases h with e | e
      · rw [e]; exact hy
      · exact takeWhile_memE e
theorem trimS_nil {l : List UInt8} : Lib.trimS l digs = [] ↔ ∀ b ∈ l, digs.contains b = true := by
  unfold Lib.trimS Lib.trimLeftS Lib.trimRightS
  constructor
  · intro h b hb
    have h1 : ∀ x ∈ (l.reverse.dropWhile (digs.contains ·)).reverse, digs.contains x = true := by
      intro x hx
      have := dropWhile_nilE.1 h x hx
      simpa using this
    cases hc : digs.contains b with
    | true => rfl
    | false =>
      exfalso
      have hd : b ∈ l.reverse.dropWhile (digs.contains ·) := by
        have hmem : b ∈ l.reverse.takeWhile (digs.contains ·) ++ l.reverse.dropWhile (digs.contains ·) := by rw [List.takeWhile_append_dropWhile]; simpa using hb
        rcases List.mem_append.1 hmem with q | q
        · have := takeWhile_memE q
          rw [hc] at this
          cases this
        · exact q
      have := h1 b (by simpa using hd)
      rw [hc] at this
      cases this
  · intro h
    have : l.reverse.dropWhile (digs.contains ·) = [] := dropWhile_nilE.2 (fun x hx => by simpa using h x (by simpa using hx))
    rw [this]
    rfl
theorem decFrom_all : ∀ (l : List UInt8) (acc : Nat), (∀ b ∈ l, digs.contains b = true) → ∃ v, Lib.decFrom acc l = some v
  | [], acc, _ => ⟨acc, rfl⟩
  | b :: l, acc, h => by
    have hb := h b (List.mem_cons_self ..)
    rw [digs_val] at hb
    obtain ⟨d, hd⟩ := Option.isSome_iff_exists.1 hb
    unfold Lib.decFrom
    rw [hd]
    exact decFrom_all l _ (fun x hx => h x (List.mem_cons_of_mem _ hx))
theorem all_decFrom {l : List UInt8} {acc v : Nat} (h : Lib.decFrom acc l = some v) : ∀ b ∈ l, digs.contains b = true := by
  intro b hb
  obtain ⟨k, hk⟩ := List.getElem?_of_mem hb
  obtain ⟨d, hd⟩ := Lib.digit_of_decFrom l acc v h k b hk
  rw [digs_val, hd]
  rfl
theorem wholeP_num (s : ByteArray) : (wholeP s = (0, false) ∧ numQ s.data.toList = -1) ∨ (∃ v : Nat, v < 1000000000 ∧ ((wholeP s = (-(v : Int), true) ∧ numQ s.data.toList = (if 0 < v then -1 else 0)) ∨ (wholeP s = ((v : Int), true) ∧ numQ s.data.toList = v))) := by
  unfold wholeP numQ
  rw [unsg_trim]
  obtain ⟨l, hl⟩ : ∃ l, s.data.toList = l := ⟨_, rfl⟩
  rw [hl]
  by_cases h9 : 9 < (unsg l).length
  · rw [if_pos h9, if_pos (.inr h9)]
    exact .inl ⟨rfl, rfl⟩
  · rw [if_neg h9]
    by_cases h0 : (unsg l).length < 1
    · rw [if_pos (show (unsg l).length < 1 ∨ 9 < (unsg l).length from .inl h0)]
      have hu : unsg l = [] := List.eq_nil_of_length_eq_zero (by omega)
      have ha : Lib.atoi l = none := by
        unfold unsg negB at hu
        cases l with
        | nil => rfl
        | cons b r =>
          simp only at hu
          by_cases hb : (b == 45) = true
          · rw [if_pos hb] at hu
            have hr : r = [] := by simpa using hu
            subst hr
            show (if (b == 45) = true then _ else _) = _
            rw [if_pos hb]
            rfl
          · rw [if_neg hb] at hu; cases hu
      rw [hu, ha]
      exact .inl ⟨by rw [if_pos (show Lib.trimS [] digs = [] from rfl)], rfl⟩
    · rw [if_neg (show ¬ ((unsg l).length < 1 ∨ 9 < (unsg l).length) by omega)]
      by_cases ht : Lib.trimS (unsg l) digs = []
      · rw [if_pos ht]
        obtain ⟨v, hv⟩ := decFrom_all (unsg l) 0 (trimS_nil.1 ht)
        have hne : (unsg l).isEmpty = false := by
          cases hu : unsg l with
          | nil => rw [hu] at h0; simp at h0
          | cons _ _ => rfl
        have hdn : Lib.decNat (unsg l) = some v := by unfold Lib.decNat; rw [hne]; exact hv
        have hlt := Lib.decFrom_lt _ _ _ hv
        have hv9 : v < 1000000000 := by
          have : 10 ^ (unsg l).length ≤ 10 ^ 9 := Nat.pow_le_pow_right (by omega) (by omega)
          omega
        rw [hv]
        right
        refine ⟨v, hv9, ?_⟩
        cases l with
        | nil => simp [unsg, negB] at h0
        | cons b r =>
          by_cases hb : (b == 45) = true
          · have hu : unsg (b :: r) = r := by unfold unsg negB; simp only; rw [if_pos hb]; rfl
            rw [hu] at hdn
            left
            refine ⟨?_, ?_⟩
            · have : Lib.atoi (b :: r) = some (-(v : Int)) := by show (if (b == 45) = true then _ else _) = _; rw [if_pos hb, hdn]; rfl
              rw [this]
            · show (if negB (b :: r) = true ∧ 0 < v then (-1 : Int) else (v : Int)) = _
              have hn : negB (b :: r) = true := hb
              by_cases hv0 : 0 < v
              · rw [if_pos ⟨hn, hv0⟩, if_pos hv0]
              · rw [if_neg (fun q => hv0 q.2), if_neg hv0]
                omega
          · have hu : unsg (b :: r) = b :: r := by unfold unsg negB; simp only; rw [if_neg hb]
            rw [hu] at hdn ht
            have hbd : digs.contains b = true := trimS_nil.1 ht b (List.mem_cons_self ..)
            have hb43 : (b == 43) = false := by
              rw [beq_eq_false_iff_ne]
              rintro rfl
              revert hbd
              decide
            right
            refine ⟨?_, ?_⟩
            · have : Lib.atoi (b :: r) = some (v : Int) := by show (if (b == 45) = true then _ else if (b == 43) = true then _ else _) = _; rw [if_neg hb, hb43, if_neg (by simp), hdn]; rfl
              rw [this]
            · show (if negB (b :: r) = true ∧ 0 < v then (-1 : Int) else (v : Int)) = _
              rw [if_neg (fun q => hb q.1)]
      · rw [if_neg ht]
        left
        refine ⟨rfl, ?_⟩
        cases hv : Lib.decFrom 0 (unsg l) with
        | none => rfl
        | some v => exact absurd (trimS_nil.2 (all_decFrom hv)) ht

/-- a node that is no element has no tag and no attributes -/
def TagOk (n : Nd) : Prop := n.kind ≠ 2 → n.tag = ⟨#[]⟩ ∧ n.attrs = []
/-- the program's turn and the document's -/
theorem turn_same {n : Nd} (h : TagOk n) : (turnQ n < 0 ∧ turnN n ≤ 0) ∨ (turnQ n = 0 ∧ turnN n = 1000000000) ∨ (0 < turnQ n ∧ turnN n = turnQ n ∧ turnN n < 1000000000) := by
  unfold turnQ
  rw [hasN_attr, hasN_attr]
  by_cases hk : n.kind = 2
  · by_cases hd : (attrN n ⟨#[100, 105, 115, 97, 98, 108, 101, 100]⟩).2 = true
    · rw [if_pos (.inr hd)]
      left
      refine ⟨by omega, ?_⟩
      unfold turnN
      rw [if_pos (.inr hd)]
      omega
    · rw [if_neg (by rintro (q | q); exact q hk; exact hd q)]
      cases ht : (attrN n ⟨#[116, 97, 98, 105, 110, 100, 101, 120]⟩).2
      · rw [if_pos rfl]
        have hw : wholeP (attrN n ⟨#[116, 97, 98, 105, 110, 100, 101, 120]⟩).1 = (0, false) := by
          have : (attrN n ⟨#[116, 97, 98, 105, 110, 100, 101, 120]⟩).1 = noText := by
            unfold attrN at ht ⊢
            cases hf : findA n.attrs ⟨#[116, 97, 98, 105, 110, 100, 101, 120]⟩ with
            | none => rfl
            | some k => rw [hf] at ht; cases ht
          rw [this]
          rfl
        cases hq : takesN n
        · rw [if_neg (by simp)]
          left
          refine ⟨by omega, ?_⟩
          unfold turnN
          rw [ht, hq, if_pos (.inl rfl)]
          omega
        · rw [if_pos rfl]
          right; left
          refine ⟨rfl, ?_⟩
          unfold turnN
          rw [ht, hq, hw]
          simp only [Bool.false_eq_true, if_false]
          rw [if_neg (by rintro (q | q); cases q; exact hd q)]
          rfl
      · rw [if_neg (by simp)]
        unfold valN
        obtain ⟨tx, htx⟩ : ∃ tx, (attrN n ⟨#[116, 97, 98, 105, 110, 100, 101, 120]⟩).1 = tx := ⟨_, rfl⟩
        have e : turnN n = if (wholeP tx).2 = false then 0 else if (wholeP tx).1 = 0 then 1000000000 else (wholeP tx).1 := by
          unfold turnN
          rw [ht, htx]
          simp only [if_true]
          by_cases hw : (wholeP tx).2 = false
          · rw [if_pos (.inl hw), if_pos hw]
          · rw [if_neg (by rintro (q | q); exact hw q; exact hd q), if_neg hw]
        rw [e, htx]
        rcases wholeP_num tx with ⟨h1, h2⟩ | ⟨v, hv, ⟨h1, h2⟩ | ⟨h1, h2⟩⟩
        · rw [h1, h2]
          left
          exact ⟨by omega, by simp⟩
        · rw [h1, h2]
          simp only [Bool.true_eq_false, if_false]
          by_cases hv0 : 0 < v
          · rw [if_pos hv0, if_neg (by omega)]
            left
            omega
          · rw [if_neg hv0, if_pos (by omega)]
            right; left
            exact ⟨rfl, rfl⟩
        · rw [h1, h2]
          simp only [Bool.true_eq_false, if_false]
          by_cases hv0 : 0 < v
          · rw [if_neg (by omega)]
            right; right
            omega
          · rw [if_pos (by omega)]
            right; left
            omega
  · rw [if_pos (.inl hk)]
    left
    refine ⟨by omega, ?_⟩
    obtain ⟨t1, t2⟩ := h hk
    have ha : ∀ name, attrN n name = (noText, false) := fun name => by unfold attrN findA; rw [t2]; rfl
    have hq : takesN n = false := by
      unfold takesN
      rw [t1, ha]
      rw [if_neg (by rintro (q | q | q) <;> exact absurd q (by decide)), if_neg (by decide)]
    unfold turnN
    rw [ha, ha, hq]
    simp
end Go.Proofs.YtlfepdecgfcifaaGreatDoor

/- Package events: Next, walked. -/
namespace Go.Proofs.YtlfepdecgfcifaaGreatDoor
open Go.RowKit
set_option linter.unusedVariables false
attribute [local go_sem] Oper.semAt_some

theorem idxFrom_bd (x : Int) : ∀ (zs : List Int) (i : Nat), -1 ≤ Lib.idxFrom zs x i ∧ Lib.idxFrom zs x i < (i : Int) + zs.length + (if zs = [] then 1 else 0)
  | [], i => by simp [Lib.idxFrom]; omega
  | z :: zs, i => by
    unfold Lib.idxFrom
    split
    · simp; omega
    · have := idxFrom_bd x zs (i + 1)
      refine ⟨this.1, ?_⟩
      rw [if_neg (by simp)]
      have h2 := this.2
      simp only [List.length_cons]
      split at h2
      · rename_i e
        subst e
        simp [Lib.idxFrom]
        omega
      · omega
theorem idxOf_bd (zs : List Int) (x : Int) (h : 0 < zs.length) : -1 ≤ Lib.idxOf zs x ∧ Lib.idxOf zs x < zs.length := by
  have := idxFrom_bd x zs 0
  rw [if_neg (by rintro rfl; simp at h)] at this
  unfold Lib.idxOf
  omega
/-- who comes behind one, forth or back -/
def nextP (l : List Int) (z : Int) (back : Bool) : Int :=
  if l.length = 0 then -1 else (if back then l.reverse else l).getD (((Lib.idxOf (if back then l.reverse else l) z + 1).toNat) % l.length) 0

theorem belSet {B g : Nat} {a : World} (hg : B ≤ g) : ∀ (vs : List Value) (o : Nat) (w : World), Below B a w → Below B a (w.setCells g o vs)
  | [], _, _, h => h
  | v :: vs, o, w, h => belSet hg vs (o + 1) _ (h.setCell (p := ⟨g, o, none⟩) hg v)

/-- a list of numbers in a row of its own: its cells -/
theorem own_cells {w : World} {B : Nat} {v : Value} {l : List Int} (h : w.ownsRow B 3 1 v l.length (l.map intV)) (hl : 0 < l.length) : ∃ g c, v = .slice (some ⟨g, 0, none⟩) l.length c ∧ B ≤ g ∧ g < w.heap.size ∧ (∀ j, w.frozen? ⟨g, j, none⟩ = false) ∧ ∀ j, j < l.length → w.cell? ⟨g, 0 + j, none⟩ = some (.int .i64 (l.getD j 0)) := by
  obtain ⟨_, ⟨_, h0⟩ | ⟨g, cap, cur, rfl, h1, h2, h3, h4, h5, h6⟩⟩ := h
  · omega
  · refine ⟨g, cap, rfl, h1, ltH h2, fun j => by simp [World.frozen?, h2], fun j hj => ?_⟩
    rw [Nat.zero_add, cell_of_row _ _ _ _ _ _ h2]
    have e : (cur.toList.take (l.length * 1))[j]? = (l.map intV)[j]? := by rw [h6]
    rw [List.getElem?_take, if_pos (by omega), List.getElem?_map, List.getElem?_eq_getElem hj] at e
    rw [← Array.getElem?_toList, e, List.getD_eq_getElem?_getD, List.getElem?_eq_getElem hj]
    rfl

set_option maxHeartbeats 8000000 in
set_option maxRecDepth 100000 in
theorem next_any {w : World} {tb : Nat} {l : List Int} {root : Int} (hlen : l.length ≤ 1000) (OR : Calls Tryz.prog 9 #[.pointer (some ⟨tb, 0, none⟩), .int .i64 root] w (UndPost w l)) (z : Int) (back : Bool) :
    Calls Tryz.prog 11 #[.pointer (some ⟨tb, 0, none⟩), .int .i64 root, .int .i64 z, .bool back] w fun e w' => e = .returned (.int .i64 (nextP l z back)) ∧ Below w.heap.size w w' := by
  have HO := hid OR
  clear OR
  by_cases hl0 : l.length = 0
  · have e0 : nextP l z back = -1 := by unfold nextP; rw [if_pos hl0]
    rw [e0]
    go_enter Tryz.func11, Tryz.ntmps11
    go_wp2_with fail
    refine HO.out.mono ?_
    rintro e w1 ⟨v, rfl, h1, h2⟩
    have HB := hid h2
    obtain ⟨a, c, rfl, _, _, _⟩ := own_shapeG h1
    rw [hl0]
    clear h1 h2
    go_wp2_with fail
    go_returns
    exact ⟨rfl, HB.out⟩
  · have hl1 : 0 < l.length := by omega
    have hz' : ((l.length : Int) == 0) = false := by rw [beq_eq_false_iff_ne]; omega
    have hz2 : ¬ (l.length : Int) = 0 := by omega
    cases back
    · obtain ⟨ib0, ib1⟩ := idxOf_bd l z hl1
      obtain ⟨m, hm⟩ : ∃ m, (Lib.idxOf l z + 1).toNat = m := ⟨_, rfl⟩
      have hm1 : Lib.idxOf l z + 1 = (m : Int) := by omega
      have W1 : IntKind.i64.wrap (Lib.idxOf l z + 1) = (m : Int) := by rw [IntKind.wrap_i64]; omega
      obtain ⟨q, hq⟩ : ∃ q, m % l.length = q := ⟨_, rfl⟩
      have R1 : (m : Int).tmod (l.length : Int) = (q : Int) := by rw [Int.tmod_eq_emod_of_nonneg (by omega), ← Int.natCast_emod, hq]
      have hql : q < l.length := by rw [← hq]; exact Nat.mod_lt _ hl1
      have hql' : (q : Int) < (l.length : Int) := by omega
      have W2 : IntKind.i64.wrap (q : Int) = (q : Int) := by rw [IntKind.wrap_i64]; omega
      have e0 : nextP l z false = l.getD q 0 := by unfold nextP; rw [if_neg hl0]; simp only [Bool.false_eq_true, if_false]; rw [hm, hq]
      obtain ⟨y, hy⟩ : ∃ y, l.getD q 0 = y := ⟨_, rfl⟩
      rw [e0, hy]
      have HY := hid hy
      clear e0 hm hq hm1 ib0 ib1 hy
      go_enter Tryz.func11, Tryz.ntmps11
      go_wp2_with fail
      refine HO.out.mono ?_
      rintro e w1 ⟨v, rfl, h1, h2⟩
      have HB := hid h2
      obtain ⟨g, c, rfl, hg0, hg1, hg2, hg3⟩ := own_cells h1 hl1
      have IX := hid (Tryz.slices_Index_int g 0 l.length c l z w1 (Nat.le_refl _) (by omega) hg3)
      rw [List.take_length] at IX
      have c0 := hg3 q hql
      rw [Nat.zero_add, HY.out] at c0
      clear h1 h2 hg3
      go_wp2_with fail
      refine IX.out.mono ?_
      rintro e w2 ⟨rfl, rfl⟩
      go_wp2_with fail
      go_returns
      exact ⟨rfl, HB.out⟩
    · have hrl : l.reverse.length = l.length := List.length_reverse
      obtain ⟨ib0, ib1⟩ := idxOf_bd l.reverse z (by omega)
      obtain ⟨m, hm⟩ : ∃ m, (Lib.idxOf l.reverse z + 1).toNat = m := ⟨_, rfl⟩
      have hm1 : Lib.idxOf l.reverse z + 1 = (m : Int) := by omega
      have W1 : IntKind.i64.wrap (Lib.idxOf l.reverse z + 1) = (m : Int) := by rw [IntKind.wrap_i64]; omega
      obtain ⟨q, hq⟩ : ∃ q, m % l.length = q := ⟨_, rfl⟩
      have R1 : (m : Int).tmod (l.length : Int) = (q : Int) := by rw [Int.tmod_eq_emod_of_nonneg (by omega), ← Int.natCast_emod, hq]
      have hql : q < l.length := by rw [← hq]; exact Nat.mod_lt _ hl1
      have hql' : (q : Int) < (l.length : Int) := by omega
      have W2 : IntKind.i64.wrap (q : Int) = (q : Int) := by rw [IntKind.wrap_i64]; omega
      have e0 : nextP l z true = l.reverse.getD q 0 := by unfold nextP; rw [if_neg hl0]; simp only [if_true]; rw [hm, hq]
      obtain ⟨y, hy⟩ : ∃ y, l.reverse.getD q 0 = y := ⟨_, rfl⟩
      rw [e0, hy]
      obtain ⟨ix, hix⟩ : ∃ i, Lib.idxOf l.reverse z = i := ⟨_, rfl⟩
      rw [hix] at W1
      have HIX := hid hix
      have HY := hid hy
      clear e0 hm hq hm1 ib0 ib1 hy hix
      go_enter Tryz.func11, Tryz.ntmps11
      go_wp2_with fail
      refine HO.out.mono ?_
      rintro e w1 ⟨v, rfl, h1, h2⟩
      have HB := hid h2
      obtain ⟨g, c, rfl, hg0, hg1, hg2, hg3⟩ := own_cells h1 hl1
      have RV := hid (Tryz.slices_Reverse_int_cells g 0 l.length c l w1 (Nat.le_refl _) (by omega) hg3 (fun j _ => by rw [Nat.zero_add]; exact hg2 j))
      rw [List.take_length] at RV
      have HG3 := hid hg3
      clear h1 h2 hg3
      go_wp2_with fail
      refine RV.out.mono ?_
      rintro e w2 ⟨rfl, dn, hw2⟩
      have hc2 : ∀ j, j < l.reverse.length → w2.cell? ⟨g, 0 + j, none⟩ = some (.int .i64 (l.reverse.getD j 0)) := fun j hj => by
        have := World.cell?_setCells_in g (l.reverse.map (Value.int .i64)) 0 (w1.drewN dn) (fun i hi => by
          have := HG3.out i (by simpa using hi)
          show (w1.cell? _).isSome = true
          rw [this]
          rfl) j (by simpa using hj)
        rw [hw2, this, List.getElem_map, List.getD_eq_getElem?_getD, List.getElem?_eq_getElem hj]
        rfl
      have hb2 : Below w.heap.size w w2 := by
        rw [hw2]
        exact belSet hg0 _ _ _ (belD HB.out _)
      have HB2 := hid hb2
      have IX := hid (Tryz.slices_Index_int g 0 l.length c l.reverse z w2 (by omega) (by omega) hc2)
      rw [← hrl, List.take_length, HIX.out, hrl] at IX
      have c0 := hc2 q (by omega)
      rw [Nat.zero_add, HY.out] at c0
      clear hw2 hb2 hc2
      go_wp2_with fail
      refine IX.out.mono ?_
      rintro e w3 ⟨rfl, rfl⟩
      go_wp2_with fail
      go_returns
      exact ⟨rfl, HB2.out⟩
end Go.Proofs.YtlfepdecgfcifaaGreatDoor

/- Going round a list, as plain mathematics. -/
namespace Go.Proofs.YtlfepdecgfcifaaGreatDoor
set_option linter.unusedVariables false

theorem insK_perm {α : Type} (k : α → Int) (x : α) : ∀ (l : List α), (insK k x l).Perm (x :: l)
  | [] => List.Perm.refl _
  | y :: l => by
    unfold insK
    split
    · exact ((insK_perm k x l).cons y).trans (List.Perm.swap x y l)
    · exact List.Perm.refl _
theorem sortK_perm {α : Type} (k : α → Int) (l : List α) : (sortK k l).Perm l := by
  unfold sortK
  have : ∀ (l acc : List α), (l.foldl (fun acc x => insK k x acc) acc).Perm (l ++ acc) := by
    intro l
    induction l with
    | nil => intro acc; exact List.Perm.refl _
    | cons x l ih =>
      intro acc
      simp only [List.foldl_cons]
      refine (ih _).trans (((insK_perm k x acc).append_left l).trans ?_)
      exact List.perm_middle
  simpa using this l []
theorem orderP_nodup {ns : List Nd} {L : List Int} (h : L.Nodup) : (orderP ns L).Nodup := by
  unfold orderP
  rw [(sortK_perm (turnI ns) (fltT ns L)).nodup_iff]
  exact h.filter _
theorem orderP_mem {ns : List Nd} {L : List Int} {x : Int} (h : x ∈ orderP ns L) : x ∈ L := by
  unfold orderP at h
  exact (List.mem_filter.1 ((sortK_mem _ _ x).1 h)).1
theorem orderP_len (ns : List Nd) (L : List Int) : (orderP ns L).length ≤ L.length := by
  unfold orderP
  rw [sortK_length]
  exact List.length_filter_le _ _
theorem getD_inj {l : List Int} (h : l.Nodup) {i j : Nat} (hi : i < l.length) (hj : j < l.length) (e : l.getD i 0 = l.getD j 0) : i = j := by
  rw [List.getD_eq_getElem?_getD, List.getD_eq_getElem?_getD, List.getElem?_eq_getElem hi, List.getElem?_eq_getElem hj] at e
  simp only [Option.getD_some] at e
  rcases Nat.lt_trichotomy i j with q | q | q
  · exact absurd e (List.pairwise_iff_getElem.1 h i j hi hj q)
  · exact q
  · exact absurd e.symm (List.pairwise_iff_getElem.1 h j i hj hi q)
theorem idxOf_nodup {l : List Int} (h : l.Nodup) {i : Nat} (hi : i < l.length) : Lib.idxOf l (l.getD i 0) = i := by
  have := Lib.idxFrom_hit (l.getD i 0) l i 0 hi rfl (fun j hj e => by have := getD_inj h (by omega) hi e; omega)
  unfold Lib.idxOf
  rw [this]
  simp
theorem idxOf_none {l : List Int} {x : Int} (h : x ∉ l) : Lib.idxOf l x = -1 := by
  unfold Lib.idxOf
  refine Lib.idxFrom_miss x l 0 fun j hj e => h ?_
  rw [← e, List.getD_eq_getElem?_getD, List.getElem?_eq_getElem hj]
  exact List.getElem_mem hj
theorem next_start {l : List Int} (hl : 0 < l.length) {x : Int} (h : x ∉ l) : nextP l x false = l.getD 0 0 := by
  unfold nextP
  rw [if_neg (by omega)]
  simp only [Bool.false_eq_true, if_false]
  rw [idxOf_none h]
  simp
theorem next_fwd {l : List Int} (h : l.Nodup) {i : Nat} (hi : i < l.length) : nextP l (l.getD i 0) false = l.getD ((i + 1) % l.length) 0 := by
  unfold nextP
  rw [if_neg (by omega)]
  simp only [Bool.false_eq_true, if_false]
  rw [idxOf_nodup h hi, show ((i : Int) + 1).toNat = i + 1 by omega]
theorem rev_getD (l : List Int) {i : Nat} (hi : i < l.length) : l.reverse.getD i 0 = l.getD (l.length - 1 - i) 0 := by
  rw [List.getD_eq_getElem?_getD, List.getD_eq_getElem?_getD, List.getElem?_reverse hi]
theorem next_back {l : List Int} (h : l.Nodup) {i : Nat} (hi : i < l.length) : nextP l (l.getD ((i + 1) % l.length) 0) true = l.getD i 0 := by
  have hr : l.reverse.Nodup := (List.reverse_perm l).nodup_iff.2 h
  have hrl : l.reverse.length = l.length := List.length_reverse
  obtain ⟨k, hk⟩ : ∃ k, (i + 1) % l.length = k := ⟨_, rfl⟩
  have hkl : k < l.length := by rw [← hk]; exact Nat.mod_lt _ (by omega)
  have hx : l.getD k 0 = l.reverse.getD (l.length - 1 - k) 0 := by
    rw [rev_getD l (by omega)]
    congr 1
    omega
  unfold nextP
  rw [if_neg (by omega), hk]
  simp only [if_true]
  rw [hx, idxOf_nodup hr (by omega)]
  rw [show (((l.length - 1 - k : Nat) : Int) + 1).toNat = l.length - k by omega]
  have hm : (l.length - k) % l.length < l.length := Nat.mod_lt _ (by omega)
  rw [rev_getD l hm]
  congr 1
  by_cases h1 : i + 1 < l.length
  · rw [Nat.mod_eq_of_lt h1] at hk
    rw [Nat.mod_eq_of_lt (by omega)]
    omega
  · have e : i + 1 = l.length := by omega
    rw [e, Nat.mod_self] at hk
    rw [← hk, Nat.sub_zero, Nat.mod_self]
    omega
theorem orderP_low {ns : List Nd} (hs : Sound ns) {z : Int} {x : Int} (h : x ∈ orderP ns (undZ ns z)) : 0 ≤ x := by
  obtain ⟨j, rfl, _⟩ := undZ_mem hs (orderP_mem h)
  omega
end Go.Proofs.YtlfepdecgfcifaaGreatDoor
