/- The document's order of focus, as plain mathematics: the sorted, and behind them the rest; it is the program's. -/
import Derived.Test.YtlfepdecgfcifaaGreatDoorM19
import Derived.BigQuiet
namespace Go.Proofs.YtlfepdecgfcifaaGreatDoor
set_option linter.unusedVariables false

def turnJ (ns : List Nd) (z : Int) : Int := match ns[z.toNat]? with | some n => turnQ n | none => -1
/-- so many of a list, from its end, have a greater key -/
def cutJ (k : Int → Int) (n : Int) (l : List Int) : Nat → Nat
  | 0 => 0
  | j + 1 => if k (l.getD j 0) > n then cutJ k n l j else j + 1
/-- the document's lists: those with a number above 0, in order; the rest -/
def outD (ns : List Nd) : List Int → List Int × List Int
  | l => l.foldl (fun s x => if turnJ ns x = 0 then (s.1, s.2 ++ [x]) else if turnJ ns x < 0 then s else (s.1.take (cutJ (turnJ ns) (turnJ ns x) s.1 s.1.length) ++ [x] ++ s.1.drop (cutJ (turnJ ns) (turnJ ns x) s.1 s.1.length), s.2)) ([], [])
def docO (ns : List Nd) (L : List Int) : List Int := (outD ns L).1 ++ (outD ns L).2

theorem insK_take {k : Int → Int} {x : Int} : ∀ (l : List Int) (j : Nat), j ≤ l.length → (∀ i, i < j → k (l.getD i 0) ≤ k x) → (∀ i, j ≤ i → i < l.length → ¬ k (l.getD i 0) ≤ k x) → insK k x l = l.take j ++ [x] ++ l.drop j
  | [], j, hj, _, _ => by
    have : j = 0 := by simpa using hj
    subst this
    rfl
  | y :: l, 0, hj, _, h2 => by
    have := h2 0 (Nat.le_refl _) (by simp)
    simp only [List.getD_cons_zero] at this
    unfold insK
    rw [if_neg this]
    rfl
  | y :: l, j + 1, hj, h1, h2 => by
    have h0 := h1 0 (by omega)
    simp only [List.getD_cons_zero] at h0
    unfold insK
    rw [if_pos h0, insK_take l j (by simpa using hj) (fun i hi => by simpa using h1 (i + 1) (by omega)) (fun i e1 e2 => by simpa using h2 (i + 1) (by omega) (by simp; omega))]
    rfl
/-- by keys, rising -/
def Rise (k : Int → Int) (l : List Int) : Prop := ∀ i j, i ≤ j → j < l.length → k (l.getD i 0) ≤ k (l.getD j 0)
theorem cutJ_le (k : Int → Int) (n : Int) (l : List Int) : ∀ j, cutJ k n l j ≤ j
  | 0 => Nat.le_refl _
  | j + 1 => by
    unfold cutJ
    split
    · have := cutJ_le k n l j; omega
    · omega
theorem cutJ_above (k : Int → Int) (n : Int) (l : List Int) : ∀ j i, cutJ k n l j ≤ i → i < j → k (l.getD i 0) > n
  | 0, i, _, h => by omega
  | j + 1, i, h1, h2 => by
    unfold cutJ at h1
    split at h1
    · rename_i hk
      by_cases e : i = j
      · subst e; exact hk
      · exact cutJ_above k n l j i h1 (by omega)
    · omega
theorem cutJ_at (k : Int → Int) (n : Int) (l : List Int) : ∀ j, 0 < cutJ k n l j → ¬ k (l.getD (cutJ k n l j - 1) 0) > n
  | 0, h => by simp [cutJ] at h
  | j + 1, h => by
    unfold cutJ at h ⊢
    split at h
    · rename_i hk
      rw [if_pos hk]
      exact cutJ_at k n l j h
    · rename_i hk
      rw [if_neg hk]
      exact hk
theorem insK_cut {k : Int → Int} {x : Int} {l : List Int} (h : Rise k l) : insK k x l = l.take (cutJ k (k x) l l.length) ++ [x] ++ l.drop (cutJ k (k x) l l.length) := by
  have hle := cutJ_le k (k x) l l.length
  refine insK_take l _ hle (fun i hi => ?_) (fun i e1 e2 => ?_)
  · have := cutJ_at k (k x) l l.length (by omega)
    have h2 := h i (cutJ k (k x) l l.length - 1) (by omega) (by omega)
    omega
  · have := cutJ_above k (k x) l l.length i e1 e2
    omega
theorem rise_pw {k : Int → Int} {l : List Int} : Rise k l ↔ l.Pairwise (fun a b => k a ≤ k b) := by
  rw [List.pairwise_iff_getElem]
  constructor
  · intro h i j hi hj hij
    have := h i j (by omega) hj
    rw [List.getD_eq_getElem?_getD, List.getD_eq_getElem?_getD, List.getElem?_eq_getElem hi, List.getElem?_eq_getElem hj] at this
    exact this
  · intro h i j hij hj
    by_cases e : i = j
    · subst e; exact Int.le_refl _
    · have := h i j (by omega) hj (by omega)
      rw [List.getD_eq_getElem?_getD, List.getD_eq_getElem?_getD, List.getElem?_eq_getElem (by omega), List.getElem?_eq_getElem hj]
      exact this
theorem insK_rise {k : Int → Int} {x : Int} : ∀ {l : List Int}, l.Pairwise (fun a b => k a ≤ k b) → (insK k x l).Pairwise (fun a b => k a ≤ k b)
  | [], _ => by simp [insK]
  | y :: l, h => by
    rw [List.pairwise_cons] at h
    unfold insK
    split
    · rename_i hk
      rw [List.pairwise_cons]
      refine ⟨fun z hz => ?_, insK_rise h.2⟩
      rcases (insK_mem k x l z).1 hz with e | e
      · rw [e]; exact hk
      · exact h.1 z e
    · rename_i hk
      rw [List.pairwise_cons]
      refine ⟨fun z hz => ?_, List.pairwise_cons.2 h⟩
      rcases List.mem_cons.1 hz with e | e
      · rw [e]; omega
      · have := h.1 z e; omega
theorem insK_end {k : Int → Int} {x : Int} : ∀ {l : List Int}, (∀ y ∈ l, k y ≤ k x) → insK k x l = l ++ [x]
  | [], _ => rfl
  | y :: l, h => by
    unfold insK
    rw [if_pos (h y (List.mem_cons_self ..)), insK_end (fun z hz => h z (List.mem_cons_of_mem _ hz))]
    rfl
theorem insK_left {k : Int → Int} {x : Int} {r : List Int} (hr : ∀ y ∈ r, ¬ k y ≤ k x) : ∀ (l : List Int), insK k x (l ++ r) = insK k x l ++ r
  | [] => by
    cases r with
    | nil => rfl
    | cons z r =>
      show insK k x (z :: r) = [x] ++ (z :: r)
      unfold insK
      rw [if_neg (hr z (List.mem_cons_self ..))]
      rfl
  | y :: l => by
    show insK k x (y :: (l ++ r)) = insK k x (y :: l) ++ r
    unfold insK
    split
    · rw [insK_left hr l]; rfl
    · rfl

/-- what stands between the document's lists and the program's -/
structure DocI (ns : List Nd) (o r F : List Int) : Prop where
  eq : sortK (turnI ns) F = o ++ r
  oo : ∀ x ∈ o, 0 < turnJ ns x ∧ turnI ns x = turnJ ns x ∧ turnI ns x < 1000000000
  rr : ∀ x ∈ r, turnI ns x = 1000000000
  up : o.Pairwise (fun a b => turnJ ns a ≤ turnJ ns b)
theorem turnIJ {ns : List Nd} (h : ∀ n ∈ ns, TagOk n) (z : Int) : (turnJ ns z < 0 ∧ turnI ns z ≤ 0) ∨ (turnJ ns z = 0 ∧ turnI ns z = 1000000000) ∨ (0 < turnJ ns z ∧ turnI ns z = turnJ ns z ∧ turnI ns z < 1000000000) := by
  unfold turnJ turnI
  cases hz : ns[z.toNat]? with
  | none => exact .inl ⟨by decide, by decide⟩
  | some n => exact turn_same (h n (List.mem_of_getElem? hz))
theorem DocI.rest {ns : List Nd} {o r F : List Int} (h : DocI ns o r F) {x : Int} (hx : turnI ns x = 1000000000) : DocI ns o (r ++ [x]) (F ++ [x]) := by
  refine ⟨?_, h.oo, fun y hy => ?_, h.up⟩
  · rw [sortK_snoc, h.eq, insK_end, List.append_assoc]
    intro y hy
    rw [hx]
    rcases List.mem_append.1 hy with e | e
    · have := (h.oo y e).2.2; omega
    · rw [h.rr y e]; omega
  · rcases List.mem_append.1 hy with e | e
    · exact h.rr y e
    · simp only [List.mem_cons, List.not_mem_nil, or_false] at e
      rw [e]; exact hx
theorem DocI.put {ns : List Nd} {o r F : List Int} (h : DocI ns o r F) {x : Int} (hx : 0 < turnJ ns x ∧ turnI ns x = turnJ ns x ∧ turnI ns x < 1000000000) : DocI ns (o.take (cutJ (turnJ ns) (turnJ ns x) o o.length) ++ [x] ++ o.drop (cutJ (turnJ ns) (turnJ ns x) o o.length)) r (F ++ [x]) := by
  have e1 : insK (turnI ns) x o = insK (turnJ ns) x o := insK_congr hx.2.1 o (fun y hy => (h.oo y hy).2.1)
  have e2 := insK_cut (k := turnJ ns) (x := x) (rise_pw.2 h.up)
  rw [← e2]
  refine ⟨?_, fun y hy => ?_, h.rr, insK_rise h.up⟩
  · rw [sortK_snoc, h.eq, insK_left (fun y hy => by rw [h.rr y hy]; omega), e1]
  · rcases (insK_mem _ x o y).1 hy with e | e
    · rw [e]; exact hx
    · exact h.oo y e
end Go.Proofs.YtlfepdecgfcifaaGreatDoor

/- The law's comparison of two lists; what a text node never bears. -/
namespace Go.Proofs.YtlfepdecgfcifaaGreatDoor
open Go.RowKit
set_option linter.unusedVariables false
attribute [local go_sem] Oper.semAt_some

set_option maxHeartbeats 4000000 in
set_option maxRecDepth 100000 in
theorem sameI5_any {w : World} {B C : Nat} {v u : Value} {l : List Int} (hl : l.length ≤ 1000000) (hv : w.ownsRow B 3 1 v l.length (l.map intV)) (hu : w.ownsRow C 3 1 u l.length (l.map intV)) :
    Calls Tryz.prog 8 #[v, u] w fun e w' => e = .returned (.bool true) ∧ Below w.heap.size w w' := by
  by_cases h0 : l.length = 0
  · obtain ⟨a, c, rfl, _, _, _⟩ := own_shapeG hv
    obtain ⟨a2, c2, rfl, _, _, _⟩ := own_shapeG hu
    rw [h0]
    clear hv hu
    go_enter Tryz.func8, Tryz.ntmps8
    go_wp2_with fail
    go_loopw [5] (fun i wr => i = .int .i64 0 ∧ wr = w) (fun _ _ => 0)
    case atStart => exact ⟨rfl, rfl⟩
    case round =>
      obtain ⟨rfl, rfl⟩ := hrel
      go_wp2_with fail
      go_returns
      exact ⟨rfl, Below.refl _ _⟩
  · obtain ⟨g, c, rfl, _, hg1, _, ha⟩ := own_cells hv (by omega)
    obtain ⟨g2, c2, rfl, _, hg2, _, hb⟩ := own_cells hu (by omega)
    have HA := hidF ha
    have HB := hidF hb
    clear ha hb hv hu
    go_enter Tryz.func8, Tryz.ntmps8
    go_wp2_with fail
    go_loopw [5] (fun i wr => ∃ k : Nat, k ≤ l.length ∧ i = .int .i64 k ∧ Hid (Below w.heap.size w wr)) (fun i _ => l.length - (intOf i).toNat)
    case atStart => exact ⟨0, by omega, rfl, Below.refl _ _⟩
    case round =>
      obtain ⟨k, hk, rfl, hbel⟩ := hrel
      by_cases hlt : k < l.length
      · have e1 := (hbel.out.cell (p := ⟨g, 0 + k, none⟩) hg1).trans (HA.out k hlt)
        have e2 := (hbel.out.cell (p := ⟨g2, 0 + k, none⟩) hg2).trans (HB.out k hlt)
        rw [Nat.zero_add] at e1 e2
        obtain ⟨y, hy⟩ : ∃ y, l.getD k 0 = y := ⟨_, rfl⟩
        rw [hy] at e1 e2
        have i2 : (k : Int) < (l.length : Int) := by omega
        have j1 : (y != y) = false := by simp
        clear hy
        go_wp2_with fail
        go_quiet (fail)
        go_wp2_with fail
        go_roundw
        case rel => exact ⟨k + 1, by omega, by go_num, belD hbel.out _⟩
        case measure => simp [intOf]; omega
      · obtain rfl : k = l.length := by omega
        go_wp2_with fail
        go_returns
        exact ⟨rfl, hbel.out⟩

/-! ### what a node that is no element bears -/
def TagA (ns : List Nd) : Prop := ∀ n ∈ ns, TagOk n
theorem TagA.set {ns : List Nd} (h : TagA ns) (i : Nat) {n : Nd} (hn : TagOk n) : TagA (ns.set i n) := fun x hx => by
  rcases List.mem_or_eq_of_mem_set hx with e | e
  · exact h x e
  · rw [e]; exact hn
theorem TagA.setS {ns : List Nd} (h : TagA ns) (i : Nat) (a b : ByteArray) : TagA (setS ns i a b) := by
  unfold Go.Proofs.YtlfepdecgfcifaaGreatDoor.setS
  split
  · exact h
  · rename_i n hn
    split
    · rename_i hc
      exact h.set i (fun q => (q hc.1).elim)
    · exact h
theorem TagA.put {ns : List Nd} (h : TagA ns) (a b : Nat) : TagA (putS ns a b) := by
  unfold putS
  split
  · rename_i na nb ha hb
    split
    · have h1 := h na (List.mem_of_getElem? ha)
      have h2 := h nb (List.mem_of_getElem? hb)
      exact (h.set a (n := { na with kids := na.kids ++ [(b : Int)] }) h1).set b (n := { nb with parent := (a : Int) }) h2
    · exact h
  · exact h
theorem TagA.attrs {i : Nat} (l : List (ByteArray × ByteArray)) : ∀ {ns : List Nd}, TagA ns → TagA (attrsS i ns l) := by
  induction l with
  | nil => intro ns h; exact h
  | cons x l ih => intro ns h; exact ih (h.setS i x.1 x.2)
theorem TagA.kids {k : Nat} (l : List Int) : ∀ {ns : List Nd}, TagA ns → TagA (kidsS k ns l) := by
  induction l with
  | nil => intro ns h; exact h
  | cons x l ih =>
    intro ns h
    refine ih ?_
    unfold kidS
    split
    · exact h.put _ _
    · exact h
theorem headS_tag (kind : Int) (tag text : ByteArray) : TagOk (headS kind tag text) := by
  unfold headS
  split
  · exact fun q => (q rfl).elim
  · split
    · exact fun _ => ⟨rfl, rfl⟩
    · exact fun _ => ⟨rfl, rfl⟩
theorem bodyS_tag (ts : List Tw) : ∀ k, TagA (bodyS ts k)
  | 0 => fun n hn => by
    simp only [bodyS, List.mem_cons, List.not_mem_nil, or_false] at hn
    rw [hn]
    exact fun _ => ⟨rfl, rfl⟩
  | k + 1 => by
    unfold bodyS
    split
    · refine TagA.kids _ (TagA.attrs _ fun n hn => ?_)
      rcases List.mem_append.1 hn with e | e
      · exact bodyS_tag ts k n e
      · simp only [List.mem_cons, List.not_mem_nil, or_false] at e
        rw [e]
        exact headS_tag _ _ _
    · exact bodyS_tag ts k
theorem lastS_tag (ts : List Tw) : ∀ j, TagA (lastS ts j)
  | 0 => bodyS_tag ts _
  | j + 1 => by
    unfold lastS rootS
    split
    · exact (lastS_tag ts j).put _ _
    · exact lastS_tag ts j
end Go.Proofs.YtlfepdecgfcifaaGreatDoor
