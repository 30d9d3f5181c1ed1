/- Where items come to stand, told step by step: there is one way only. -/
import Derived.Test.YtbphlbohiifcmaaGCur
namespace Go.Proofs.Ytbphlbohiifcmaa
open Go.RowKit
set_option linter.unusedVariables false      -- bounds that are for the walk

/-- they have a cell in common -/
def Ovl (a b : Gi) : Prop := a.c < b.c + b.cs ∧ b.c < a.c + a.cs ∧ a.r < b.r + b.rs ∧ b.r < a.r + a.rs
instance (a b : Gi) : Decidable (Ovl a b) := by unfold Ovl; infer_instance
/-- none of those that stand has a cell of it -/
def FreeL (its : List Gi) (P : Nat → Prop) (x : Gi) : Prop := ∀ (j : Nat) q, P j → its[j]? = some q → ¬ Ovl q x
theorem GInv.freeL {l0 its : List Gi} {F : Tk} {cols B : Int} {P : Nat → Prop} (h : GInv l0 its F cols B P) {x : Gi} (h1 : 1 ≤ x.cs) (h2 : 1 ≤ x.rs) : FreeAt F x ↔ FreeL its P x := by
  constructor
  · intro hf j q hj hq ho
    have hjl : j < l0.length := h.nP j hj
    have hqo : l0[j]? = some l0[j] := List.getElem?_eq_getElem hjl
    have hs := h.sp j q _ hq hqo
    have hg := h.ok0 _ (List.mem_of_getElem? hqo)
    have := hg.cs1; have := hg.rs1
    obtain ⟨o1, o2, o3, o4⟩ := ho
    refine h.cov j q hj hq (max q.c x.c) (max q.r x.r) ?_ (hf _ _ ?_) <;> (unfold Gi.has; unfold Gi.lc Gi.lr; omega)
  · intro hf a b hh
    cases e : F a b with
    | none => rfl
    | some v =>
      exfalso
      obtain ⟨j, q, hj, hq, hhas⟩ := h.only a b (by rw [e]; simp)
      refine hf j q hj hq ?_
      unfold Gi.has Gi.lc Gi.lr at hh hhas
      unfold Ovl
      omega
theorem FreeL.congr {its : List Gi} {P Q : Nat → Prop} {x : Gi} (e : ∀ j, j < its.length → (P j ↔ Q j)) : FreeL its P x ↔ FreeL its Q x := by
  constructor <;> intro h j q hj hq
  · exact h j q ((e j (List.getElem?_eq_some_iff.1 hq).1).2 hj) hq
  · exact h j q ((e j (List.getElem?_eq_some_iff.1 hq).1).1 hj) hq

/-- the least place of a kind, from one on -/
structure LeastI (p : Int → Prop) (a x : Int) : Prop where
  ge : a ≤ x
  is : p x
  least : ∀ z, a ≤ z → z < x → ¬ p z
theorem LeastI.unique {p : Int → Prop} {a x y : Int} (h : LeastI p a x) (k : LeastI p a y) : x = y := by
  rcases Int.lt_trichotomy x y with e | e | e
  · exact absurd h.is (k.least x h.ge e)
  · exact e
  · exact absurd k.is (h.least y k.ge e)
theorem LeastI.congr {p q : Int → Prop} {a x : Int} (e : ∀ z, p z ↔ q z) (h : LeastI p a x) : LeastI q a x :=
  ⟨h.ge, (e x).1 h.is, fun z h1 h2 h3 => h.least z h1 h2 ((e z).2 h3)⟩

/-- those whose row alone is told, up to place k -/
inductive RowS (l0 : List Gi) (c0 : Int) : Nat → List Gi → Int → Prop
  | start : RowS l0 c0 0 l0 c0
  | skip {k : Nat} {its : List Gi} {c : Int} {o : Gi} : RowS l0 c0 k its c → l0[k]? = some o → (o.r = 0 ∨ 0 < o.c) → RowS l0 c0 (k + 1) its c
  | put {k : Nat} {its : List Gi} {c : Int} {o : Gi} {x : Int} : RowS l0 c0 k its c → l0[k]? = some o → ¬ (o.r = 0 ∨ 0 < o.c) → LeastI (fun z => FreeL its (PRow l0 k) (o.atC z)) 1 x → x ≤ 90000 → RowS l0 c0 (k + 1) (its.set k (o.atC x)) (max c (o.atC x).lc)
theorem RowS.unique {l0 : List Gi} {c0 : Int} : ∀ {k : Nat} {a b : List Gi} {c d : Int}, RowS l0 c0 k a c → RowS l0 c0 k b d → a = b ∧ c = d := by
  intro k
  induction k with
  | zero =>
    intro a b c d h1 h2
    cases h1
    cases h2
    exact ⟨rfl, rfl⟩
  | succ k ih =>
    intro a b c d h1 h2
    cases h1 with
    | skip p1 o1 c1 =>
      cases h2 with
      | skip p2 o2 c2 => exact ih p1 p2
      | put p2 o2 c2 x2 b2 => rw [o1] at o2; cases o2; exact absurd c1 c2
    | put p1 o1 c1 x1 b1 =>
      cases h2 with
      | skip p2 o2 c2 => rw [o1] at o2; cases o2; exact absurd c2 c1
      | put p2 o2 c2 x2 b2 =>
        rw [o1] at o2; cases o2
        obtain ⟨rfl, rfl⟩ := ih p1 p2
        obtain rfl := x1.unique x2
        exact ⟨rfl, rfl⟩
theorem RowS.before {l0 : List Gi} {c0 : Int} {n : Nat} {a : List Gi} {c : Int} (h : RowS l0 c0 n a c) : ∀ {k : Nat}, k ≤ n → ∃ b d, RowS l0 c0 k b d := by
  induction h with
  | start =>
    intro k hk
    obtain rfl : k = 0 := by omega
    exact ⟨_, _, .start⟩
  | skip p o e ih =>
    rename_i m its c' o'
    intro k hk
    by_cases hkm : k ≤ m
    · exact ih hkm
    · obtain rfl : k = m + 1 := by omega
      exact ⟨_, _, .skip p o e⟩
  | put p o e x b ih =>
    rename_i m its c' o' x'
    intro k hk
    by_cases hkm : k ≤ m
    · exact ih hkm
    · obtain rfl : k = m + 1 := by omega
      exact ⟨_, _, .put p o e x b⟩
/-- there is a next place -/
theorem RowS.next {l0 : List Gi} {c0 : Int} {n k : Nat} {a b : List Gi} {c d : Int} {o : Gi} (h : RowS l0 c0 n a c) (hk : k < n) (hb : RowS l0 c0 k b d) (ho : l0[k]? = some o) (hc : ¬ (o.r = 0 ∨ 0 < o.c)) : ∃ x, LeastI (fun z => FreeL b (PRow l0 k) (o.atC z)) 1 x ∧ x ≤ 90000 := by
  obtain ⟨b', d', hn⟩ := h.before (show k + 1 ≤ n from hk)
  cases hn with
  | skip p o' e => rw [ho] at o'; cases o'; exact absurd e hc
  | put p o' e x b =>
    rw [ho] at o'; cases o'
    obtain ⟨rfl, rfl⟩ := p.unique hb
    exact ⟨_, x, b⟩

/-- the first place from a cursor on -/
structure OrdL (its : List Gi) (P : Nat → Prop) (cs rs cols cc cr c r : Int) : Prop where
  free : FreeL its P ⟨c, cs, r, rs⟩
  within : c + cs - 1 ≤ cols
  c1 : 1 ≤ c
  r1 : cr ≤ r
  from_ : r = cr → cc ≤ c
  least : ∀ y z, cr ≤ y → y ≤ r → (y = cr → cc ≤ z) → 1 ≤ z → (y = r → z < c) → z + cs - 1 ≤ cols → ¬ FreeL its P ⟨z, cs, y, rs⟩
theorem OrdL.unique {its : List Gi} {P : Nat → Prop} {cs rs cols cc cr c r c' r' : Int} (h : OrdL its P cs rs cols cc cr c r) (k : OrdL its P cs rs cols cc cr c' r') : c = c' ∧ r = r' := by
  rcases Int.lt_trichotomy r r' with e | e | e
  · exact absurd h.free (k.least r c h.r1 (by omega) h.from_ h.c1 (by omega) h.within)
  · subst e
    rcases Int.lt_trichotomy c c' with e | e | e
    · exact absurd h.free (k.least r c h.r1 (by omega) h.from_ h.c1 (by omega) h.within)
    · exact ⟨e, rfl⟩
    · exact absurd k.free (h.least r c' k.r1 (by omega) k.from_ k.c1 (by omega) k.within)
  · exact absurd k.free (h.least r' c' k.r1 (by omega) k.from_ k.c1 (by omega) k.within)
/-- those whose row is not told, up to place k; the cursor -/
inductive CurS (l0 l1 : List Gi) (cols : Int) : Nat → List Gi → Int → Int → Prop
  | start : CurS l0 l1 cols 0 l1 1 1
  | skip {k : Nat} {its : List Gi} {cc cr : Int} {o : Gi} : CurS l0 l1 cols k its cc cr → l0[k]? = some o → 0 < o.r → CurS l0 l1 cols (k + 1) its cc cr
  | col {k : Nat} {its : List Gi} {cc cr : Int} {o : Gi} {r : Int} : CurS l0 l1 cols k its cc cr → l0[k]? = some o → ¬ 0 < o.r → 0 < o.c → LeastI (fun z => FreeL its (PCur l0 k) (o.atR z)) (if o.c < cc then cr + 1 else cr) r → r ≤ 90000 → CurS l0 l1 cols (k + 1) (its.set k (o.atR r)) o.c r
  | ord {k : Nat} {its : List Gi} {cc cr : Int} {o : Gi} {c r : Int} : CurS l0 l1 cols k its cc cr → l0[k]? = some o → ¬ 0 < o.r → ¬ 0 < o.c → OrdL its (PCur l0 k) o.cs o.rs cols cc cr c r → r ≤ 90000 → CurS l0 l1 cols (k + 1) (its.set k ⟨c, o.cs, r, o.rs⟩) c r
theorem CurS.unique {l0 l1 : List Gi} {cols : Int} : ∀ {k : Nat} {a b : List Gi} {c r c' r' : Int}, CurS l0 l1 cols k a c r → CurS l0 l1 cols k b c' r' → a = b ∧ c = c' ∧ r = r' := by
  intro k
  induction k with
  | zero =>
    intro a b c r c' r' h1 h2
    cases h1
    cases h2
    exact ⟨rfl, rfl, rfl⟩
  | succ k ih =>
    intro a b c r c' r' h1 h2
    cases h1 with
    | skip p1 o1 e1 =>
      cases h2 with
      | skip p2 o2 e2 => exact ih p1 p2
      | col p2 o2 e2 f2 x2 b2 => rw [o1] at o2; cases o2; exact absurd e1 e2
      | ord p2 o2 e2 f2 x2 b2 => rw [o1] at o2; cases o2; exact absurd e1 e2
    | col p1 o1 e1 f1 x1 b1 =>
      cases h2 with
      | skip p2 o2 e2 => rw [o1] at o2; cases o2; exact absurd e2 e1
      | col p2 o2 e2 f2 x2 b2 =>
        rw [o1] at o2; cases o2
        obtain ⟨rfl, rfl, rfl⟩ := ih p1 p2
        obtain rfl := x1.unique x2
        exact ⟨rfl, rfl, rfl⟩
      | ord p2 o2 e2 f2 x2 b2 => rw [o1] at o2; cases o2; exact absurd f1 f2
    | ord p1 o1 e1 f1 x1 b1 =>
      cases h2 with
      | skip p2 o2 e2 => rw [o1] at o2; cases o2; exact absurd e2 e1
      | col p2 o2 e2 f2 x2 b2 => rw [o1] at o2; cases o2; exact absurd f2 f1
      | ord p2 o2 e2 f2 x2 b2 =>
        rw [o1] at o2; cases o2
        obtain ⟨rfl, rfl, rfl⟩ := ih p1 p2
        obtain ⟨rfl, rfl⟩ := x1.unique x2
        exact ⟨rfl, rfl, rfl⟩
theorem CurS.before {l0 l1 : List Gi} {cols : Int} {n : Nat} {a : List Gi} {c r : Int} (h : CurS l0 l1 cols n a c r) : ∀ {k : Nat}, k ≤ n → ∃ b c r, CurS l0 l1 cols k b c r := by
  induction n generalizing a c r with
  | zero =>
    intro k hk
    obtain rfl : k = 0 := by omega
    exact ⟨_, _, _, h⟩
  | succ m ih =>
    intro k hk
    by_cases hkm : k = m + 1
    · subst hkm; exact ⟨_, _, _, h⟩
    · cases h with
      | skip p o e => exact ih p (by omega)
      | col p o e f x b => exact ih p (by omega)
      | ord p o e f x b => exact ih p (by omega)
theorem CurS.next_col {l0 l1 : List Gi} {cols : Int} {n k : Nat} {a b : List Gi} {c r cc cr : Int} {o : Gi} (h : CurS l0 l1 cols n a c r) (hk : k < n) (hb : CurS l0 l1 cols k b cc cr) (ho : l0[k]? = some o) (h1 : ¬ 0 < o.r) (h2 : 0 < o.c) : ∃ r, LeastI (fun z => FreeL b (PCur l0 k) (o.atR z)) (if o.c < cc then cr + 1 else cr) r ∧ r ≤ 90000 := by
  obtain ⟨b', c', r', hn⟩ := h.before (show k + 1 ≤ n from hk)
  cases hn with
  | skip p o' e => rw [ho] at o'; cases o'; exact absurd e h1
  | col p o' e f x bb =>
    rw [ho] at o'; cases o'
    obtain ⟨rfl, rfl, rfl⟩ := p.unique hb
    exact ⟨_, x, bb⟩
  | ord p o' e f x bb => rw [ho] at o'; cases o'; exact absurd h2 f
theorem CurS.next_ord {l0 l1 : List Gi} {cols : Int} {n k : Nat} {a b : List Gi} {c r cc cr : Int} {o : Gi} (h : CurS l0 l1 cols n a c r) (hk : k < n) (hb : CurS l0 l1 cols k b cc cr) (ho : l0[k]? = some o) (h1 : ¬ 0 < o.r) (h2 : ¬ 0 < o.c) : ∃ c r, OrdL b (PCur l0 k) o.cs o.rs cols cc cr c r ∧ r ≤ 90000 := by
  obtain ⟨b', c', r', hn⟩ := h.before (show k + 1 ≤ n from hk)
  cases hn with
  | skip p o' e => rw [ho] at o'; cases o'; exact absurd e h1
  | col p o' e f x bb => rw [ho] at o'; cases o'; exact absurd f h2
  | ord p o' e f x bb =>
    rw [ho] at o'; cases o'
    obtain ⟨rfl, rfl, rfl⟩ := p.unique hb
    exact ⟨_, _, x, bb⟩
theorem RowS.len {l0 : List Gi} {c0 : Int} {k : Nat} {a : List Gi} {c : Int} (h : RowS l0 c0 k a c) : a.length = l0.length := by
  induction h with
  | start => rfl
  | skip p o e ih => exact ih
  | put p o e x b ih => rw [List.length_set]; exact ih
/-- from place k on nothing has changed, nor where no row is told -/
theorem RowS.un {l0 : List Gi} {c0 : Int} {k : Nat} {a : List Gi} {c : Int} (h : RowS l0 c0 k a c) : ∀ {j : Nat}, (k ≤ j ∨ ∀ o, l0[j]? = some o → o.r = 0) → a[j]? = l0[j]? := by
  induction h with
  | start => intro j hj; rfl
  | skip p o e ih => intro j hj; exact ih (by rcases hj with h | h; exact .inl (by omega); exact .inr h)
  | put p o e x b ih =>
    intro j hj
    rw [List.getElem?_set, if_neg, ih (by rcases hj with h | h; exact .inl (by omega); exact .inr h)]
    rintro rfl
    rcases hj with h | h
    · omega
    · exact e (.inl (h _ o))
/-- numbers that are added without wrapping -/
structure Gi.Sm (i : Gi) : Prop where
  c0 : 0 ≤ i.c
  c2 : i.c ≤ 1000000
  cs1 : 1 ≤ i.cs
  cs2 : i.cs ≤ 20
  r0 : 0 ≤ i.r
  r2 : i.r ≤ 1000000
  rs1 : 1 ≤ i.rs
  rs2 : i.rs ≤ 20
theorem Gi.Ok.sm {i : Gi} (h : i.Ok) : i.Sm := ⟨by have := h.c1; omega, by have := h.c2; omega, h.cs1, h.cs2, by have := h.r1; omega, by have := h.r2; omega, h.rs1, h.rs2⟩
theorem GOk.sm {i : Gi} (h : GOk i) : i.Sm := ⟨h.c0, by have := h.c2; omega, h.cs1, h.cs2, h.r0, by have := h.r2; omega, h.rs1, h.rs2⟩
theorem Gi.Sm.at {c cs r rs : Int} (c0 : 0 ≤ c) (c2 : c ≤ 1000000) (r0 : 0 ≤ r) (r2 : r ≤ 1000000) {o : Gi} (h : o.Sm) (e1 : o.cs = cs) (e2 : o.rs = rs) : (Gi.mk c cs r rs).Sm := by
  subst e1 e2
  exact ⟨c0, c2, h.cs1, h.cs2, r0, r2, h.rs1, h.rs2⟩
theorem sm_set {its : List Gi} {k : Nat} {x : Gi} (h : ∀ i ∈ its, i.Sm) (hx : x.Sm) : ∀ i ∈ its.set k x, i.Sm := fun i hi => by
  rcases List.mem_or_eq_of_mem_set hi with e | e
  · exact h i e
  · rw [e]; exact hx
theorem RowS.sm {l0 : List Gi} {c0 : Int} {k : Nat} {a : List Gi} {c : Int} (h : RowS l0 c0 k a c) (h0 : ∀ i ∈ l0, GOk i) : ∀ i ∈ a, i.Sm := by
  induction h with
  | start => exact fun i hi => (h0 i hi).sm
  | skip p o e ih => exact ih
  | put p o e x b ih =>
    have hg := h0 _ (List.mem_of_getElem? o)
    have := x.ge
    have := hg.r0; have := hg.r2
    exact sm_set ih (.at (by omega) (by omega) (by omega) (by omega) hg.sm rfl rfl)
theorem CurS.len {l0 l1 : List Gi} {cols : Int} {k : Nat} {a : List Gi} {c r : Int} (h : CurS l0 l1 cols k a c r) : a.length = l1.length := by
  induction h with
  | start => rfl
  | skip p o e ih => exact ih
  | col p o e f x b ih => rw [List.length_set]; exact ih
  | ord p o e f x b ih => rw [List.length_set]; exact ih
theorem CurS.un {l0 l1 : List Gi} {cols : Int} {k : Nat} {a : List Gi} {c r : Int} (h : CurS l0 l1 cols k a c r) : ∀ {j : Nat}, k ≤ j → a[j]? = l1[j]? := by
  induction h with
  | start => intro j hj; rfl
  | skip p o e ih => intro j hj; exact ih (by omega)
  | col p o e f x b ih => intro j hj; rw [List.getElem?_set, if_neg (by omega), ih (by omega)]
  | ord p o e f x b ih => intro j hj; rw [List.getElem?_set, if_neg (by omega), ih (by omega)]
structure CuOk (cols c r : Int) : Prop where
  c1 : 1 ≤ c
  c2 : c ≤ max cols 200
  r1 : 1 ≤ r
  r2 : r ≤ 90000
theorem CurS.cu {l0 l1 : List Gi} {cols : Int} {k : Nat} {a : List Gi} {c r : Int} (h : CurS l0 l1 cols k a c r) (h0 : ∀ i ∈ l0, GOk i) : CuOk cols c r := by
  induction h with
  | start => exact ⟨by omega, by omega, by omega, by omega⟩
  | skip p o e ih => exact ih
  | col p o e f x b ih =>
    have hg := h0 _ (List.mem_of_getElem? o)
    have := hg.c2
    have hr := ih.r1
    have hge := x.ge
    exact ⟨by omega, by omega, by split at hge <;> omega, b⟩
  | ord p o e f x b ih =>
    have hg := h0 _ (List.mem_of_getElem? o)
    have := hg.cs1
    have h1 := x.within
    have h2 := x.r1
    have h3 := ih.r1
    exact ⟨x.c1, by omega, by omega, b⟩
theorem CurS.sm {l0 l1 : List Gi} {cols : Int} {k : Nat} {a : List Gi} {c r : Int} (h : CurS l0 l1 cols k a c r) (hc : cols ≤ 90000) (h0 : ∀ i ∈ l0, GOk i) (h1 : ∀ i ∈ l1, i.Sm) : ∀ i ∈ a, i.Sm := by
  induction h with
  | start => exact h1
  | skip p o e ih => exact ih
  | col p o e f x b ih =>
    have hg := h0 _ (List.mem_of_getElem? o)
    have := hg.c0; have := hg.c2
    have hr := (p.cu h0).r1
    have hge := x.ge
    exact sm_set ih (.at (by omega) (by omega) (by split at hge <;> omega) (by omega) hg.sm rfl rfl)
  | ord p o e f x b ih =>
    have hg := h0 _ (List.mem_of_getElem? o)
    have := hg.cs1
    have e1 := x.within
    have e2 := x.r1
    have e3 := (p.cu h0).r1
    have e4 := x.c1
    exact sm_set ih (.at (by omega) (by omega) (by omega) (by omega) hg.sm rfl rfl)
theorem FreeL.set {its : List Gi} {P : Nat → Prop} {k : Nat} {q x : Gi} (h : ¬ P k) : FreeL (its.set k q) P x ↔ FreeL its P x := by
  constructor <;> intro hf j p hj hp
  · refine hf j p hj ?_
    rw [List.getElem?_set, if_neg (fun e => h (by rw [e]; exact hj))]
    exact hp
  · rw [List.getElem?_set, if_neg (fun e => h (by rw [e]; exact hj))] at hp
    exact hf j p hj hp
theorem ColIs.leastL {l0 its : List Gi} {F : Tk} {cols B B' c : Int} {P : Nat → Prop} {o : Gi} (h : GInv l0 its F cols B P) (h1 : 1 ≤ o.cs) (h2 : 1 ≤ o.rs) (hc : ColIs F (o.atC 1) B' c) : LeastI (fun z => FreeL its P (o.atC z)) 1 c :=
  ⟨hc.ge, (h.freeL (x := o.atC c) h1 h2).1 hc.free, fun z e1 e2 e3 => hc.least z e1 e2 ((h.freeL (x := o.atC z) h1 h2).2 e3)⟩
theorem RowIs.leastL {l0 its : List Gi} {F : Tk} {cols B B' r0 r : Int} {P : Nat → Prop} {o : Gi} (h : GInv l0 its F cols B P) (h1 : 1 ≤ o.cs) (h2 : 1 ≤ o.rs) (hc : RowIs F (o.atR r0) B' r) : LeastI (fun z => FreeL its P (o.atR z)) r0 r :=
  ⟨hc.ge, (h.freeL (x := o.atR r) h1 h2).1 hc.free, fun z e1 e2 e3 => hc.least z e1 e2 ((h.freeL (x := o.atR z) h1 h2).2 e3)⟩
theorem OrdIs.ordL {l0 its : List Gi} {F : Tk} {cols B B' cs rs cc cr c r cols' : Int} {P : Nat → Prop} (h : GInv l0 its F cols B P) (h1 : 1 ≤ cs) (h2 : 1 ≤ rs) (hc : OrdIs F cs rs cols' B' cc cr c r) : OrdL its P cs rs cols' cc cr c r :=
  ⟨(h.freeL (x := ⟨c, cs, r, rs⟩) h1 h2).1 hc.free, hc.within, hc.c1, hc.r1, hc.from_, fun y z a1 a2 a3 a4 a5 a6 e => hc.least y z a1 a2 a3 a4 a5 a6 ((h.freeL (x := ⟨z, cs, y, rs⟩) h1 h2).2 e)⟩
end Go.Proofs.Ytbphlbohiifcmaa
