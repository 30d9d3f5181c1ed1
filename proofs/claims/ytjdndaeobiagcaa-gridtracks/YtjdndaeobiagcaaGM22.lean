/- Dealing out what is free, as plain mathematics. -/
import Derived.Test.YtjdndaeobiagcaaGM12
namespace Go.Proofs.Ytjdndaeobiagcaa
open Go.RowKit

def gotP (p : Pr) : Int := if p.settled = true then p.size else p.i.b
def freeN (room : Int) (ps : List Pr) (k : Nat) : Int := room - ((ps.take k).map gotP).sum
theorem freeN_succ {room : Int} {ps : List Pr} {k : Nat} {p : Pr} (h : ps[k]? = some p) : freeN room ps (k + 1) = freeN room ps k - gotP p := by
  unfold freeN
  rw [List.take_add_one, h]
  simp; omega

def facP (grow : Bool) (p : Pr) : Int := facG grow p.i
def wtP (grow : Bool) (p : Pr) : Int := wtG grow p.i
/-- how much there is to share -/
def amountN (free start fac : Int) : Int := if 1000 ≤ fac then free else if ((start * fac).tdiv 1000).natAbs < free.natAbs then (start * fac).tdiv 1000 else free
theorem amountN_bd (free start fac : Int) : (amountN free start fac).natAbs ≤ free.natAbs := by
  unfold amountN
  split
  · omega
  · split <;> omega
/-- what one has more: behind so much of the weights, with this weight, of all -/
def partN (a s w all : Int) : Int := if all = 0 then 0 else a * (s + w) / all - a * s / all
/-- a part that was dealt with -/
def dealP (a all s w : Int) (p : Pr) : Pr := { p with size := bndI p.i (p.i.b + partN a s w all), moved := bndI p.i (p.i.b + partN a s w all) - p.i.b - partN a s w all }
def dealtAt (grow : Bool) (a : Int) (ps : List Pr) (k : Nat) (p : Pr) : Pr := if p.settled = true then p else dealP a (sumO (wtP grow) ps ps.length) (sumO (wtP grow) ps k) (wtP grow p) p
def dealtL (grow : Bool) (a : Int) (ps : List Pr) : List Pr := ps.mapIdx (dealtAt grow a ps)
def sgnN (x : Int) : Int := if x < 0 then -1 else if 0 < x then 1 else 0
def settledP (mv : Int) (p : Pr) : Bool := decide (mv = 0) || decide (sgnN p.moved = sgnN mv)
def settleP (mv : Int) (p : Pr) : Pr := if p.settled = true then p else { p with settled := settledP mv p }
def movedN (ds : List Pr) : Int := sumO Pr.moved ds ds.length
def amountP (grow : Bool) (room start : Int) (ps : List Pr) : Int := amountN (freeN room ps ps.length) start (sumO (facP grow) ps ps.length)
def roundN (grow : Bool) (room start : Int) (ps : List Pr) : List Pr :=
  (dealtL grow (amountP grow room start ps) ps).map (settleP (movedN (dealtL grow (amountP grow room start ps) ps)))

theorem dealtL_len (grow : Bool) (a : Int) (ps : List Pr) : (dealtL grow a ps).length = ps.length := by simp [dealtL]
theorem roundN_len (grow : Bool) (room start : Int) (ps : List Pr) : (roundN grow room start ps).length = ps.length := by simp [roundN, dealtL]
theorem dealtL_at {grow : Bool} {a : Int} {ps : List Pr} {k : Nat} {p : Pr} (h : ps[k]? = some p) : (dealtL grow a ps)[k]? = some (dealtAt grow a ps k p) := by
  simp [dealtL, h]
theorem dealtAt_settled (grow : Bool) (a : Int) (ps : List Pr) (k : Nat) (p : Pr) : (dealtAt grow a ps k p).settled = p.settled := by
  unfold dealtAt; split <;> rfl
theorem dealtAt_i (grow : Bool) (a : Int) (ps : List Pr) (k : Nat) (p : Pr) : (dealtAt grow a ps k p).i = p.i := by
  unfold dealtAt; split <;> rfl

/-- the open ones are the same before and behind dealing -/
theorem openL_dealt (grow : Bool) (a : Int) (ps : List Pr) : openL (dealtL grow a ps) = openL ps := by
  unfold openL
  rw [dealtL_len]
  apply List.filter_congr
  intro k hk
  have hk' : k < ps.length := List.mem_range.1 hk
  obtain ⟨p, hp⟩ : ∃ p, ps[k]? = some p := ⟨_, List.getElem?_eq_getElem hk'⟩
  rw [dealtL_at hp, hp]
  simp only [dealtAt_settled]

/-- portions lie between nothing and all -/
theorem portion_bd (a n c : Int) (h0 : 0 ≤ n) (h1 : n ≤ c) (hc : 0 < c) : -(a.natAbs : Int) ≤ a * n / c ∧ a * n / c ≤ a.natAbs := by
  have e1 : -(a.natAbs : Int) * c ≤ a * n ∧ a * n ≤ (a.natAbs : Int) * c := by
    rcases Int.lt_or_le a 0 with ha | ha
    · have h2 : (a.natAbs : Int) = -a := by omega
      rw [h2]
      have h3 : (-a) * n ≤ (-a) * c := Int.mul_le_mul_of_nonneg_left h1 (by omega)
      have h4 : 0 ≤ (-a) * n := Int.mul_nonneg (by omega) h0
      rw [Int.neg_neg]
      simp only [Int.neg_mul] at h3 h4 ⊢
      omega
    · have h2 : (a.natAbs : Int) = a := by omega
      rw [h2]
      have h3 : a * n ≤ a * c := Int.mul_le_mul_of_nonneg_left h1 ha
      have h4 : 0 ≤ a * n := Int.mul_nonneg ha h0
      simp only [Int.neg_mul]
      omega
  constructor
  · exact Int.le_ediv_of_mul_le hc e1.1
  · have := Int.ediv_le_ediv hc e1.2
    rwa [Int.mul_ediv_cancel _ (by omega)] at this
theorem partN_bd (a s w all : Int) (h0 : 0 ≤ s) (hw : 0 ≤ w) (h1 : s + w ≤ all) : -(2 * a.natAbs : Int) ≤ partN a s w all ∧ partN a s w all ≤ 2 * a.natAbs := by
  unfold partN
  split
  · omega
  · have b1 := portion_bd a (s + w) all (by omega) h1 (by omega)
    have b2 := portion_bd a s all h0 (by omega) (by omega)
    omega

/-- a row while it is shared: the items count, what is settled lies within bounds, unless all is done -/
structure RowOk (ps : List Pr) : Prop where
  len : ps.length ≤ 200
  ok : ∀ p ∈ ps, p.i.Ok
  got : ∀ p ∈ ps, p.settled = true → 0 ≤ p.size ∧ p.size ≤ 16777216

theorem RowOk.gotP {ps : List Pr} (h : RowOk ps) {p : Pr} (hp : p ∈ ps) : 0 ≤ gotP p ∧ gotP p ≤ 16777216 := by
  unfold Go.Proofs.Ytjdndaeobiagcaa.gotP
  split
  · exact h.got p hp (by assumption)
  · exact ⟨(h.ok p hp).b0, (h.ok p hp).b1⟩
theorem sum_map_bd {α : Type} (f : α → Int) (B : Int) : ∀ l : List α, (∀ p ∈ l, 0 ≤ f p ∧ f p ≤ B) → 0 ≤ (l.map f).sum ∧ (l.map f).sum ≤ l.length * B
  | [], _ => by simp
  | x :: r, h => by
    have h1 := h x (List.mem_cons_self ..)
    have h2 := sum_map_bd f B r (fun y hy => h y (List.mem_cons_of_mem _ hy))
    rw [List.map_cons, List.sum_cons, List.length_cons, Int.natCast_add, Int.add_mul]
    simp only [Int.natCast_one, Int.one_mul]
    omega
theorem RowOk.free {ps : List Pr} (h : RowOk ps) (room : Int) (k : Nat) : room - 3355443200 ≤ freeN room ps k ∧ freeN room ps k ≤ room := by
  have := sum_map_bd Go.Proofs.Ytjdndaeobiagcaa.gotP 16777216 (ps.take k) (fun p hp => h.gotP (List.mem_of_mem_take hp))
  have hl : (ps.take k).length ≤ 200 := by rw [List.length_take]; have := h.len; omega
  unfold freeN
  omega
theorem RowOk.fac {ps : List Pr} (h : RowOk ps) (grow : Bool) (k : Nat) (hk : k ≤ ps.length) : 0 ≤ sumO (facP grow) ps k ∧ sumO (facP grow) ps k ≤ 200000000000 := by
  have := sumO_bd (f := facP grow) (B := 1000000000) (fun p hp => facG_bd grow (h.ok p hp)) (by omega) k
  have := h.len
  omega
theorem RowOk.wt {ps : List Pr} (h : RowOk ps) (grow : Bool) (k : Nat) (hk : k ≤ ps.length) : 0 ≤ sumO (wtP grow) ps k ∧ sumO (wtP grow) ps k ≤ 3355443200000000000 := by
  have := sumO_bd (f := wtP grow) (B := 16777216000000000) (fun p hp => wtG_bd grow (h.ok p hp)) (by omega) k
  have := h.len
  omega
theorem sumO_mono {f : Pr → Int} {ps : List Pr} (hB : ∀ p ∈ ps, 0 ≤ f p) : ∀ {k j : Nat}, k ≤ j → sumO f ps k ≤ sumO f ps j := by
  intro k j h
  induction j with
  | zero =>
    obtain rfl : k = 0 := by omega
    exact Int.le_refl _
  | succ j ih =>
    by_cases e : k = j + 1
    · subst e; exact Int.le_refl _
    · have h1 := ih (by omega)
      by_cases hj : j < ps.length
      · obtain ⟨p, hp⟩ : ∃ p, ps[j]? = some p := ⟨_, List.getElem?_eq_getElem hj⟩
        have := hB p (List.mem_of_getElem? hp)
        rw [sumO_succ hp]
        split <;> omega
      · have e1 : sumO f ps (j + 1) = sumO f ps j := by
          unfold sumO
          rw [List.take_of_length_le (by omega), List.take_of_length_le (by omega)]
        omega
/-- the weight of one that is open -/
theorem RowOk.here {ps : List Pr} (h : RowOk ps) (grow : Bool) {k : Nat} {p : Pr} (hp : ps[k]? = some p) (ho : p.settled = false) : 0 ≤ wtP grow p ∧ sumO (wtP grow) ps k + wtP grow p ≤ sumO (wtP grow) ps ps.length := by
  have hm : p ∈ ps := List.mem_of_getElem? hp
  refine ⟨(wtG_bd grow (h.ok p hm)).1, ?_⟩
  have e := sumO_succ (f := wtP grow) hp
  rw [ho] at e
  simp only [Bool.false_eq_true, if_false] at e
  rw [← e]
  exact sumO_mono (fun q hq => (wtG_bd grow (h.ok q hq)).1) (List.getElem?_eq_some_iff.1 hp).1
end Go.Proofs.Ytjdndaeobiagcaa

/- A round settles one at least, and what it settles lies within bounds. -/
namespace Go.Proofs.Ytjdndaeobiagcaa
open Go.RowKit

theorem sum_pos_mem : ∀ l : List Int, 0 < l.sum → ∃ x ∈ l, 0 < x
  | [], h => by simp at h
  | x :: r, h => by
    rw [List.sum_cons] at h
    by_cases hx : 0 < x
    · exact ⟨x, List.mem_cons_self .., hx⟩
    · obtain ⟨y, hy, h2⟩ := sum_pos_mem r (by omega)
      exact ⟨y, List.mem_cons_of_mem _ hy, h2⟩
theorem sum_neg_mem : ∀ l : List Int, l.sum < 0 → ∃ x ∈ l, x < 0
  | [], h => by simp at h
  | x :: r, h => by
    rw [List.sum_cons] at h
    by_cases hx : x < 0
    · exact ⟨x, List.mem_cons_self .., hx⟩
    · obtain ⟨y, hy, h2⟩ := sum_neg_mem r (by omega)
      exact ⟨y, List.mem_cons_of_mem _ hy, h2⟩
theorem sgnN_eq {x y : Int} : sgnN x = sgnN y ↔ ((x < 0 ↔ y < 0) ∧ (0 < x ↔ 0 < y)) := by
  unfold sgnN
  (repeat' split) <;> omega

/-- some open one is settled -/
theorem some_settled {ds : List Pr} (h : openL ds ≠ []) : ∃ k ∈ openL ds, ∃ p, ds[k]? = some p ∧ settledP (movedN ds) p = true := by
  by_cases h0 : movedN ds = 0
  · obtain ⟨k, hk⟩ := List.exists_mem_of_ne_nil _ h
    obtain ⟨m, hm⟩ := List.getElem?_of_mem hk
    obtain ⟨p, hp, _⟩ := openL_at hm
    exact ⟨k, hk, p, hp, by simp [settledP, h0]⟩
  · have hs := openL_all Pr.moved ds
    have key : ∃ k ∈ openL ds, ∃ p, ds[k]? = some p ∧ sgnN p.moved = sgnN (movedN ds) := by
      rcases Int.lt_or_le (movedN ds) 0 with hn | hn
      · obtain ⟨x, hx, hx0⟩ := sum_neg_mem _ (show _ < 0 by rw [hs]; exact hn)
        obtain ⟨k, hk, rfl⟩ := List.mem_map.1 hx
        obtain ⟨m, hm⟩ := List.getElem?_of_mem hk
        obtain ⟨p, hp, _⟩ := openL_at hm
        rw [hp] at hx0
        exact ⟨k, hk, p, hp, sgnN_eq.2 (by simp only at hx0; omega)⟩
      · obtain ⟨x, hx, hx0⟩ := sum_pos_mem _ (show 0 < _ by rw [hs]; show 0 < movedN ds; omega)
        obtain ⟨k, hk, rfl⟩ := List.mem_map.1 hx
        obtain ⟨m, hm⟩ := List.getElem?_of_mem hk
        obtain ⟨p, hp, _⟩ := openL_at hm
        rw [hp] at hx0
        exact ⟨k, hk, p, hp, sgnN_eq.2 (by simp only at hx0; omega)⟩
    obtain ⟨k, hk, p, hp, hq⟩ := key
    exact ⟨k, hk, p, hp, by simp [settledP, hq]⟩

theorem filter_lt {α : Type} {q : α → Bool} : ∀ {l : List α} {x : α}, x ∈ l → q x = false → (l.filter q).length < l.length
  | [], x, h, _ => by simp at h
  | y :: r, x, h, hq => by
    rcases List.mem_cons.1 h with rfl | h
    · have := List.length_filter_le q r
      simp only [List.filter_cons, hq, List.length_cons]
      simp; omega
    · have ih := filter_lt h hq
      simp only [List.filter_cons, List.length_cons]
      split
      · rw [List.length_cons]; omega
      · omega

theorem openL_settle (mv : Int) (ds : List Pr) : openL (ds.map (settleP mv)) = (openL ds).filter fun k => match ds[k]? with | some p => !settledP mv p | none => false := by
  unfold openL
  rw [List.length_map, List.filter_filter]
  apply List.filter_congr
  intro k hk
  obtain ⟨p, hp⟩ : ∃ p, ds[k]? = some p := ⟨_, List.getElem?_eq_getElem (List.mem_range.1 hk)⟩
  simp only [List.getElem?_map, hp, Option.map_some]
  unfold settleP
  cases hs : p.settled <;> simp [hs]

theorem round_less (grow : Bool) (room start : Int) {ps : List Pr} (h : openL ps ≠ []) : (openL (roundN grow room start ps)).length < (openL ps).length := by
  unfold roundN
  generalize amountP grow room start ps = a
  rw [openL_settle, ← openL_dealt grow a ps]
  obtain ⟨k, hk, p, hp, hq⟩ := some_settled (ds := dealtL grow a ps) (by rw [openL_dealt]; exact h)
  exact filter_lt hk (by rw [hp]; simp [hq])

theorem round_ok (grow : Bool) (room start : Int) {ps : List Pr} (h : RowOk ps) :
    (∀ p ∈ roundN grow room start ps, p.settled = true) ∨ RowOk (roundN grow room start ps) := by
  unfold roundN
  generalize ha : amountP grow room start ps = a
  obtain ⟨mv, hmv⟩ : ∃ mv, movedN (dealtL grow a ps) = mv := ⟨_, rfl⟩
  rw [hmv]
  by_cases h0 : mv = 0
  · refine .inl fun p hp => ?_
    obtain ⟨q, _, rfl⟩ := List.mem_map.1 hp
    unfold settleP
    split
    · assumption
    · simp [settledP, h0]
  · right
    have mem : ∀ q ∈ dealtL grow a ps, ∃ k p, ps[k]? = some p ∧ q = dealtAt grow a ps k p := by
      intro q hq
      obtain ⟨k, hk⟩ := List.getElem?_of_mem hq
      have hkl : k < ps.length := by have := (List.getElem?_eq_some_iff.1 hk).1; rwa [dealtL_len] at this
      obtain ⟨p, hp⟩ : ∃ p, ps[k]? = some p := ⟨_, List.getElem?_eq_getElem hkl⟩
      rw [dealtL_at hp] at hk
      exact ⟨k, p, hp, (Option.some.inj hk).symm⟩
    refine ⟨by rw [List.length_map, dealtL_len]; exact h.len, ?_, ?_⟩
    · intro p hp
      obtain ⟨q, hq, rfl⟩ := List.mem_map.1 hp
      obtain ⟨k, p0, hp0, rfl⟩ := mem q hq
      have : (settleP mv (dealtAt grow a ps k p0)).i = p0.i := by
        unfold settleP
        split <;> exact dealtAt_i ..
      rw [this]
      exact h.ok p0 (List.mem_of_getElem? hp0)
    · intro p hp hs
      obtain ⟨q, hq, rfl⟩ := List.mem_map.1 hp
      obtain ⟨k, p0, hp0, rfl⟩ := mem q hq
      have hm0 := List.mem_of_getElem? hp0
      unfold settleP at hs ⊢
      by_cases h1 : (dealtAt grow a ps k p0).settled = true
      · rw [if_pos h1]
        rw [dealtAt_settled] at h1
        have : dealtAt grow a ps k p0 = p0 := by unfold dealtAt; rw [if_pos h1]
        rw [this]
        exact h.got p0 hm0 h1
      · rw [if_neg h1] at hs ⊢
        rw [dealtAt_settled] at h1
        simp only [settledP, h0, decide_false, Bool.false_or, decide_eq_true_eq] at hs
        have e : dealtAt grow a ps k p0 = dealP a (sumO (wtP grow) ps ps.length) (sumO (wtP grow) ps k) (wtP grow p0) p0 := by unfold dealtAt; rw [if_neg h1]
        rw [e] at hs ⊢
        simp only [dealP] at hs ⊢
        have hne : bndI p0.i (p0.i.b + partN a (sumO (wtP grow) ps k) (wtP grow p0) (sumO (wtP grow) ps ps.length)) ≠ p0.i.b + partN a (sumO (wtP grow) ps k) (wtP grow p0) (sumO (wtP grow) ps ps.length) := by
          intro e2
          rw [e2] at hs
          have := sgnN_eq.1 hs
          omega
        have hi := h.ok p0 hm0
        refine ⟨?_, bndI_moved hi _ hne⟩
        unfold bndI
        omega
end Go.Proofs.Ytjdndaeobiagcaa
