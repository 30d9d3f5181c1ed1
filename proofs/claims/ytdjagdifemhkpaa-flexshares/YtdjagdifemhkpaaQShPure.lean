/- The document's sharing and the program's end at the same widths: plain mathematics. -/
import Derived.Test.YtdjagdifemhkpaaSShare
import Derived.Test.YtdjagdifemhkpaaQWithin
namespace Go.Proofs.Ytdjagdifemhkpaa
open Go.RowKit

/-- an item whose least is never less than 0 -/
def nrm (i : It) : It := { i with mn := max i.mn 0 }
theorem qitN_nrm (i : It) : qitN i = nrm (itN i) := rfl
theorem bndI_nrm (i : It) (n : Int) : bndI (nrm i) n = bndI i n := by unfold bndI nrm; simp only; omega
/-- what of a part matters -/
def canP (p : Pr) : Pr := ⟨nrm p.i, if p.settled = true then p.size else 0, 0, p.settled⟩
theorem can_settled {p q : Pr} (h : canP p = canP q) : p.settled = q.settled := (Pr.mk.inj h).2.2.2
theorem can_i {p q : Pr} (h : canP p = canP q) : nrm p.i = nrm q.i := (Pr.mk.inj h).1
theorem can_size {p q : Pr} (h : canP p = canP q) (hs : p.settled = true) : p.size = q.size := by
  have h2 := (Pr.mk.inj h).2.1
  rw [if_pos hs, if_pos (by rw [← can_settled h]; exact hs)] at h2
  exact h2
theorem can_bnd {p q : Pr} (h : canP p = canP q) (n : Int) : bndI p.i n = bndI q.i n := by
  rw [← bndI_nrm p.i, ← bndI_nrm q.i, can_i h]
theorem can_b {p q : Pr} (h : canP p = canP q) : p.i.b = q.i.b := by have := congrArg It.b (can_i h); exact this
theorem can_gr {p q : Pr} (h : canP p = canP q) : p.i.gr = q.i.gr := by have := congrArg It.gr (can_i h); exact this
theorem can_sh {p q : Pr} (h : canP p = canP q) : p.i.sh = q.i.sh := by have := congrArg It.sh (can_i h); exact this
theorem can_wt {p q : Pr} (h : canP p = canP q) (g : Bool) : wtP g p = wtP g q := by
  unfold wtP wtG; rw [can_b h, can_gr h, can_sh h]
theorem can_fac {p q : Pr} (h : canP p = canP q) (g : Bool) : facP g p = facP g q := by
  unfold facP facG; rw [can_gr h, can_sh h]
theorem can_got {p q : Pr} (h : canP p = canP q) : gotP p = gotP q := by
  unfold gotP
  rw [can_settled h, can_b h]
  split
  · rename_i hs
    exact can_size h (by rw [can_settled h]; exact hs)
  · rfl

/-- lists that agree in all that matters -/
theorem can_at {ps qs : List Pr} (h : ps.map canP = qs.map canP) {k : Nat} {p : Pr} (hp : ps[k]? = some p) : ∃ q, qs[k]? = some q ∧ canP p = canP q := by
  have e := congrArg (fun l => l[k]?) h
  simp only [List.getElem?_map, hp, Option.map_some] at e
  cases hq : qs[k]? with
  | none => rw [hq] at e; cases e
  | some q => rw [hq] at e; exact ⟨q, rfl, Option.some.inj e⟩
theorem can_len {ps qs : List Pr} (h : ps.map canP = qs.map canP) : ps.length = qs.length := by
  have := congrArg List.length h
  simpa using this
theorem sumO_can {ps qs : List Pr} (h : ps.map canP = qs.map canP) (f g : Pr → Int) (hf : ∀ (k : Nat) p q, ps[k]? = some p → qs[k]? = some q → p.settled = false → f p = g q) : ∀ k, sumO f ps k = sumO g qs k
  | 0 => by simp [sumO]
  | k + 1 => by
    cases hp : ps[k]? with
    | some p =>
      obtain ⟨q, hq, e⟩ := can_at h hp
      rw [sumO_succ hp, sumO_succ hq, sumO_can h f g hf k, can_settled e]
      split
      · rfl
      · rename_i hs
        rw [hf k p q hp hq (by rw [can_settled e]; simpa using hs)]
    | none =>
      have h1 : ps.length ≤ k := by simpa using hp
      have h2 : qs.length ≤ k := by rw [← can_len h]; exact h1
      have e1 : sumO f ps (k + 1) = sumO f ps k := by
        unfold sumO
        rw [List.take_of_length_le (by omega), List.take_of_length_le (by omega)]
      have e2 : sumO g qs (k + 1) = sumO g qs k := by
        unfold sumO
        rw [List.take_of_length_le (by omega), List.take_of_length_le (by omega)]
      rw [e1, e2, sumO_can h f g hf k]
theorem openL_can {ps qs : List Pr} (h : ps.map canP = qs.map canP) : openL ps = openL qs := by
  unfold openL
  rw [can_len h]
  apply List.filter_congr
  intro k hk
  obtain ⟨p, hp⟩ : ∃ p, ps[k]? = some p := ⟨_, List.getElem?_eq_getElem (by rw [can_len h]; exact List.mem_range.1 hk)⟩
  obtain ⟨q, hq, e⟩ := can_at h hp
  rw [hp, hq]
  simp only [can_settled e]
theorem free_can {ps qs : List Pr} (h : ps.map canP = qs.map canP) (room : Int) (k : Nat) : freeN room ps k = freeN room qs k := by
  unfold freeN
  have e : ∀ l : List Pr, l.map gotP = (l.map canP).map gotP := fun l => by
    rw [List.map_map]
    apply List.map_congr_left
    intro p _
    simp only [Function.comp, gotP, canP, nrm]
    split <;> rfl
  have h2 : (ps.take k).map canP = (qs.take k).map canP := by rw [List.map_take, List.map_take, h]
  rw [e (ps.take k), e (qs.take k), h2]
theorem amount_can {ps qs : List Pr} (h : ps.map canP = qs.map canP) (g : Bool) (room start : Int) : amountP g room start ps = amountP g room start qs := by
  unfold amountP
  rw [can_len h, free_can h, sumO_can h (facP g) (facP g) (fun k p q hp hq _ => by
    obtain ⟨q', hq', e⟩ := can_at h hp
    rw [hq] at hq'
    cases hq'
    exact can_fac e g)]
theorem wts_can {ps qs : List Pr} (h : ps.map canP = qs.map canP) (g : Bool) (k : Nat) : sumO (wtP g) ps k = sumO (wtP g) qs k :=
  sumO_can h _ _ (fun k p q hp hq _ => by
    obtain ⟨q', hq', e⟩ := can_at h hp
    rw [hq] at hq'
    cases hq'
    exact can_wt e g) k
/-- what dealing gives each -/
theorem dealtAt_can {ps qs : List Pr} (h : ps.map canP = qs.map canP) (g : Bool) (a : Int) {k : Nat} {p q : Pr} (hp : ps[k]? = some p) (hq : qs[k]? = some q) :
    canP (dealtAt g a ps k p) = canP (dealtAt g a qs k q) ∧ (p.settled = false → (dealtAt g a ps k p).moved = (dealtAt g a qs k q).moved ∧ (dealtAt g a ps k p).size = (dealtAt g a qs k q).size) := by
  obtain ⟨q', hq', e⟩ := can_at h hp
  rw [hq] at hq'
  cases hq'
  have es := can_settled e
  cases hs : p.settled
  · have hs2 : q.settled = false := by rw [← es]; exact hs
    have e1 : dealtAt g a ps k p = dealP a (sumO (wtP g) ps ps.length) (sumO (wtP g) ps k) (wtP g p) p := by unfold dealtAt; rw [if_neg (by rw [hs]; simp)]
    have e2 : dealtAt g a qs k q = dealP a (sumO (wtP g) qs qs.length) (sumO (wtP g) qs k) (wtP g q) q := by unfold dealtAt; rw [if_neg (by rw [hs2]; simp)]
    rw [e1, e2, wts_can h, wts_can h, can_len h, can_wt e]
    simp only [dealP, can_b e, can_bnd e]
    refine ⟨?_, fun _ => ⟨trivial, trivial⟩⟩
    simp only [canP, hs, hs2, can_i e]
    try simp
  · have hs2 : q.settled = true := by rw [← es]; exact hs
    have e1 : dealtAt g a ps k p = p := by unfold dealtAt; rw [if_pos hs]
    have e2 : dealtAt g a qs k q = q := by unfold dealtAt; rw [if_pos hs2]
    rw [e1, e2]
    exact ⟨e, fun h => by cases h⟩
theorem dealt_can {ps qs : List Pr} (h : ps.map canP = qs.map canP) (g : Bool) (a : Int) : (dealtL g a ps).map canP = (dealtL g a qs).map canP := by
  apply List.ext_getElem?
  intro k
  rw [List.getElem?_map, List.getElem?_map]
  cases hp : ps[k]? with
  | some p =>
    obtain ⟨q, hq, e⟩ := can_at h hp
    rw [dealtL_at hp, dealtL_at hq]
    simp only [Option.map_some]
    rw [(dealtAt_can h g a hp hq).1]
  | none =>
    have h1 : ps.length ≤ k := by simpa using hp
    rw [List.getElem?_eq_none (by rw [dealtL_len]; exact h1), List.getElem?_eq_none (by rw [dealtL_len, ← can_len h]; exact h1)]
theorem moved_can {ps qs : List Pr} (h : ps.map canP = qs.map canP) (g : Bool) (a : Int) : movedN (dealtL g a ps) = movedN (dealtL g a qs) := by
  unfold movedN
  rw [can_len (dealt_can h g a)]
  refine sumO_can (dealt_can h g a) _ _ (fun k p q hp hq hs => ?_) _
  cases hp0 : ps[k]? with
  | some p0 =>
    obtain ⟨q0, hq0, e⟩ := can_at h hp0
    rw [dealtL_at hp0] at hp
    rw [dealtL_at hq0] at hq
    cases hp
    cases hq
    rw [dealtAt_settled] at hs
    exact ((dealtAt_can h g a hp0 hq0).2 hs).1
  | none =>
    have h1 : ps.length ≤ k := by simpa using hp0
    rw [List.getElem?_eq_none (by rw [dealtL_len]; exact h1)] at hp
    cases hp
theorem round_can {ps qs : List Pr} (h : ps.map canP = qs.map canP) (g : Bool) (room start : Int) : (roundN g room start ps).map canP = (roundN g room start qs).map canP := by
  unfold roundN
  rw [amount_can h, moved_can h]
  generalize amountP g room start qs = a
  generalize movedN (dealtL g a qs) = mv
  apply List.ext_getElem?
  intro k
  simp only [List.getElem?_map]
  cases hp : ps[k]? with
  | some p =>
    obtain ⟨q, hq, e⟩ := can_at h hp
    rw [dealtL_at hp, dealtL_at hq]
    simp only [Option.map_some]
    obtain ⟨e1, e2⟩ := dealtAt_can h g a hp hq
    have es := can_settled e1
    congr 1
    unfold settleP
    cases hs : (dealtAt g a ps k p).settled
    · have hs2 : (dealtAt g a qs k q).settled = false := by rw [← es]; exact hs
      rw [hs2]
      simp only [Bool.false_eq_true, if_false]
      obtain ⟨e3, e4⟩ := e2 (by rw [dealtAt_settled] at hs; exact hs)
      have e5 : settledP mv (dealtAt g a ps k p) = settledP mv (dealtAt g a qs k q) := by unfold settledP; rw [e3]
      simp only [canP, e5, e4, can_i e1]
    · have hs2 : (dealtAt g a qs k q).settled = true := by rw [← es]; exact hs
      rw [hs2]
      simp only [if_true]
      exact e1
  | none =>
    have h1 : ps.length ≤ k := by simpa using hp
    rw [List.getElem?_eq_none (by rw [dealtL_len]; exact h1), List.getElem?_eq_none (by rw [dealtL_len, ← can_len h]; exact h1)]
theorem share_can (g : Bool) (room start : Int) : ∀ (f : Nat) (ps qs : List Pr), ps.map canP = qs.map canP → (shareL g room start f ps).map canP = (shareL g room start f qs).map canP
  | 0, ps, qs, h => h
  | f + 1, ps, qs, h => by
    unfold shareL
    rw [openL_can h]
    split
    · exact h
    · exact share_can g room start f _ _ (round_can h g room start)
theorem share_ends (g : Bool) (room start : Int) : ∀ (f : Nat) (ps : List Pr), (openL ps).length ≤ f → openL (shareL g room start f ps) = []
  | 0, ps, h => List.eq_nil_of_length_eq_zero (by unfold shareL; omega)
  | f + 1, ps, h => by
    unfold shareL
    split
    · assumption
    · rename_i hne
      exact share_ends g room start f _ (by have := round_less g room start hne; omega)
theorem sizes_can {ps qs : List Pr} (h : ps.map canP = qs.map canP) (ho : openL ps = []) : ps.map Pr.size = qs.map Pr.size := by
  apply List.ext_getElem?
  intro k
  rw [List.getElem?_map, List.getElem?_map]
  cases hp : ps[k]? with
  | some p =>
    obtain ⟨q, hq, e⟩ := can_at h hp
    rw [hq]
    simp only [Option.map_some]
    rw [can_size e]
    cases hs : p.settled
    · have hk : k < ps.length := (List.getElem?_eq_some_iff.1 hp).1
      have : k ∈ openL ps := by
        unfold openL
        rw [List.mem_filter]
        exact ⟨List.mem_range.2 hk, by rw [hp]; simp [hs]⟩
      rw [ho] at this
      cases this
    · rfl
  | none =>
    have h1 : ps.length ≤ k := by simpa using hp
    rw [List.getElem?_eq_none (by rw [← can_len h]; exact h1)]

/-- how the document begins -/
def mkQ (grow : Bool) (i : It) : Pr := ⟨i, if (awayN grow i || decide (facG grow i = 0)) = true then bndI i i.b else 0, 0, awayN grow i || decide (facG grow i = 0)⟩
theorem mkQ_can (grow : Bool) (i : It) : canP (mkP grow i) = canP (mkQ grow (nrm i)) := by
  have e1 : awayN grow (nrm i) = awayN grow i := by unfold awayN; simp only [bndI_nrm]; rfl
  have e2 : facG grow (nrm i) = facG grow i := rfl
  have e3 : nrm (nrm i) = nrm i := by unfold nrm; simp only; congr 1; omega
  unfold mkQ mkP canP
  simp only [e1, e2, e3, bndI_nrm]
  congr 1
  split <;> rfl
def holdsN (its : List It) (k : Nat) : Int := ((its.take k).map fun i => bndI i i.b).sum
theorem wants_holds (its : List It) : ∀ k, wantsN its k = holdsN its k + arsN its k := by
  intro k
  unfold wantsN holdsN arsN
  generalize its.take k = l
  induction l with
  | nil => rfl
  | cons x r ih => simp only [List.map_cons, List.sum_cons, ih, wantN]; omega
theorem nrm_arith (its : List It) (room gap : Int) : growN (its.map nrm) room gap = growN its room gap ∧ roomN (its.map nrm) room gap = roomN its room gap := by
  have e1 : wantsN (its.map nrm) (its.map nrm).length = wantsN its its.length := by
    unfold wantsN
    rw [List.take_of_length_le (Nat.le_refl _), List.take_of_length_le (Nat.le_refl _), List.map_map]
    congr 1
    apply List.map_congr_left
    intro i _
    simp only [Function.comp, wantN, bndI_nrm]
    rfl
  have e2 : arsN (its.map nrm) (its.map nrm).length = arsN its its.length := by
    unfold arsN
    rw [List.take_of_length_le (Nat.le_refl _), List.take_of_length_le (Nat.le_refl _), List.map_map]
    rfl
  unfold growN roomN
  rw [e1, e2, List.length_map]
  exact ⟨rfl, rfl⟩
def partsQ (its : List It) (room gap : Int) : List Pr := its.map (mkQ (growN its room gap))
theorem parts_can (its : List It) (room gap : Int) : (partsN its room gap).map canP = (partsQ (its.map nrm) room gap).map canP := by
  unfold partsN partsQ
  rw [(nrm_arith its room gap).1, List.map_map, List.map_map, List.map_map]
  apply List.map_congr_left
  intro i _
  exact mkQ_can _ i
/-- how wide the document says each is -/
def sharedQ (its : List It) (room gap : Int) : List Int :=
  (shareL (growN its room gap) (roomN its room gap) (freeN (roomN its room gap) (partsQ its room gap) its.length) its.length (partsQ its room gap)).map Pr.size
theorem shared_same (l : List It) (room gap : Int) : sharedQ ((l.take 200).map qitN) (heldN room) (heldN gap) = sharedN l room gap := by
  have e0 : (l.take 200).map qitN = (countN l).map nrm := by
    unfold countN
    rw [List.map_map]
    rfl
  unfold sharedQ sharedN
  rw [e0]
  obtain ⟨h1, h2⟩ := nrm_arith (countN l) (heldN room) (heldN gap)
  have hc := parts_can (countN l) (heldN room) (heldN gap)
  rw [h1, h2, List.length_map]
  have h3 : startN (countN l) (heldN room) (heldN gap) = freeN (roomN (countN l) (heldN room) (heldN gap)) (partsQ ((countN l).map nrm) (heldN room) (heldN gap)) (countN l).length := free_can hc _ _
  rw [← h3]
  refine (sizes_can (share_can _ _ _ _ _ _ hc) (share_ends _ _ _ _ _ ?_)).symm
  have := openL_le (partsN (countN l) (heldN room) (heldN gap))
  unfold partsN at this ⊢
  rw [List.length_map] at this
  exact this

/-- a row while the document shares it -/
structure StOk (qs : List Pr) : Prop where
  len : qs.length ≤ 200
  ok : ∀ p ∈ qs, p.i.Ok
  got : ∀ p ∈ qs, p.settled = true → 0 ≤ p.size ∧ p.size ≤ 27000000000
  row : openL qs = [] ∨ RowOk qs
theorem RowOk.st {qs : List Pr} (h : RowOk qs) : StOk qs := ⟨h.len, h.ok, fun p hp hs => by have := h.got p hp hs; omega, .inr h⟩
theorem StOk.gotP {qs : List Pr} (h : StOk qs) {p : Pr} (hp : p ∈ qs) : 0 ≤ Go.Proofs.Ytdjagdifemhkpaa.gotP p ∧ Go.Proofs.Ytdjagdifemhkpaa.gotP p ≤ 27000000000 := by
  unfold Go.Proofs.Ytdjagdifemhkpaa.gotP
  split
  · exact h.got p hp (by assumption)
  · have := (h.ok p hp).b0; have := (h.ok p hp).b1; omega
theorem StOk.free {qs : List Pr} (h : StOk qs) (room : Int) (k : Nat) : room - 5400000000000 ≤ freeN room qs k ∧ freeN room qs k ≤ room := by
  have := sum_map_bd Go.Proofs.Ytdjagdifemhkpaa.gotP 27000000000 (qs.take k) (fun p hp => h.gotP (List.mem_of_mem_take hp))
  have hl : (qs.take k).length ≤ 200 := by rw [List.length_take]; have := h.len; omega
  unfold freeN
  omega
theorem StOk.fac {ps : List Pr} (h : StOk ps) (grow : Bool) (k : Nat) (hk : k ≤ ps.length) : 0 ≤ sumO (facP grow) ps k ∧ sumO (facP grow) ps k ≤ 200000000000 := by
  have := sumO_bd (f := facP grow) (B := 1000000000) (fun p hp => facG_bd grow (h.ok p hp)) (by omega) k
  have := h.len
  omega
theorem StOk.wt {ps : List Pr} (h : StOk ps) (grow : Bool) (k : Nat) (hk : k ≤ ps.length) : 0 ≤ sumO (wtP grow) ps k ∧ sumO (wtP grow) ps k ≤ 3355443200000000000 := by
  have := sumO_bd (f := wtP grow) (B := 16777216000000000) (fun p hp => wtG_bd grow (h.ok p hp)) (by omega) k
  have := h.len
  omega
theorem amountP_bd {qs : List Pr} (h : RowOk qs) (grow : Bool) (room start : Int) (r1 : -9000000000 ≤ room) (r2 : room ≤ 9000000000) : -12400000000 ≤ amountP grow room start qs ∧ amountP grow room start qs ≤ 12400000000 := by
  have h1 := amountN_bd (freeN room qs qs.length) start (sumO (facP grow) qs qs.length)
  have h2 := h.free room qs.length
  unfold amountP
  omega
theorem RowOk.part {qs : List Pr} (h : RowOk qs) (grow : Bool) {a : Int} (a1 : -12400000000 ≤ a) (a2 : a ≤ 12400000000) {k : Nat} {p : Pr} (hk : qs[k]? = some p) (hs : p.settled = false) :
    -24800000000 ≤ partN a (sumO (wtP grow) qs k) (wtP grow p) (sumO (wtP grow) qs qs.length) ∧ partN a (sumO (wtP grow) qs k) (wtP grow p) (sumO (wtP grow) qs qs.length) ≤ 24800000000 := by
  obtain ⟨e1, e2⟩ := h.here grow hk hs
  have e3 := (h.wt grow k (by have := (List.getElem?_eq_some_iff.1 hk).1; omega)).1
  have := partN_bd a _ _ _ e3 e1 e2
  omega
theorem bndI_27 {i : It} (h : i.Ok) (n : Int) (h1 : -26000000000 ≤ n) (h2 : n ≤ 26000000000) : 0 ≤ bndI i n ∧ bndI i n ≤ 26000000000 ∧ -30000000000 ≤ bndI i n - n ∧ bndI i n - n ≤ 30000000000 := by
  have := h.mn1; have := h.mx1; have := h.mn0; have := h.mx0
  unfold bndI capN; split <;> omega
theorem round_st {qs : List Pr} (h : RowOk qs) (grow : Bool) (room start : Int) (r1 : -9000000000 ≤ room) (r2 : room ≤ 9000000000) : StOk (roundN grow room start qs) := by
  have hr := round_ok grow room start h
  obtain ⟨a1, a2⟩ := amountP_bd h grow room start r1 r2
  have mem : ∀ q ∈ roundN grow room start qs, ∃ k p mv, qs[k]? = some p ∧ q = settleP mv (dealtAt grow (amountP grow room start qs) qs k p) := by
    intro q hq
    unfold roundN at hq
    obtain ⟨d, hd, rfl⟩ := List.mem_map.1 hq
    obtain ⟨k, hk⟩ := List.getElem?_of_mem hd
    have hkl : k < qs.length := by have := (List.getElem?_eq_some_iff.1 hk).1; rwa [dealtL_len] at this
    obtain ⟨p, hp⟩ : ∃ p, qs[k]? = some p := ⟨_, List.getElem?_eq_getElem hkl⟩
    rw [dealtL_at hp] at hk
    exact ⟨k, p, _, hp, by rw [Option.some.inj hk]⟩
  have hsi : ∀ mv p, (settleP mv p).i = p.i := fun mv p => by unfold settleP; split <;> rfl
  have hss : ∀ mv p, (settleP mv p).size = p.size := fun mv p => by unfold settleP; split <;> rfl
  refine ⟨by rw [roundN_len]; exact h.len, fun q hq => ?_, fun q hq _ => ?_, ?_⟩
  · obtain ⟨k, p, mv, hp, rfl⟩ := mem q hq
    rw [hsi, dealtAt_i]
    exact h.ok p (List.mem_of_getElem? hp)
  · obtain ⟨k, p, mv, hp, rfl⟩ := mem q hq
    rw [hss]
    cases hs : p.settled
    · have hpt := h.part grow a1 a2 hp hs
      have hok := h.ok p (List.mem_of_getElem? hp)
      have hb0 := hok.b0
      have hb1 := hok.b1
      have e : dealtAt grow (amountP grow room start qs) qs k p = dealP (amountP grow room start qs) (sumO (wtP grow) qs qs.length) (sumO (wtP grow) qs k) (wtP grow p) p := by unfold dealtAt; rw [if_neg (by rw [hs]; simp)]
      rw [e]
      have := bndI_27 hok (p.i.b + partN (amountP grow room start qs) (sumO (wtP grow) qs k) (wtP grow p) (sumO (wtP grow) qs qs.length)) (by omega) (by omega)
      simp only [dealP]
      omega
    · have e : dealtAt grow (amountP grow room start qs) qs k p = p := by unfold dealtAt; rw [if_pos hs]
      rw [e]
      have := h.got p (List.mem_of_getElem? hp) hs
      omega
  · rcases hr with hr | hr
    · exact .inl (open_none hr)
    · exact .inr hr
end Go.Proofs.Ytdjagdifemhkpaa
