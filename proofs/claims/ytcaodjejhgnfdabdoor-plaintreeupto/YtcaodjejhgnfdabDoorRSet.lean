/- The document's answer: where an attribute stands, and what Set makes of a tree. -/
import Derived.Test.YtcaodjejhgnfdabDoorRMake3
import Derived.BigRegion
namespace Go.Proofs.YtcaodjejhgnfdabDoor
open Go.RowKit

/-- how much the nodes hold at most -/
def SizedN (ns : List Nd) (A K : Nat) : Prop := ∀ (j : Nat) (n : Nd), ns[j]? = some n → n.attrs.length ≤ A ∧ n.kids.length ≤ K
theorem SizedN.mono {ns : List Nd} {A K A' K' : Nat} (h : SizedN ns A K) (ha : A ≤ A') (hk : K ≤ K') : SizedN ns A' K' := fun j n hj => ⟨Nat.le_trans (h j n hj).1 ha, Nat.le_trans (h j n hj).2 hk⟩
theorem SizedN.small {ps : List Pn} {A K : Nat} (h : SizedN (nodesOf ps) A K) (ha : A ≤ 1099511627776) (hk : K ≤ 1099511627776) : Small ps := fun j p hp =>
  ⟨Nat.le_trans (h j p.n (nodes_get hp)).1 ha, Nat.le_trans (h j p.n (nodes_get hp)).2 hk⟩
theorem SizedN.snoc {ns : List Nd} {A K : Nat} (h : SizedN ns A K) (n : Nd) (ha : n.attrs = []) (hk : n.kids = []) : SizedN (ns ++ [n]) A K := by
  intro j x hx
  by_cases hj : j < ns.length
  · rw [List.getElem?_append_left hj] at hx; exact h j x hx
  · rw [List.getElem?_append_right (by omega)] at hx
    have : x = n := by
      cases hq : j - ns.length with
      | zero => rw [hq] at hx; simpa using hx.symm
      | succ q => rw [hq] at hx; simp at hx
    subst this
    rw [ha, hk]
    exact ⟨Nat.zero_le _, Nat.zero_le _⟩
theorem setAttr_le (l : List (ByteArray × ByteArray)) (name value : ByteArray) : (setAttr l name value).length ≤ l.length + 1 := by
  unfold setAttr
  split <;> simp
theorem SizedN.set {ns : List Nd} {A K : Nat} (h : SizedN ns A K) (i : Nat) (a b : ByteArray) : SizedN (setS ns i a b) (A + 1) K := by
  unfold setS
  cases e : ns[i]? with
  | none => exact h.mono (by omega) (Nat.le_refl _)
  | some n =>
    dsimp only
    split
    · intro j x hx
      by_cases hij : i = j
      · subst hij
        rw [List.getElem?_set_self (List.getElem?_eq_some_iff.1 e).1] at hx
        cases hx
        exact ⟨Nat.le_trans (setAttr_le _ _ _) (by have := (h i n e).1; omega), (h i n e).2⟩
      · rw [List.getElem?_set_ne hij] at hx
        exact (h.mono (by omega) (Nat.le_refl _)) j x hx
    · exact h.mono (by omega) (Nat.le_refl _)
theorem SizedN.put {ns : List Nd} {A K : Nat} (h : SizedN ns A K) (a b : Nat) : SizedN (putS ns a b) A (K + 1) := by
  unfold putS
  split
  · rename_i na nb ha hb
    split
    · intro j x hx
      by_cases hjb : b = j
      · subst hjb
        rw [List.getElem?_set_self (by rw [List.length_set]; exact (List.getElem?_eq_some_iff.1 hb).1)] at hx
        cases hx
        exact ⟨(h b nb hb).1, Nat.le_succ_of_le (h b nb hb).2⟩
      · rw [List.getElem?_set_ne hjb] at hx
        by_cases hja : a = j
        · subst hja
          rw [List.getElem?_set_self (List.getElem?_eq_some_iff.1 ha).1] at hx
          cases hx
          exact ⟨(h a na ha).1, by simp; exact (h a na ha).2⟩
        · rw [List.getElem?_set_ne hja] at hx
          exact (h.mono (Nat.le_refl _) (by omega)) j x hx
    · exact h.mono (Nat.le_refl _) (by omega)
  · exact h.mono (Nat.le_refl _) (by omega)

set_option maxHeartbeats 4000000 in
set_option maxRecDepth 100000 in
theorem at_any {w : World} {M : Nat → Lab} {l : Lab} {v : Value} {at_ : List (ByteArray × ByteArray)} (h : Row w M l 41 2 v at_.length (attrCells at_)) (name : ByteArray) :
    Calls Tryd.prog 54 #[v, .string name] w fun e w' => e = .returned (.int .i64 (findI at_ name)) ∧ w' = w := by
  obtain ⟨a, cap, rfl, h1, h2⟩ := h.shape
  have hcell : Hid (∀ k x, at_[k]? = some x → ∃ g, a = some ⟨g, 0, none⟩ ∧ w.cell? ⟨g, k * 2, none⟩ = some (.string x.1)) := by
    intro k x hk
    have hkl : k < at_.length := (List.getElem?_eq_some_iff.1 hk).1
    obtain ⟨g, c, hv, _, _, _, hg⟩ := h.form (by omega)
    cases hv
    obtain ⟨q1, q2⟩ := attrCells_get at_ k x hk
    exact ⟨g, rfl, (h.cell rfl q1).1⟩
  unfold maxLen at h2
  clear h
  go_enter Tryd.func54, Tryd.ntmps54
  go_wp2
  go_loop [5] (fun i => ∃ k : Nat, k ≤ at_.length ∧ i = .int .i64 k ∧ Hid (∀ j, j < k → ∀ y, at_[j]? = some y → eqS y.1 name = false)) (fun i => at_.length - (intOf i).toNat)
  case atStart => exact ⟨0, by omega, rfl, (fun j hj => absurd hj (by omega) : ∀ j, j < 0 → ∀ y, at_[j]? = some y → eqS y.1 name = false)⟩
  case round =>
    obtain ⟨k, hk, rfl, hno⟩ := hrel
    by_cases hkl : k < at_.length
    · obtain ⟨x, hx⟩ : ∃ x, at_[k]? = some x := ⟨_, List.getElem?_eq_getElem hkl⟩
      obtain ⟨g, rfl, c1⟩ := hcell.out k x hx
      cases he : eqS x.1 name
      · have HN : Hid (∀ j, j < k + 1 → ∀ y, at_[j]? = some y → eqS y.1 name = false) := by
          intro j hj y hy
          by_cases hjk : j = k
          · subst hjk; obtain rfl := Option.some.inj (hy.symm.trans hx); exact he
          · exact hno.out j (by omega) y hy
        unfold eqS at he
        clear hx
        go_wp2
        go_round
        case rel => exact ⟨k + 1, by omega, by go_num, HN⟩
        case measure => simp [intOf]; omega
      · have HF : Hid (findI at_ name = k) := by
          show findI at_ name = k
          simp only [findI, findI_some hx he hno.out]
        unfold eqS at he
        clear hx
        go_wp2
        go_ret
        exact ⟨ret_int HF.out.symm, rfl⟩
    · have HF : Hid (findI at_ name = -1) := by
        show findI at_ name = -1
        simp only [findI, findI_none (fun j hj => hno.out j (by omega))]
      go_wp2
      go_ret
      exact ⟨ret_int HF.out.symm, rfl⟩

/-- behind a Set, whatever it answers -/
def RSetPost (w : World) (M : Nat → Lab) (tb : Nat) (nv : Value) (ps : List Pn) (us : List Value) (i : Nat) (name value : ByteArray) (e : Ending) (w' : World) : Prop :=
  (∃ c, e = .returned (.int .i64 c)) ∧ ∃ M' uv' ps' us', RLies w' M' tb nv uv' ps' us' ∧ Moved w M w' M' ∧ nodesOf ps' = setS (nodesOf ps) i name value ∧ us'.length ≤ us.length + 1

theorem RSetPost.stay {w : World} {M : Nat → Lab} {tb : Nat} {nv uv : Value} {ps : List Pn} {us : List Value} (h : RLies w M tb nv uv ps us) {i : Nat} {p : Pn} (hp : ps[i]? = some p) {name value : ByteArray} (hbad : ¬ (p.n.kind = 2 ∧ nameB name = true ∧ value.size ≤ 20000)) (c : Int) : RSetPost w M tb nv ps us i name value (.returned (.int .i64 c)) w :=
  ⟨⟨c, rfl⟩, M, uv, ps, us, h, Moved.refl _ _, by unfold setS; rw [nodes_get hp]; simp only [if_neg hbad], by omega⟩

theorem RSetPost.done {w w' : World} {M M' : Nat → Lab} {tb : Nat} {nv uv' : Value} {ps : List Pn} {us us' : List Value} {i : Nat} {p : Pn} (hp : ps[i]? = some p) {name value : ByteArray} (hgood : p.n.kind = 2 ∧ nameB name = true ∧ value.size ≤ 20000) {av' : Value} (h : RLies w' M' tb nv uv' (ps.set i ⟨{ p.n with attrs := setAttr p.n.attrs name value }, av', p.kv⟩) us') (m : Moved w M w' M') (hu : us'.length ≤ us.length + 1) (c : Int) : RSetPost w M tb nv ps us i name value (.returned (.int .i64 c)) w' := by
  refine ⟨⟨c, rfl⟩, M', uv', _, us', h, m, ?_, hu⟩
  unfold setS
  rw [nodes_get hp]
  simp only [if_pos hgood]
  simp [nodesOf, List.map_set]
end Go.Proofs.YtcaodjejhgnfdabDoor
