/- Where an attribute stands. -/
import Derived.Test.YtiikjflaonhfdaaDoorMake2
namespace Go.Proofs.YtiikjflaonhfdaaDoor
open Go.RowKit

def eqS (a b : ByteArray) : Bool := a.toList == b.toList
def findA (l : List (ByteArray × ByteArray)) (name : ByteArray) : Option Nat := l.findIdx? fun x => eqS x.1 name
def findI (l : List (ByteArray × ByteArray)) (name : ByteArray) : Int := match findA l name with
  | some k => k
  | none => -1

set_option maxHeartbeats 1000000 in
theorem find1_any (n v name : ByteArray) (b : Nat) (w : World) (hb : w.cell? ⟨b, 0, none⟩ = some (.string name)) :
    Calls Tryd.prog 68 #[.agg #[.string n, .string v], .pointer (some ⟨b, 0, none⟩)] w fun e w' => e = .returned (.bool (eqS n name)) ∧ Below w.heap.size w w' := by
  have hlt : b < w.heap.size := World.block_lt_of_cell? w _ hb
  go_enter Tryd.func68, Tryd.ntmps68
  go_wp2
  go_ret
  exact ⟨rfl, (Below.refl _ _).alloc (Nat.le_refl _) _⟩

theorem findI_some {l : List (ByteArray × ByteArray)} {name : ByteArray} {k : Nat} {x : ByteArray × ByteArray} (hx : l[k]? = some x) (he : eqS x.1 name = true) (hb : ∀ j, j < k → ∀ y, l[j]? = some y → eqS y.1 name = false) : findA l name = some k := by
  unfold findA
  rw [List.findIdx?_eq_some_iff_getElem]
  obtain ⟨hk, rfl⟩ := List.getElem?_eq_some_iff.1 hx
  refine ⟨hk, he, fun j hj => ?_⟩
  have := hb j hj l[j] (List.getElem?_eq_getElem (by omega))
  simp [this]
theorem findI_none {l : List (ByteArray × ByteArray)} {name : ByteArray} (hb : ∀ j, j < l.length → ∀ y, l[j]? = some y → eqS y.1 name = false) : findA l name = none := by
  unfold findA
  rw [List.findIdx?_eq_none_iff]
  intro x hx
  obtain ⟨j, hj, rfl⟩ := List.getElem_of_mem hx
  exact hb j hj _ (List.getElem?_eq_getElem hj)

set_option maxHeartbeats 4000000 in
set_option maxRecDepth 100000 in
theorem indexFunc_any {w : World} {M : Nat → Lab} {l : Lab} {v : Value} {at_ : List (ByteArray × ByteArray)} (h : Row w M l 78 2 v at_.length (attrCells at_)) (name : ByteArray) (b : Nat) (hb : w.cell? ⟨b, 0, none⟩ = some (.string name)) :
    Calls Tryd.prog 67 #[v, .func (.func 68) #[] #[.pointer (some ⟨b, 0, none⟩)]] w fun e w' => e = .returned (.int .i64 (findI at_ name)) ∧ Below w.heap.size w w' := by
  obtain ⟨a, cap, rfl, h1, h2⟩ := h.shape
  have hcell : Hid (∀ k x, at_[k]? = some x → ∃ g, a = some ⟨g, 0, none⟩ ∧ g < w.heap.size ∧ w.cell? ⟨g, k * 2, none⟩ = some (.string x.1) ∧ w.cell? ⟨g, k * 2 + 1, none⟩ = some (.string x.2)) := by
    intro k x hk
    have hkl : k < at_.length := (List.getElem?_eq_some_iff.1 hk).1
    obtain ⟨g, c, hv, _, _, _, hg⟩ := h.form (by omega)
    cases hv
    obtain ⟨q1, q2⟩ := attrCells_get at_ k x hk
    exact ⟨g, rfl, hg, (h.cell rfl q1).1, (h.cell rfl q2).1⟩
  have hlt : b < w.heap.size := World.block_lt_of_cell? w _ hb
  unfold maxLen at h2
  clear h
  go_enter Tryd.func67, Tryd.ntmps67
  go_wp2
  go_loopw [8] (fun i wr => ∃ k : Nat, k ≤ at_.length ∧ i = .int .i64 k ∧ Hid (∀ j, j < k → ∀ y, at_[j]? = some y → eqS y.1 name = false) ∧ Hid (Below w.heap.size w wr)) (fun i _ => at_.length - (intOf i).toNat)
  case atStart => exact ⟨0, by omega, rfl, (fun j hj => absurd hj (by omega) : ∀ j, j < 0 → ∀ y, at_[j]? = some y → eqS y.1 name = false), Below.refl _ _⟩
  case round =>
    obtain ⟨k, hk, rfl, hno, hbel⟩ := hrel
    by_cases hkl : k < at_.length
    · obtain ⟨x, hx⟩ : ∃ x, at_[k]? = some x := ⟨_, List.getElem?_eq_getElem hkl⟩
      obtain ⟨g, rfl, hg, c1, c2⟩ := hcell.out k x hx
      have c1' := (hbel.out.cell (p := ⟨g, k * 2, none⟩) hg).trans c1
      have c2' := (hbel.out.cell (p := ⟨g, k * 2 + 1, none⟩) hg).trans c2
      have hb' := (hbel.out.cell (p := ⟨b, 0, none⟩) hlt).trans hb
      have HX : Hid (at_[k]? = some x) := hx
      clear hx c1 c2
      cases he : eqS x.1 name
      · go_wp2_with (go_at_call 68; refine (find1_any x.1 x.2 name b _ hb').mono ?_; rintro e w1 ⟨rfl, hB⟩; rw [he])
        go_roundw
        case rel =>
          go_light
          refine ⟨k + 1, by omega, by go_num, ?_, (hbel.out.trans (hB.mono hbel.out.size) : Below w.heap.size w w1)⟩
          intro j hj y hy
          by_cases hjk : j = k
          · subst hjk
            obtain rfl := Option.some.inj (hy.symm.trans HX.out)
            exact he
          · exact hno.out j (by omega) y hy
        case measure => go_light; simp [intOf]; omega
      · have HF : Hid (findI at_ name = k) := by
          show findI at_ name = k
          simp only [findI, findI_some HX.out he hno.out]
        go_wp2_with (go_at_call 68; refine (find1_any x.1 x.2 name b _ hb').mono ?_; rintro e w1 ⟨rfl, hB⟩; rw [he])
        go_ret
        exact ⟨ret_int HF.out.symm, hbel.out.trans (hB.mono hbel.out.size)⟩
    · have hke : k = at_.length := by omega
      have HF : Hid (findI at_ name = -1) := by
        show findI at_ name = -1
        simp only [findI, findI_none (hke ▸ hno.out)]
      go_wp2
      go_ret
      exact ⟨ret_int HF.out.symm, hbel.out⟩

set_option maxHeartbeats 2000000 in
theorem find_any {w : World} {M : Nat → Lab} {tb : Nat} {uv : Value} {ps : List Pn} {us : List Value} {nb nc : Nat} (h : Lies w M tb (.slice (some ⟨nb, 0, none⟩) ps.length nc) uv ps us) {i : Nat} {p : Pn} (hp : ps[i]? = some p) (name : ByteArray) :
    Calls Tryd.prog 48 #[.pointer (some ⟨nb, i * 6, none⟩), .string name] w fun e w' => e = .returned (.int .i64 (findI p.n.attrs name)) ∧ Below w.heap.size w w' := by
  have c3 := (h.cellN rfl (f := 3) hp (by omega) rfl).1
  have hlt : nb < w.heap.size := World.block_lt_of_cell? w _ c3
  have hr := (h.node i p hp).1
  obtain ⟨ka, kc, hkv, _, _⟩ := hr.shape
  rw [hkv] at c3
  have HR : Hid (Row (w.alloc (.cells #[.string name] 9)) M (.attrs i) 78 2 (.slice ka p.n.attrs.length kc) p.n.attrs.length (attrCells p.n.attrs)) := by
    rw [hkv] at hr
    exact hr.keep (fun b hb _ => Below.heap_alloc w _ b hb) (fun _ _ => rfl)
  clear h hr hkv
  go_enter Tryd.func48, Tryd.ntmps48
  go_wp2_with (go_at_call 67; refine (indexFunc_any HR.out name _ (by simp)).mono ?_; rintro e w1 ⟨rfl, hB⟩)
  go_ret
  exact ⟨rfl, ((Below.refl _ _).alloc (Nat.le_refl _) _).trans (hB.mono (by simp))⟩

set_option maxHeartbeats 2000000 in
theorem wantElement_any {w : World} {M : Nat → Lab} {tb : Nat} {nv uv : Value} {ps : List Pn} {us : List Value} (h : Lies w M tb nv uv ps us) (hE : Errs w M) {i : Nat} {p : Pn} (hp : ps[i]? = some p) :
    Calls Tryd.prog 47 #[.pointer (some ⟨tb, 0, none⟩), .int .i64 i] w fun e w' => (∃ v, e = .returned v ∧ (if p.n.kind = 2 then v = .nilIface else isErr v)) ∧ w' = w := by
  have hb := hasB_of hp
  obtain ⟨nb, cap, rfl, hc, hm, _, _, hi⟩ := h.form hp
  obtain ⟨t, a, hc3⟩ := hE.cell 5 (by decide)
  have c0 := h.cell0
  have c4 := (h.cellN rfl (f := 0) hp (by omega) rfl).1
  rw [Nat.add_zero] at c4
  have H : Hid (Lies w M tb (.slice (some ⟨nb, 0, none⟩) ps.length cap) uv ps us) := h
  unfold maxLen at hm
  clear h hE
  by_cases hk : p.n.kind = 2
  · rw [hk] at c4
    simp only [if_pos hk]
    go_enter Tryd.func47, Tryd.ntmps47
    go_wp2_with (go_at_call 41; refine (has_any H.out _).mono ?_; rintro e w' ⟨rfl, rfl⟩; rw [hb])
    go_ret
    exact ⟨⟨_, rfl, rfl⟩, rfl⟩
  · have hkb : (p.n.kind == 2) = false := by simpa using hk
    simp only [if_neg hk]
    go_enter Tryd.func47, Tryd.ntmps47
    go_wp2_with (go_at_call 41; refine (has_any H.out _).mono ?_; rintro e w' ⟨rfl, rfl⟩; rw [hb])
    go_ret
    exact ⟨⟨_, rfl, ⟨t, a, rfl⟩⟩, rfl⟩
end Go.Proofs.YtiikjflaonhfdaaDoor
