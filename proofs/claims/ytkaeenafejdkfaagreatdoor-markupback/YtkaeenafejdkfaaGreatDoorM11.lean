/- What looks at any tree. -/
import Derived.Test.YtkaeenafejdkfaaGreatDoorM10
import Derived.Test.YtkaeenafejdkfaaGreatDoorM07
import Derived.Test.YtkaeenafejdkfaaGreatDoorM05
namespace Go.Proofs.YtkaeenafejdkfaaGreatDoor
open Go.RowKit

theorem size_any {w : World} {M : Nat → Lab} {tb : Nat} {nv uv : Value} {ps : List Pn} {us : List Value} (h : Lies w M tb nv uv ps us) :
    Calls Tryz.prog 49 #[.pointer (some ⟨tb, 0, none⟩)] w fun e w' => e = .returned (.int .i64 ps.length) ∧ w' = w := by
  obtain ⟨a, cap, rfl, hc, hm⟩ := h.nodes.shape
  have c0 := h.cell0
  clear h
  go_enter Tryz.func49, Tryz.ntmps49
  go_wp2
  go_ret
  exact ⟨rfl, rfl⟩

set_option maxHeartbeats 1000000 in
theorem kind_any {w : World} {M : Nat → Lab} {tb : Nat} {nv uv : Value} {ps : List Pn} {us : List Value} (h : Lies w M tb nv uv ps us) {i : Nat} {p : Pn} (hp : ps[i]? = some p) :
    Calls Tryz.prog 32 #[.pointer (some ⟨tb, 0, none⟩), .int .i64 i] w fun e w' => e = .returned (.int .i64 p.n.kind) ∧ w' = w := by
  have hb := hasB_of hp
  obtain ⟨nb, cap, rfl, hc, hm, _, _, hi⟩ := h.form hp
  have c0 := h.cell0
  have c4 := (h.cellN rfl (f := 0) hp (by omega) rfl).1
  rw [Nat.add_zero] at c4
  unfold maxLen at hm
  go_enter Tryz.func32, Tryz.ntmps32
  go_wp2_with (go_at_call 73; refine (has_any h _).mono ?_; rintro e w' ⟨rfl, rfl⟩; rw [hb])
  all_goals go_ret
  all_goals exact ⟨rfl, rfl⟩
set_option maxHeartbeats 1000000 in
theorem tag_any {w : World} {M : Nat → Lab} {tb : Nat} {nv uv : Value} {ps : List Pn} {us : List Value} (h : Lies w M tb nv uv ps us) {i : Nat} {p : Pn} (hp : ps[i]? = some p) :
    Calls Tryz.prog 50 #[.pointer (some ⟨tb, 0, none⟩), .int .i64 i] w fun e w' => e = .returned (.string p.n.tag) ∧ w' = w := by
  have hb := hasB_of hp
  obtain ⟨nb, cap, rfl, hc, hm, _, _, hi⟩ := h.form hp
  have c0 := h.cell0
  have c4 := (h.cellN rfl (f := 1) hp (by omega) rfl).1
  unfold maxLen at hm
  go_enter Tryz.func50, Tryz.ntmps50
  go_wp2_with (go_at_call 73; refine (has_any h _).mono ?_; rintro e w' ⟨rfl, rfl⟩; rw [hb])
  all_goals go_ret
  all_goals exact ⟨rfl, rfl⟩
set_option maxHeartbeats 1000000 in
theorem words_any {w : World} {M : Nat → Lab} {tb : Nat} {nv uv : Value} {ps : List Pn} {us : List Value} (h : Lies w M tb nv uv ps us) {i : Nat} {p : Pn} (hp : ps[i]? = some p) :
    Calls Tryz.prog 51 #[.pointer (some ⟨tb, 0, none⟩), .int .i64 i] w fun e w' => e = .returned (.string p.n.words) ∧ w' = w := by
  have hb := hasB_of hp
  obtain ⟨nb, cap, rfl, hc, hm, _, _, hi⟩ := h.form hp
  have c0 := h.cell0
  have c4 := (h.cellN rfl (f := 2) hp (by omega) rfl).1
  unfold maxLen at hm
  go_enter Tryz.func51, Tryz.ntmps51
  go_wp2_with (go_at_call 73; refine (has_any h _).mono ?_; rintro e w' ⟨rfl, rfl⟩; rw [hb])
  all_goals go_ret
  all_goals exact ⟨rfl, rfl⟩

set_option maxHeartbeats 1000000 in
set_option maxRecDepth 100000 in
theorem cloneA_any {w : World} {M : Nat → Lab} {l : Lab} {v : Value} {at_ : List (ByteArray × ByteArray)} (h : Row w M l 81 2 v at_.length (attrCells at_)) (hn : at_.length ≤ 1099511627776) :
    Calls Tryz.prog 96 #[v] w fun e w' => ∃ v', e = .returned v' ∧ w'.ownsRow w.heap.size 81 2 v' at_.length (attrCells at_) ∧ Below w.heap.size w w' := by
  obtain ⟨i0, hi, hz0, hz1, hz2⟩ := info_parts Tryz.infoAttr
  have qs : ∀ (w : World) (a : Option Addr) (n c n' c' : Nat), (binOp .eql 47 (.slice a n c) (.slice none n' c')).run Tryz.prog w = .ok (.bool a.isNone) w := fun w a n c n' c' => Lib.run_eql_slice_nil w _ _ a n c n' c' Tryz.underlying47
  have HS : Hid (SrcOf w 2 v at_.length (attrCells at_)) := h.src (one_attr _)
  obtain ⟨hl, a, cap, rfl, h1, h2, h3⟩ := id h
  have hz : a = none → at_ = [] := by
    intro e
    subst e
    rcases h3 with ⟨h3, _⟩ | ⟨g, cur, ha, _⟩
    · exact List.eq_nil_of_length_eq_zero (by omega)
    · cases ha
  clear h hl h3
  unfold maxLen at h2
  cases a with
  | none =>
    have hz' := hz rfl
    subst hz'
    clear hz
    go_enter Tryz.func96, Tryz.ntmps96
    go_wp2
    go_ret
    exact ⟨_, rfl, World.ownsRow_nil _ _ _ _, Below.refl _ _⟩
  | some ad =>
    have hown : Hid ((w.alloc (.cells #[] 81)).ownsRow w.heap.size 81 2 (.slice (some ⟨w.heap.size, 0, none⟩) 0 0) 0 []) := World.ownsRow_made w #[] 0 (Nat.le_refl _) (by unfold maxLen; omega) rfl
    clear hz
    go_enter Tryz.func96, Tryz.ntmps96
    go_wp2_with (at_builtin; refine wpList_app_own _ (by rfl) _ _ 47 (by rfl) w.heap.size 81 i0 _ 2 32 Tryz.underlying47 hi hz0 hz1 hz2 rfl (by decide) (.slice (some ⟨w.heap.size, 0, none⟩) 0 0) 0 [] (by rfl) hown.out (.slice (some ad) at_.length cap) at_.length (attrCells at_) (by rfl) (HS.out.below ((Below.refl _ _).alloc (Nat.le_refl _) _)) (by unfold maxLen; omega) (by omega) (by simp) ?_; intro v' w' hv hg _; have HV : Hid _ := And.intro hv hg; clear hv hg)
    go_ret
    refine ⟨_, rfl, by simpa using HV.out.1, ?_⟩
    exact ((Below.refl _ _).alloc (Nat.le_refl _) _).grown HV.out.2 (by simp) (fun k hk => by simp [Value.ownBlock] at hk; omega)

set_option maxHeartbeats 1000000 in
theorem attrs_any {w : World} {M : Nat → Lab} {tb : Nat} {nv uv : Value} {ps : List Pn} {us : List Value} (h : Lies w M tb nv uv ps us) {i : Nat} {p : Pn} (hp : ps[i]? = some p) (hk : p.n.attrs.length ≤ 1099511627776) :
    Calls Tryz.prog 53 #[.pointer (some ⟨tb, 0, none⟩), .int .i64 i] w fun e w' => ∃ v', e = .returned v' ∧ w'.ownsRow w.heap.size 81 2 v' p.n.attrs.length (attrCells p.n.attrs) ∧ Below w.heap.size w w' := by
  have hb := hasB_of hp
  obtain ⟨nb, cap, rfl, hc, hm, _, _, hi⟩ := h.form hp
  have c0 := h.cell0
  have c3 := (h.cellN rfl (f := 3) hp (by omega) rfl).1
  have hr := (h.node i p hp).1
  obtain ⟨ka, kc, hkv, _, _⟩ := hr.shape
  rw [hkv] at c3
  have HR : Hid (Row w M (.attrs i) 81 2 (.slice ka p.n.attrs.length kc) p.n.attrs.length (attrCells p.n.attrs)) := hkv ▸ hr
  have H : Hid (Lies w M tb (.slice (some ⟨nb, 0, none⟩) ps.length cap) uv ps us) := h
  unfold maxLen at hm
  clear h hr hkv
  go_enter Tryz.func53, Tryz.ntmps53
  go_wp2_with (first
    | (go_at_call 73; refine (has_any H.out _).mono ?_; rintro e w' ⟨rfl, rfl⟩; rw [hb])
    | (go_at_call 96; refine (cloneA_any HR.out hk).mono ?_; rintro e w1 ⟨v1, rfl, ho, hB⟩))
  go_ret
  exact ⟨_, rfl, ho, hB⟩

theorem flat_le {α : Type} (l : List α) (g : α → List Int) (k : Nat) : ((l.take k).flatMap g).length ≤ (l.flatMap g).length := by
  have e : (l.take k ++ l.drop k).flatMap g = l.flatMap g := by rw [List.take_append_drop]
  rw [← e, List.flatMap_append, List.length_append]
  omega
theorem flat_succ {α : Type} {l : List α} {k : Nat} {x : α} (h : l[k]? = some x) (g : α → List Int) : (l.take (k + 1)).flatMap g = (l.take k).flatMap g ++ g x := by
  obtain ⟨hk, rfl⟩ := List.getElem?_eq_some_iff.1 h
  rw [List.take_succ_eq_append_getElem hk, List.flatMap_append]
  simp

def UndPost (w0 : World) (l : List Int) (e : Ending) (w' : World) : Prop := ∃ v', e = .returned v' ∧ w'.ownsRow w0.heap.size 3 1 v' l.length (l.map intV) ∧ Below w0.heap.size w0 w'

set_option maxHeartbeats 4000000 in
set_option maxRecDepth 100000 in
theorem under_any {w0 : World} {M : Nat → Lab} {tb : Nat} {nv uv : Value} {ps : List Pn} {us : List Value} (h : Lies w0 M tb nv uv ps us) (hs : WF (nodesOf ps)) : ∀ (f i : Nat), i < ps.length → rkU (nodesOf ps) i < f → ∀ (w : World) (v : Value) (xs : List Int) (x : Int), x = i → Below w0.heap.size w0 w → w.ownsRow w0.heap.size 3 1 v xs.length (xs.map intV) → xs.length + (und (nodesOf ps) f i).length ≤ 1000000000 →
    Calls Tryz.prog 97 #[.pointer (some ⟨tb, 0, none⟩), v, .int .i64 x] w (UndPost w0 (xs ++ und (nodesOf ps) f i)) := by
  obtain ⟨i0, hi, hz0, hz1, hz2⟩ := info_parts Tryz.infoInt
  intro f
  induction f with
  | zero => intro i _ hr; omega
  | succ f ih =>
    intro i hil hr w v xs x hx hB hown hlen
    subst hx
    obtain ⟨p, hp⟩ : ∃ p, ps[i]? = some p := ⟨_, List.getElem?_eq_getElem hil⟩
    have hpn := nodes_get hp
    rw [und_succ hpn] at hlen ⊢
    obtain ⟨nb, cap, rfl, hc, hm, _, hnl, _⟩ := h.form hp
    have c0 := (hB.cell (p := ⟨tb, 0, none⟩) (lt_of_heap h.head)).trans h.cell0
    have c5 := (hB.cell (p := ⟨nb, i * 6 + 5, none⟩) hnl).trans (h.cellN rfl (f := 5) hp (by omega) rfl).1
    obtain ⟨ka, kc, hkv, hk1, hk2⟩ := (h.node i p hp).2.shape
    rw [hkv] at c5
    have hlt : tb < w0.heap.size := lt_of_heap h.head
    have HK : Hid (∀ (k : Nat) (y : Int), p.n.kids[k]? = some y → ∃ g b, ka = some ⟨g, 0, none⟩ ∧ g < w0.heap.size ∧ w0.cell? ⟨g, k, none⟩ = some (.int .i64 y) ∧ y = (b : Nat) ∧ b < ps.length ∧ rkU (nodesOf ps) b < f) := by
      intro k y hy
      have hkl : k < p.n.kids.length := (List.getElem?_eq_some_iff.1 hy).1
      obtain ⟨g, c, hv, _, _, _, hg⟩ := (h.node i p hp).2.form (by omega)
      rw [hkv] at hv
      cases hv
      obtain ⟨b, _, e1, e2, _, _, e3⟩ := hs.rank hpn (List.mem_of_getElem? hy)
      exact ⟨g, b, rfl, hg, ((h.node i p hp).2.cell hkv (j := k) (u := .int .i64 y) (by simp [hy, intV])).1, e1, by simpa [nodesOf] using e2, by omega⟩
    have IH : Hid _ := ih
    have HB : Hid (Below w0.heap.size w0 w) := hB
    have HO : Hid (w.ownsRow w0.heap.size 3 1 v xs.length (xs.map intV)) := hown
    have hsz := hB.size
    have htw := Nat.lt_of_lt_of_le hlt hsz
    have hnw := Nat.lt_of_lt_of_le hnl hsz
    have i1 : (0 : Int) ≤ (i : Int) := by omega
    have i2 : (i : Int) < (ps.length : Int) := by omega
    have HL : Hid (∀ k, (xs ++ (i : Int) :: (p.n.kids.take k).flatMap fun x => und (nodesOf ps) f x.toNat).length ≤ 1000000000) := by
      intro k
      have := flat_le p.n.kids (fun x => und (nodesOf ps) f x.toNat) k
      simp only [List.length_append, List.length_cons] at hlen ⊢
      omega
    have hx0 : xs.length < 1000000000 := by simp only [List.length_cons] at hlen; omega
    unfold maxLen at hm hk2
    clear h hs ih hp hpn hB hown hlen
    go_enter Tryz.func97, Tryz.ntmps97
    go_wp2_with (at_builtin; refine wpList_app_own _ (by rfl) _ _ 48 (by rfl) w0.heap.size 3 i0 (.int .i64 0) 1 8 Tryz.underlying48 hi hz0 hz1 hz2 rfl (by decide) v xs.length (xs.map intV) (by rfl) (HO.out.alloc _) _ 1 [.int .i64 i] (by rfl) ⟨rfl, by simp [Value.oneCell'], _, _, rfl, .inr ⟨_, rfl, cell_one_new _ _ _⟩⟩ (by unfold maxLen; omega) (by omega) (by simp; omega) ?_
                 intro v1 w1 hv1 hg1 _
                 have HB1 : Hid (Below w0.heap.size w0 w1) := (HB.out.alloc hsz _).grown hg1 (by simp; omega) (fun k hk => (HO.out.lt k hk).1)
                 have d0 := (HB1.out.cell (p := ⟨tb, 0, none⟩) hlt).trans ((HB.out.cell (p := ⟨tb, 0, none⟩) hlt).symm.trans c0)
                 have d5 := (HB1.out.cell (p := ⟨nb, i * 6 + 5, none⟩) hnl).trans ((HB.out.cell (p := ⟨nb, i * 6 + 5, none⟩) hnl).symm.trans c5)
                 have HV1 : Hid (w1.ownsRow w0.heap.size 3 1 v1 (xs.length + 1) (xs.map intV ++ [.int .i64 i])) := hv1
                 clear hv1 hg1)
    go_loopw [1, 22] (fun lv iv wr => ∃ k : Nat, k ≤ p.n.kids.length ∧ iv = .int .i64 k ∧ Hid (wr.ownsRow w0.heap.size 3 1 lv (xs ++ (i : Int) :: (p.n.kids.take k).flatMap fun x => und (nodesOf ps) f x.toNat).length ((xs ++ (i : Int) :: (p.n.kids.take k).flatMap fun x => und (nodesOf ps) f x.toNat).map intV)) ∧ Hid (Below w0.heap.size w0 wr)) (fun _ iv _ => p.n.kids.length - (intOf iv).toNat)
    case atStart =>
      refine ⟨0, by omega, rfl, ?_, HB1⟩
      show w1.ownsRow _ _ _ _ _ _
      have := HV1.out
      simpa [intV] using this
    case round =>
      obtain ⟨k, hk, rfl, hO, hbel⟩ := hrel
      by_cases hkl : k < p.n.kids.length
      · obtain ⟨y, hy⟩ : ∃ y, p.n.kids[k]? = some y := ⟨_, List.getElem?_eq_getElem hkl⟩
        obtain ⟨g, b, rfl, hg, cy, rfl, hb1, hb2⟩ := HK.out k y hy
        have cy' := (hbel.out.cell (p := ⟨g, k, none⟩) hg).trans cy
        have hll := HL.out (k + 1)
        rw [flat_succ hy] at hll
        have HLL : Hid _ := hll
        have HY : Hid _ := flat_succ hy (fun x => und (nodesOf ps) f x.toNat)
        clear hy cy hll
        go_wp2_with (go_at_call 97; refine (IH.out b hb1 hb2 _ _ _ _ rfl hbel.out hO.out (by have := HLL.out; simp only [List.length_append, List.length_cons, Int.toNat_natCast] at this ⊢; omega)).mono ?_; rintro e w2 ⟨v2, rfl, ho2, hB2⟩; have H2 : Hid _ := And.intro ho2 hB2; clear ho2 hB2)
        go_roundw
        case rel =>
          go_light
          refine ⟨k + 1, by omega, by go_num, ?_, H2.out.2⟩
          show World.ownsRow _ _ _ _ _ _ _
          rw [HY.out]
          have := H2.out.1
          simpa using this
        case measure => go_light; simp [intOf]; omega
      · obtain rfl : k = p.n.kids.length := by omega
        rw [List.take_length] at hO
        obtain ⟨a5, e5, hv5⟩ := own_shape hO.out
        subst hv5
        go_wp2
        go_ret
        exact ⟨_, rfl, hO.out, hbel.out⟩

set_option maxHeartbeats 1000000 in
theorem Under_any {w : World} {M : Nat → Lab} {tb : Nat} {nv uv : Value} {ps : List Pn} {us : List Value} (h : Lies w M tb nv uv ps us) (hs : WF (nodesOf ps)) (f i : Nat) (hi : i < ps.length) (hf : rkU (nodesOf ps) i < f) :
    Calls Tryz.prog 55 #[.pointer (some ⟨tb, 0, none⟩), .int .i64 i] w (UndPost w (und (nodesOf ps) f i)) := by
  have hb : hasB ps.length i = true := hasB_of (List.getElem?_eq_getElem hi)
  have H : Hid (Lies w M tb nv uv ps us) := h
  have hun : (und (nodesOf ps) f i).length ≤ 1000000000 := Nat.le_trans (und_short hs f i (by simpa [nodesOf] using hi)) (Nat.le_trans hs.len (by omega))
  have HC : Hid (Calls Tryz.prog 97 #[.pointer (some ⟨tb, 0, none⟩), .slice none 0 0, .int .i64 i] w (UndPost w ([] ++ und (nodesOf ps) f i))) := under_any h hs f i hi hf w (.slice none 0 0) [] i rfl (Below.refl _ _) (World.ownsRow_nil _ _ _ _) (by simpa using hun)
  clear h hs hun
  go_enter Tryz.func55, Tryz.ntmps55
  go_wp2_with (first
    | (go_at_call 73; refine (has_any H.out _).mono ?_; rintro e w' ⟨rfl, rfl⟩; rw [hb])
    | (go_at_call 97; refine HC.out.mono ?_; rintro e w1 ⟨v1, rfl, ho, hB⟩))
  go_ret
  exact ⟨_, rfl, by simpa using ho, hB⟩


/-- a list of numbers as it lies in memory, whoever made it -/
def IntsAt (w : World) (v : Value) (l : List Int) : Prop := ∃ a c, v = .slice a l.length c ∧ ∀ (k : Nat) (y : Int), l[k]? = some y → ∃ g, a = some ⟨g, 0, none⟩ ∧ w.cell? ⟨g, k, none⟩ = some (.int .i64 y)
def AttrsAt (w : World) (v : Value) (l : List (ByteArray × ByteArray)) : Prop := ∃ a c, v = .slice a l.length c ∧ ∀ (k : Nat) x, l[k]? = some x → ∃ g, a = some ⟨g, 0, none⟩ ∧ w.cell? ⟨g, k * 2, none⟩ = some (.string x.1) ∧ w.cell? ⟨g, k * 2 + 1, none⟩ = some (.string x.2)

theorem Row.ints {w : World} {M : Nat → Lab} {l : Lab} {v : Value} {xs : List Int} (h : Row w M l 3 1 v xs.length (xs.map intV)) : IntsAt w v xs := by
  obtain ⟨a, c, hv, _, _⟩ := h.shape
  refine ⟨a, c, hv, fun k y hy => ?_⟩
  have hkl : k < xs.length := (List.getElem?_eq_some_iff.1 hy).1
  obtain ⟨g, c', hv', _, _, _, hg⟩ := h.form (by omega)
  rw [hv] at hv'
  cases hv'
  exact ⟨g, rfl, (h.cell hv (j := k) (u := .int .i64 y) (by simp [hy, intV])).1⟩
theorem own_ints {w : World} {B : Nat} {v : Value} {xs : List Int} (h : w.ownsRow B 3 1 v xs.length (xs.map intV)) : IntsAt w v xs := by
  obtain ⟨_, a, c, hv, _, _, hc⟩ := own_cell h
  refine ⟨a, c, hv, fun k y hy => ?_⟩
  obtain ⟨g, e1, e2, _⟩ := hc k y hy
  exact ⟨g, e1, e2⟩
theorem Row.attrsAt {w : World} {M : Nat → Lab} {l : Lab} {v : Value} {at_ : List (ByteArray × ByteArray)} (h : Row w M l 81 2 v at_.length (attrCells at_)) : AttrsAt w v at_ := by
  obtain ⟨a, c, hv, _, _⟩ := h.shape
  refine ⟨a, c, hv, fun k y hy => ?_⟩
  have hkl : k < at_.length := (List.getElem?_eq_some_iff.1 hy).1
  obtain ⟨g, c', hv', _, _, _, hg⟩ := h.form (by omega)
  rw [hv] at hv'
  cases hv'
  obtain ⟨q1, q2⟩ := attrCells_get at_ k y hy
  exact ⟨g, rfl, (h.cell hv q1).1, (h.cell hv q2).1⟩
theorem own_attrs {w : World} {B : Nat} {v : Value} {at_ : List (ByteArray × ByteArray)} (h : w.ownsRow B 81 2 v at_.length (attrCells at_)) : AttrsAt w v at_ := by
  obtain ⟨a, c, hv⟩ := own_shape h
  refine ⟨a, c, hv, fun k y hy => ?_⟩
  have hkl : k < at_.length := (List.getElem?_eq_some_iff.1 hy).1
  rcases h.2 with ⟨_, e⟩ | ⟨g, cap, cur, hv', _⟩
  · omega
  · rw [hv] at hv'
    cases hv'
    obtain ⟨q1, q2⟩ := attrCells_get at_ k y hy
    have hc := h.cells (g := g) (by rw [hv]; rfl)
    refine ⟨g, rfl, ?_, ?_⟩
    · have := hc _ _ q1; rwa [add0] at this
    · have := hc _ _ q2; rwa [add0] at this
theorem IntsAt.below {w w' : World} {v : Value} {l : List Int} (h : IntsAt w v l) (hb : Below w.heap.size w w') : IntsAt w' v l := by
  obtain ⟨a, c, hv, hc⟩ := h
  refine ⟨a, c, hv, fun k y hy => ?_⟩
  obtain ⟨g, e1, e2⟩ := hc k y hy
  exact ⟨g, e1, (hb.cell (World.block_lt_of_cell? w _ e2)).trans e2⟩
theorem AttrsAt.below {w w' : World} {v : Value} {l : List (ByteArray × ByteArray)} (h : AttrsAt w v l) (hb : Below w.heap.size w w') : AttrsAt w' v l := by
  obtain ⟨a, c, hv, hc⟩ := h
  refine ⟨a, c, hv, fun k y hy => ?_⟩
  obtain ⟨g, e1, e2, e3⟩ := hc k y hy
  exact ⟨g, e1, (hb.cell (World.block_lt_of_cell? w _ e2)).trans e2, (hb.cell (World.block_lt_of_cell? w _ e3)).trans e3⟩

set_option maxHeartbeats 4000000 in
set_option maxRecDepth 100000 in
theorem sameInts_any {w : World} {v u : Value} {l : List Int} (hv : IntsAt w v l) (hu : IntsAt w u l) (hl : l.length ≤ 1099511627776) :
    Calls Tryz.prog 54 #[v, u] w fun e w' => e = .returned (.bool true) ∧ Below w.heap.size w w' := by
  obtain ⟨a, c, rfl, ha⟩ := hv
  obtain ⟨b, d, rfl, hb⟩ := hu
  have HA : Hid _ := ha
  have HB : Hid _ := hb
  clear ha hb
  go_enter Tryz.func54, Tryz.ntmps54
  go_wp2
  go_loopw [5] (fun i wr => ∃ k : Nat, k ≤ l.length ∧ i = .int .i64 k ∧ Hid (Below w.heap.size w wr)) (fun i _ => l.length - (intOf i).toNat)
  case atStart => exact ⟨0, by omega, rfl, Below.refl _ _⟩
  case round =>
    obtain ⟨k, hk, rfl, hbel⟩ := hrel
    by_cases hlt : k < l.length
    · obtain ⟨y, hy⟩ : ∃ y, l[k]? = some y := ⟨_, List.getElem?_eq_getElem hlt⟩
      obtain ⟨g, rfl, e1⟩ := HA.out k y hy
      obtain ⟨g2, rfl, e2⟩ := HB.out k y hy
      have e1' := (hbel.out.cell (p := ⟨g, k, none⟩) (World.block_lt_of_cell? w _ e1)).trans e1
      have e2' := (hbel.out.cell (p := ⟨g2, k, none⟩) (World.block_lt_of_cell? w _ e2)).trans e2
      clear hy e1 e2
      go_wp2
      go_quiet (fail)
      go_wp2
      go_roundw
      case rel => exact ⟨k + 1, by omega, by go_num, below_drewN hbel.out _⟩
      case measure => simp [intOf]; omega
    · go_wp2
      go_ret
      exact ⟨rfl, hbel.out⟩
end Go.Proofs.YtkaeenafejdkfaaGreatDoor

/- The document's answer: where the text of a raw element ends. -/
namespace Go.Proofs.YtkaeenafejdkfaaGreatDoor
open Go.RowKit

theorem inTag_parts {c : Nat} : inTagB c = true ↔ blankB c = false ∧ c ≠ 47 ∧ c ≠ 62 := by
  unfold inTagB betwB
  simp
  constructor
  · rintro ⟨⟨a, b⟩, c⟩; exact ⟨a, b, c⟩
  · rintro ⟨a, b, c⟩; exact ⟨⟨a, b⟩, c⟩
theorem inTag_no {c : Nat} (h : inTagB c = false) : blankB c = true ∨ (blankB c = false ∧ (c = 47 ∨ c = 62)) := by
  cases hb : blankB c
  · right
    refine ⟨rfl, ?_⟩
    have : ¬ inTagB c = true := by rw [h]; simp
    rw [inTag_parts] at this
    rcases Nat.decEq c 47 with h1 | h1
    · rcases Nat.decEq c 62 with h2 | h2
      · exact absurd ⟨hb, h1, h2⟩ this
      · exact .inr h2
    · exact .inl h1
  · exact .inl rfl
/-- an end tag of that name stands there -/
def rawHit (s name : ByteArray) (k : Nat) : Prop := k + 2 + name.size ≤ s.size ∧ s.extract k (k + 2) = ⟨#[60, 47]⟩ ∧ smallS (s.extract (k + 2) (k + 2 + name.size)) = name ∧ (k + 2 + name.size = s.size ∨ inTagB (bt s (k + 2 + name.size)) = false)
instance (s name : ByteArray) (k : Nat) : Decidable (rawHit s name k) := by unfold rawHit; infer_instance
def rawE (s name : ByteArray) (k : Nat) : Nat := if k < s.size then (if rawHit s name k then k else rawE s name (k + 1)) else k
  termination_by s.size - k
theorem rawE_hit {s name : ByteArray} {k : Nat} (h : k < s.size) (hh : rawHit s name k) : rawE s name k = k := by rw [rawE]; simp [h, hh]
theorem rawE_step {s name : ByteArray} {k : Nat} (h : k < s.size) (hh : ¬ rawHit s name k) : rawE s name k = rawE s name (k + 1) := by rw [rawE]; simp [h, hh]
theorem rawE_end {s name : ByteArray} {k : Nat} (h : s.size ≤ k) : rawE s name k = k := by rw [rawE]; simp [show ¬ k < s.size by omega]

theorem lt_slash : (⟨#[60, 47]⟩ : ByteArray).toList = [60, 47] := by rw [Lib.toList_data]

set_option maxHeartbeats 8000000 in
set_option maxRecDepth 100000 in
theorem rawEnd_any (s name : ByteArray) (i : Nat) (hs : s.size ≤ 100000) (hi : i ≤ s.size) (hn : name.size ≤ 100) (w : World) :
    Calls Tryz.prog 28 #[.string s, .int .i64 i, .string name] w fun e w' => e = .returned (.int .i64 (rawE s name i)) ∧ Below w.heap.size w w' := by
  obtain ⟨r, hr⟩ : ∃ r, r = rawE s name i := ⟨_, rfl⟩
  rw [← hr]
  have HR := hid hr
  clear hr
  go_enter Tryz.func28, Tryz.ntmps28
  go_wp2
  go_loopw [1] (fun v wr => ∃ k : Nat, k ≤ s.size ∧ v = .int .i64 k ∧ Hid (r = rawE s name k) ∧ Hid (Below w.heap.size w wr)) (fun v _ => s.size - (intOf v).toNat)
  case atStart => exact ⟨i, hi, rfl, HR, hid (Below.refl _ _)⟩
  case round =>
    obtain ⟨k, hk, rfl, ha, hB⟩ := hrel
    by_cases hlt : k < s.size
    · by_cases hA : k + 2 + name.size ≤ s.size
      rotate_left
      · have H : Hid (r = rawE s name (k + 1)) := ha.out.trans (rawE_step hlt (fun h => hA h.1))
        go_wp2
        all_goals go_light
        all_goals first
          | (refine ⟨⟨k + 1, by omega, by go_num, H, hB⟩, ?_⟩; simp [intOf]; omega)
          | (exfalso; simp_all; done)
          | (exfalso; omega)
      by_cases h2 : s.extract k (k + 2) = ⟨#[60, 47]⟩
      rotate_left
      · have H : Hid (r = rawE s name (k + 1)) := ha.out.trans (rawE_step hlt (fun h => h2 h.2.1))
        have hb : ¬ (s.extract k (k + 2)).toList = [60, 47] := fun e => h2 (toList_inj' (e.trans lt_slash.symm))
        go_wp2_with fail
        all_goals go_light
        all_goals first
          | (refine ⟨⟨k + 1, by omega, by go_num, H, hB⟩, ?_⟩; simp [intOf]; omega)
          | (exfalso; simp_all; done)
      have h2' : (s.extract k (k + 2)).toList = [60, 47] := by rw [h2]; exact lt_slash
      have hes : (s.extract (k + 2) (k + 2 + name.size)).size ≤ 100000 := by rw [ByteArray.size_extract]; omega
      obtain ⟨sm, hsm⟩ : ∃ sm, sm = smallS (s.extract (k + 2) (k + 2 + name.size)) := ⟨_, rfl⟩
      by_cases h3 : sm = name
      rotate_left
      · have H : Hid (r = rawE s name (k + 1)) := ha.out.trans (rawE_step hlt (fun h => h3 (hsm.trans h.2.2.1)))
        have hb : ¬ sm.toList = name.toList := fun e => h3 (toList_inj' e)
        clear ha
        go_wp2_with (go_at_call 68; refine (rsmall_any _ hes _).mono ?_; rintro e w1 ⟨rfl, hB1⟩; rw [← hsm])
        all_goals go_light
        all_goals first
          | (refine ⟨⟨k + 1, by omega, by go_num, H, hid (hB.out.trans (hB1.mono hB.out.size))⟩, ?_⟩; simp [intOf]; omega)
          | (exfalso; simp_all; done)
      rw [h3] at hsm
      have HS := hid hsm
      clear hsm h3
      by_cases h4 : k + 2 + name.size = s.size
      · have H : Hid (r = k) := ha.out.trans (rawE_hit hlt ⟨hA, h2, HS.out.symm, .inl h4⟩)
        have e4 : ((k : Int) + 2 + name.size == s.size) = true := by rw [beq_iff_eq]; omega
        clear ha h4
        go_wp2_with (go_at_call 68; refine (rsmall_any _ hes _).mono ?_; rintro e w1 ⟨rfl, hB1⟩; rw [← HS.out])
        all_goals go_light
        all_goals first
          | (go_ret; exact ⟨retn (by rw [H.out]), hB.out.trans (hB1.mono hB.out.size)⟩)
          | (exfalso; simp_all; done)
      have h5 : k + 2 + name.size < s.size := by omega
      have e4 : ((k : Int) + 2 + name.size == s.size) = false := by rw [beq_eq_false_iff_ne]; omega
      obtain ⟨t, ht⟩ : ∃ t, k + 2 + name.size = t := ⟨_, rfl⟩
      obtain ⟨c, hc⟩ : ∃ c, s[k + 2 + name.size].toNat = c := ⟨_, rfl⟩
      have hbt : bt s (k + 2 + name.size) = c := by rw [bt_lt h5, hc]
      cases hin : inTagB c
      · have H : Hid (r = k) := ha.out.trans (rawE_hit hlt ⟨hA, h2, HS.out.symm, .inr (by rw [hbt]; exact hin)⟩)
        have hq3 : blankB c = true ∨ (blankB c = false ∧ (c = 47 ∨ c = 62)) := inTag_no hin
        clear ha h4 ht hbt hin
        rcases hq3 with hq | ⟨hq, h47 | h62⟩
        · go_wp2_with (first | (go_at_call 68; refine (rsmall_any _ hes _).mono ?_; rintro e w1 ⟨rfl, hB1⟩; rw [← HS.out]) | (go_at_call 69; refine (rblank_any _ _).mono ?_; rintro e w' ⟨rfl, rfl⟩; rw [hq]))
          all_goals go_light
          all_goals first
            | (go_ret; exact ⟨retn (by rw [H.out]), hB.out.trans (hB1.mono hB.out.size)⟩)
            | (exfalso; simp_all; done)
        · have n47 : ((c : Int) == 47) = true := by simp [h47]
          clear h47
          go_wp2_with (first | (go_at_call 68; refine (rsmall_any _ hes _).mono ?_; rintro e w1 ⟨rfl, hB1⟩; rw [← HS.out]) | (go_at_call 69; refine (rblank_any _ _).mono ?_; rintro e w' ⟨rfl, rfl⟩; rw [hq]))
          all_goals go_light
          all_goals first
            | (go_ret; exact ⟨retn (by rw [H.out]), hB.out.trans (hB1.mono hB.out.size)⟩)
            | (exfalso; simp_all; done)
        · have n47 : ((c : Int) == 47) = false := by rw [h62]; rfl
          have n62 : ((c : Int) == 62) = true := by simp [h62]
          clear h62
          go_wp2_with (first | (go_at_call 68; refine (rsmall_any _ hes _).mono ?_; rintro e w1 ⟨rfl, hB1⟩; rw [← HS.out]) | (go_at_call 69; refine (rblank_any _ _).mono ?_; rintro e w' ⟨rfl, rfl⟩; rw [hq]))
          all_goals go_light
          all_goals first
            | (go_ret; exact ⟨retn (by rw [H.out]), hB.out.trans (hB1.mono hB.out.size)⟩)
            | (exfalso; simp_all; done)
      · have H : Hid (r = rawE s name (k + 1)) := ha.out.trans (rawE_step hlt (fun h => by
          rcases h.2.2.2 with h | h
          · exact h4 h
          · rw [hbt, hin] at h; cases h))
        obtain ⟨hq, m47, m62⟩ := inTag_parts.1 hin
        have n47 : ((c : Int) == 47) = false := by rw [beq_eq_false_iff_ne]; omega
        have n62 : ((c : Int) == 62) = false := by rw [beq_eq_false_iff_ne]; omega
        clear ha h4 ht hbt hin m47 m62
        go_wp2_with (first | (go_at_call 68; refine (rsmall_any _ hes _).mono ?_; rintro e w1 ⟨rfl, hB1⟩; rw [← HS.out]) | (go_at_call 69; refine (rblank_any _ _).mono ?_; rintro e w' ⟨rfl, rfl⟩; rw [hq]))
        all_goals go_light
        all_goals first
          | (refine ⟨⟨k + 1, by omega, by go_num, H, hid (hB.out.trans (hB1.mono hB.out.size))⟩, ?_⟩; simp [intOf]; omega)
          | (exfalso; simp_all; done)
    · have H : Hid (r = k) := ha.out.trans (rawE_end (by omega))
      go_wp2
      go_ret
      exact ⟨retn (by rw [H.out]), hB.out⟩
end Go.Proofs.YtkaeenafejdkfaaGreatDoor

/- The pieces of a markup as plain mathematics: start tags, and which piece stands at a place. -/
namespace Go.Proofs.YtkaeenafejdkfaaGreatDoor

/-- the attributes of a start tag from a place on, those whose names are none left out, and where the tag ends; none: it has no end -/
def attrsF (ok : ByteArray → Bool) : Nat → ByteArray → Nat → List (ByteArray × ByteArray) → Option (List (ByteArray × ByteArray) × Nat)
  | 0, _, _, _ => none
  | f + 1, s, i, l =>
    let j := spanE betwB s i
    if s.size ≤ j then none else if bt s j = 62 then some (l, j + 1) else
      let a := attrP s j
      if s.size < a.2.2 then none else attrsF ok f s a.2.2 (if ok a.1 then l ++ [(a.1, a.2.1)] else l)
/-- the first of each name -/
def firsts (l : List (ByteArray × ByteArray)) : List (ByteArray × ByteArray) := l.foldl (fun acc x => if acc.any (fun y => y.1 == x.1) then acc else acc ++ [x]) []
theorem firsts_snoc (l : List (ByteArray × ByteArray)) (x : ByteArray × ByteArray) : firsts (l ++ [x]) = if (firsts l).any (fun y => y.1 == x.1) then firsts l else firsts l ++ [x] := by
  unfold firsts; rw [List.foldl_append]; rfl
theorem firsts_le (l : List (ByteArray × ByteArray)) : (firsts l).length ≤ l.length := by
  obtain ⟨n, hn⟩ : ∃ n, n = l.length := ⟨_, rfl⟩
  induction n generalizing l with
  | zero => obtain rfl := List.eq_nil_of_length_eq_zero hn.symm; simp [firsts]
  | succ n ih =>
    rcases List.eq_nil_or_concat l with h | ⟨m, x, h⟩
    · subst h; simp at hn
    · rw [List.concat_eq_append] at h
      subst h
      rw [List.length_append, List.length_singleton] at hn ⊢
      have := ih m (by omega)
      rw [firsts_snoc]
      split
      · omega
      · rw [List.length_append, List.length_singleton]; omega

inductive Pc where
  | text (t : ByteArray) (to : Nat)
  | com (t : ByteArray) (to : Nat)
  | none (to : Nat)
  | fin (name : ByteArray) (to : Nat)
  | start (name : ByteArray) (attrs : List (ByteArray × ByteArray)) (to : Nat)

/-- how far words go that begin at a place -/
def wordN (s : ByteArray) (i : Nat) : Nat := if i < s.size then (if startB s i then i else wordN s (i + 1)) else i
  termination_by s.size - i
theorem wordN_hit {s : ByteArray} {i : Nat} (h : i < s.size) (hb : startB s i = true) : wordN s i = i := by rw [wordN]; simp [h, hb]
theorem wordN_step {s : ByteArray} {i : Nat} (h : i < s.size) (hb : startB s i = false) : wordN s i = wordN s (i + 1) := by rw [wordN]; simp [h, hb]
theorem wordN_end {s : ByteArray} {i : Nat} (h : s.size ≤ i) : wordN s i = i := by rw [wordN]; simp [show ¬ i < s.size by omega]
theorem wordN_le (s : ByteArray) (i : Nat) : i ≤ wordN s i := by
  by_cases h : i < s.size
  · cases hp : startB s i
    · rw [wordN_step h hp]
      have := wordN_le s (i + 1)
      omega
    · rw [wordN_hit h hp]; exact Nat.le_refl _
  · rw [wordN_end (by omega)]; exact Nat.le_refl _
  termination_by s.size - i
theorem wordN_size (s : ByteArray) (i : Nat) (hi : i ≤ s.size) : wordN s i ≤ s.size := by
  by_cases h : i < s.size
  · cases hp : startB s i
    · rw [wordN_step h hp]
      exact wordN_size s (i + 1) h
    · rw [wordN_hit h hp]; exact hi
  · rw [wordN_end (by omega)]; exact hi
  termination_by s.size - i

def mComS : ByteArray := ⟨#[60, 33, 45, 45]⟩
def startP (ok : ByteArray → Bool) (s : ByteArray) (i : Nat) : Pc :=
  let to := spanE inTagB s (i + 1)
  match attrsF ok (s.size + 1) s to [] with
  | some (l, e) => .start (smallS (s.extract (i + 1) to)) l e
  | none => .none s.size
/-- the piece at a place -/
def pieceP (ok : ByteArray → Bool) (s : ByteArray) (i : Nat) : Pc :=
  if startB s i = false then .text (meantS (s.extract i (wordN s (i + 1)))) (wordN s (i + 1))
  else if standsAt ⟨#[60, 33, 45, 45]⟩ s i then
    match findE ⟨#[45, 45, 62]⟩ s (i + 4) with
    | some k => .com (s.extract (i + 4) k) (k + 3)
    | none => .com (s.extract (i + 4) s.size) s.size
  else if bt s (i + 1) = 33 ∨ bt s (i + 1) = 63 then
    match findE ⟨#[62]⟩ s i with
    | some k => .none (k + 1)
    | none => .none s.size
  else if bt s (i + 1) = 47 then
    match endP s i with
    | some (e, name) => .fin name e
    | none => .none s.size
  else startP ok s i
end Go.Proofs.YtkaeenafejdkfaaGreatDoor

/- What pieces make of a tree, as plain mathematics. -/
namespace Go.Proofs.YtkaeenafejdkfaaGreatDoor

def inn (op : List Nat) : Nat := op.headD 0
/-- a new last kid -/
def addN (ns : List Nd) (p : Nat) (n : Nd) : List Nd := match ns[p]? with
  | some m => (ns.set p { m with kids := m.kids ++ [(ns.length : Int)] }) ++ [{ n with parent := p }]
  | none => ns
/-- the text to which one that comes now is joined -/
def textAt (ns : List Nd) (i : Nat) : Option Nat := match ns[i]? with
  | some m => match m.kids.getLast? with
    | some k => match ns[k.toNat]? with
      | some n => if n.kind = 3 then some k.toNat else none
      | none => none
    | none => none
  | none => none
def textN (t : ByteArray) : Nd := ⟨3, ⟨#[]⟩, t, [], -1, []⟩
def comN (t : ByteArray) : Nd := ⟨4, ⟨#[]⟩, t, [], -1, []⟩
def elN (name : ByteArray) (attrs : List (ByteArray × ByteArray)) : Nd := ⟨2, name, ⟨#[]⟩, attrs, -1, []⟩
def joinT (ns : List Nd) (k : Nat) (t : ByteArray) : List Nd := match ns[k]? with
  | some n => ns.set k { n with words := n.words ++ t }
  | none => ns
def textM (ns : List Nd) (p : Nat) (t : ByteArray) : Option (List Nd) := match textAt ns p with
  | some k => some (joinT ns k t)
  | none => if ns.length < 400 then some (addN ns p (textN t)) else none
def comM (ns : List Nd) (p : Nat) (t : ByteArray) : Option (List Nd) := if ns.length < 400 then some (addN ns p (comN t)) else none
def tagOf (ns : List Nd) (i : Nat) : ByteArray := match ns[i]? with
  | some n => n.tag
  | none => ⟨#[]⟩
/-- the innermost open one of some tags is shut, if none of others lies further in -/
def shutM (ns : List Nd) (A B : ByteArray → Bool) (op0 : List Nat) : List Nat → List Nat
  | [] => op0
  | k :: l => if A (tagOf ns k) = true then l else if B (tagOf ns k) = true then op0 else shutM ns A B op0 l

theorem add_get {ns : List Nd} {p : Nat} {n m : Nd} (hp : ns[p]? = some m) (j : Nat) : (addN ns p n)[j]? = if j = ns.length then some { n with parent := p } else if j = p then some { m with kids := m.kids ++ [(ns.length : Int)] } else ns[j]? := by
  have hlt : p < ns.length := (List.getElem?_eq_some_iff.1 hp).1
  unfold addN
  rw [hp]
  simp only
  by_cases hj : j = ns.length
  · subst hj
    rw [if_pos rfl, List.getElem?_append_right (by simp)]
    simp
  · rw [if_neg hj]
    by_cases hj2 : j = p
    · subst hj2
      rw [if_pos rfl, List.getElem?_append_left (by simpa using hlt), List.getElem?_set_self hlt]
    · rw [if_neg hj2]
      rcases Nat.lt_or_ge j ns.length with h | h
      · rw [List.getElem?_append_left (by simpa using h), List.getElem?_set_ne (Ne.symm hj2)]
      · rw [List.getElem?_append_right (by simpa using h), List.getElem?_eq_none (by simp; omega), List.getElem?_eq_none h]
theorem add_len {ns : List Nd} {p : Nat} {n m : Nd} (hp : ns[p]? = some m) : (addN ns p n).length = ns.length + 1 := by
  unfold addN; rw [hp]; simp
/-- made, and put last -/
theorem add_is {ns mid ns' : List Nd} {p c wz : Nat} {fr : Int} {n m : Nd} (hp : ns[p]? = some m) (hn : n.parent = -1) (h1 : Pulled (ns ++ [n]) ns.length mid fr wz) (h2 : Pushed mid ns.length c p ns') (hc : c = m.kids.length) : ns' = addN ns p n := by
  have hlt : p < ns.length := (List.getElem?_eq_some_iff.1 hp).1
  have hnew : (ns ++ [n])[ns.length]? = some n := by simp
  have hmid : mid = ns ++ [n] := by
    cases h1 with
    | root h _ => rfl
    | kid h hp' _ _ _ =>
      obtain rfl := Option.some.inj (hnew.symm.trans h)
      omega
  subst hmid
  cases h2 with
  | @kid n2 m2 _ hm h ha hk =>
    obtain rfl := Option.some.inj (hnew.symm.trans h)
    have hm2 : (ns ++ [n])[p]? = some m := by rw [List.getElem?_append_left hlt]; exact hp
    obtain rfl := Option.some.inj (hm2.symm.trans hm)
    subst hc
    unfold addN
    rw [hp]
    simp only
    rw [List.take_length, List.drop_length, List.set_append_left _ _ hlt]
    have e : ns.length = (ns.set p { m with kids := m.kids ++ [(ns.length : Int)] }).length := by simp
    rw [List.set_append_right _ _ (by simp)]
    simp
theorem WF.chainNew {ns : List Nd} (h : WF ns) {p : Nat} {m : Nd} (hp : ns[p]? = some m) (n : Nd) : ∃ la, Up (ns ++ [n]) p la ∧ ns.length ∉ la := by
  obtain ⟨la, hu⟩ := h.up p m hp
  refine ⟨la, ?_, fun hm => Nat.lt_irrefl _ (hu.lt _ hm)⟩
  clear hp
  induction hu with
  | root h' hp' => exact .root (by rw [List.getElem?_append_left (List.getElem?_eq_some_iff.1 h').1]; exact h') hp'
  | up h' hp' _ ih => exact .up (by rw [List.getElem?_append_left (List.getElem?_eq_some_iff.1 h').1]; exact h') hp' ih
theorem WF.added {ns : List Nd} (h : WF ns) (hl : ns.length < 400) {p : Nat} {m : Nd} (hp : ns[p]? = some m) (n : Nd) (hn : n.parent = -1) (hk : n.kids = []) : WF (addN ns p n) := by
  have hlt : p < ns.length := (List.getElem?_eq_some_iff.1 hp).1
  have h0 : 0 < ns.length := by omega
  have hs := h.snoc hl n hn hk
  obtain ⟨la, hu, hno⟩ := h.chainNew hp n
  have hm2 : (ns ++ [n])[p]? = some m := by rw [List.getElem?_append_left hlt]; exact hp
  have hnew : (ns ++ [n])[ns.length]? = some n := by simp
  have := hs.pushed (k := m.kids.length) hnew hn (by omega) hm2 hu hno
  have e := add_is hp hn (.root hnew hn) (.kid hm2 hnew (by omega) (Nat.le_refl _)) rfl
  rw [← e]; exact this

/-- the open elements, the innermost first: each is the last kid of the next -/
inductive Chain (ns : List Nd) : List Nat → Prop where
  | nil : Chain ns []
  | cons {k : Nat} {n m : Nd} {l : List Nat} (hk : ns[k]? = some n) (h2 : n.kind = 2) (hp : n.parent = inn l) (hm : ns[inn l]? = some m) (hl : m.kids.getLast? = some (k : Int)) (hc : Chain ns l) : Chain ns (k :: l)
theorem Chain.up {ns : List Nd} (hW : WF ns) : ∀ {op : List Nat}, Chain ns op → Up ns (inn op) (op ++ [0])
  | _, .nil => by
    obtain ⟨n, h1, _, h3⟩ := hW.root
    exact .root h1 h3
  | _, .cons hk _ hp _ _ hc => .up hk hp (hc.up hW)
theorem Chain.inner {ns : List Nd} (hW : WF ns) {op : List Nat} (h : Chain ns op) : ∃ m, ns[inn op]? = some m ∧ (m.kind = 1 ∨ m.kind = 2) := by
  cases h with
  | nil =>
    obtain ⟨n, h1, h2, _⟩ := hW.root
    exact ⟨n, h1, .inl h2⟩
  | cons hk h2 _ _ _ _ => exact ⟨_, hk, .inr h2⟩
/-- a new last kid of a node that is none of these -/
theorem Chain.grow {ns : List Nd} {p : Nat} {m : Nd} (hp : ns[p]? = some m) (n : Nd) : ∀ {op : List Nat}, Chain ns op → (∀ x ∈ op.tail ++ [0], op ≠ [] → x ≠ p) → Chain (addN ns p n) op
  | _, .nil, _ => .nil
  | _, .cons (k := k) (n := nk) (m := mk) (l := l) hk h2 hpar hm hl hc, hno => by
    have hkl : k < ns.length := (List.getElem?_eq_some_iff.1 hk).1
    have hil : inn l < ns.length := (List.getElem?_eq_some_iff.1 hm).1
    have hne : inn l ≠ p := hno (inn l) (by cases l <;> simp [inn]) (by simp)
    have hm2 : (addN ns p n)[inn l]? = some mk := by rw [add_get hp, if_neg (by omega), if_neg hne]; exact hm
    have hc2 : Chain (addN ns p n) l := Chain.grow hp n hc (fun x hx hl0 => hno x (by
      cases l with
      | nil => exact absurd rfl hl0
      | cons a b => simp at hx ⊢; exact .inr hx) (by simp))
    by_cases hkp : k = p
    · subst hkp
      obtain rfl := Option.some.inj (hp.symm.trans hk)
      exact .cons (n := { m with kids := m.kids ++ [(ns.length : Int)] }) (by rw [add_get hp, if_neg (by omega), if_pos rfl]) h2 hpar hm2 hl hc2
    · exact .cons (by rw [add_get hp, if_neg (by omega), if_neg hkp]; exact hk) h2 hpar hm2 hl hc2
theorem Chain.add {ns : List Nd} (hW : WF ns) {op : List Nat} (h : Chain ns op) {m : Nd} (hp : ns[inn op]? = some m) (n : Nd) : Chain (addN ns (inn op) n) op := by
  refine h.grow hp n (fun x hx hne => ?_)
  have hnd := (h.up hW).nodup
  cases op with
  | nil => exact absurd rfl hne
  | cons k l =>
    rw [List.cons_append, List.nodup_cons] at hnd
    rintro rfl
    exact hnd.1 hx
/-- the new kid is open -/
theorem Chain.open {ns : List Nd} (hW : WF ns) {op : List Nat} (h : Chain ns op) {m : Nd} (hp : ns[inn op]? = some m) (n : Nd) (hn : n.kind = 2) : Chain (addN ns (inn op) n) (ns.length :: op) := by
  have hlt : inn op < ns.length := (List.getElem?_eq_some_iff.1 hp).1
  refine .cons (n := { n with parent := (inn op : Nat) }) (m := { m with kids := m.kids ++ [(ns.length : Int)] }) ?_ hn rfl ?_ ?_ (h.add hW hp n)
  · rw [add_get hp, if_pos rfl]
  · rw [add_get hp, if_neg (by omega), if_pos rfl]
  · simp
/-- attributes or words turn -/
theorem Chain.same {ns ns' : List Nd} (hs : ∀ (j : Nat) (n : Nd), ns[j]? = some n → ∃ n' : Nd, ns'[j]? = some n' ∧ n'.kind = n.kind ∧ n'.parent = n.parent ∧ n'.kids = n.kids) : ∀ {op : List Nat}, Chain ns op → Chain ns' op
  | _, .nil => .nil
  | _, .cons hk h2 hp hm hl hc => by
    obtain ⟨n', a1, a2, a3, _⟩ := hs _ _ hk
    obtain ⟨m', b1, _, _, b4⟩ := hs _ _ hm
    exact .cons a1 (a2.trans h2) (a3.trans hp) b1 (by rw [b4]; exact hl) (hc.same hs)
theorem set_same3 {ns : List Nd} {i : Nat} {n n' : Nd} (hi : ns[i]? = some n) (h1 : n'.kind = n.kind) (h2 : n'.parent = n.parent) (h3 : n'.kids = n.kids) : ∀ (j : Nat) (x : Nd), ns[j]? = some x → ∃ x' : Nd, (ns.set i n')[j]? = some x' ∧ x'.kind = x.kind ∧ x'.parent = x.parent ∧ x'.kids = x.kids := by
  intro j x hj
  by_cases h : i = j
  · subst h
    obtain rfl := Option.some.inj (hi.symm.trans hj)
    exact ⟨n', List.getElem?_set_self (List.getElem?_eq_some_iff.1 hi).1, h1, h2, h3⟩
  · exact ⟨x, by rw [List.getElem?_set_ne h]; exact hj, rfl, rfl, rfl⟩
/-- where an element was shut no text is joined -/
theorem Chain.noText {ns : List Nd} {k : Nat} {l : List Nat} (h : Chain ns (k :: l)) : textAt ns (inn l) = none := by
  cases h with
  | cons hk h2 hp hm hl hc =>
    unfold textAt
    rw [hm]
    simp only [hl, Int.toNat_natCast, hk]
    rw [if_neg (by omega)]
theorem shut_chain {ns : List Nd} {A B : ByteArray → Bool} {op0 : List Nat} (h0 : Chain ns op0) : ∀ {l : List Nat}, Chain ns l → l.length ≤ op0.length → Chain ns (shutM ns A B op0 l) ∧ (shutM ns A B op0 l).length ≤ op0.length ∧ (shutM ns A B op0 l = op0 ∨ textAt ns (inn (shutM ns A B op0 l)) = none)
  | _, .nil, _ => ⟨h0, Nat.le_refl _, .inl rfl⟩
  | _, .cons (k := k) (l := l) hk h2 hp hm hl hc, hlen => by
    unfold shutM
    simp only [List.length_cons] at hlen
    split
    · exact ⟨hc, by omega, .inr (Chain.noText (.cons hk h2 hp hm hl hc))⟩
    · split
      · exact ⟨h0, Nat.le_refl _, .inl rfl⟩
      · exact shut_chain h0 hc (by omega)
end Go.Proofs.YtkaeenafejdkfaaGreatDoor
