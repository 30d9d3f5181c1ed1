/- What looks at any tree. -/
import Derived.Test.YtnoaojjljcbflaaGreatDoorM10
import Derived.Test.YtnoaojjljcbflaaGreatDoorM05
import Derived.Test.YtnoaojjljcbflaaGreatDoorM03
import Derived.Laws.EntriesVeiled
namespace Go.Proofs.YtnoaojjljcbflaaGreatDoor
open Go.RowKit

theorem size_any {w : World} {M : Nat → Lab} {tb : Nat} {nv uv : Value} {ps : List Pn} {us : List Value} (h : Lies w M tb nv uv ps us) :
    Calls Tryz.prog 49 #[.pointer (some ⟨tb, 0, none⟩)] w fun e w' => e = .returned (.int .i64 ps.length) ∧ w' = w := by
  obtain ⟨a, cap, rfl, hc, hm⟩ := h.nodes.shape
  have c0 := h.cell0
  clear h
  go_enter Tryz.func49, Tryz.ntmps49
  go_wp2
  go_ret
  exact ⟨rfl, rfl⟩

set_option maxHeartbeats 1000000 in
theorem kind_any {w : World} {M : Nat → Lab} {tb : Nat} {nv uv : Value} {ps : List Pn} {us : List Value} (h : Lies w M tb nv uv ps us) {i : Nat} {p : Pn} (hp : ps[i]? = some p) :
    Calls Tryz.prog 32 #[.pointer (some ⟨tb, 0, none⟩), .int .i64 i] w fun e w' => e = .returned (.int .i64 p.n.kind) ∧ w' = w := by
  have hb := hasB_of hp
  obtain ⟨nb, cap, rfl, hc, hm, _, _, hi⟩ := h.form hp
  have c0 := h.cell0
  have c4 := (h.cellN rfl (f := 0) hp (by omega) rfl).1
  rw [Nat.add_zero] at c4
  unfold maxLen at hm
  go_enter Tryz.func32, Tryz.ntmps32
  go_wp2_with (go_at_call 73; refine (has_any h _).mono ?_; rintro e w' ⟨rfl, rfl⟩; rw [hb])
  all_goals go_ret
  all_goals exact ⟨rfl, rfl⟩
set_option maxHeartbeats 1000000 in
theorem tag_any {w : World} {M : Nat → Lab} {tb : Nat} {nv uv : Value} {ps : List Pn} {us : List Value} (h : Lies w M tb nv uv ps us) {i : Nat} {p : Pn} (hp : ps[i]? = some p) :
    Calls Tryz.prog 50 #[.pointer (some ⟨tb, 0, none⟩), .int .i64 i] w fun e w' => e = .returned (.string p.n.tag) ∧ w' = w := by
  have hb := hasB_of hp
  obtain ⟨nb, cap, rfl, hc, hm, _, _, hi⟩ := h.form hp
  have c0 := h.cell0
  have c4 := (h.cellN rfl (f := 1) hp (by omega) rfl).1
  unfold maxLen at hm
  go_enter Tryz.func50, Tryz.ntmps50
  go_wp2_with (go_at_call 73; refine (has_any h _).mono ?_; rintro e w' ⟨rfl, rfl⟩; rw [hb])
  all_goals go_ret
  all_goals exact ⟨rfl, rfl⟩
set_option maxHeartbeats 1000000 in
theorem words_any {w : World} {M : Nat → Lab} {tb : Nat} {nv uv : Value} {ps : List Pn} {us : List Value} (h : Lies w M tb nv uv ps us) {i : Nat} {p : Pn} (hp : ps[i]? = some p) :
    Calls Tryz.prog 51 #[.pointer (some ⟨tb, 0, none⟩), .int .i64 i] w fun e w' => e = .returned (.string p.n.words) ∧ w' = w := by
  have hb := hasB_of hp
  obtain ⟨nb, cap, rfl, hc, hm, _, _, hi⟩ := h.form hp
  have c0 := h.cell0
  have c4 := (h.cellN rfl (f := 2) hp (by omega) rfl).1
  unfold maxLen at hm
  go_enter Tryz.func51, Tryz.ntmps51
  go_wp2_with (go_at_call 73; refine (has_any h _).mono ?_; rintro e w' ⟨rfl, rfl⟩; rw [hb])
  all_goals go_ret
  all_goals exact ⟨rfl, rfl⟩

set_option maxHeartbeats 1000000 in
set_option maxRecDepth 100000 in
theorem cloneA_any {w : World} {M : Nat → Lab} {l : Lab} {v : Value} {at_ : List (ByteArray × ByteArray)} (h : Row w M l 81 2 v at_.length (attrCells at_)) (hn : at_.length ≤ 1099511627776) :
    Calls Tryz.prog 96 #[v] w fun e w' => ∃ v', e = .returned v' ∧ w'.ownsRow w.heap.size 81 2 v' at_.length (attrCells at_) ∧ Below w.heap.size w w' := by
  obtain ⟨i0, hi, hz0, hz1, hz2⟩ := info_parts Tryz.infoAttr
  have qs : ∀ (w : World) (a : Option Addr) (n c n' c' : Nat), (binOp .eql 47 (.slice a n c) (.slice none n' c')).run Tryz.prog w = .ok (.bool a.isNone) w := fun w a n c n' c' => Lib.run_eql_slice_nil w _ _ a n c n' c' Tryz.underlying47
  have HS : Hid (SrcOf w 2 v at_.length (attrCells at_)) := h.src (one_attr _)
  obtain ⟨hl, a, cap, rfl, h1, h2, h3⟩ := id h
  have hz : a = none → at_ = [] := by
    intro e
    subst e
    rcases h3 with ⟨h3, _⟩ | ⟨g, cur, ha, _⟩
    · exact List.eq_nil_of_length_eq_zero (by omega)
    · cases ha
  clear h hl h3
  unfold maxLen at h2
  cases a with
  | none =>
    have hz' := hz rfl
    subst hz'
    clear hz
    go_enter Tryz.func96, Tryz.ntmps96
    go_wp2
    go_ret
    exact ⟨_, rfl, World.ownsRow_nil _ _ _ _, Below.refl _ _⟩
  | some ad =>
    have hown : Hid ((w.alloc (.cells #[] 81)).ownsRow w.heap.size 81 2 (.slice (some ⟨w.heap.size, 0, none⟩) 0 0) 0 []) := World.ownsRow_made w #[] 0 (Nat.le_refl _) (by unfold maxLen; omega) rfl
    clear hz
    go_enter Tryz.func96, Tryz.ntmps96
    go_wp2_with (at_builtin; refine wpList_app_own _ (by rfl) _ _ 47 (by rfl) w.heap.size 81 i0 _ 2 32 Tryz.underlying47 hi hz0 hz1 hz2 rfl (by decide) (.slice (some ⟨w.heap.size, 0, none⟩) 0 0) 0 [] (by rfl) hown.out (.slice (some ad) at_.length cap) at_.length (attrCells at_) (by rfl) (HS.out.below ((Below.refl _ _).alloc (Nat.le_refl _) _)) (by unfold maxLen; omega) (by omega) (by simp) ?_; intro v' w' hv hg _; have HV : Hid _ := And.intro hv hg; clear hv hg)
    go_ret
    refine ⟨_, rfl, by simpa using HV.out.1, ?_⟩
    exact ((Below.refl _ _).alloc (Nat.le_refl _) _).grown HV.out.2 (by simp) (fun k hk => by simp [Value.ownBlock] at hk; omega)

set_option maxHeartbeats 1000000 in
theorem attrs_any {w : World} {M : Nat → Lab} {tb : Nat} {nv uv : Value} {ps : List Pn} {us : List Value} (h : Lies w M tb nv uv ps us) {i : Nat} {p : Pn} (hp : ps[i]? = some p) (hk : p.n.attrs.length ≤ 1099511627776) :
    Calls Tryz.prog 53 #[.pointer (some ⟨tb, 0, none⟩), .int .i64 i] w fun e w' => ∃ v', e = .returned v' ∧ w'.ownsRow w.heap.size 81 2 v' p.n.attrs.length (attrCells p.n.attrs) ∧ Below w.heap.size w w' := by
  have hb := hasB_of hp
  obtain ⟨nb, cap, rfl, hc, hm, _, _, hi⟩ := h.form hp
  have c0 := h.cell0
  have c3 := (h.cellN rfl (f := 3) hp (by omega) rfl).1
  have hr := (h.node i p hp).1
  obtain ⟨ka, kc, hkv, _, _⟩ := hr.shape
  rw [hkv] at c3
  have HR : Hid (Row w M (.attrs i) 81 2 (.slice ka p.n.attrs.length kc) p.n.attrs.length (attrCells p.n.attrs)) := hkv ▸ hr
  have H : Hid (Lies w M tb (.slice (some ⟨nb, 0, none⟩) ps.length cap) uv ps us) := h
  unfold maxLen at hm
  clear h hr hkv
  go_enter Tryz.func53, Tryz.ntmps53
  go_wp2_with (first
    | (go_at_call 73; refine (has_any H.out _).mono ?_; rintro e w' ⟨rfl, rfl⟩; rw [hb])
    | (go_at_call 96; refine (cloneA_any HR.out hk).mono ?_; rintro e w1 ⟨v1, rfl, ho, hB⟩))
  go_ret
  exact ⟨_, rfl, ho, hB⟩

theorem flat_le {α : Type} (l : List α) (g : α → List Int) (k : Nat) : ((l.take k).flatMap g).length ≤ (l.flatMap g).length := by
  have e : (l.take k ++ l.drop k).flatMap g = l.flatMap g := by rw [List.take_append_drop]
  rw [← e, List.flatMap_append, List.length_append]
  omega
theorem flat_succ {α : Type} {l : List α} {k : Nat} {x : α} (h : l[k]? = some x) (g : α → List Int) : (l.take (k + 1)).flatMap g = (l.take k).flatMap g ++ g x := by
  obtain ⟨hk, rfl⟩ := List.getElem?_eq_some_iff.1 h
  rw [List.take_succ_eq_append_getElem hk, List.flatMap_append]
  simp

def UndPost (w0 : World) (l : List Int) (e : Ending) (w' : World) : Prop := ∃ v', e = .returned v' ∧ w'.ownsRow w0.heap.size 3 1 v' l.length (l.map intV) ∧ Below w0.heap.size w0 w'

set_option maxHeartbeats 4000000 in
set_option maxRecDepth 100000 in
theorem under_any {w0 : World} {M : Nat → Lab} {tb : Nat} {nv uv : Value} {ps : List Pn} {us : List Value} (h : Lies w0 M tb nv uv ps us) (hs : WF (nodesOf ps)) : ∀ (f i : Nat), i < ps.length → rkU (nodesOf ps) i < f → ∀ (w : World) (v : Value) (xs : List Int) (x : Int), x = i → Below w0.heap.size w0 w → w.ownsRow w0.heap.size 3 1 v xs.length (xs.map intV) → xs.length + (und (nodesOf ps) f i).length ≤ 1000000000 →
    Calls Tryz.prog 97 #[.pointer (some ⟨tb, 0, none⟩), v, .int .i64 x] w (UndPost w0 (xs ++ und (nodesOf ps) f i)) := by
  obtain ⟨i0, hi, hz0, hz1, hz2⟩ := info_parts Tryz.infoInt
  intro f
  induction f with
  | zero => intro i _ hr; omega
  | succ f ih =>
    intro i hil hr w v xs x hx hB hown hlen
    subst hx
    obtain ⟨p, hp⟩ : ∃ p, ps[i]? = some p := ⟨_, List.getElem?_eq_getElem hil⟩
    have hpn := nodes_get hp
    rw [und_succ hpn] at hlen ⊢
    obtain ⟨nb, cap, rfl, hc, hm, _, hnl, _⟩ := h.form hp
    have c0 := (hB.cell (p := ⟨tb, 0, none⟩) (lt_of_heap h.head)).trans h.cell0
    have c5 := (hB.cell (p := ⟨nb, i * 6 + 5, none⟩) hnl).trans (h.cellN rfl (f := 5) hp (by omega) rfl).1
    obtain ⟨ka, kc, hkv, hk1, hk2⟩ := (h.node i p hp).2.shape
    rw [hkv] at c5
    have hlt : tb < w0.heap.size := lt_of_heap h.head
    have HK : Hid (∀ (k : Nat) (y : Int), p.n.kids[k]? = some y → ∃ g b, ka = some ⟨g, 0, none⟩ ∧ g < w0.heap.size ∧ w0.cell? ⟨g, k, none⟩ = some (.int .i64 y) ∧ y = (b : Nat) ∧ b < ps.length ∧ rkU (nodesOf ps) b < f) := by
      intro k y hy
      have hkl : k < p.n.kids.length := (List.getElem?_eq_some_iff.1 hy).1
      obtain ⟨g, c, hv, _, _, _, hg⟩ := (h.node i p hp).2.form (by omega)
      rw [hkv] at hv
      cases hv
      obtain ⟨b, _, e1, e2, _, _, e3⟩ := hs.rank hpn (List.mem_of_getElem? hy)
      exact ⟨g, b, rfl, hg, ((h.node i p hp).2.cell hkv (j := k) (u := .int .i64 y) (by simp [hy, intV])).1, e1, by simpa [nodesOf] using e2, by omega⟩
    have IH : Hid _ := ih
    have HB : Hid (Below w0.heap.size w0 w) := hB
    have HO : Hid (w.ownsRow w0.heap.size 3 1 v xs.length (xs.map intV)) := hown
    have hsz := hB.size
    have htw := Nat.lt_of_lt_of_le hlt hsz
    have hnw := Nat.lt_of_lt_of_le hnl hsz
    have i1 : (0 : Int) ≤ (i : Int) := by omega
    have i2 : (i : Int) < (ps.length : Int) := by omega
    have HL : Hid (∀ k, (xs ++ (i : Int) :: (p.n.kids.take k).flatMap fun x => und (nodesOf ps) f x.toNat).length ≤ 1000000000) := by
      intro k
      have := flat_le p.n.kids (fun x => und (nodesOf ps) f x.toNat) k
      simp only [List.length_append, List.length_cons] at hlen ⊢
      omega
    have hx0 : xs.length < 1000000000 := by simp only [List.length_cons] at hlen; omega
    unfold maxLen at hm hk2
    clear h hs ih hp hpn hB hown hlen
    go_enter Tryz.func97, Tryz.ntmps97
    go_wp2_with (at_builtin; refine wpList_app_own _ (by rfl) _ _ 48 (by rfl) w0.heap.size 3 i0 (.int .i64 0) 1 8 Tryz.underlying48 hi hz0 hz1 hz2 rfl (by decide) v xs.length (xs.map intV) (by rfl) (HO.out.alloc _) _ 1 [.int .i64 i] (by rfl) ⟨rfl, by simp [Value.oneCell'], _, _, rfl, .inr ⟨_, rfl, cell_one_new _ _ _⟩⟩ (by unfold maxLen; omega) (by omega) (by simp; omega) ?_
                 intro v1 w1 hv1 hg1 _
                 have HB1 : Hid (Below w0.heap.size w0 w1) := (HB.out.alloc hsz _).grown hg1 (by simp; omega) (fun k hk => (HO.out.lt k hk).1)
                 have d0 := (HB1.out.cell (p := ⟨tb, 0, none⟩) hlt).trans ((HB.out.cell (p := ⟨tb, 0, none⟩) hlt).symm.trans c0)
                 have d5 := (HB1.out.cell (p := ⟨nb, i * 6 + 5, none⟩) hnl).trans ((HB.out.cell (p := ⟨nb, i * 6 + 5, none⟩) hnl).symm.trans c5)
                 have HV1 : Hid (w1.ownsRow w0.heap.size 3 1 v1 (xs.length + 1) (xs.map intV ++ [.int .i64 i])) := hv1
                 clear hv1 hg1)
    go_loopw [1, 22] (fun lv iv wr => ∃ k : Nat, k ≤ p.n.kids.length ∧ iv = .int .i64 k ∧ Hid (wr.ownsRow w0.heap.size 3 1 lv (xs ++ (i : Int) :: (p.n.kids.take k).flatMap fun x => und (nodesOf ps) f x.toNat).length ((xs ++ (i : Int) :: (p.n.kids.take k).flatMap fun x => und (nodesOf ps) f x.toNat).map intV)) ∧ Hid (Below w0.heap.size w0 wr)) (fun _ iv _ => p.n.kids.length - (intOf iv).toNat)
    case atStart =>
      refine ⟨0, by omega, rfl, ?_, HB1⟩
      show w1.ownsRow _ _ _ _ _ _
      have := HV1.out
      simpa [intV] using this
    case round =>
      obtain ⟨k, hk, rfl, hO, hbel⟩ := hrel
      by_cases hkl : k < p.n.kids.length
      · obtain ⟨y, hy⟩ : ∃ y, p.n.kids[k]? = some y := ⟨_, List.getElem?_eq_getElem hkl⟩
        obtain ⟨g, b, rfl, hg, cy, rfl, hb1, hb2⟩ := HK.out k y hy
        have cy' := (hbel.out.cell (p := ⟨g, k, none⟩) hg).trans cy
        have hll := HL.out (k + 1)
        rw [flat_succ hy] at hll
        have HLL : Hid _ := hll
        have HY : Hid _ := flat_succ hy (fun x => und (nodesOf ps) f x.toNat)
        clear hy cy hll
        go_wp2_with (go_at_call 97; refine (IH.out b hb1 hb2 _ _ _ _ rfl hbel.out hO.out (by have := HLL.out; simp only [List.length_append, List.length_cons, Int.toNat_natCast] at this ⊢; omega)).mono ?_; rintro e w2 ⟨v2, rfl, ho2, hB2⟩; have H2 : Hid _ := And.intro ho2 hB2; clear ho2 hB2)
        go_roundw
        case rel =>
          go_light
          refine ⟨k + 1, by omega, by go_num, ?_, H2.out.2⟩
          show World.ownsRow _ _ _ _ _ _ _
          rw [HY.out]
          have := H2.out.1
          simpa using this
        case measure => go_light; simp [intOf]; omega
      · obtain rfl : k = p.n.kids.length := by omega
        rw [List.take_length] at hO
        obtain ⟨a5, e5, hv5⟩ := own_shape hO.out
        subst hv5
        go_wp2
        go_ret
        exact ⟨_, rfl, hO.out, hbel.out⟩

set_option maxHeartbeats 1000000 in
theorem Under_any {w : World} {M : Nat → Lab} {tb : Nat} {nv uv : Value} {ps : List Pn} {us : List Value} (h : Lies w M tb nv uv ps us) (hs : WF (nodesOf ps)) (f i : Nat) (hi : i < ps.length) (hf : rkU (nodesOf ps) i < f) :
    Calls Tryz.prog 55 #[.pointer (some ⟨tb, 0, none⟩), .int .i64 i] w (UndPost w (und (nodesOf ps) f i)) := by
  have hb : hasB ps.length i = true := hasB_of (List.getElem?_eq_getElem hi)
  have H : Hid (Lies w M tb nv uv ps us) := h
  have hun : (und (nodesOf ps) f i).length ≤ 1000000000 := Nat.le_trans (und_short hs f i (by simpa [nodesOf] using hi)) (Nat.le_trans hs.len (by omega))
  have HC : Hid (Calls Tryz.prog 97 #[.pointer (some ⟨tb, 0, none⟩), .slice none 0 0, .int .i64 i] w (UndPost w ([] ++ und (nodesOf ps) f i))) := under_any h hs f i hi hf w (.slice none 0 0) [] i rfl (Below.refl _ _) (World.ownsRow_nil _ _ _ _) (by simpa using hun)
  clear h hs hun
  go_enter Tryz.func55, Tryz.ntmps55
  go_wp2_with (first
    | (go_at_call 73; refine (has_any H.out _).mono ?_; rintro e w' ⟨rfl, rfl⟩; rw [hb])
    | (go_at_call 97; refine HC.out.mono ?_; rintro e w1 ⟨v1, rfl, ho, hB⟩))
  go_ret
  exact ⟨_, rfl, by simpa using ho, hB⟩


/-- a list of numbers as it lies in memory, whoever made it -/
def IntsAt (w : World) (v : Value) (l : List Int) : Prop := ∃ a c, v = .slice a l.length c ∧ ∀ (k : Nat) (y : Int), l[k]? = some y → ∃ g, a = some ⟨g, 0, none⟩ ∧ w.cell? ⟨g, k, none⟩ = some (.int .i64 y)
def AttrsAt (w : World) (v : Value) (l : List (ByteArray × ByteArray)) : Prop := ∃ a c, v = .slice a l.length c ∧ ∀ (k : Nat) x, l[k]? = some x → ∃ g, a = some ⟨g, 0, none⟩ ∧ w.cell? ⟨g, k * 2, none⟩ = some (.string x.1) ∧ w.cell? ⟨g, k * 2 + 1, none⟩ = some (.string x.2)

theorem Row.ints {w : World} {M : Nat → Lab} {l : Lab} {v : Value} {xs : List Int} (h : Row w M l 3 1 v xs.length (xs.map intV)) : IntsAt w v xs := by
  obtain ⟨a, c, hv, _, _⟩ := h.shape
  refine ⟨a, c, hv, fun k y hy => ?_⟩
  have hkl : k < xs.length := (List.getElem?_eq_some_iff.1 hy).1
  obtain ⟨g, c', hv', _, _, _, hg⟩ := h.form (by omega)
  rw [hv] at hv'
  cases hv'
  exact ⟨g, rfl, (h.cell hv (j := k) (u := .int .i64 y) (by simp [hy, intV])).1⟩
theorem own_ints {w : World} {B : Nat} {v : Value} {xs : List Int} (h : w.ownsRow B 3 1 v xs.length (xs.map intV)) : IntsAt w v xs := by
  obtain ⟨_, a, c, hv, _, _, hc⟩ := own_cell h
  refine ⟨a, c, hv, fun k y hy => ?_⟩
  obtain ⟨g, e1, e2, _⟩ := hc k y hy
  exact ⟨g, e1, e2⟩
theorem Row.attrsAt {w : World} {M : Nat → Lab} {l : Lab} {v : Value} {at_ : List (ByteArray × ByteArray)} (h : Row w M l 81 2 v at_.length (attrCells at_)) : AttrsAt w v at_ := by
  obtain ⟨a, c, hv, _, _⟩ := h.shape
  refine ⟨a, c, hv, fun k y hy => ?_⟩
  have hkl : k < at_.length := (List.getElem?_eq_some_iff.1 hy).1
  obtain ⟨g, c', hv', _, _, _, hg⟩ := h.form (by omega)
  rw [hv] at hv'
  cases hv'
  obtain ⟨q1, q2⟩ := attrCells_get at_ k y hy
  exact ⟨g, rfl, (h.cell hv q1).1, (h.cell hv q2).1⟩
theorem own_attrs {w : World} {B : Nat} {v : Value} {at_ : List (ByteArray × ByteArray)} (h : w.ownsRow B 81 2 v at_.length (attrCells at_)) : AttrsAt w v at_ := by
  obtain ⟨a, c, hv⟩ := own_shape h
  refine ⟨a, c, hv, fun k y hy => ?_⟩
  have hkl : k < at_.length := (List.getElem?_eq_some_iff.1 hy).1
  rcases h.2 with ⟨_, e⟩ | ⟨g, cap, cur, hv', _⟩
  · omega
  · rw [hv] at hv'
    cases hv'
    obtain ⟨q1, q2⟩ := attrCells_get at_ k y hy
    have hc := h.cells (g := g) (by rw [hv]; rfl)
    refine ⟨g, rfl, ?_, ?_⟩
    · have := hc _ _ q1; rwa [add0] at this
    · have := hc _ _ q2; rwa [add0] at this
theorem IntsAt.below {w w' : World} {v : Value} {l : List Int} (h : IntsAt w v l) (hb : Below w.heap.size w w') : IntsAt w' v l := by
  obtain ⟨a, c, hv, hc⟩ := h
  refine ⟨a, c, hv, fun k y hy => ?_⟩
  obtain ⟨g, e1, e2⟩ := hc k y hy
  exact ⟨g, e1, (hb.cell (World.block_lt_of_cell? w _ e2)).trans e2⟩
theorem AttrsAt.below {w w' : World} {v : Value} {l : List (ByteArray × ByteArray)} (h : AttrsAt w v l) (hb : Below w.heap.size w w') : AttrsAt w' v l := by
  obtain ⟨a, c, hv, hc⟩ := h
  refine ⟨a, c, hv, fun k y hy => ?_⟩
  obtain ⟨g, e1, e2, e3⟩ := hc k y hy
  exact ⟨g, e1, (hb.cell (World.block_lt_of_cell? w _ e2)).trans e2, (hb.cell (World.block_lt_of_cell? w _ e3)).trans e3⟩

set_option maxHeartbeats 4000000 in
set_option maxRecDepth 100000 in
theorem sameInts_any {w : World} {v u : Value} {l : List Int} (hv : IntsAt w v l) (hu : IntsAt w u l) (hl : l.length ≤ 1099511627776) :
    Calls Tryz.prog 54 #[v, u] w fun e w' => e = .returned (.bool true) ∧ Below w.heap.size w w' := by
  obtain ⟨a, c, rfl, ha⟩ := hv
  obtain ⟨b, d, rfl, hb⟩ := hu
  have HA : Hid _ := ha
  have HB : Hid _ := hb
  clear ha hb
  go_enter Tryz.func54, Tryz.ntmps54
  go_wp2
  go_loopw [5] (fun i wr => ∃ k : Nat, k ≤ l.length ∧ i = .int .i64 k ∧ Hid (Below w.heap.size w wr)) (fun i _ => l.length - (intOf i).toNat)
  case atStart => exact ⟨0, by omega, rfl, Below.refl _ _⟩
  case round =>
    obtain ⟨k, hk, rfl, hbel⟩ := hrel
    by_cases hlt : k < l.length
    · obtain ⟨y, hy⟩ : ∃ y, l[k]? = some y := ⟨_, List.getElem?_eq_getElem hlt⟩
      obtain ⟨g, rfl, e1⟩ := HA.out k y hy
      obtain ⟨g2, rfl, e2⟩ := HB.out k y hy
      have e1' := (hbel.out.cell (p := ⟨g, k, none⟩) (World.block_lt_of_cell? w _ e1)).trans e1
      have e2' := (hbel.out.cell (p := ⟨g2, k, none⟩) (World.block_lt_of_cell? w _ e2)).trans e2
      clear hy e1 e2
      go_wp2
      go_quiet (fail)
      go_wp2
      go_roundw
      case rel => exact ⟨k + 1, by omega, by go_num, below_drewN hbel.out _⟩
      case measure => simp [intOf]; omega
    · go_wp2
      go_ret
      exact ⟨rfl, hbel.out⟩
end Go.Proofs.YtnoaojjljcbflaaGreatDoor

/- Elements, texts and comments; what undoes the making of a node; nothing can be undone any more. -/
namespace Go.Proofs.YtnoaojjljcbflaaGreatDoor
open Go.RowKit

set_option maxHeartbeats 2000000 in
theorem element_good {w : World} {M : Nat → Lab} {tb : Nat} {nv uv : Value} {ps : List Pn} {us : List Value} (h : Lies w M tb nv uv ps us) (hn : ps.length < 400) (hu : us.length ≤ 1099511627776) (tag : ByteArray) (ht : nameB tag = true) :
    Calls Tryz.prog 38 #[.pointer (some ⟨tb, 0, none⟩), .string tag] w (Made w M tb ps us (newP 2 tag ⟨#[]⟩)) := by
  have H : Hid (Lies w M tb nv uv ps us) := h
  clear h
  go_enter Tryz.func38, Tryz.ntmps38
  go_wp2_with (first
    | (go_at_call 80; refine (name_any _ _).mono ?_; rintro e w' ⟨rfl, rfl⟩; rw [ht])
    | (go_at_call 81; refine (create_good H.out hn hu 2 tag ⟨#[]⟩ (by decide)).mono ?_; rintro e w' ⟨rfl, M', nv', uv', f, h1, h2, h3⟩))
  go_ret2
  exact ⟨rfl, M', nv', uv', f, h1, h2, h3⟩

set_option maxHeartbeats 2000000 in
theorem element_bad {w : World} {M : Nat → Lab} {tb : Nat} {nv uv : Value} {ps : List Pn} {us : List Value} (h : Lies w M tb nv uv ps us) (hE : Errs w M) (hn : ps.length ≤ 400) (tag : ByteArray) (hbad : nameB tag = false ∨ ps.length = 400) :
    Calls Tryz.prog 38 #[.pointer (some ⟨tb, 0, none⟩), .string tag] w fun e w' => ∃ v, e = .returned (.tuple #[.int .i64 0, v]) ∧ isErr v ∧ Below w.heap.size w w' := by
  obtain ⟨t, a, hc⟩ := hE.cell 5 (by decide)
  have H : Hid (Lies w M tb nv uv ps us) := h
  have HE : Hid (Errs w M) := hE
  clear h hE
  cases ht : nameB tag
  · go_enter Tryz.func38, Tryz.ntmps38
    go_wp2_with (go_at_call 80; refine (name_any _ _).mono ?_; rintro e w' ⟨rfl, rfl⟩; rw [ht])
    go_quiet (fail)
    go_wp2
    go_ret2
    exact ⟨_, rfl, ⟨t, a, rfl⟩, below_drewN (Below.refl _ _) _⟩
  · have h4 : ps.length = 400 := by rcases hbad with h | h; · rw [ht] at h; cases h
                                    · exact h
    go_enter Tryz.func38, Tryz.ntmps38
    go_wp2_with (first
      | (go_at_call 80; refine (name_any _ _).mono ?_; rintro e w' ⟨rfl, rfl⟩; rw [ht])
      | (go_at_call 81; refine (create_bad H.out HE.out hn 2 tag ⟨#[]⟩ (.inr h4)).mono ?_; rintro e w' ⟨v, rfl, ⟨t2, a2, rfl⟩, hB⟩))
    go_ret2
    exact ⟨_, rfl, ⟨t2, a2, rfl⟩, hB⟩

set_option maxHeartbeats 2000000 in
theorem text_good {w : World} {M : Nat → Lab} {tb : Nat} {nv uv : Value} {ps : List Pn} {us : List Value} (h : Lies w M tb nv uv ps us) (hn : ps.length < 400) (hu : us.length ≤ 1099511627776) (words : ByteArray) (hw : words.size ≤ 20000) :
    Calls Tryz.prog 40 #[.pointer (some ⟨tb, 0, none⟩), .string words] w (Made w M tb ps us (newP 3 ⟨#[]⟩ words)) := by
  have H : Hid (Lies w M tb nv uv ps us) := h
  clear h
  go_enter Tryz.func40, Tryz.ntmps40
  go_wp2_with (go_at_call 81; refine (create_good H.out hn hu 3 ⟨#[]⟩ words hw).mono ?_; rintro e w' ⟨rfl, M', nv', uv', f, h1, h2, h3⟩)
  go_ret2
  exact ⟨rfl, M', nv', uv', f, h1, h2, h3⟩
set_option maxHeartbeats 2000000 in
theorem comment_good {w : World} {M : Nat → Lab} {tb : Nat} {nv uv : Value} {ps : List Pn} {us : List Value} (h : Lies w M tb nv uv ps us) (hn : ps.length < 400) (hu : us.length ≤ 1099511627776) (words : ByteArray) (hw : words.size ≤ 20000) :
    Calls Tryz.prog 39 #[.pointer (some ⟨tb, 0, none⟩), .string words] w (Made w M tb ps us (newP 4 ⟨#[]⟩ words)) := by
  have H : Hid (Lies w M tb nv uv ps us) := h
  clear h
  go_enter Tryz.func39, Tryz.ntmps39
  go_wp2_with (go_at_call 81; refine (create_good H.out hn hu 4 ⟨#[]⟩ words hw).mono ?_; rintro e w' ⟨rfl, M', nv', uv', f, h1, h2, h3⟩)
  go_ret2
  exact ⟨rfl, M', nv', uv', f, h1, h2, h3⟩

set_option maxHeartbeats 1000000 in
theorem settle_any {w : World} {M : Nat → Lab} {tb : Nat} {nv uv : Value} {ps : List Pn} {us : List Value} (h : Lies w M tb nv uv ps us) :
    Calls Tryz.prog 45 #[.pointer (some ⟨tb, 0, none⟩)] w fun e w' => e = .returned (.tuple #[]) ∧ Lies w' M tb nv (.slice none 0 0) ps [] ∧ Moved w M w' M := by
  have c1 := h.cell1
  have f1 := h.frozen 1
  have HR : Hid _ := h.headUndos (uv' := .slice none 0 0) (us' := []) (w1 := w) (M1 := M) ⟨rfl, rfl, rfl, Nat.le_refl _, fun _ _ => rfl, h.fresh, fun _ _ _ => rfl⟩ (Row.nil _ _ _ _ _)
  clear h
  go_enter Tryz.func45, Tryz.ntmps45
  go_wp2
  go_end0
  exact ⟨rfl, HR.out.1, HR.out.2⟩

/-- the last of the kept functions is let go -/
theorem Lies.pop {w : World} {M : Nat → Lab} {tb : Nat} {nv : Value} {ps : List Pn} {us : List Value} {f : Value} {ub uc m : Nat} (h : Lies w M tb nv (.slice (some ⟨ub, 0, none⟩) m uc) ps (us ++ [f])) :
    Lies ((w.setCell ⟨ub, us.length, none⟩ .nilFunc).setCell ⟨tb, 1, none⟩ (.slice (some ⟨ub, 0, none⟩) us.length us.length)) M tb nv (.slice (some ⟨ub, 0, none⟩) us.length us.length) ps us ∧
      Moved w M ((w.setCell ⟨ub, us.length, none⟩ .nilFunc).setCell ⟨tb, 1, none⟩ (.slice (some ⟨ub, 0, none⟩) us.length us.length)) M ∧
      (w.setCell ⟨ub, us.length, none⟩ .nilFunc).cell? ⟨tb, 1, none⟩ = some (.slice (some ⟨ub, 0, none⟩) m uc) ∧ (w.setCell ⟨ub, us.length, none⟩ .nilFunc).frozen? ⟨tb, 1, none⟩ = false := by
  have hl : (us ++ [f]).length = us.length + 1 := by simp
  have hr := h.undos
  rw [hl] at hr
  obtain ⟨g, cap, hv, h1, h2, h3, h4⟩ := hr.form (by omega)
  cases hv
  have st : Step w M (w.setCell ⟨ub, us.length, none⟩ .nilFunc) M .undos := step_setCell _ h3 h.fresh
  have hs := hr.set rfl us.length .nilFunc (by simp)
  have hrow : Row (w.setCell ⟨ub, us.length, none⟩ .nilFunc) M .undos 1 1 (.slice (some ⟨ub, 0, none⟩) us.length us.length) us.length us := by
    obtain ⟨_, a, cap', hv, k1, k2, k3⟩ := hs
    cases hv
    rcases k3 with ⟨e, _⟩ | ⟨g', cur, ha, hM, hg, k4, k5⟩
    · omega
    · refine ⟨by simp, _, us.length, rfl, Nat.le_refl _, by unfold maxLen at *; omega, .inr ⟨g', cur, ha, hM, hg, by omega, ?_⟩⟩
      have := congrArg (List.take us.length) k5
      rw [List.take_take] at this
      simpa [Nat.min_eq_left (Nat.le_succ _)] using this
  have HR := h.headUndos (us' := us) st hrow
  obtain ⟨_, hc1, _, hf1⟩ := head_cell ((st.far tb (lt_of_heap h.head) (by rw [h.tree]; intro e; cases e)).trans h.head)
  exact ⟨HR.1, HR.2, hc1, hf1⟩

theorem zeroNode (w : World) : (zeroValue 126).run Tryz.prog w = .ok (.agg #[.int .i64 0, .string ⟨#[]⟩, .string ⟨#[]⟩, .slice none 0 0, .int .i64 0, .slice none 0 0]) w := by
  obtain ⟨i0, hi, hz0, hz1, hz2⟩ := info_parts Tryz.infoNode
  simp [zeroValue, typeInfo, hi, hz0]

set_option maxHeartbeats 1000000 in
set_option maxRecDepth 100000 in
theorem forget1_any {w : World} {M : Nat → Lab} {tb : Nat} {nv uv : Value} {ps qs : List Pn} {us : List Value} {b1 b2 : Nat} (h : Lies w M tb nv uv (ps ++ qs) us) (hq : 0 < qs.length) (m1 : M b1 = .other) (m2 : M b2 = .other) (k1 : w.cell? ⟨b1, 0, none⟩ = some (.pointer (some ⟨tb, 0, none⟩))) (k2 : w.cell? ⟨b2, 0, none⟩ = some (.int .i64 ps.length)) :
    Calls Tryz.prog 150 #[.pointer (some ⟨b1, 0, none⟩), .pointer (some ⟨b2, 0, none⟩)] w fun e w' => e = .returned (.tuple #[]) ∧ ∃ nv', Lies w' M tb nv' uv ps us ∧ Moved w M w' M := by
  have hnr := h.nodes
  rw [List.length_append, flat_append] at hnr
  obtain ⟨nb, cap, rfl, hc, hm, hnM, hnl⟩ := hnr.form (by omega)
  have hd : Row w.drew M .nodes 126 6 (.slice (some ⟨nb, 0, none⟩) (ps.length + qs.length) cap) (ps.length + qs.length) (flat ps ++ flat qs) := hnr
  obtain ⟨w1, hr1, hrow, st⟩ := clear_tail (P := Tryz.prog) w.drew M .nodes 101 126 _ 6 Tryz.underlying101 zeroNode rfl (by simp [Value.cells, Value.oneCell']) (by decide) nb ps.length qs.length cap (cap - ps.length) (flat ps) (flat qs) hd (flat_length ps) hq h.fresh
  have l1 : b1 < w.heap.size := World.block_lt_of_cell? w _ k1
  have l2 : b2 < w.heap.size := World.block_lt_of_cell? w _ k2
  have j1 : w1.cell? ⟨b1, 0, none⟩ = some (.pointer (some ⟨tb, 0, none⟩)) := (World.cell?_of_block (a := ⟨b1, 0, none⟩) (st.far b1 l1 (by rw [m1]; intro e; cases e))).trans k1
  have j2 : w1.cell? ⟨b2, 0, none⟩ = some (.int .i64 ps.length) := (World.cell?_of_block (a := ⟨b2, 0, none⟩) (st.far b2 l2 (by rw [m2]; intro e; cases e))).trans k2
  have c0 := h.cell0
  obtain ⟨hc0, _, hf0, _⟩ := head_cell ((st.far tb (lt_of_heap h.head) (by rw [h.tree]; intro e; cases e)).trans h.head)
  have HR : Hid _ := h.drew.headNodes st hrow (fun i p hp => h.drew.node i p (by rw [List.getElem?_append_left (List.getElem?_eq_some_iff.1 hp).1]; exact hp))
  have HC : Hid (∀ ty, (Builtin.clear_ #[101] ty #[.slice (some ⟨nb, ps.length * 6, none⟩) qs.length (cap - ps.length)]).run Tryz.prog w.drew = .ok (.tuple #[]) w1) := hr1
  have hne : ¬ cap = ps.length := by omega
  have i1 : (ps.length : Int) ≤ (ps.length : Int) + (qs.length : Int) := by omega
  have i2 : (ps.length : Int) + (qs.length : Int) ≤ (cap : Int) := by omega
  have i3 : (0 : Int) ≤ (ps.length : Int) := by omega
  have i4 : (ps.length : Int) ≤ (cap : Int) := by omega
  unfold maxLen at hm
  clear h hnr hd hr1 hrow st
  go_enter Tryz.func150, Tryz.ntmps150
  go_wp2
  go_region_law ((refine step_clear _ (by rfl) (.tmp 7) 101 (by rfl) (.slice (some ⟨nb, ps.length * 6, none⟩) qs.length (cap - ps.length)) (by simp [Act.eval, Act.put]) w1 HC.out ?_))
  all_goals go_wp2
  all_goals go_region
  all_goals go_wp2
  all_goals go_end0
  all_goals exact ⟨rfl, _, HR.out.1.drew, ((Moved.refl w M).drew.trans HR.out.2).drew⟩

set_option maxHeartbeats 1000000 in
set_option maxRecDepth 100000 in
theorem undo_forget {w : World} {M : Nat → Lab} {tb : Nat} {nv uv : Value} {ps : List Pn} {p : Pn} {us : List Value} {f : Value} (h : Lies w M tb nv uv (ps ++ [p]) (us ++ [f])) (hF : Frg w M f tb ps.length) :
    Calls Tryz.prog 20 #[.pointer (some ⟨tb, 0, none⟩)] w fun e w' => e = .returned (.bool true) ∧ ∃ nv' uv', Lies w' M tb nv' uv' ps us ∧ Moved w M w' M := by
  have hF0 := hF
  obtain ⟨b1, b2, rfl, m1, m2, k1, k2⟩ := hF
  have hul : (us ++ [Value.func (.func 150) #[] #[.pointer (some ⟨b1, 0, none⟩), .pointer (some ⟨b2, 0, none⟩)]]).length = us.length + 1 := by simp
  have hur := h.undos
  rw [hul] at hur
  obtain ⟨ub, uc, rfl, huc, hum, huM, hulb⟩ := hur.form (by omega)
  have c1 := h.cell1
  have cu := (hur.cell rfl (j := us.length) (u := .func (.func 150) #[] #[.pointer (some ⟨b1, 0, none⟩), .pointer (some ⟨b2, 0, none⟩)]) (by simp))
  obtain ⟨cu1, cu2⟩ := cu
  unfold maxLen at hum
  obtain ⟨q1, q2, d1, d2⟩ := h.pop
  obtain ⟨c1', c2', he', m1', m2', k1', k2'⟩ := hF0.moved q2
  cases he'
  have H : Hid _ := And.intro q1 q2
  clear h hur hF0 q1 q2
  go_enter Tryz.func20, Tryz.ntmps20
  go_wp2_with (go_at_call 150; refine (forget1_any H.out.1 (by simp) m1' m2' k1' k2').mono ?_; rintro e w1 ⟨rfl, nv1, hL1, hm1⟩)
  go_ret
  exact ⟨rfl, nv1, _, hL1, H.out.2.trans hm1⟩
end Go.Proofs.YtnoaojjljcbflaaGreatDoor
