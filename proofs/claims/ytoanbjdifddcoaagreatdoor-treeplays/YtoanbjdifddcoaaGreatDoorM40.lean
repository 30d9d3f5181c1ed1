/- What looks at any tree. -/
import Derived.Test.YtoanbjdifddcoaaGreatDoorUUnd
import Derived.Test.YtoanbjdifddcoaaGreatDoorM04
namespace Go.Proofs.YtoanbjdifddcoaaGreatDoor
open Go.RowKit

theorem size_any {w : World} {M : Nat → Lab} {tb : Nat} {nv uv : Value} {ps : List Pn} {us : List Value} (h : Lies w M tb nv uv ps us) :
    Calls Tryz.prog 9 #[.pointer (some ⟨tb, 0, none⟩)] w fun e w' => e = .returned (.int .i64 ps.length) ∧ w' = w := by
  obtain ⟨a, cap, rfl, hc, hm⟩ := h.nodes.shape
  have c0 := h.cell0
  clear h
  go_enter Tryz.func9, Tryz.ntmps9
  go_wp2
  go_ret
  exact ⟨rfl, rfl⟩

set_option maxHeartbeats 1000000 in
theorem kind_any {w : World} {M : Nat → Lab} {tb : Nat} {nv uv : Value} {ps : List Pn} {us : List Value} (h : Lies w M tb nv uv ps us) {i : Nat} {p : Pn} (hp : ps[i]? = some p) :
    Calls Tryz.prog 10 #[.pointer (some ⟨tb, 0, none⟩), .int .i64 i] w fun e w' => e = .returned (.int .i64 p.n.kind) ∧ w' = w := by
  have hb := hasB_of hp
  obtain ⟨nb, cap, rfl, hc, hm, _, _, hi⟩ := h.form hp
  have c0 := h.cell0
  have c4 := (h.cellN rfl (f := 0) hp (by omega) rfl).1
  rw [Nat.add_zero] at c4
  unfold maxLen at hm
  go_enter Tryz.func10, Tryz.ntmps10
  go_wp2_with (go_at_call 45; refine (has_any h _).mono ?_; rintro e w' ⟨rfl, rfl⟩; rw [hb])
  all_goals go_ret
  all_goals exact ⟨rfl, rfl⟩
set_option maxHeartbeats 1000000 in
theorem tag_any {w : World} {M : Nat → Lab} {tb : Nat} {nv uv : Value} {ps : List Pn} {us : List Value} (h : Lies w M tb nv uv ps us) {i : Nat} {p : Pn} (hp : ps[i]? = some p) :
    Calls Tryz.prog 11 #[.pointer (some ⟨tb, 0, none⟩), .int .i64 i] w fun e w' => e = .returned (.string p.n.tag) ∧ w' = w := by
  have hb := hasB_of hp
  obtain ⟨nb, cap, rfl, hc, hm, _, _, hi⟩ := h.form hp
  have c0 := h.cell0
  have c4 := (h.cellN rfl (f := 1) hp (by omega) rfl).1
  unfold maxLen at hm
  go_enter Tryz.func11, Tryz.ntmps11
  go_wp2_with (go_at_call 45; refine (has_any h _).mono ?_; rintro e w' ⟨rfl, rfl⟩; rw [hb])
  all_goals go_ret
  all_goals exact ⟨rfl, rfl⟩
set_option maxHeartbeats 1000000 in
theorem words_any {w : World} {M : Nat → Lab} {tb : Nat} {nv uv : Value} {ps : List Pn} {us : List Value} (h : Lies w M tb nv uv ps us) {i : Nat} {p : Pn} (hp : ps[i]? = some p) :
    Calls Tryz.prog 12 #[.pointer (some ⟨tb, 0, none⟩), .int .i64 i] w fun e w' => e = .returned (.string p.n.words) ∧ w' = w := by
  have hb := hasB_of hp
  obtain ⟨nb, cap, rfl, hc, hm, _, _, hi⟩ := h.form hp
  have c0 := h.cell0
  have c4 := (h.cellN rfl (f := 2) hp (by omega) rfl).1
  unfold maxLen at hm
  go_enter Tryz.func12, Tryz.ntmps12
  go_wp2_with (go_at_call 45; refine (has_any h _).mono ?_; rintro e w' ⟨rfl, rfl⟩; rw [hb])
  all_goals go_ret
  all_goals exact ⟨rfl, rfl⟩

set_option maxHeartbeats 1000000 in
set_option maxRecDepth 100000 in
theorem cloneA_any {w : World} {M : Nat → Lab} {l : Lab} {v : Value} {at_ : List (ByteArray × ByteArray)} (h : Row w M l 79 2 v at_.length (attrCells at_)) (hn : at_.length ≤ 1099511627776) :
    Calls Tryz.prog 46 #[v] w fun e w' => ∃ v', e = .returned v' ∧ w'.ownsRow w.heap.size 79 2 v' at_.length (attrCells at_) ∧ Below w.heap.size w w' := by
  obtain ⟨i0, hi, hz0, hz1, hz2⟩ := info_parts Tryz.infoAttr
  have qs : ∀ (w : World) (a : Option Addr) (n c n' c' : Nat), (binOp .eql 37 (.slice a n c) (.slice none n' c')).run Tryz.prog w = .ok (.bool a.isNone) w := fun w a n c n' c' => Lib.run_eql_slice_nil w _ _ a n c n' c' Tryz.underlying37
  have HS : Hid (SrcOf w 2 v at_.length (attrCells at_)) := h.src (one_attr _)
  obtain ⟨hl, a, cap, rfl, h1, h2, h3⟩ := id h
  have hz : a = none → at_ = [] := by
    intro e
    subst e
    rcases h3 with ⟨h3, _⟩ | ⟨g, cur, ha, _⟩
    · exact List.eq_nil_of_length_eq_zero (by omega)
    · cases ha
  clear h hl h3
  unfold maxLen at h2
  cases a with
  | none =>
    have hz' := hz rfl
    subst hz'
    clear hz
    go_enter Tryz.func46, Tryz.ntmps46
    go_wp2
    go_ret
    exact ⟨_, rfl, World.ownsRow_nil _ _ _ _, Below.refl _ _⟩
  | some ad =>
    have hown : Hid ((w.alloc (.cells #[] 79)).ownsRow w.heap.size 79 2 (.slice (some ⟨w.heap.size, 0, none⟩) 0 0) 0 []) := World.ownsRow_made w #[] 0 (Nat.le_refl _) (by unfold maxLen; omega) rfl
    clear hz
    go_enter Tryz.func46, Tryz.ntmps46
    go_wp2_with (at_builtin; refine wpList_app_own _ (by rfl) _ _ 37 (by rfl) w.heap.size 79 i0 _ 2 32 Tryz.underlying37 hi hz0 hz1 hz2 rfl (by decide) (.slice (some ⟨w.heap.size, 0, none⟩) 0 0) 0 [] (by rfl) hown.out (.slice (some ad) at_.length cap) at_.length (attrCells at_) (by rfl) (HS.out.below ((Below.refl _ _).alloc (Nat.le_refl _) _)) (by unfold maxLen; omega) (by omega) (by simp) ?_; intro v' w' hv hg _; have HV : Hid _ := And.intro hv hg; clear hv hg)
    go_ret
    refine ⟨_, rfl, by simpa using HV.out.1, ?_⟩
    exact ((Below.refl _ _).alloc (Nat.le_refl _) _).grown HV.out.2 (by simp) (fun k hk => by simp [Value.ownBlock] at hk; omega)

set_option maxHeartbeats 1000000 in
theorem attrs_any {w : World} {M : Nat → Lab} {tb : Nat} {nv uv : Value} {ps : List Pn} {us : List Value} (h : Lies w M tb nv uv ps us) {i : Nat} {p : Pn} (hp : ps[i]? = some p) (hk : p.n.attrs.length ≤ 1099511627776) :
    Calls Tryz.prog 15 #[.pointer (some ⟨tb, 0, none⟩), .int .i64 i] w fun e w' => ∃ v', e = .returned v' ∧ w'.ownsRow w.heap.size 79 2 v' p.n.attrs.length (attrCells p.n.attrs) ∧ Below w.heap.size w w' := by
  have hb := hasB_of hp
  obtain ⟨nb, cap, rfl, hc, hm, _, _, hi⟩ := h.form hp
  have c0 := h.cell0
  have c3 := (h.cellN rfl (f := 3) hp (by omega) rfl).1
  have hr := (h.node i p hp).1
  obtain ⟨ka, kc, hkv, _, _⟩ := hr.shape
  rw [hkv] at c3
  have HR : Hid (Row w M (.attrs i) 79 2 (.slice ka p.n.attrs.length kc) p.n.attrs.length (attrCells p.n.attrs)) := hkv ▸ hr
  have H : Hid (Lies w M tb (.slice (some ⟨nb, 0, none⟩) ps.length cap) uv ps us) := h
  unfold maxLen at hm
  clear h hr hkv
  go_enter Tryz.func15, Tryz.ntmps15
  go_wp2_with (first
    | (go_at_call 45; refine (has_any H.out _).mono ?_; rintro e w' ⟨rfl, rfl⟩; rw [hb])
    | (go_at_call 46; refine (cloneA_any HR.out hk).mono ?_; rintro e w1 ⟨v1, rfl, ho, hB⟩))
  go_ret
  exact ⟨_, rfl, ho, hB⟩

theorem flat_le {α : Type} (l : List α) (g : α → List Int) (k : Nat) : ((l.take k).flatMap g).length ≤ (l.flatMap g).length := by
  have e : (l.take k ++ l.drop k).flatMap g = l.flatMap g := by rw [List.take_append_drop]
  rw [← e, List.flatMap_append, List.length_append]
  omega
theorem flat_succ {α : Type} {l : List α} {k : Nat} {x : α} (h : l[k]? = some x) (g : α → List Int) : (l.take (k + 1)).flatMap g = (l.take k).flatMap g ++ g x := by
  obtain ⟨hk, rfl⟩ := List.getElem?_eq_some_iff.1 h
  rw [List.take_succ_eq_append_getElem hk, List.flatMap_append]
  simp

def UndPost (w0 : World) (l : List Int) (e : Ending) (w' : World) : Prop := ∃ v', e = .returned v' ∧ w'.ownsRow w0.heap.size 3 1 v' l.length (l.map intV) ∧ Below w0.heap.size w0 w'

set_option maxHeartbeats 4000000 in
set_option maxRecDepth 100000 in
theorem under_any {w0 : World} {M : Nat → Lab} {tb : Nat} {nv uv : Value} {ps : List Pn} {us : List Value} (h : Lies w0 M tb nv uv ps us) (hs : WF (nodesOf ps)) : ∀ (f i : Nat), i < ps.length → rkU (nodesOf ps) i < f → ∀ (w : World) (v : Value) (xs : List Int) (x : Int), x = i → Below w0.heap.size w0 w → w.ownsRow w0.heap.size 3 1 v xs.length (xs.map intV) → xs.length + (und (nodesOf ps) f i).length ≤ 1000000000 →
    Calls Tryz.prog 48 #[.pointer (some ⟨tb, 0, none⟩), v, .int .i64 x] w (UndPost w0 (xs ++ und (nodesOf ps) f i)) := by
  obtain ⟨i0, hi, hz0, hz1, hz2⟩ := info_parts Tryz.infoInt
  intro f
  induction f with
  | zero => intro i _ hr; omega
  | succ f ih =>
    intro i hil hr w v xs x hx hB hown hlen
    subst hx
    obtain ⟨p, hp⟩ : ∃ p, ps[i]? = some p := ⟨_, List.getElem?_eq_getElem hil⟩
    have hpn := nodes_get hp
    rw [und_succ hpn] at hlen ⊢
    obtain ⟨nb, cap, rfl, hc, hm, _, hnl, _⟩ := h.form hp
    have c0 := (hB.cell (p := ⟨tb, 0, none⟩) (lt_of_heap h.head)).trans h.cell0
    have c5 := (hB.cell (p := ⟨nb, i * 6 + 5, none⟩) hnl).trans (h.cellN rfl (f := 5) hp (by omega) rfl).1
    obtain ⟨ka, kc, hkv, hk1, hk2⟩ := (h.node i p hp).2.shape
    rw [hkv] at c5
    have hlt : tb < w0.heap.size := lt_of_heap h.head
    have HK : Hid (∀ (k : Nat) (y : Int), p.n.kids[k]? = some y → ∃ g b, ka = some ⟨g, 0, none⟩ ∧ g < w0.heap.size ∧ w0.cell? ⟨g, k, none⟩ = some (.int .i64 y) ∧ y = (b : Nat) ∧ b < ps.length ∧ rkU (nodesOf ps) b < f) := by
      intro k y hy
      have hkl : k < p.n.kids.length := (List.getElem?_eq_some_iff.1 hy).1
      obtain ⟨g, c, hv, _, _, _, hg⟩ := (h.node i p hp).2.form (by omega)
      rw [hkv] at hv
      cases hv
      obtain ⟨b, _, e1, e2, _, _, e3⟩ := hs.rank hpn (List.mem_of_getElem? hy)
      exact ⟨g, b, rfl, hg, ((h.node i p hp).2.cell hkv (j := k) (u := .int .i64 y) (by simp [hy, intV])).1, e1, by simpa [nodesOf] using e2, by omega⟩
    have IH : Hid _ := ih
    have HB : Hid (Below w0.heap.size w0 w) := hB
    have HO : Hid (w.ownsRow w0.heap.size 3 1 v xs.length (xs.map intV)) := hown
    have hsz := hB.size
    have htw := Nat.lt_of_lt_of_le hlt hsz
    have hnw := Nat.lt_of_lt_of_le hnl hsz
    have i1 : (0 : Int) ≤ (i : Int) := by omega
    have i2 : (i : Int) < (ps.length : Int) := by omega
    have HL : Hid (∀ k, (xs ++ (i : Int) :: (p.n.kids.take k).flatMap fun x => und (nodesOf ps) f x.toNat).length ≤ 1000000000) := by
      intro k
      have := flat_le p.n.kids (fun x => und (nodesOf ps) f x.toNat) k
      simp only [List.length_append, List.length_cons] at hlen ⊢
      omega
    have hx0 : xs.length < 1000000000 := by simp only [List.length_cons] at hlen; omega
    unfold maxLen at hm hk2
    clear h hs ih hp hpn hB hown hlen
    go_enter Tryz.func48, Tryz.ntmps48
    go_wp2_with (at_builtin; refine wpList_app_own _ (by rfl) _ _ 38 (by rfl) w0.heap.size 3 i0 (.int .i64 0) 1 8 Tryz.underlying38 hi hz0 hz1 hz2 rfl (by decide) v xs.length (xs.map intV) (by rfl) (HO.out.alloc _) _ 1 [.int .i64 i] (by rfl) ⟨rfl, by simp [Value.oneCell'], _, _, rfl, .inr ⟨_, rfl, cell_one_new _ _ _⟩⟩ (by unfold maxLen; omega) (by omega) (by simp; omega) ?_
                 intro v1 w1 hv1 hg1 _
                 have HB1 : Hid (Below w0.heap.size w0 w1) := (HB.out.alloc hsz _).grown hg1 (by simp; omega) (fun k hk => (HO.out.lt k hk).1)
                 have d0 := (HB1.out.cell (p := ⟨tb, 0, none⟩) hlt).trans ((HB.out.cell (p := ⟨tb, 0, none⟩) hlt).symm.trans c0)
                 have d5 := (HB1.out.cell (p := ⟨nb, i * 6 + 5, none⟩) hnl).trans ((HB.out.cell (p := ⟨nb, i * 6 + 5, none⟩) hnl).symm.trans c5)
                 have HV1 : Hid (w1.ownsRow w0.heap.size 3 1 v1 (xs.length + 1) (xs.map intV ++ [.int .i64 i])) := hv1
                 clear hv1 hg1)
    go_loopw [1, 22] (fun lv iv wr => ∃ k : Nat, k ≤ p.n.kids.length ∧ iv = .int .i64 k ∧ Hid (wr.ownsRow w0.heap.size 3 1 lv (xs ++ (i : Int) :: (p.n.kids.take k).flatMap fun x => und (nodesOf ps) f x.toNat).length ((xs ++ (i : Int) :: (p.n.kids.take k).flatMap fun x => und (nodesOf ps) f x.toNat).map intV)) ∧ Hid (Below w0.heap.size w0 wr)) (fun _ iv _ => p.n.kids.length - (intOf iv).toNat)
    case atStart =>
      refine ⟨0, by omega, rfl, ?_, HB1⟩
      show w1.ownsRow _ _ _ _ _ _
      have := HV1.out
      simpa [intV] using this
    case round =>
      obtain ⟨k, hk, rfl, hO, hbel⟩ := hrel
      by_cases hkl : k < p.n.kids.length
      · obtain ⟨y, hy⟩ : ∃ y, p.n.kids[k]? = some y := ⟨_, List.getElem?_eq_getElem hkl⟩
        obtain ⟨g, b, rfl, hg, cy, rfl, hb1, hb2⟩ := HK.out k y hy
        have cy' := (hbel.out.cell (p := ⟨g, k, none⟩) hg).trans cy
        have hll := HL.out (k + 1)
        rw [flat_succ hy] at hll
        have HLL : Hid _ := hll
        have HY : Hid _ := flat_succ hy (fun x => und (nodesOf ps) f x.toNat)
        clear hy cy hll
        go_wp2_with (go_at_call 48; refine (IH.out b hb1 hb2 _ _ _ _ rfl hbel.out hO.out (by have := HLL.out; simp only [List.length_append, List.length_cons, Int.toNat_natCast] at this ⊢; omega)).mono ?_; rintro e w2 ⟨v2, rfl, ho2, hB2⟩; have H2 : Hid _ := And.intro ho2 hB2; clear ho2 hB2)
        go_roundw
        case rel =>
          go_light
          refine ⟨k + 1, by omega, by go_num, ?_, H2.out.2⟩
          show World.ownsRow _ _ _ _ _ _ _
          rw [HY.out]
          have := H2.out.1
          simpa using this
        case measure => go_light; simp [intOf]; omega
      · obtain rfl : k = p.n.kids.length := by omega
        rw [List.take_length] at hO
        obtain ⟨a5, e5, hv5⟩ := own_shape hO.out
        subst hv5
        go_wp2
        go_ret
        exact ⟨_, rfl, hO.out, hbel.out⟩

set_option maxHeartbeats 1000000 in
theorem Under_any {w : World} {M : Nat → Lab} {tb : Nat} {nv uv : Value} {ps : List Pn} {us : List Value} (h : Lies w M tb nv uv ps us) (hs : WF (nodesOf ps)) (f i : Nat) (hi : i < ps.length) (hf : rkU (nodesOf ps) i < f) :
    Calls Tryz.prog 18 #[.pointer (some ⟨tb, 0, none⟩), .int .i64 i] w (UndPost w (und (nodesOf ps) f i)) := by
  have hb : hasB ps.length i = true := hasB_of (List.getElem?_eq_getElem hi)
  have H : Hid (Lies w M tb nv uv ps us) := h
  have hun : (und (nodesOf ps) f i).length ≤ 1000000000 := Nat.le_trans (und_short hs f i (by simpa [nodesOf] using hi)) (Nat.le_trans hs.len (by omega))
  have HC : Hid (Calls Tryz.prog 48 #[.pointer (some ⟨tb, 0, none⟩), .slice none 0 0, .int .i64 i] w (UndPost w ([] ++ und (nodesOf ps) f i))) := under_any h hs f i hi hf w (.slice none 0 0) [] i rfl (Below.refl _ _) (World.ownsRow_nil _ _ _ _) (by simpa using hun)
  clear h hs hun
  go_enter Tryz.func18, Tryz.ntmps18
  go_wp2_with (first
    | (go_at_call 45; refine (has_any H.out _).mono ?_; rintro e w' ⟨rfl, rfl⟩; rw [hb])
    | (go_at_call 48; refine HC.out.mono ?_; rintro e w1 ⟨v1, rfl, ho, hB⟩))
  go_ret
  exact ⟨_, rfl, by simpa using ho, hB⟩


/-- a list of numbers as it lies in memory, whoever made it -/
def IntsAt (w : World) (v : Value) (l : List Int) : Prop := ∃ a c, v = .slice a l.length c ∧ ∀ (k : Nat) (y : Int), l[k]? = some y → ∃ g, a = some ⟨g, 0, none⟩ ∧ w.cell? ⟨g, k, none⟩ = some (.int .i64 y)
def AttrsAt (w : World) (v : Value) (l : List (ByteArray × ByteArray)) : Prop := ∃ a c, v = .slice a l.length c ∧ ∀ (k : Nat) x, l[k]? = some x → ∃ g, a = some ⟨g, 0, none⟩ ∧ w.cell? ⟨g, k * 2, none⟩ = some (.string x.1) ∧ w.cell? ⟨g, k * 2 + 1, none⟩ = some (.string x.2)

theorem Row.ints {w : World} {M : Nat → Lab} {l : Lab} {v : Value} {xs : List Int} (h : Row w M l 3 1 v xs.length (xs.map intV)) : IntsAt w v xs := by
  obtain ⟨a, c, hv, _, _⟩ := h.shape
  refine ⟨a, c, hv, fun k y hy => ?_⟩
  have hkl : k < xs.length := (List.getElem?_eq_some_iff.1 hy).1
  obtain ⟨g, c', hv', _, _, _, hg⟩ := h.form (by omega)
  rw [hv] at hv'
  cases hv'
  exact ⟨g, rfl, (h.cell hv (j := k) (u := .int .i64 y) (by simp [hy, intV])).1⟩
theorem own_ints {w : World} {B : Nat} {v : Value} {xs : List Int} (h : w.ownsRow B 3 1 v xs.length (xs.map intV)) : IntsAt w v xs := by
  obtain ⟨_, a, c, hv, _, _, hc⟩ := own_cell h
  refine ⟨a, c, hv, fun k y hy => ?_⟩
  obtain ⟨g, e1, e2, _⟩ := hc k y hy
  exact ⟨g, e1, e2⟩
theorem Row.attrsAt {w : World} {M : Nat → Lab} {l : Lab} {v : Value} {at_ : List (ByteArray × ByteArray)} (h : Row w M l 79 2 v at_.length (attrCells at_)) : AttrsAt w v at_ := by
  obtain ⟨a, c, hv, _, _⟩ := h.shape
  refine ⟨a, c, hv, fun k y hy => ?_⟩
  have hkl : k < at_.length := (List.getElem?_eq_some_iff.1 hy).1
  obtain ⟨g, c', hv', _, _, _, hg⟩ := h.form (by omega)
  rw [hv] at hv'
  cases hv'
  obtain ⟨q1, q2⟩ := attrCells_get at_ k y hy
  exact ⟨g, rfl, (h.cell hv q1).1, (h.cell hv q2).1⟩
theorem own_attrs {w : World} {B : Nat} {v : Value} {at_ : List (ByteArray × ByteArray)} (h : w.ownsRow B 79 2 v at_.length (attrCells at_)) : AttrsAt w v at_ := by
  obtain ⟨a, c, hv⟩ := own_shape h
  refine ⟨a, c, hv, fun k y hy => ?_⟩
  have hkl : k < at_.length := (List.getElem?_eq_some_iff.1 hy).1
  rcases h.2 with ⟨_, e⟩ | ⟨g, cap, cur, hv', _⟩
  · omega
  · rw [hv] at hv'
    cases hv'
    obtain ⟨q1, q2⟩ := attrCells_get at_ k y hy
    have hc := h.cells (g := g) (by rw [hv]; rfl)
    refine ⟨g, rfl, ?_, ?_⟩
    · have := hc _ _ q1; rwa [add0] at this
    · have := hc _ _ q2; rwa [add0] at this
theorem IntsAt.below {w w' : World} {v : Value} {l : List Int} (h : IntsAt w v l) (hb : Below w.heap.size w w') : IntsAt w' v l := by
  obtain ⟨a, c, hv, hc⟩ := h
  refine ⟨a, c, hv, fun k y hy => ?_⟩
  obtain ⟨g, e1, e2⟩ := hc k y hy
  exact ⟨g, e1, (hb.cell (World.block_lt_of_cell? w _ e2)).trans e2⟩
theorem AttrsAt.below {w w' : World} {v : Value} {l : List (ByteArray × ByteArray)} (h : AttrsAt w v l) (hb : Below w.heap.size w w') : AttrsAt w' v l := by
  obtain ⟨a, c, hv, hc⟩ := h
  refine ⟨a, c, hv, fun k y hy => ?_⟩
  obtain ⟨g, e1, e2, e3⟩ := hc k y hy
  exact ⟨g, e1, (hb.cell (World.block_lt_of_cell? w _ e2)).trans e2, (hb.cell (World.block_lt_of_cell? w _ e3)).trans e3⟩

set_option maxHeartbeats 4000000 in
set_option maxRecDepth 100000 in
theorem sameInts_any {w : World} {v u : Value} {l : List Int} (hv : IntsAt w v l) (hu : IntsAt w u l) (hl : l.length ≤ 1099511627776) :
    Calls Tryz.prog 16 #[v, u] w fun e w' => e = .returned (.bool true) ∧ Below w.heap.size w w' := by
  obtain ⟨a, c, rfl, ha⟩ := hv
  obtain ⟨b, d, rfl, hb⟩ := hu
  have HA : Hid _ := ha
  have HB : Hid _ := hb
  clear ha hb
  go_enter Tryz.func16, Tryz.ntmps16
  go_wp2
  go_loopw [5] (fun i wr => ∃ k : Nat, k ≤ l.length ∧ i = .int .i64 k ∧ Hid (Below w.heap.size w wr)) (fun i _ => l.length - (intOf i).toNat)
  case atStart => exact ⟨0, by omega, rfl, Below.refl _ _⟩
  case round =>
    obtain ⟨k, hk, rfl, hbel⟩ := hrel
    by_cases hlt : k < l.length
    · obtain ⟨y, hy⟩ : ∃ y, l[k]? = some y := ⟨_, List.getElem?_eq_getElem hlt⟩
      obtain ⟨g, rfl, e1⟩ := HA.out k y hy
      obtain ⟨g2, rfl, e2⟩ := HB.out k y hy
      have e1' := (hbel.out.cell (p := ⟨g, k, none⟩) (World.block_lt_of_cell? w _ e1)).trans e1
      have e2' := (hbel.out.cell (p := ⟨g2, k, none⟩) (World.block_lt_of_cell? w _ e2)).trans e2
      clear hy e1 e2
      go_wp2
      go_quiet (fail)
      go_wp2
      go_roundw
      case rel => exact ⟨k + 1, by omega, by go_num, below_drewN hbel.out _⟩
      case measure => simp [intOf]; omega
    · go_wp2
      go_ret
      exact ⟨rfl, hbel.out⟩
end Go.Proofs.YtoanbjdifddcoaaGreatDoor

/- A node is copied with all that lies in it: what comes of it, as plain mathematics. -/
namespace Go.Proofs.YtoanbjdifddcoaaGreatDoor

/-- a node as a root without kids -/
def bareN (n : Nd) : Nd := ⟨n.kind, n.tag, n.words, n.attrs, -1, []⟩
/-- one more of a list of nodes is doubled -/
inductive Dbl1 (ns : List Nd) (all : List Int) (k : Nat) (s : List Nd) : List Nd → Prop where
  | first {c : Nat} {n : Nd} (hk : k = 0) (hc : all[k]? = some (c : Int)) (hn : ns[c]? = some n) : Dbl1 ns all k s (s ++ [bareN n])
  | next {c j : Nat} {n m : Nd} (hk : 0 < k) (hc : all[k]? = some (c : Int)) (hn : ns[c]? = some n) (hj : all[j]? = some n.parent) (hjk : j < k) (hm : s[ns.length + j]? = some m) :
      Dbl1 ns all k s (s.set (ns.length + j) { m with kids := m.kids ++ [((ns.length + k : Nat) : Int)] } ++ [{ bareN n with parent := ((ns.length + j : Nat) : Int) }])
/-- so many of them are -/
inductive DblN (ns : List Nd) (all : List Int) : Nat → List Nd → Prop where
  | zero : DblN ns all 0 ns
  | succ {k : Nat} {s s' : List Nd} (h : DblN ns all k s) (h1 : Dbl1 ns all k s s') : DblN ns all (k + 1) s'

theorem nodup_at {l : List Int} (hl : l.Nodup) {i j : Nat} {x : Int} (hi : l[i]? = some x) (hj : l[j]? = some x) : i = j := by
  obtain ⟨h1, e1⟩ := List.getElem?_eq_some_iff.1 hi
  obtain ⟨h2, e2⟩ := List.getElem?_eq_some_iff.1 hj
  rcases Nat.lt_trichotomy i j with h | h | h
  · exact absurd (e1.trans e2.symm) (List.pairwise_iff_getElem.1 hl i j h1 h2 h)
  · exact h
  · exact absurd (e2.trans e1.symm) (List.pairwise_iff_getElem.1 hl j i h2 h1 h)

theorem Dbl1.det {ns : List Nd} {all : List Int} (hl : all.Nodup) {k : Nat} {s s1 s2 : List Nd} (h1 : Dbl1 ns all k s s1) (h2 : Dbl1 ns all k s s2) : s1 = s2 := by
  cases h1 with
  | first hk hc hn =>
    cases h2 with
    | first hk' hc' hn' =>
      have e := Int.ofNat.inj (Option.some.inj (hc.symm.trans hc'))
      subst e
      obtain rfl := Option.some.inj (hn.symm.trans hn')
      rfl
    | next hk' => omega
  | next hk hc hn hj hjk hm =>
    cases h2 with
    | first hk' => omega
    | next hk' hc' hn' hj' hjk' hm' =>
      have e := Int.ofNat.inj (Option.some.inj (hc.symm.trans hc'))
      subst e
      obtain rfl := Option.some.inj (hn.symm.trans hn')
      obtain rfl := nodup_at hl hj hj'
      obtain rfl := Option.some.inj (hm.symm.trans hm')
      rfl
theorem DblN.det {ns : List Nd} {all : List Int} (hl : all.Nodup) : ∀ {k : Nat} {s1 s2 : List Nd}, DblN ns all k s1 → DblN ns all k s2 → s1 = s2
  | 0, _, _, .zero, .zero => rfl
  | _ + 1, _, _, .succ h1 k1, .succ h2 k2 => by
    have e := DblN.det hl h1 h2
    subst e
    exact k1.det hl k2

theorem set_snoc {s : List Nd} {b b' m' : Nd} {c : Nat} (hc : c < s.length) : ((s ++ [b]).set c m').set s.length b' = s.set c m' ++ [b'] := by
  apply List.ext_getElem?
  intro j
  rw [List.getElem?_set, List.getElem?_set, List.getElem?_append, List.getElem?_append, List.getElem?_set]
  simp only [List.length_set, List.length_append, List.length_singleton]
  by_cases h1 : s.length = j
  · subst h1; simp
  · by_cases h2 : c = j
    · subst h2; simp [hc, h1]; omega
    · simp only [h1, h2, if_false]
      by_cases h3 : j < s.length
      · simp [h3]
      · simp only [h3, if_false]
        rw [List.getElem?_eq_none (by simp; omega), List.getElem?_eq_none (by simp; omega)]

theorem DblN.len {ns : List Nd} {all : List Int} : ∀ {k : Nat} {s : List Nd}, DblN ns all k s → s.length = ns.length + k
  | 0, _, .zero => rfl
  | _ + 1, _, .succ h h1 => by
    have := h.len
    cases h1 with
    | first => simp [this]; omega
    | next => simp [this]; omega
theorem DblN.old {ns : List Nd} {all : List Int} : ∀ {k : Nat} {s : List Nd}, DblN ns all k s → ∀ c, c < ns.length → s[c]? = ns[c]?
  | 0, _, .zero, _, _ => rfl
  | _ + 1, _, .succ h h1, c, hc => by
    have hl := h.len
    have ih := h.old c hc
    cases h1 with
    | first => rw [List.getElem?_append_left (by omega)]; exact ih
    | next => rw [List.getElem?_append_left (by rw [List.length_set]; omega), List.getElem?_set_ne (by omega)]; exact ih
theorem DblN.kids {ns : List Nd} {all : List Int} (hW : ∀ (j : Nat) (n : Nd), ns[j]? = some n → n.kids.length ≤ 400) : ∀ {k : Nat} {s : List Nd}, DblN ns all k s → ∀ (j : Nat) (n : Nd), s[j]? = some n → n.kids.length ≤ 400 + k
  | 0, _, .zero, j, n, hn => hW j n hn
  | k + 1, _, .succ (s := s) h h1, j, n, hn => by
    have ih := h.kids hW
    cases h1 with
    | first =>
      by_cases hj : j < s.length
      · rw [List.getElem?_append_left hj] at hn; have := ih j n hn; omega
      · rw [List.getElem?_append_right (by omega)] at hn
        rcases Nat.eq_zero_or_pos (j - s.length) with e | e
        · rw [e] at hn; cases hn; simp [bareN]
        · rw [List.getElem?_eq_none (by simp; omega)] at hn; cases hn
    | @next c j0 n0 m hk hc hn0 hj0 hjk hm =>
      by_cases hj : j < s.length
      · rw [List.getElem?_append_left (by rw [List.length_set]; exact hj)] at hn
        by_cases e : ns.length + j0 = j
        · subst e
          rw [List.getElem?_set_self hj] at hn
          cases hn
          have := ih _ _ hm
          simp
          omega
        · rw [List.getElem?_set_ne e] at hn; have := ih j n hn; omega
      · rw [List.getElem?_append_right (by rw [List.length_set]; omega)] at hn
        rw [List.length_set] at hn
        rcases Nat.eq_zero_or_pos (j - s.length) with e | e
        · rw [e] at hn; cases hn; simp [bareN]
        · rw [List.getElem?_eq_none (by simp; omega)] at hn; cases hn
end Go.Proofs.YtoanbjdifddcoaaGreatDoor
