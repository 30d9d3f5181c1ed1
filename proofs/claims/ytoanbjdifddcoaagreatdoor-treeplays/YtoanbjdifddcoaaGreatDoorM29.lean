/- The document's answer: where an attribute stands; a list without a number; lists that were just made become a tree's. -/
import Derived.Test.YtoanbjdifddcoaaGreatDoorRMake3
import Derived.BigRegion
import Derived.LoopN
import Derived.Test.YtoanbjdifddcoaaGreatDoorM09
import Derived.Test.YtoanbjdifddcoaaGreatDoorM04
import Derived.Test.YtoanbjdifddcoaaGreatDoorM15
namespace Go.Proofs.YtoanbjdifddcoaaGreatDoor
open Go.RowKit

set_option maxHeartbeats 4000000 in
set_option maxRecDepth 100000 in
theorem at_any {w : World} {M : Nat → Lab} {l : Lab} {v : Value} {at_ : List (ByteArray × ByteArray)} (h : Row w M l 79 2 v at_.length (attrCells at_)) (name : ByteArray) :
    Calls Tryz.prog 44 #[v, .string name] w fun e w' => e = .returned (.int .i64 (findI at_ name)) ∧ w' = w := by
  obtain ⟨a, cap, rfl, h1, h2⟩ := h.shape
  have hcell : Hid (∀ k x, at_[k]? = some x → ∃ g, a = some ⟨g, 0, none⟩ ∧ w.cell? ⟨g, k * 2, none⟩ = some (.string x.1)) := by
    intro k x hk
    have hkl : k < at_.length := (List.getElem?_eq_some_iff.1 hk).1
    obtain ⟨g, c, hv, _, _, _, hg⟩ := h.form (by omega)
    cases hv
    obtain ⟨q1, q2⟩ := attrCells_get at_ k x hk
    exact ⟨g, rfl, (h.cell rfl q1).1⟩
  unfold maxLen at h2
  clear h
  go_enter Tryz.func44, Tryz.ntmps44
  go_wp2
  go_loop [5] (fun i => ∃ k : Nat, k ≤ at_.length ∧ i = .int .i64 k ∧ Hid (∀ j, j < k → ∀ y, at_[j]? = some y → eqS y.1 name = false)) (fun i => at_.length - (intOf i).toNat)
  case atStart => exact ⟨0, by omega, rfl, (fun j hj => absurd hj (by omega) : ∀ j, j < 0 → ∀ y, at_[j]? = some y → eqS y.1 name = false)⟩
  case round =>
    obtain ⟨k, hk, rfl, hno⟩ := hrel
    by_cases hkl : k < at_.length
    · obtain ⟨x, hx⟩ : ∃ x, at_[k]? = some x := ⟨_, List.getElem?_eq_getElem hkl⟩
      obtain ⟨g, rfl, c1⟩ := hcell.out k x hx
      cases he : eqS x.1 name
      · have HN : Hid (∀ j, j < k + 1 → ∀ y, at_[j]? = some y → eqS y.1 name = false) := by
          intro j hj y hy
          by_cases hjk : j = k
          · subst hjk; obtain rfl := Option.some.inj (hy.symm.trans hx); exact he
          · exact hno.out j (by omega) y hy
        unfold eqS at he
        clear hx
        go_wp2
        go_round
        case rel => exact ⟨k + 1, by omega, by go_num, HN⟩
        case measure => simp [intOf]; omega
      · have HF : Hid (findI at_ name = k) := by
          show findI at_ name = k
          simp only [findI, findI_some hx he hno.out]
        unfold eqS at he
        clear hx
        go_wp2
        go_ret
        exact ⟨ret_int HF.out.symm, rfl⟩
    · have HF : Hid (findI at_ name = -1) := by
        show findI at_ name = -1
        simp only [findI, findI_none (fun j hj => hno.out j (by omega))]
      go_wp2
      go_ret
      exact ⟨ret_int HF.out.symm, rfl⟩

/-- a list without a number -/
def outOf (l : List Int) (x : Int) : List Int := l.filter fun y => y != x
theorem outOf_none {l : List Int} {x : Int} (h : x ∉ l) : outOf l x = l := by
  unfold outOf
  rw [List.filter_eq_self]
  intro y hy
  simp only [bne_iff_ne, ne_eq]
  exact fun e => h (e ▸ hy)
theorem outOf_take {l : List Int} {k : Nat} {y x : Int} (h : l[k]? = some y) : outOf (l.take (k + 1)) x = outOf (l.take k) x ++ (if y = x then [] else [y]) := by
  obtain ⟨hk, rfl⟩ := List.getElem?_eq_some_iff.1 h
  unfold outOf
  rw [List.take_succ_eq_append_getElem hk, List.filter_append]
  congr 1
  by_cases e : l[k] = x
  · simp [e]
  · simp [e]

set_option maxHeartbeats 4000000 in
set_option maxRecDepth 100000 in
theorem without_any {w : World} {M : Nat → Lab} {l : Lab} {v : Value} {n : Nat} {xs : List Int} (h : Row w M l 3 1 v n (xs.map intV)) (x : Int) (hn : n ≤ 1099511627776) :
    Calls Tryz.prog 59 #[v, .int .i64 x] w fun e w' => ∃ v', e = .returned v' ∧ w'.ownsRow w.heap.size 3 1 v' (outOf xs x).length ((outOf xs x).map intV) ∧ Below w.heap.size w w' := by
  obtain ⟨i0, hi, hz0, hz1, hz2⟩ := info_parts Tryz.infoInt
  have hln : xs.length = n := by have := h.1; simpa using this
  subst hln
  obtain ⟨a, cap, rfl, h1, h2⟩ := h.shape
  have hcell : Hid (∀ (k : Nat) y, xs[k]? = some y → ∃ g, a = some ⟨g, 0, none⟩ ∧ g < w.heap.size ∧ w.cell? ⟨g, k, none⟩ = some (.int .i64 y)) := by
    intro k y hk
    have hkl : k < xs.length := (List.getElem?_eq_some_iff.1 hk).1
    obtain ⟨g, c, hv, _, _, _, hg⟩ := h.form (by omega)
    cases hv
    exact ⟨g, rfl, hg, (h.cell rfl (j := k) (u := .int .i64 y) (by simp [hk, intV])).1⟩
  unfold maxLen at h2
  clear h
  go_enter Tryz.func59, Tryz.ntmps59
  go_wp2
  go_loopw [5, 6] (fun out i wr => ∃ k : Nat, k ≤ xs.length ∧ i = .int .i64 k ∧ Hid (wr.ownsRow w.heap.size 3 1 out (outOf (xs.take k) x).length ((outOf (xs.take k) x).map intV)) ∧ Hid (Below w.heap.size w wr)) (fun _ i _ => xs.length - (intOf i).toNat)
  case atStart => exact ⟨0, by omega, rfl, (show w.ownsRow w.heap.size 3 1 (.slice none 0 0) (outOf (xs.take 0) x).length ((outOf (xs.take 0) x).map intV) by simp [outOf]; exact World.ownsRow_nil _ _ _ _), Below.refl _ _⟩
  case round =>
    obtain ⟨k, hk, rfl, hown, hbel⟩ := hrel
    by_cases hlt : k < xs.length
    · obtain ⟨y, hy⟩ : ∃ y, xs[k]? = some y := ⟨_, List.getElem?_eq_getElem hlt⟩
      obtain ⟨g, rfl, hg, c1⟩ := hcell.out k y hy
      have c1' := (hbel.out.cell (p := ⟨g, k, none⟩) hg).trans c1
      have hll : (outOf (xs.take k) x).length ≤ xs.length := Nat.le_trans (List.length_filter_le _ _) (by simp; omega)
      have HT : Hid _ := outOf_take (x := x) hy
      have hgl := Nat.lt_of_lt_of_le hg hbel.out.size
      have hsz := hbel.out.size
      clear hy c1
      by_cases hyx : y = x
      · have hb1 : (y != x) = false := by simp [hyx]
        subst hyx
        go_wp2
        go_roundw
        case rel => exact ⟨k + 1, by omega, by go_num, (by rw [HT.out, if_pos rfl, List.append_nil]; exact hown), hbel⟩
        case measure => simp [intOf]; omega
      · have hb1 : (y != x) = true := by simp [hyx]
        have hb2 : (y == x) = false := by simp [hyx]
        go_wp2_with (at_builtin; refine wpList_app_own _ (by rfl) _ _ 38 (by rfl) w.heap.size 3 i0 (.int .i64 0) 1 8 Tryz.underlying38 hi hz0 hz1 hz2 rfl (by decide) u5 _ _ (by rfl) (hown.out.alloc _) _ 1 [.int .i64 y] (by rfl) ⟨rfl, by simp [Value.oneCell'], _, _, rfl, .inr ⟨_, rfl, cell_one_new _ _ _⟩⟩ (by unfold maxLen; omega) (by omega) (by simp; omega) ?_; intro v1 w1 hv1 hg1 _; have HV : Hid _ := And.intro hv1 hg1; clear hv1 hg1)
        go_roundw
        case rel =>
          go_light
          refine ⟨k + 1, by omega, by go_num, ?_, ?_⟩
          · show _
            rw [HT.out, if_neg hyx, List.length_append, List.map_append]
            exact HV.out.1
          · exact (hbel.out.alloc hsz _).grown HV.out.2 (by simp; omega) (fun b hb => (hown.out.lt b hb).1)
        case measure => go_light; simp [intOf]; omega
    · obtain rfl : k = xs.length := by omega
      rw [List.take_length] at hown
      obtain ⟨a5, e5, hv5⟩ := own_shape hown.out
      subst hv5
      go_wp2
      go_ret
      exact ⟨_, rfl, hown.out, hbel.out⟩

/-- a block that is another's becomes the tree's -/
theorem RLies.relabel {w : World} {M : Nat → Lab} {tb : Nat} {nv uv : Value} {ps : List Pn} {us : List Value} (h : RLies w M tb nv uv ps us) {g : Nat} (hM : M g = .other) (hg : g < w.heap.size) (l : Lab) : RLies w (fun b => if b = g then l else M b) tb nv uv ps us := by
  have ne : ∀ b, M b ≠ .other → b ≠ g := fun b hb e => hb (by rw [e]; exact hM)
  have rw' : ∀ {k : Lab} {e : TypeId} {size n : Nat} {v : Value} {xs : List Value}, k ≠ .other → Row w M k e size v n xs → Row w (fun b => if b = g then l else M b) k e size v n xs := by
    intro k e size n v xs hk hr
    obtain ⟨hl, a, cap, rfl, h1, h2, h3⟩ := hr
    refine ⟨hl, a, cap, rfl, h1, h2, ?_⟩
    rcases h3 with h3 | ⟨g', cur, rfl, hM', hg', h4, h5⟩
    · exact .inl h3
    · refine .inr ⟨g', cur, rfl, ?_, hg', h4, h5⟩
      have : g' ≠ g := ne g' (by rw [hM']; exact hk)
      simp only [if_neg this]
      exact hM'
  refine ⟨fun b hb => ?_, ?_, h.head, rw' (by intro e; cases e) h.nodes, rw' (by intro e; cases e) h.undos, fun i p hp => ⟨rw' (by intro e; cases e) (h.node i p hp).1, rw' (by intro e; cases e) (h.node i p hp).2⟩⟩
  · have : b ≠ g := by omega
    simp only [if_neg this]
    exact h.fresh b hb
  · have : tb ≠ g := ne tb (by rw [h.tree]; intro e; cases e)
    simp only [if_neg this]
    exact h.tree

theorem Step.refl {w : World} {M : Nat → Lab} (hf : ∀ b, w.heap.size ≤ b → M b = .other) (l : Lab) : Step w M w M l := ⟨rfl, rfl, rfl, Nat.le_refl _, fun _ _ => rfl, hf, fun _ _ _ => rfl⟩

/-- a node's kids are another list that was just made -/
theorem RLies.ownKids {w0 w : World} {M0 M : Nat → Lab} {tb : Nat} {nv uv : Value} {ps : List Pn} {us : List Value} (h : RLies w M tb nv uv ps us) (m : Moved w0 M0 w M) {nb k c0 : Nat} (hv : nv = .slice (some ⟨nb, 0, none⟩) k c0) {i : Nat} {p : Pn} (hp : ps[i]? = some p) {B : Nat} {g cap : Nat} {ks : List Int}
    (ho : w.ownsRow B 3 1 (.slice (some ⟨g, 0, none⟩) ks.length cap) ks.length (ks.map intV)) (hB : w0.heap.size ≤ B) (hM : M g = .other) :
    ∃ M', RLies (w.setCell ⟨nb, i * 6 + 5, none⟩ (.slice (some ⟨g, 0, none⟩) ks.length cap)) M' tb nv uv (ps.set i ⟨{ p.n with kids := ks }, p.av, .slice (some ⟨g, 0, none⟩) ks.length cap⟩) us ∧ Moved w0 M0 (w.setCell ⟨nb, i * 6 + 5, none⟩ (.slice (some ⟨g, 0, none⟩) ks.length cap)) M' := by
  obtain ⟨hgB, hgl⟩ := ho.lt g rfl
  have hr := h.relabel hM hgl (.kids i)
  have hrow : Row w (fun b => if b = g then .kids i else M b) (.kids i) 3 1 (.slice (some ⟨g, 0, none⟩) ks.length cap) ks.length (ks.map intV) := by
    rcases ho.2 with ⟨e, _⟩ | ⟨g', cap', cur, e, _, hg', h1, h2, h3, h4⟩
    · cases e
    · cases e
      exact ⟨ho.1, _, _, rfl, h1, h2, .inr ⟨_, cur, rfl, by simp, hg', by omega, h4⟩⟩
  obtain ⟨q1, q2, _⟩ := hr.setKids hv hp (Step.refl hr.fresh (.kids i)) hrow
  refine ⟨_, q1, ?_⟩
  have mr : Moved w0 M0 w (fun b => if b = g then .kids i else M b) := ⟨m.os, m.tape, m.output, m.size, fun b hb => by
    have : b ≠ g := by omega
    simp only [if_neg this]
    exact m.lab b hb, m.far⟩
  exact mr.trans q2
end Go.Proofs.YtoanbjdifddcoaaGreatDoor

/- The document's answer: a node is taken out. -/
namespace Go.Proofs.YtoanbjdifddcoaaGreatDoor
open Go.RowKit

theorem own_moved' {w w' : World} {M M' : Nat → Lab} {B : Nat} {v : Value} {n : Nat} {xs : List Value} (h : w.ownsRow B 3 1 v n xs) (m : Moved w M w' M') (hl : ∀ k, v.ownBlock = some k → M k = .other) : w'.ownsRow B 3 1 v n xs :=
  own_same h fun k hk => m.far k (h.lt k hk).2 (hl k hk)

/-- a node's kids are another list that was just made, or none -/
theorem RLies.ownKids0 {w0 w : World} {M0 M : Nat → Lab} {tb : Nat} {nv uv : Value} {ps : List Pn} {us : List Value} (h : RLies w M tb nv uv ps us) (m : Moved w0 M0 w M) {nb k c0 : Nat} (hv : nv = .slice (some ⟨nb, 0, none⟩) k c0) {i : Nat} {p : Pn} (hp : ps[i]? = some p) {ks : List Int} {v : Value} {B : Nat}
    (ho : w.ownsRow B 3 1 v ks.length (ks.map intV)) (hB : w0.heap.size ≤ B) (hM : ∀ g, v.ownBlock = some g → M g = .other) :
    ∃ M', RLies (w.setCell ⟨nb, i * 6 + 5, none⟩ v) M' tb nv uv (ps.set i ⟨{ p.n with kids := ks }, p.av, v⟩) us ∧ Moved w0 M0 (w.setCell ⟨nb, i * 6 + 5, none⟩ v) M' ∧ (∀ b, b < B → M' b = M b) := by
  rcases id ho.2 with ⟨rfl, e⟩ | ⟨g, cap, cur, rfl, hb, hg, _⟩
  · have hks : ks = [] := List.eq_nil_of_length_eq_zero e
    subst hks
    obtain ⟨q1, q2, _⟩ := h.setKids hv hp (Step.refl h.fresh (.kids i)) (kv' := .slice none 0 0) (ks' := []) (Row.nil _ _ _ _ _)
    exact ⟨M, q1, m.trans q2, fun _ _ => rfl⟩
  · have hgM : M g = .other := hM g rfl
    have hr := h.relabel hgM (lt_of_heap hg) (.kids i)
    have hrow : Row w (fun b => if b = g then .kids i else M b) (.kids i) 3 1 (.slice (some ⟨g, 0, none⟩) ks.length cap) ks.length (ks.map intV) := own_row ho (fun g' e => by cases e; simp)
    obtain ⟨q1, q2, _⟩ := hr.setKids hv hp (Step.refl hr.fresh (.kids i)) hrow
    have mr : Moved w0 M0 w (fun b => if b = g then .kids i else M b) := ⟨m.os, m.tape, m.output, m.size, fun b hb' => by
      have : b ≠ g := by omega
      simp only [if_neg this]
      exact m.lab b hb', m.far⟩
    exact ⟨_, q1, mr.trans q2, fun b hb' => by
      have : b ≠ g := by omega
      simp only [if_neg this]⟩

set_option maxHeartbeats 2000000 in
theorem rtake_none {w : World} {M : Nat → Lab} {tb : Nat} {nv uv : Value} {ps : List Pn} {us : List Value} (h : RLies w M tb nv uv ps us) {a : Int} (hb : hasB ps.length a = false) :
    Calls Tryz.prog 29 #[.pointer (some ⟨tb, 0, none⟩), .int .i64 a] w fun e w' => e = .returned (.int .i64 4) ∧ w' = w := by
  have H : Hid (RLies w M tb nv uv ps us) := h
  clear h
  go_enter Tryz.func29, Tryz.ntmps29
  go_wp2_with (go_at_call 43; refine (rhas_any H.out _).mono ?_; rintro e w' ⟨rfl, rfl⟩; rw [hb])
  go_ret
  exact ⟨rfl, rfl⟩
set_option maxHeartbeats 2000000 in
set_option maxRecDepth 100000 in
theorem rtake_root {w : World} {M : Nat → Lab} {tb : Nat} {nv uv : Value} {ps : List Pn} {us : List Value} (h : RLies w M tb nv uv ps us) {i : Nat} {p : Pn} (hp : ps[i]? = some p) (hr : p.n.parent = -1) :
    Calls Tryz.prog 29 #[.pointer (some ⟨tb, 0, none⟩), .int .i64 i] w fun e w' => e = .returned (.int .i64 5) ∧ w' = w := by
  have hb : hasB ps.length i = true := hasB_of hp
  obtain ⟨nb, nc, rfl, hc, hm, hnM, hnl, hil⟩ := h.form hp
  have c0 := h.cell0
  have k4 := (h.cellN rfl (f := 4) hp (by omega) rfl).1
  rw [hr] at k4
  have H : Hid (RLies w M tb (.slice (some ⟨nb, 0, none⟩) ps.length nc) uv ps us) := h
  have i1 : (0 : Int) ≤ (i : Int) := by omega
  have i2 : (i : Int) < (ps.length : Int) := by omega
  unfold maxLen at hm
  clear h hp
  go_enter Tryz.func29, Tryz.ntmps29
  go_wp2_with (go_at_call 43; refine (rhas_any H.out _).mono ?_; rintro e w' ⟨rfl, rfl⟩; rw [hb])
  go_ret
  exact ⟨rfl, rfl⟩

set_option maxHeartbeats 8000000 in
set_option maxRecDepth 100000 in
theorem rtake_good {w : World} {M : Nat → Lab} {tb : Nat} {nv uv : Value} {ps : List Pn} {us : List Value} (h : RLies w M tb nv uv ps us) (hs : Small ps) (hn : ps.length ≤ 1000000) (hu : us.length ≤ 1000000000) {i q : Nat} {p m : Pn} (hp : ps[i]? = some p) (hq : p.n.parent = q) (hm : ps[q]? = some m) (hqi : q ≠ i) (hkl : m.n.kids.length ≤ 1000000000) :
    Calls Tryz.prog 29 #[.pointer (some ⟨tb, 0, none⟩), .int .i64 i] w fun e w' => e = .returned (.int .i64 0) ∧ RDone w M tb us (nodesOf ps) (((nodesOf ps).set q { m.n with kids := outOf m.n.kids i }).set i { p.n with parent := -1 }) w' := by
  have hb : hasB ps.length i = true := hasB_of hp
  obtain ⟨nb, nc, rfl, hc, hmx, hnM, hnl, hil⟩ := h.form hp
  have hql : q < ps.length := (List.getElem?_eq_some_iff.1 hm).1
  have c0 := h.cell0
  have k4 := (h.cellN rfl (f := 4) hp (by omega) rfl).1
  rw [hq] at k4
  have H : Hid (RLies w M tb (.slice (some ⟨nb, 0, none⟩) ps.length nc) uv ps us) := h
  have HS : Hid (Small ps) := hs
  have HP : Hid (ps[i]? = some p) := hp
  have HM : Hid (ps[q]? = some m) := hm
  obtain ⟨ka, kc, hkv, _, _⟩ := (h.node q m hm).2.shape
  have i1 : (0 : Int) ≤ (i : Int) := by omega
  have i2 : (i : Int) < (ps.length : Int) := by omega
  have i3 : (0 : Int) ≤ (q : Int) := by omega
  have i4 : (q : Int) < (ps.length : Int) := by omega
  unfold maxLen at hmx
  clear h hs hp hm
  go_enter Tryz.func29, Tryz.ntmps29
  go_wp2_with (first
    | (go_at_call 43; refine (rhas_any H.out _).mono ?_; rintro e w' ⟨rfl, hw'⟩; subst hw'; rw [hb])
    | (go_at_call 52; refine (rkeepE_any H.out HS.out hn hu).mono ?_; rintro e w1 ⟨rfl, M1, uv1, v1, l1, m1, kk⟩
       have d0 := l1.cell0
       have d5 := (l1.cellN rfl (f := 5) HM.out (by omega) rfl).1
       rw [hkv] at d5
       have hl1 : nb < w1.heap.size := World.block_lt_of_cell? w1 _ d5
       have hl0 : tb < w1.heap.size := World.block_lt_of_cell? w1 _ d0
       have HR1 : Hid (Row w1.drew M1 (.kids q) 3 1 (.slice ka m.n.kids.length kc) m.n.kids.length (m.n.kids.map intV)) := hkv ▸ (l1.drew.node q m HM.out).2
       have H1 : Hid (RLies w1 M1 tb (.slice (some ⟨nb, 0, none⟩) ps.length nc) uv1 ps (us ++ [v1]) ∧ Moved w' M w1 M1 ∧ CopyOf w' w1 M1 v1 (nodesOf ps)) := ⟨l1, m1, kk⟩
       clear l1 m1 kk))
  go_region_law ((refine step_call _ (by rfl) 59 [.tmp 36, .tmp 37] #[38, 3] (by rfl) Tryz.func59 (by kernel_rfl) (by rfl) [.slice ka m.n.kids.length kc, .int .i64 i] (by simp [Act.eval]) (without_any HR1.out i (by omega)) ?_
                  rintro e w2 ⟨v2, rfl, ho, hB2⟩
                  refine ⟨_, rfl, ?_⟩
                  obtain ⟨a2, e2, hv2⟩ := own_shape ho
                  subst hv2
                  have l2 := H1.out.1.drew.below hB2
                  have mv2 : Moved w1 M1 w2 M1 := ((Moved.refl w1 M1).drew).below hB2
                  have q0 := l2.cell0
                  obtain ⟨q5, q5f⟩ := l2.cellN rfl (f := 5) HM.out (by omega) rfl
                  rw [hkv] at q5
                  obtain ⟨M3, r1, r2, r3⟩ := l2.ownKids0 mv2 rfl HM.out ho (by exact Nat.le_refl _) (fun g hg => H1.out.1.fresh g (ho.lt g hg).1)
                  have hb2 : (ps.set q ⟨{ m.n with kids := outOf m.n.kids i }, m.av, .slice a2 (outOf m.n.kids i).length e2⟩)[i]? = some p := (by rw [List.getElem?_set_ne hqi]; exact HP.out)
                  have y0 := r1.cell0
                  obtain ⟨y4, y4f⟩ := r1.cellN rfl (f := 4) hb2 (by omega) rfl
                  have HQ : Hid _ := And.intro (r1.setNode rfl (f := 4) (c := .int .i64 (-1)) hb2 (by omega) (p' := ⟨{ p.n with parent := -1 }, p.av, p.kv⟩) rfl (r1.node i p hb2).1 (r1.node i p hb2).2) r2
                  clear ho hB2 l2 mv2 r1 r2 r3 hb2))
  all_goals go_wp2
  all_goals go_ret
  all_goals
    have mv := HQ.out.2.trans (HQ.out.1.2.moved (by intro e; cases e))
    exact ⟨rfl, M3, _, uv1, _, v1, HQ.out.1.1, by simp [nodesOf, List.map_set], H1.out.2.1.trans mv, CopyOf.moved H1.out.2.2 mv⟩
end Go.Proofs.YtoanbjdifddcoaaGreatDoor

/- The document's answer: whether a node lies in another one; a node's root. -/
namespace Go.Proofs.YtoanbjdifddcoaaGreatDoor
open Go.RowKit

set_option maxHeartbeats 4000000 in
set_option maxRecDepth 100000 in
theorem in_any {w : World} {M : Nat → Lab} {tb : Nat} {nv uv : Value} {ps : List Pn} {us : List Value} (h : RLies w M tb nv uv ps us) {i : Nat} {l : List Nat} (hu : Up (nodesOf ps) i l) (j : Nat) :
    Calls Tryz.prog 58 #[.pointer (some ⟨tb, 0, none⟩), .int .i64 i, .int .i64 j] w fun e w' => e = .returned (.bool (decide (j ∈ l))) ∧ w' = w := by
  have H : Hid (RLies w M tb nv uv ps us) := h
  have HU : Hid (Up (nodesOf ps) i l) := hu
  clear h hu
  go_enter Tryz.func58, Tryz.ntmps58
  go_wp2
  go_loopg [1] (l.length + 1) (fun k id wr => wr = w ∧ ((∃ (x : Nat) (l' : List Nat), id = .int .i64 x ∧ l'.length + 1 = k ∧ Hid (Up (nodesOf ps) x l') ∧ Hid (j ∈ l' ↔ j ∈ l)) ∨ (id = .int .i64 (-1) ∧ k = 0 ∧ Hid (¬ j ∈ l))))
  case atStart => exact ⟨rfl, .inl ⟨i, l, rfl, rfl, HU, (Iff.rfl : j ∈ l ↔ j ∈ l)⟩⟩
  case round =>
    obtain ⟨rfl, hrel⟩ := hrel
    rcases hrel with ⟨x, l', rfl, hk, hup, hiff⟩ | ⟨rfl, hk, hno⟩
    · by_cases hxj : x = j
      · subst hxj
        have HD : Hid (decide (x ∈ l) = true) := by
          show decide _ = true
          rw [decide_eq_true_eq]
          refine hiff.out.1 ?_
          have := hup.out
          cases this <;> simp
        go_wp2
        go_ret
        exact ⟨ret_bool HD.out.symm, rfl⟩
      · have hne : ¬ ((x : Int) = (j : Int)) := by omega
        have hb1 : ((x : Int) != (j : Int)) = true := by simp [hne]
        have hneb : ((x : Int) == (j : Int)) = false := by simpa using hne
        have hupo := hup.out
        cases hupo with
        | root hn hp =>
          obtain ⟨p, hp1, rfl⟩ := nodesOf_get hn
          obtain ⟨nb, cap, hnv, hc, hm, _, _, hxl⟩ := H.out.form hp1
          have hL := H.out
          rw [hnv] at hL
          have c0 := hL.cell0
          have c4 := (hL.cellN rfl (f := 4) hp1 (by omega) rfl).1
          rw [hp] at c4
          unfold maxLen at hm
          have HN : Hid (¬ j ∈ l) := by
            intro hj
            have := hiff.out.2 hj
            simp at this
            omega
          clear hL hn hp hp1 hnv
          go_wp2
          go_roundg 0
          case measure => omega
          case rel => exact ⟨rfl, .inr ⟨rfl, rfl, HN⟩⟩
        | @up _ q l2 n hn hp hu2 =>
          obtain ⟨p, hp1, rfl⟩ := nodesOf_get hn
          obtain ⟨nb, cap, hnv, hc, hm, _, _, hxl⟩ := H.out.form hp1
          have hL := H.out
          rw [hnv] at hL
          have c0 := hL.cell0
          have c4 := (hL.cellN rfl (f := 4) hp1 (by omega) rfl).1
          rw [hp] at c4
          unfold maxLen at hm
          have HN : Hid (j ∈ l2 ↔ j ∈ l) := by
            show _ ↔ _
            rw [← hiff.out, List.mem_cons]
            constructor
            · exact .inr
            · rintro (h | h)
              · omega
              · exact h
          have HU2 : Hid (Up (nodesOf ps) q l2) := hu2
          clear hL hn hp hp1 hnv hu2
          go_wp2
          go_roundg (l2.length + 1)
          case measure => simp at hk; omega
          case rel => exact ⟨rfl, .inl ⟨q, l2, rfl, rfl, HU2, HN⟩⟩
    · have hn2 : ¬ ((-1 : Int) = (j : Int)) := by omega
      have hn2b : ((-1 : Int) == (j : Int)) = false := by simp
      have HD : Hid (decide (j ∈ l) = false) := by
        show decide _ = false
        rw [decide_eq_false_iff_not]
        exact hno.out
      go_wp2
      go_ret
      exact ⟨ret_bool HD.out.symm, rfl⟩

set_option maxHeartbeats 4000000 in
set_option maxRecDepth 100000 in
theorem root_any {w : World} {M : Nat → Lab} {tb : Nat} {nv uv : Value} {ps : List Pn} {us : List Value} (h : RLies w M tb nv uv ps us) {i r : Nat} {l : List Nat} (hu : Up (nodesOf ps) i l) (hr : l.getLast? = some r) :
    Calls Tryz.prog 73 #[.pointer (some ⟨tb, 0, none⟩), .int .i64 i] w fun e w' => e = .returned (.int .i64 r) ∧ w' = w := by
  have H : Hid (RLies w M tb nv uv ps us) := h
  have HU : Hid (Up (nodesOf ps) i l) := hu
  clear h hu
  go_enter Tryz.func73, Tryz.ntmps73
  go_wp2
  go_loopg [1] l.length (fun k id wr => wr = w ∧ ∃ (x : Nat) (l' : List Nat), id = .int .i64 x ∧ l'.length = k ∧ Hid (Up (nodesOf ps) x l') ∧ Hid (l'.getLast? = some r))
  case atStart => exact ⟨rfl, i, l, rfl, rfl, HU, hr⟩
  case round =>
    obtain ⟨rfl, x, l', rfl, hk, hup, hla⟩ := hrel
    have hupo := hup.out
    cases hupo with
    | root hn hp =>
      obtain ⟨p, hp1, rfl⟩ := nodesOf_get hn
      obtain ⟨nb, cap, hnv, hc, hm, _, _, hxl⟩ := H.out.form hp1
      have hL := H.out
      rw [hnv] at hL
      have c0 := hL.cell0
      have c4 := (hL.cellN rfl (f := 4) hp1 (by omega) rfl).1
      rw [hp] at c4
      unfold maxLen at hm
      have e : x = r := by have := hla.out; simpa using this
      subst e
      clear hL hn hp hp1 hnv hla hup
      go_wp2
      go_ret
      exact ⟨rfl, rfl⟩
    | @up _ q l2 n hn hp hu2 =>
      obtain ⟨p, hp1, rfl⟩ := nodesOf_get hn
      obtain ⟨nb, cap, hnv, hc, hm, _, _, hxl⟩ := H.out.form hp1
      have hL := H.out
      rw [hnv] at hL
      have c0 := hL.cell0
      have c4 := (hL.cellN rfl (f := 4) hp1 (by omega) rfl).1
      rw [hp] at c4
      unfold maxLen at hm
      have HU2 : Hid (Up (nodesOf ps) q l2) := hu2
      have HL2 : Hid (l2.getLast? = some r) := by
        have := hla.out
        show l2.getLast? = some r
        cases hu2 <;> simpa using this
      clear hL hn hp hp1 hnv hu2
      go_wp2
      go_roundg l2.length
      case measure => simp at hk; omega
      case rel => exact ⟨rfl, q, l2, rfl, rfl, HU2, HL2⟩
end Go.Proofs.YtoanbjdifddcoaaGreatDoor
