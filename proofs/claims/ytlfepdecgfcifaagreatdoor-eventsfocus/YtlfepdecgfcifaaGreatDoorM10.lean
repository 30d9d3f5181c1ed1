/- What looks at a tree: kinds, tags, words, attributes, and all that lies in a node. -/
import Derived.Test.YtlfepdecgfcifaaGreatDoorM09
import Derived.Maps.OwnOps
import Derived.Maps.OwnSet
import Derived.Maps.AppendAt
import Derived.BigRegion
import Derived.BigQuiet
import Derived.OneCell
import Derived.Deep.Light
import Derived.Deep.QuietTactic
import Derived.Deep.DeepCutAuto
import Derived.Deep.RegionHeld3
import Derived.Carry
import Derived.Handy
import Derived.WalkSmall
namespace Go.Proofs.YtlfepdecgfcifaaGreatDoor
open Go.RowKit

set_option maxHeartbeats 1000000 in
theorem kind_any {w : World} {M : Nat → Lab} {tb : Nat} {nv uv : Value} {ps : List Pn} {us : List Value} (h : Lies w M tb nv uv ps us) {i : Nat} {p : Pn} (hp : ps[i]? = some p) :
    Calls Tryz.prog 40 #[.pointer (some ⟨tb, 0, none⟩), .int .i64 i] w fun e w' => e = .returned (.int .i64 p.n.kind) ∧ w' = w := by
  have hb := hasB_of hp
  obtain ⟨nb, cap, rfl, hc, hm, _, _, hi⟩ := h.form hp
  have c0 := h.cell0
  have c4 := (h.cellN rfl (f := 0) hp (by omega) rfl).1
  rw [Nat.add_zero] at c4
  unfold maxLen at hm
  go_enter Tryz.func40, Tryz.ntmps40
  go_wp2_with (go_at_call 54; refine (has_any h _).mono ?_; rintro e w' ⟨rfl, rfl⟩; rw [hb])
  all_goals go_ret
  all_goals exact ⟨rfl, rfl⟩
set_option maxHeartbeats 1000000 in
theorem tag_any {w : World} {M : Nat → Lab} {tb : Nat} {nv uv : Value} {ps : List Pn} {us : List Value} (h : Lies w M tb nv uv ps us) {i : Nat} {p : Pn} (hp : ps[i]? = some p) :
    Calls Tryz.prog 87 #[.pointer (some ⟨tb, 0, none⟩), .int .i64 i] w fun e w' => e = .returned (.string p.n.tag) ∧ w' = w := by
  have hb := hasB_of hp
  obtain ⟨nb, cap, rfl, hc, hm, _, _, hi⟩ := h.form hp
  have c0 := h.cell0
  have c4 := (h.cellN rfl (f := 1) hp (by omega) rfl).1
  unfold maxLen at hm
  go_enter Tryz.func87, Tryz.ntmps87
  go_wp2_with (go_at_call 54; refine (has_any h _).mono ?_; rintro e w' ⟨rfl, rfl⟩; rw [hb])
  all_goals go_ret
  all_goals exact ⟨rfl, rfl⟩
theorem flat_le {α : Type} (l : List α) (g : α → List Int) (k : Nat) : ((l.take k).flatMap g).length ≤ (l.flatMap g).length := by
  have e : (l.take k ++ l.drop k).flatMap g = l.flatMap g := by rw [List.take_append_drop]
  rw [← e, List.flatMap_append, List.length_append]
  omega
theorem flat_succ {α : Type} {l : List α} {k : Nat} {x : α} (h : l[k]? = some x) (g : α → List Int) : (l.take (k + 1)).flatMap g = (l.take k).flatMap g ++ g x := by
  obtain ⟨hk, rfl⟩ := List.getElem?_eq_some_iff.1 h
  rw [List.take_succ_eq_append_getElem hk, List.flatMap_append]
  simp

def UndPost (w0 : World) (l : List Int) (e : Ending) (w' : World) : Prop := ∃ v', e = .returned v' ∧ w'.ownsRow w0.heap.size 3 1 v' l.length (l.map intV) ∧ Below w0.heap.size w0 w'

set_option maxHeartbeats 4000000 in
set_option maxRecDepth 100000 in
theorem under_any {w0 : World} {M : Nat → Lab} {tb : Nat} {nv uv : Value} {ps : List Pn} {us : List Value} (h : Lies w0 M tb nv uv ps us) (hs : Sound (nodesOf ps)) : ∀ (f i : Nat), i < ps.length → rank (nodesOf ps) i < f → ∀ (w : World) (v : Value) (xs : List Int) (x : Int), x = i → Below w0.heap.size w0 w → w.ownsRow w0.heap.size 3 1 v xs.length (xs.map intV) → xs.length + (und (nodesOf ps) f i).length ≤ 1000000000 →
    Calls Tryz.prog 63 #[.pointer (some ⟨tb, 0, none⟩), v, .int .i64 x] w (UndPost w0 (xs ++ und (nodesOf ps) f i)) := by
  obtain ⟨i0, hi, hz0, hz1, hz2⟩ := info_parts Tryz.infoInt
  intro f
  induction f with
  | zero => intro i _ hr; omega
  | succ f ih =>
    intro i hil hr w v xs x hx hB hown hlen
    subst hx
    obtain ⟨p, hp⟩ : ∃ p, ps[i]? = some p := ⟨_, List.getElem?_eq_getElem hil⟩
    have hpn := nodes_get hp
    rw [und_succ hpn] at hlen ⊢
    obtain ⟨nb, cap, rfl, hc, hm, _, hnl, _⟩ := h.form hp
    have c0 := (hB.cell (p := ⟨tb, 0, none⟩) (lt_of_heap h.head)).trans h.cell0
    have c5 := (hB.cell (p := ⟨nb, i * 6 + 5, none⟩) hnl).trans (h.cellN rfl (f := 5) hp (by omega) rfl).1
    obtain ⟨ka, kc, hkv, hk1, hk2⟩ := (h.node i p hp).2.shape
    rw [hkv] at c5
    have hlt : tb < w0.heap.size := lt_of_heap h.head
    have HK : Hid (∀ (k : Nat) (y : Int), p.n.kids[k]? = some y → ∃ g b, ka = some ⟨g, 0, none⟩ ∧ g < w0.heap.size ∧ w0.cell? ⟨g, k, none⟩ = some (.int .i64 y) ∧ y = (b : Nat) ∧ b < ps.length ∧ rank (nodesOf ps) b < f) := by
      intro k y hy
      have hkl : k < p.n.kids.length := (List.getElem?_eq_some_iff.1 hy).1
      obtain ⟨g, c, hv, _, _, _, hg⟩ := (h.node i p hp).2.form (by omega)
      rw [hkv] at hv
      cases hv
      obtain ⟨b, e1, e2, e3⟩ := hs.rank hpn (List.mem_of_getElem? hy)
      exact ⟨g, b, rfl, hg, ((h.node i p hp).2.cell hkv (j := k) (u := .int .i64 y) (by simp [hy, intV])).1, e1, by simpa [nodesOf] using e2, by omega⟩
    have IH : Hid _ := ih
    have HB : Hid (Below w0.heap.size w0 w) := hB
    have HO : Hid (w.ownsRow w0.heap.size 3 1 v xs.length (xs.map intV)) := hown
    have hsz := hB.size
    have htw := Nat.lt_of_lt_of_le hlt hsz
    have hnw := Nat.lt_of_lt_of_le hnl hsz
    have i1 : (0 : Int) ≤ (i : Int) := by omega
    have i2 : (i : Int) < (ps.length : Int) := by omega
    have HL : Hid (∀ k, (xs ++ (i : Int) :: (p.n.kids.take k).flatMap fun x => und (nodesOf ps) f x.toNat).length ≤ 1000000000) := by
      intro k
      have := flat_le p.n.kids (fun x => und (nodesOf ps) f x.toNat) k
      simp only [List.length_append, List.length_cons] at hlen ⊢
      omega
    have hx0 : xs.length < 1000000000 := by simp only [List.length_cons] at hlen; omega
    unfold maxLen at hm hk2
    clear h hs ih hp hpn hB hown hlen
    go_enter Tryz.func63, Tryz.ntmps63
    go_wp2_with (at_builtin; refine wpList_app_own _ (by rfl) _ _ 32 (by rfl) w0.heap.size 3 i0 (.int .i64 0) 1 8 Tryz.underlying32 hi hz0 hz1 hz2 rfl (by decide) v xs.length (xs.map intV) (by rfl) (HO.out.alloc _) _ 1 [.int .i64 i] (by rfl) ⟨rfl, by simp [Value.oneCell'], _, _, rfl, .inr ⟨_, rfl, cell_one_new _ _ _⟩⟩ (by unfold maxLen; omega) (by omega) (by simp; omega) ?_
                 intro v1 w1 hv1 hg1 _
                 have HB1 : Hid (Below w0.heap.size w0 w1) := (HB.out.alloc hsz _).grown hg1 (by simp; omega) (fun k hk => (HO.out.lt k hk).1)
                 have d0 := (HB1.out.cell (p := ⟨tb, 0, none⟩) hlt).trans ((HB.out.cell (p := ⟨tb, 0, none⟩) hlt).symm.trans c0)
                 have d5 := (HB1.out.cell (p := ⟨nb, i * 6 + 5, none⟩) hnl).trans ((HB.out.cell (p := ⟨nb, i * 6 + 5, none⟩) hnl).symm.trans c5)
                 have HV1 : Hid (w1.ownsRow w0.heap.size 3 1 v1 (xs.length + 1) (xs.map intV ++ [.int .i64 i])) := hv1
                 clear hv1 hg1)
    go_loopw [1, 22] (fun lv iv wr => ∃ k : Nat, k ≤ p.n.kids.length ∧ iv = .int .i64 k ∧ Hid (wr.ownsRow w0.heap.size 3 1 lv (xs ++ (i : Int) :: (p.n.kids.take k).flatMap fun x => und (nodesOf ps) f x.toNat).length ((xs ++ (i : Int) :: (p.n.kids.take k).flatMap fun x => und (nodesOf ps) f x.toNat).map intV)) ∧ Hid (Below w0.heap.size w0 wr)) (fun _ iv _ => p.n.kids.length - (intOf iv).toNat)
    case atStart =>
      refine ⟨0, by omega, rfl, ?_, HB1⟩
      show w1.ownsRow _ _ _ _ _ _
      have := HV1.out
      simpa [intV] using this
    case round =>
      obtain ⟨k, hk, rfl, hO, hbel⟩ := hrel
      by_cases hkl : k < p.n.kids.length
      · obtain ⟨y, hy⟩ : ∃ y, p.n.kids[k]? = some y := ⟨_, List.getElem?_eq_getElem hkl⟩
        obtain ⟨g, b, rfl, hg, cy, rfl, hb1, hb2⟩ := HK.out k y hy
        have cy' := (hbel.out.cell (p := ⟨g, k, none⟩) hg).trans cy
        have hll := HL.out (k + 1)
        rw [flat_succ hy] at hll
        have HLL : Hid _ := hll
        have HY : Hid _ := flat_succ hy (fun x => und (nodesOf ps) f x.toNat)
        clear hy cy hll
        go_wp2_with (go_at_call 63; refine (IH.out b hb1 hb2 _ _ _ _ rfl hbel.out hO.out (by have := HLL.out; simp only [List.length_append, List.length_cons, Int.toNat_natCast] at this ⊢; omega)).mono ?_; rintro e w2 ⟨v2, rfl, ho2, hB2⟩; have H2 : Hid _ := And.intro ho2 hB2; clear ho2 hB2)
        go_roundw
        case rel =>
          go_light
          refine ⟨k + 1, by omega, by go_num, ?_, H2.out.2⟩
          show World.ownsRow _ _ _ _ _ _ _
          rw [HY.out]
          have := H2.out.1
          simpa using this
        case measure => go_light; simp [intOf]; omega
      · obtain rfl : k = p.n.kids.length := by omega
        rw [List.take_length] at hO
        obtain ⟨a5, e5, hv5⟩ := own_shape hO.out
        subst hv5
        go_wp2
        go_ret
        exact ⟨_, rfl, hO.out, hbel.out⟩
end Go.Proofs.YtlfepdecgfcifaaGreatDoor

/- All that lies in a node, of the program's tree and of the document's; two lists that are one. -/
namespace Go.Proofs.YtlfepdecgfcifaaGreatDoor
open Go.RowKit

set_option maxHeartbeats 1000000 in
theorem Under_any {w : World} {M : Nat → Lab} {tb : Nat} {nv uv : Value} {ps : List Pn} {us : List Value} (h : Lies w M tb nv uv ps us) (hs : Sound (nodesOf ps)) (hn : Neat (nodesOf ps)) (hl : ps.length ≤ 1000000) (f i : Nat) (hi : i < ps.length) (hf : rank (nodesOf ps) i < f) :
    Calls Tryz.prog 31 #[.pointer (some ⟨tb, 0, none⟩), .int .i64 i] w (UndPost w (und (nodesOf ps) f i)) := by
  have hb : hasB ps.length i = true := hasB_of (List.getElem?_eq_getElem hi)
  have H : Hid (Lies w M tb nv uv ps us) := h
  have hun : (und (nodesOf ps) f i).length ≤ 1000000000 := Nat.le_trans (und_short hs hn f i (by simpa [nodesOf] using hi)) (by simp [nodesOf]; omega)
  have HC : Hid (Calls Tryz.prog 63 #[.pointer (some ⟨tb, 0, none⟩), .slice none 0 0, .int .i64 i] w (UndPost w ([] ++ und (nodesOf ps) f i))) := under_any h hs f i hi hf w (.slice none 0 0) [] i rfl (Below.refl _ _) (World.ownsRow_nil _ _ _ _) (by simpa using hun)
  clear h hs hn hun
  go_enter Tryz.func31, Tryz.ntmps31
  go_wp2_with (first
    | (go_at_call 54; refine (has_any H.out _).mono ?_; rintro e w' ⟨rfl, rfl⟩; rw [hb])
    | (go_at_call 63; refine HC.out.mono ?_; rintro e w1 ⟨v1, rfl, ho, hB⟩))
  go_ret
  exact ⟨_, rfl, by simpa using ho, hB⟩

set_option maxHeartbeats 4000000 in
set_option maxRecDepth 100000 in
theorem runder_any {w0 : World} {M : Nat → Lab} {tb : Nat} {nv uv : Value} {ps : List Pn} {us : List Value} (h : RLies w0 M tb nv uv ps us) (hs : Sound (nodesOf ps)) : ∀ (f i : Nat), i < ps.length → rank (nodesOf ps) i < f → ∀ (w : World) (x : Int), x = i → Below w0.heap.size w0 w → (und (nodesOf ps) f i).length ≤ 1000000000 →
    Calls Tryz.prog 36 #[.pointer (some ⟨tb, 0, none⟩), .int .i64 x] w (UndPost w (und (nodesOf ps) f i)) := by
  obtain ⟨i0, hi, hz0, hz1, hz2⟩ := info_parts Tryz.infoInt
  intro f
  induction f with
  | zero => intro i _ hr; omega
  | succ f ih =>
    intro i hil hr w x hx hB hlen
    subst hx
    obtain ⟨p, hp⟩ : ∃ p, ps[i]? = some p := ⟨_, List.getElem?_eq_getElem hil⟩
    have hb : hasB ps.length i = true := hasB_of hp
    have hpn := nodes_get hp
    rw [und_succ hpn] at hlen ⊢
    obtain ⟨nb, cap, rfl, hc, hm, _, hnl, _⟩ := h.form hp
    obtain ⟨ka, kc, hkv, hk1, hk2⟩ := (h.node i p hp).2.shape
    have hlt : tb < w0.heap.size := lt_of_heap h.head
    have HK : Hid (∀ (k : Nat) (y : Int), p.n.kids[k]? = some y → ∃ g b, ka = some ⟨g, 0, none⟩ ∧ g < w0.heap.size ∧ w0.cell? ⟨g, k, none⟩ = some (.int .i64 y) ∧ y = (b : Nat) ∧ b < ps.length ∧ rank (nodesOf ps) b < f) := by
      intro k y hy
      have hkl : k < p.n.kids.length := (List.getElem?_eq_some_iff.1 hy).1
      obtain ⟨g, c, hv, _, _, _, hg⟩ := (h.node i p hp).2.form (by omega)
      rw [hkv] at hv
      cases hv
      obtain ⟨b, e1, e2, e3⟩ := hs.rank hpn (List.mem_of_getElem? hy)
      exact ⟨g, b, rfl, hg, ((h.node i p hp).2.cell hkv (j := k) (u := .int .i64 y) (by simp [hy, intV])).1, e1, by simpa [nodesOf] using e2, by omega⟩
    have k5 := (h.cellN rfl (f := 5) hp (by omega) rfl).1
    rw [hkv] at k5
    have HC : Hid (∀ wr, Below w0.heap.size w0 wr → wr.cell? ⟨tb, 0, none⟩ = some (.slice (some ⟨nb, 0, none⟩) ps.length cap) ∧ wr.cell? ⟨nb, i * 6 + 5, none⟩ = some (.slice ka p.n.kids.length kc)) := fun wr hb => ⟨(hb.cell (p := ⟨tb, 0, none⟩) hlt).trans h.cell0, (hb.cell (p := ⟨nb, i * 6 + 5, none⟩) hnl).trans k5⟩
    have IH : Hid _ := ih
    have H : Hid (RLies w M tb (.slice (some ⟨nb, 0, none⟩) ps.length cap) uv ps us) := h.below hB
    have HB : Hid (Below w0.heap.size w0 w) := hB
    have hsz := hB.size
    have i1 : (0 : Int) ≤ (i : Int) := by omega
    have i2 : (i : Int) < (ps.length : Int) := by omega
    have HL : Hid (∀ k, ((i : Int) :: (p.n.kids.take k).flatMap fun x => und (nodesOf ps) f x.toNat).length ≤ 1000000000) := by
      intro k
      have := flat_le p.n.kids (fun x => und (nodesOf ps) f x.toNat) k
      simp only [List.length_cons] at hlen ⊢
      omega
    have HO : Hid ((w.alloc (.cells #[.int .i64 i] 3)).ownsRow w.heap.size 3 1 (.slice (some ⟨w.heap.size, 0, none⟩) 1 1) 1 [.int .i64 i]) := ⟨rfl, .inr ⟨w.heap.size, 1, _, rfl, Nat.le_refl _, heap_alloc_new w _, Nat.le_refl _, by unfold maxLen; omega, rfl, rfl⟩⟩
    unfold maxLen at hm hk2
    clear h hs ih hp hpn hB hlen k5
    go_enter Tryz.func36, Tryz.ntmps36
    go_wp2_with (go_at_call 45; refine (rhas_any H.out _).mono ?_; rintro e w' ⟨rfl, rfl⟩; rw [hb])
    go_loopw [6, 7] (fun lv iv wr => ∃ k : Nat, k ≤ p.n.kids.length ∧ iv = .int .i64 k ∧ Hid (wr.ownsRow w'.heap.size 3 1 lv ((i : Int) :: (p.n.kids.take k).flatMap fun x => und (nodesOf ps) f x.toNat).length (((i : Int) :: (p.n.kids.take k).flatMap fun x => und (nodesOf ps) f x.toNat).map intV)) ∧ Hid (Below w'.heap.size w' wr)) (fun _ iv _ => p.n.kids.length - (intOf iv).toNat)
    case atStart => exact ⟨0, by omega, rfl, HO.out, (Below.refl _ _).alloc (Nat.le_refl _) _⟩
    case round =>
      obtain ⟨k, hk, rfl, hO, hbel⟩ := hrel
      have hB0 : Hid (Below w0.heap.size w0 wr) := HB.out.trans (hbel.out.mono hsz)
      obtain ⟨d0, d5⟩ := HC.out wr hB0.out
      have hsz2 := hbel.out.size
      by_cases hkl : k < p.n.kids.length
      · obtain ⟨y, hy⟩ : ∃ y, p.n.kids[k]? = some y := ⟨_, List.getElem?_eq_getElem hkl⟩
        obtain ⟨g, b, rfl, hg, cy, rfl, hb1, hb2⟩ := HK.out k y hy
        have cy' := (hB0.out.cell (p := ⟨g, k, none⟩) hg).trans cy
        have hll := HL.out (k + 1)
        rw [flat_succ hy] at hll
        simp only [List.length_cons, List.length_append, Int.toNat_natCast] at hll
        have HY : Hid _ := flat_succ hy (fun x => und (nodesOf ps) f x.toNat)
        clear hy cy
        go_wp2_with (first
          | (go_at_call 36; refine (IH.out b hb1 hb2 _ _ rfl hB0.out (by omega)).mono ?_; rintro e w2 ⟨v2, rfl, ho2, hB2⟩
             obtain ⟨a2, e2, hv2⟩ := own_shape ho2
             subst hv2
             have H2 : Hid _ := And.intro ho2 hB2
             have hsz3 := hB2.size
             clear ho2 hB2)
          | (at_builtin; refine wpList_app_own _ (by rfl) _ _ 32 (by rfl) w'.heap.size 3 i0 (.int .i64 0) 1 8 Tryz.underlying32 hi hz0 hz1 hz2 rfl (by decide) u6 _ _ (by rfl) (own_below hO.out H2.out.2 (Nat.le_refl _)) _ _ ((und (nodesOf ps) f b).map intV) (by rfl) (own_src H2.out.1 (one_int _)) (by unfold maxLen; simp only [List.length_cons]; omega) (by simp only [List.length_cons]; omega) (by omega) ?_
             intro v3 w3 hv3 hg3 _
             have H3 : Hid _ := And.intro hv3 ((hbel.out.trans (H2.out.2.mono hsz2)).grown hg3 (by omega) (fun q hq => (hO.out.lt q hq).1))
             clear hv3 hg3))
        go_roundw
        case rel =>
          go_light
          refine ⟨k + 1, by omega, by go_num, ?_, H3.out.2⟩
          show World.ownsRow _ _ _ _ _ _ _
          rw [HY.out]
          have := H3.out.1
          simpa [Nat.add_assoc, Nat.add_comm, Nat.add_left_comm] using this
        case measure => go_light; simp [intOf]; omega
      · obtain rfl : k = p.n.kids.length := by omega
        rw [List.take_length] at hO
        obtain ⟨a5, e5, hv5⟩ := own_shape hO.out
        subst hv5
        go_wp2
        go_ret
        exact ⟨_, rfl, hO.out, hbel.out⟩

/-- a list of numbers as it lies in memory, whoever made it -/
def IntsAt (w : World) (v : Value) (l : List Int) : Prop := ∃ a c, v = .slice a l.length c ∧ ∀ (k : Nat) (y : Int), l[k]? = some y → ∃ g, a = some ⟨g, 0, none⟩ ∧ w.cell? ⟨g, k, none⟩ = some (.int .i64 y)
def AttrsAt (w : World) (v : Value) (l : List (ByteArray × ByteArray)) : Prop := ∃ a c, v = .slice a l.length c ∧ ∀ (k : Nat) x, l[k]? = some x → ∃ g, a = some ⟨g, 0, none⟩ ∧ w.cell? ⟨g, k * 2, none⟩ = some (.string x.1) ∧ w.cell? ⟨g, k * 2 + 1, none⟩ = some (.string x.2)

theorem Row.ints {w : World} {M : Nat → Lab} {l : Lab} {v : Value} {xs : List Int} (h : Row w M l 3 1 v xs.length (xs.map intV)) : IntsAt w v xs := by
  obtain ⟨a, c, hv, _, _⟩ := h.shape
  refine ⟨a, c, hv, fun k y hy => ?_⟩
  have hkl : k < xs.length := (List.getElem?_eq_some_iff.1 hy).1
  obtain ⟨g, c', hv', _, _, _, hg⟩ := h.form (by omega)
  rw [hv] at hv'
  cases hv'
  exact ⟨g, rfl, (h.cell hv (j := k) (u := .int .i64 y) (by simp [hy, intV])).1⟩
theorem own_ints {w : World} {B : Nat} {v : Value} {xs : List Int} (h : w.ownsRow B 3 1 v xs.length (xs.map intV)) : IntsAt w v xs := by
  obtain ⟨_, a, c, hv, _, _, hc⟩ := own_cell h
  refine ⟨a, c, hv, fun k y hy => ?_⟩
  obtain ⟨g, e1, e2, _⟩ := hc k y hy
  exact ⟨g, e1, e2⟩
theorem Row.attrsAt {w : World} {M : Nat → Lab} {l : Lab} {v : Value} {at_ : List (ByteArray × ByteArray)} (h : Row w M l 51 2 v at_.length (attrCells at_)) : AttrsAt w v at_ := by
  obtain ⟨a, c, hv, _, _⟩ := h.shape
  refine ⟨a, c, hv, fun k y hy => ?_⟩
  have hkl : k < at_.length := (List.getElem?_eq_some_iff.1 hy).1
  obtain ⟨g, c', hv', _, _, _, hg⟩ := h.form (by omega)
  rw [hv] at hv'
  cases hv'
  obtain ⟨q1, q2⟩ := attrCells_get at_ k y hy
  exact ⟨g, rfl, (h.cell hv q1).1, (h.cell hv q2).1⟩
theorem own_attrs {w : World} {B : Nat} {v : Value} {at_ : List (ByteArray × ByteArray)} (h : w.ownsRow B 51 2 v at_.length (attrCells at_)) : AttrsAt w v at_ := by
  obtain ⟨a, c, hv⟩ := own_shape h
  refine ⟨a, c, hv, fun k y hy => ?_⟩
  have hkl : k < at_.length := (List.getElem?_eq_some_iff.1 hy).1
  rcases h.2 with ⟨_, e⟩ | ⟨g, cap, cur, hv', _⟩
  · omega
  · rw [hv] at hv'
    cases hv'
    obtain ⟨q1, q2⟩ := attrCells_get at_ k y hy
    have hc := h.cells (g := g) (by rw [hv]; rfl)
    refine ⟨g, rfl, ?_, ?_⟩
    · have := hc _ _ q1; rwa [add0] at this
    · have := hc _ _ q2; rwa [add0] at this
theorem IntsAt.below {w w' : World} {v : Value} {l : List Int} (h : IntsAt w v l) (hb : Below w.heap.size w w') : IntsAt w' v l := by
  obtain ⟨a, c, hv, hc⟩ := h
  refine ⟨a, c, hv, fun k y hy => ?_⟩
  obtain ⟨g, e1, e2⟩ := hc k y hy
  exact ⟨g, e1, (hb.cell (World.block_lt_of_cell? w _ e2)).trans e2⟩
theorem AttrsAt.below {w w' : World} {v : Value} {l : List (ByteArray × ByteArray)} (h : AttrsAt w v l) (hb : Below w.heap.size w w') : AttrsAt w' v l := by
  obtain ⟨a, c, hv, hc⟩ := h
  refine ⟨a, c, hv, fun k y hy => ?_⟩
  obtain ⟨g, e1, e2, e3⟩ := hc k y hy
  exact ⟨g, e1, (hb.cell (World.block_lt_of_cell? w _ e2)).trans e2, (hb.cell (World.block_lt_of_cell? w _ e3)).trans e3⟩

end Go.Proofs.YtlfepdecgfcifaaGreatDoor

/- Order: lists of numbers in a block, the map of turns; how two nodes are held against each other. -/
namespace Go.Proofs.YtlfepdecgfcifaaGreatDoor
open Go.RowKit Go.Maps
set_option linter.unusedVariables false      -- bounds that are for the walk

theorem hidF {p : Prop} (h : p) : Hid p := h
theorem ltH {w : World} {b : Nat} {o : Obj} (h : w.heap[b]? = some o) : b < w.heap.size := (Array.getElem?_eq_some_iff.1 h).1
theorem belD {B : Nat} {a w : World} (h : Below B a w) (n : Nat) : Below B a (w.drewN n) := ⟨h.os, h.tape, h.output, h.size, h.block⟩
/-- all but one block stays -/
structure KeepM (w : World) (b : Nat) (w' : World) : Prop where
  os : w'.os = w.os
  tape : w'.tape = w.tape
  output : w'.output = w.output
  size : w.heap.size ≤ w'.heap.size
  block : ∀ k, k < w.heap.size → k ≠ b → w'.heap[k]? = w.heap[k]?
theorem KeepM.refl (w : World) (b : Nat) : KeepM w b w := ⟨rfl, rfl, rfl, Nat.le_refl _, fun _ _ _ => rfl⟩
theorem KeepM.trans {w1 w2 w3 : World} {b : Nat} (h : KeepM w1 b w2) (h2 : KeepM w2 b w3) : KeepM w1 b w3 :=
  ⟨h2.os.trans h.os, h2.tape.trans h.tape, h2.output.trans h.output, Nat.le_trans h.size h2.size, fun k hk hb => (h2.block k (Nat.lt_of_lt_of_le hk h.size) hb).trans (h.block k hk hb)⟩
theorem KeepM.of_below {w w' : World} {b : Nat} (h : Below w.heap.size w w') : KeepM w b w' := ⟨h.os, h.tape, h.output, h.size, fun k hk _ => h.block k hk⟩
theorem KeepM.cell {w w' : World} {b : Nat} (h : KeepM w b w') {p : Addr} (hp : p.block < w.heap.size) (hb : p.block ≠ b) : w'.cell? p = w.cell? p := World.cell?_of_block (h.block p.block hp hb)
theorem KeepM.setCell {w wr : World} {g : Nat} (h : KeepM w g wr) (k : Nat) (v : Value) : KeepM w g (wr.setCell ⟨g, k, none⟩ v) := by
  refine ⟨?_, ?_, ?_, ?_, fun q hq hg => (heap_setCell_other wr ⟨g, k, none⟩ q v hg).trans (h.block q hq hg)⟩
  · rw [← h.os]; rfl
  · rw [← h.tape]; rfl
  · rw [← h.output]; rfl
  · have := h.size
    simpa using this

/-- the map of turns: its variable's block, its own, what it reads as; how long the row is that is sorted -/
class OrdX where
  mb : Nat
  mo : Nat
  key : Int → Int
  sz : Nat
theorem zeroIntL (w : World) : (zeroValue 3).run Tryz.prog w = .ok (.int .i64 0) w := by kernel_rfl
theorem lawInt : Keyed Tryz.prog 3 := int_keyed Tryz.underlying3
structure MapK [OX : OrdX] (W : World) : Prop where
  var : W.cell? ⟨OX.mb, 0, none⟩ = some (.map (some OX.mo))
  lt : OX.mb < W.heap.size
  own : ∃ n D, W.ownsMap Tryz.prog 3 (plainElem (H := Unit) Tryz.prog 3) OX.mo n D ∧ ∀ x : Int, 0 ≤ x → x ≤ 1000000 → D.atKey (.int .i64 x) (.lit (.int .i64 0)) = .lit (.int .i64 (OX.key x))
theorem MapK.keep [OX : OrdX] {W W' : World} (h : MapK W) (hs : W.heap.size ≤ W'.heap.size) (h1 : W'.heap[OX.mb]? = W.heap[OX.mb]?) (h2 : W'.heap[OX.mo]? = W.heap[OX.mo]?) : MapK W' := by
  obtain ⟨n, D, ho, hd⟩ := h.own
  refine ⟨(World.cell?_of_block (a := ⟨OX.mb, 0, none⟩) h1).trans h.var, Nat.lt_of_lt_of_le h.lt hs, n, D, ?_, hd⟩
  obtain ⟨es, clock, hb, F, hs, hD⟩ := ho
  exact ⟨es, clock, h2.trans hb, F, hs, hD⟩
theorem MapK.lt2 [OX : OrdX] {W : World} (h : MapK W) : OX.mo < W.heap.size := by
  obtain ⟨n, D, ho, hd⟩ := h.own
  exact ho.lt
theorem MapK.held [OX : OrdX] {W W' : World} (h : MapK W) (hb : Below W.heap.size W W') : MapK W' := h.keep hb.size (hb.block _ h.lt) (hb.block _ h.lt2)

/-- by turns -/
def cmpN (a b : Int) : Int := if a < b then -1 else if b < a then 1 else 0
theorem cmpN_neg {a b : Int} : cmpN a b < 0 ↔ a < b := by
  unfold cmpN
  split
  · simp; assumption
  · split <;> omega

set_option maxHeartbeats 400000 in
theorem isNaN_anyE (a : Int) (w : World) : Calls Tryz.prog 69 #[.int .i64 a] w fun e w' => e = .returned (.bool false) ∧ w' = w := by
  go_enter Tryz.func69, Tryz.ntmps69
  go_wp2_with fail
  go_returns
  exact ⟨rfl, rfl⟩

set_option maxHeartbeats 1000000 in
theorem compare_anyE (a b : Int) (w : World) : Calls Tryz.prog 35 #[.int .i64 a, .int .i64 b] w fun e w' => e = .returned (.int .i64 (cmpN a b)) ∧ w' = w := by
  have N := hidF (fun (x : Int) (W : World) => isNaN_anyE x W)
  unfold cmpN
  by_cases h1 : a < b
  · rw [if_pos h1]
    go_enter Tryz.func35, Tryz.ntmps35
    go_wp2_with fail
    refine (N.out _ _).mono ?_
    rintro e w1 ⟨rfl, hw1⟩
    rw [hw1]
    go_wp2_with fail
    refine (N.out _ _).mono ?_
    rintro e w2 ⟨rfl, hw2⟩
    rw [hw2]
    go_wp2_with fail
    go_returns
    exact ⟨rfl, rfl⟩
  · rw [if_neg h1]
    by_cases h2 : b < a
    · rw [if_pos h2]
      go_enter Tryz.func35, Tryz.ntmps35
      go_wp2_with fail
      refine (N.out _ _).mono ?_
      rintro e w1 ⟨rfl, hw1⟩
      rw [hw1]
      go_wp2_with fail
      refine (N.out _ _).mono ?_
      rintro e w2 ⟨rfl, hw2⟩
      rw [hw2]
      go_wp2_with fail
      go_returns
      exact ⟨rfl, rfl⟩
    · rw [if_neg h2]
      go_enter Tryz.func35, Tryz.ntmps35
      go_wp2_with fail
      refine (N.out _ _).mono ?_
      rintro e w1 ⟨rfl, hw1⟩
      rw [hw1]
      go_wp2_with fail
      refine (N.out _ _).mono ?_
      rintro e w2 ⟨rfl, hw2⟩
      rw [hw2]
      go_wp2_with fail
      go_returns
      exact ⟨rfl, rfl⟩
theorem keyI {x : Int} (h1 : 0 ≤ x) (h2 : x ≤ 1000000) : keyOf Tryz.prog 3 (.int .i64 x) = some (.int .i64 x) :=
  keyOf_int_mk Tryz.underlying3 (WalkArith.wf_i64 (by omega))
theorem lit_inj {a b : Int} (h : (DataW.lit (.int .i64 a) : DataW Unit) = .lit (.int .i64 b)) : a = b := by
  injection h with h
  injection h
set_option maxRecDepth 100000 in
set_option maxHeartbeats 2000000 in
theorem ordF_any [OX : OrdX] {x y : Int} (x0 : 0 ≤ x) (x1 : x ≤ 1000000) (y0 : 0 ≤ y) (y1 : y ≤ 1000000) {w : World} (h : MapK w) : Calls Tryz.prog 34 #[.int .i64 x, .int .i64 y, .pointer (some ⟨OX.mb, 0, none⟩)] w fun e w' => e = .returned (.int .i64 (cmpN (OX.key x) (OX.key y))) ∧ Below w.heap.size w w' := by
  obtain ⟨n, D, ho, hd⟩ := h.own
  have HO := hidF ho
  have c0 := h.var
  have kx := keyI x0 x1
  have ky := keyI y0 y1
  have HX := hidF (hd x x0 x1)
  have HY := hidF (hd y y0 y1)
  have C := hidF (fun (p q : Int) (W : World) => compare_anyE p q W)
  clear h hd ho
  go_enter Tryz.func34, Tryz.ntmps34
  go_wp2_with first
    | (at_lookup; refine wpList_lookup_own_int _ rfl _ _ 64 rfl 3 3 .i64 lawInt Tryz.underlying64 Tryz.underlying3 (zeroIntL _) OX.mo n _ rfl HO.out _ _ rfl kx ?_; intro c4 hat hwc; have e4 : c4 = OX.key x := (lit_inj (HX.out.symm.trans hat)).symm; clear hat hwc; subst e4)
    | (at_lookup; refine wpList_lookup_own_int _ rfl _ _ 64 rfl 3 3 .i64 lawInt Tryz.underlying64 Tryz.underlying3 (zeroIntL _) OX.mo n _ rfl HO.out _ _ rfl ky ?_; intro c5 hat hwc; have e5 : c5 = OX.key y := (lit_inj (HY.out.symm.trans hat)).symm; clear hat hwc; subst e5)
  refine (C.out _ _ _).mono ?_
  rintro e w1 ⟨rfl, hw1⟩
  rw [hw1]
  go_wp2_with fail
  go_returns
  exact ⟨rfl, Below.refl _ _⟩
end Go.Proofs.YtlfepdecgfcifaaGreatDoor
