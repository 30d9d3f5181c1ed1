/- Two lists of attributes that are one. -/
import Derived.Test.YtnoaojjljcbflaaGreatDoorM11
import Derived.Test.YtnoaojjljcbflaaGreatDoorM33
import Derived.Test.YtnoaojjljcbflaaGreatDoorM35
namespace Go.Proofs.YtnoaojjljcbflaaGreatDoor
open Go.RowKit

set_option maxHeartbeats 4000000 in
set_option maxRecDepth 100000 in
theorem sameAttrs_any {w : World} {v u : Value} {l : List (ByteArray × ByteArray)} (hv : AttrsAt w v l) (hu : AttrsAt w u l) (hl : l.length ≤ 1099511627776) :
    Calls Tryz.prog 52 #[v, u] w fun e w' => e = .returned (.bool true) ∧ Below w.heap.size w w' := by
  obtain ⟨a, c, rfl, ha⟩ := hv
  obtain ⟨b, d, rfl, hb⟩ := hu
  have HA : Hid _ := ha
  have HB : Hid _ := hb
  clear ha hb
  go_enter Tryz.func52, Tryz.ntmps52
  go_wp2
  go_loopw [5] (fun i wr => ∃ k : Nat, k ≤ l.length ∧ i = .int .i64 k ∧ Hid (Below w.heap.size w wr)) (fun i _ => l.length - (intOf i).toNat)
  case atStart => exact ⟨0, by omega, rfl, Below.refl _ _⟩
  case round =>
    obtain ⟨k, hk, rfl, hbel⟩ := hrel
    by_cases hlt : k < l.length
    · obtain ⟨⟨yn, yv⟩, hy⟩ : ∃ y, l[k]? = some y := ⟨_, List.getElem?_eq_getElem hlt⟩
      obtain ⟨g, rfl, e1, f1⟩ := HA.out k _ hy
      obtain ⟨g2, rfl, e2, f2⟩ := HB.out k _ hy
      have e1' := (hbel.out.cell (p := ⟨g, k * 2, none⟩) (World.block_lt_of_cell? w _ e1)).trans e1
      have e2' := (hbel.out.cell (p := ⟨g2, k * 2, none⟩) (World.block_lt_of_cell? w _ e2)).trans e2
      have f1' := (hbel.out.cell (p := ⟨g, k * 2 + 1, none⟩) (World.block_lt_of_cell? w _ f1)).trans f1
      have f2' := (hbel.out.cell (p := ⟨g2, k * 2 + 1, none⟩) (World.block_lt_of_cell? w _ f2)).trans f2
      dsimp only at e1' e2' f1' f2'
      clear hy e1 e2 f1 f2
      go_wp2
      go_quiet (fail)
      go_wp2
      go_roundw
      case rel => exact ⟨k + 1, by omega, by go_num, below_drewN hbel.out _⟩
      case measure => simp [intOf]; omega
    · go_wp2
      go_ret
      exact ⟨rfl, hbel.out⟩
end Go.Proofs.YtnoaojjljcbflaaGreatDoor

/- The document's answer: all that lies in a node of any tree; the order of two nodes. -/
namespace Go.Proofs.YtnoaojjljcbflaaGreatDoor
open Go.RowKit

set_option maxHeartbeats 4000000 in
set_option maxRecDepth 100000 in
theorem runder_any {EX : Ext} {w0 : World} {M : Nat → Lab} {tb : Nat} {nv uv : Value} {ps : List Pn} {us : List Value} (h : RLies (EX := EX) w0 M tb nv uv ps us) (hs : WF (nodesOf ps)) : ∀ (f i : Nat), i < ps.length → rkU (nodesOf ps) i < f → ∀ (w : World) (x : Int), x = i → Below w0.heap.size w0 w → (und (nodesOf ps) f i).length ≤ 1000000000 →
    Calls Tryz.prog 56 #[.pointer (some ⟨tb, 0, none⟩), .int .i64 x] w (UndPost w (und (nodesOf ps) f i)) := by
  obtain ⟨i0, hi, hz0, hz1, hz2⟩ := info_parts Tryz.infoInt
  intro f
  induction f with
  | zero => intro i _ hr; omega
  | succ f ih =>
    intro i hil hr w x hx hB hlen
    subst hx
    obtain ⟨p, hp⟩ : ∃ p, ps[i]? = some p := ⟨_, List.getElem?_eq_getElem hil⟩
    have hb : hasB ps.length i = true := hasB_of hp
    have hpn := nodes_get hp
    rw [und_succ hpn] at hlen ⊢
    obtain ⟨nb, cap, rfl, hc, hm, _, hnl, _⟩ := h.form hp
    obtain ⟨ka, kc, hkv, hk1, hk2⟩ := (h.node i p hp).2.shape
    have hlt : tb < w0.heap.size := lt_of_heap h.head
    have HK : Hid (∀ (k : Nat) (y : Int), p.n.kids[k]? = some y → ∃ g b, ka = some ⟨g, 0, none⟩ ∧ g < w0.heap.size ∧ w0.cell? ⟨g, k, none⟩ = some (.int .i64 y) ∧ y = (b : Nat) ∧ b < ps.length ∧ rkU (nodesOf ps) b < f) := by
      intro k y hy
      have hkl : k < p.n.kids.length := (List.getElem?_eq_some_iff.1 hy).1
      obtain ⟨g, c, hv, _, _, _, hg⟩ := (h.node i p hp).2.form (by omega)
      rw [hkv] at hv
      cases hv
      obtain ⟨b, _, e1, e2, _, _, e3⟩ := hs.rank hpn (List.mem_of_getElem? hy)
      exact ⟨g, b, rfl, hg, ((h.node i p hp).2.cell hkv (j := k) (u := .int .i64 y) (by simp [hy, intV])).1, e1, by simpa [nodesOf] using e2, by omega⟩
    have k5 := (h.cellN rfl (f := 5) hp (by omega) rfl).1
    rw [hkv] at k5
    have HC : Hid (∀ wr, Below w0.heap.size w0 wr → wr.cell? ⟨tb, 0, none⟩ = some (.slice (some ⟨nb, 0, none⟩) ps.length cap) ∧ wr.cell? ⟨nb, i * 6 + 5, none⟩ = some (.slice ka p.n.kids.length kc)) := fun wr hb => ⟨(hb.cell (p := ⟨tb, 0, none⟩) hlt).trans h.cell0, (hb.cell (p := ⟨nb, i * 6 + 5, none⟩) hnl).trans k5⟩
    have IH : Hid _ := ih
    have H : Hid (RLies (EX := EX) w M tb (.slice (some ⟨nb, 0, none⟩) ps.length cap) uv ps us) := h.below hB
    have HB : Hid (Below w0.heap.size w0 w) := hB
    have hsz := hB.size
    have i1 : (0 : Int) ≤ (i : Int) := by omega
    have i2 : (i : Int) < (ps.length : Int) := by omega
    have HL : Hid (∀ k, ((i : Int) :: (p.n.kids.take k).flatMap fun x => und (nodesOf ps) f x.toNat).length ≤ 1000000000) := by
      intro k
      have := flat_le p.n.kids (fun x => und (nodesOf ps) f x.toNat) k
      simp only [List.length_cons] at hlen ⊢
      omega
    have HO : Hid ((w.alloc (.cells #[.int .i64 i] 3)).ownsRow w.heap.size 3 1 (.slice (some ⟨w.heap.size, 0, none⟩) 1 1) 1 [.int .i64 i]) := ⟨rfl, .inr ⟨w.heap.size, 1, _, rfl, Nat.le_refl _, heap_alloc_new w _, Nat.le_refl _, by unfold maxLen; omega, rfl, rfl⟩⟩
    unfold maxLen at hm hk2
    clear h hs ih hp hpn hB hlen k5
    go_enter Tryz.func56, Tryz.ntmps56
    go_wp2_with (go_at_call 15; refine (rhas_any H.out _).mono ?_; rintro e w' ⟨rfl, rfl⟩; rw [hb])
    go_loopw [6, 7] (fun lv iv wr => ∃ k : Nat, k ≤ p.n.kids.length ∧ iv = .int .i64 k ∧ Hid (wr.ownsRow w'.heap.size 3 1 lv ((i : Int) :: (p.n.kids.take k).flatMap fun x => und (nodesOf ps) f x.toNat).length (((i : Int) :: (p.n.kids.take k).flatMap fun x => und (nodesOf ps) f x.toNat).map intV)) ∧ Hid (Below w'.heap.size w' wr)) (fun _ iv _ => p.n.kids.length - (intOf iv).toNat)
    case atStart => exact ⟨0, by omega, rfl, HO.out, (Below.refl _ _).alloc (Nat.le_refl _) _⟩
    case round =>
      obtain ⟨k, hk, rfl, hO, hbel⟩ := hrel
      have hB0 : Hid (Below w0.heap.size w0 wr) := HB.out.trans (hbel.out.mono hsz)
      obtain ⟨d0, d5⟩ := HC.out wr hB0.out
      have hsz2 := hbel.out.size
      by_cases hkl : k < p.n.kids.length
      · obtain ⟨y, hy⟩ : ∃ y, p.n.kids[k]? = some y := ⟨_, List.getElem?_eq_getElem hkl⟩
        obtain ⟨g, b, rfl, hg, cy, rfl, hb1, hb2⟩ := HK.out k y hy
        have cy' := (hB0.out.cell (p := ⟨g, k, none⟩) hg).trans cy
        have hll := HL.out (k + 1)
        rw [flat_succ hy] at hll
        simp only [List.length_cons, List.length_append, Int.toNat_natCast] at hll
        have HY : Hid _ := flat_succ hy (fun x => und (nodesOf ps) f x.toNat)
        clear hy cy
        go_wp2_with (first
          | (go_at_call 56; refine (IH.out b hb1 hb2 _ _ rfl hB0.out (by omega)).mono ?_; rintro e w2 ⟨v2, rfl, ho2, hB2⟩
             obtain ⟨a2, e2, hv2⟩ := own_shape ho2
             subst hv2
             have H2 : Hid _ := And.intro ho2 hB2
             have hsz3 := hB2.size
             clear ho2 hB2)
          | (at_builtin; refine wpList_app_own _ (by rfl) _ _ 48 (by rfl) w'.heap.size 3 i0 (.int .i64 0) 1 8 Tryz.underlying48 hi hz0 hz1 hz2 rfl (by decide) u6 _ _ (by rfl) (own_below hO.out H2.out.2 (Nat.le_refl _)) _ _ ((und (nodesOf ps) f b).map intV) (by rfl) (own_src H2.out.1 (one_int _)) (by unfold maxLen; simp only [List.length_cons]; omega) (by simp only [List.length_cons]; omega) (by omega) ?_
             intro v3 w3 hv3 hg3 _
             have H3 : Hid _ := And.intro hv3 ((hbel.out.trans (H2.out.2.mono hsz2)).grown hg3 (by omega) (fun q hq => (hO.out.lt q hq).1))
             clear hv3 hg3))
        go_roundw
        case rel =>
          go_light
          refine ⟨k + 1, by omega, by go_num, ?_, H3.out.2⟩
          show World.ownsRow _ _ _ _ _ _ _
          rw [HY.out]
          have := H3.out.1
          simpa [Nat.add_assoc, Nat.add_comm, Nat.add_left_comm] using this
        case measure => go_light; simp [intOf]; omega
      · obtain rfl : k = p.n.kids.length := by omega
        rw [List.take_length] at hO
        obtain ⟨a5, e5, hv5⟩ := own_shape hO.out
        subst hv5
        go_wp2
        go_ret
        exact ⟨_, rfl, hO.out, hbel.out⟩

end Go.Proofs.YtnoaojjljcbflaaGreatDoor
