/- An attribute that was added is cut off. -/
import Derived.Test.YtoanbjdifddcoaaGreatDoorM23
namespace Go.Proofs.YtoanbjdifddcoaaGreatDoor
open Go.RowKit

set_option maxHeartbeats 4000000 in
set_option maxRecDepth 100000 in
theorem set1_any {w : World} {M : Nat → Lab} {tb : Nat} {nv uv : Value} {ps : List Pn} {us : List Value} (h : Lies w M tb nv uv ps us) {i : Nat} {p : Pn} (hp : ps[i]? = some p) {xs : List (ByteArray × ByteArray)} {x : ByteArray × ByteArray} (hx : p.n.attrs = xs ++ [x]) {b1 b2 : Nat} (k1 : Cap w M b1 0 (at0 tb)) (k2 : Cap w M b2 0 (.int .i64 i)) :
    Calls Tryz.prog 62 #[.pointer (some ⟨b1, 0, none⟩), .pointer (some ⟨b2, 0, none⟩)] w (Ran w M tb us ((nodesOf ps).set i { p.n with attrs := xs })) := by
  obtain ⟨nb, nc, rfl, hc, hm, hnM, hnl, hil⟩ := h.form hp
  obtain ⟨an, han⟩ : ∃ an, xs.length = an := ⟨_, rfl⟩
  have hal : p.n.attrs.length = an + 1 := by rw [hx]; simp [han]
  obtain ⟨ag, ac, hav, hac1, hac2, hagM, hagl⟩ := (h.node i p hp).1.form (by omega)
  rw [hal] at hav hac1
  have c0 := h.cell0
  obtain ⟨c3, c3f⟩ := h.cellN rfl (f := 3) hp (by omega) rfl
  rw [hav] at c3
  have HE : Hid (p.n.attrs.eraseIdx an = xs) := by
    show _ = xs
    rw [hx, List.eraseIdx_append_of_length_le (by omega), han, Nat.sub_self]
    simp
  have H : Hid (Lies w M tb (.slice (some ⟨nb, 0, none⟩) ps.length nc) uv ps us) := h
  have HP : Hid (ps[i]? = some p ∧ p.n.attrs.length = an + 1 ∧ xs.length = an) := ⟨hp, hal, han⟩
  have j1 := k1.2
  have j2 := k2.2
  unfold at0 at j1
  have i1 : (0 : Int) ≤ (i : Int) := by omega
  have i2 : (i : Int) < (ps.length : Int) := by omega
  unfold maxLen at hm hac2
  have hwr : IntKind.i64.wrap (an : Int) = (an : Int) := by
    rw [IntKind.wrap_i64]
    omega
  clear h hp hx hal han k1 k2
  go_enter Tryz.func62, Tryz.ntmps62
  go_wp2_with fail
  all_goals go_region
  all_goals go_wp2_with fail
  all_goals go_region_with ((go_at_call 63
                             try rw [hwr]
                             have hrw := (H.out.drew.drew.node i p HP.out.1).1
                             rw [hav, HP.out.2.1] at hrw
                             refine (deleteA_any hrw an (by omega) H.out.fresh).mono ?_
                             rintro e w2 ⟨rfl, hr, st⟩
                             rw [HE.out] at hr
                             obtain ⟨q1, q2, ⟨u3, q3⟩, q4⟩ := H.out.drew.drew.setAttrs rfl HP.out.1 st (av' := .slice (some ⟨ag, 0, none⟩) an ac) (at' := xs) (by rw [HP.out.2.2]; exact hr)
                             have HQ : Hid _ := And.intro q1 ((Moved.refl w M).drew.drew.trans q2)
                             clear q1 q2 hr st hrw))
  all_goals go_wp2
  all_goals go_end0
  all_goals exact ⟨rfl, M, _, _, _, HQ.out.1, set_nodes, HQ.out.2⟩

end Go.Proofs.YtoanbjdifddcoaaGreatDoor
