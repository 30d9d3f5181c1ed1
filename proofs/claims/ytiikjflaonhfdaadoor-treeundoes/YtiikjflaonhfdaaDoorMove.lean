/- A node is moved, and moved back. -/
import Derived.Test.YtiikjflaonhfdaaDoorTake
import Derived.Test.YtiikjflaonhfdaaDoorPush
import Derived.Test.YtiikjflaonhfdaaDoorUPure2
namespace Go.Proofs.YtiikjflaonhfdaaDoor
open Go.RowKit

/-- no list of kids is too long -/
def KidsFew (ns : List Nd) : Prop := ∀ (j : Nat) (n : Nd), ns[j]? = some n → n.kids.length ≤ 1099511627776
theorem WF.kidsFew {ns : List Nd} (h : WF ns) : KidsFew ns := fun j n hn => Nat.le_trans (h.few hn) (by omega)

theorem pull_any {w : World} {M : Nat → Lab} {tb : Nat} {nv uv : Value} {ps : List Pn} {us : List Value} (h : Lies w M tb nv uv ps us) {i wz : Nat} {f : Int} {ns' : List Nd} (hp : Pulled (nodesOf ps) i ns' f wz) :
    Calls Tryd.prog 64 #[.pointer (some ⟨tb, 0, none⟩), .int .i64 i] w fun e w' => e = .returned (.tuple #[.int .i64 f, .int .i64 wz]) ∧ ∃ ps', Lies w' M tb nv uv ps' us ∧ nodesOf ps' = ns' ∧ Moved w M w' M := by
  cases hp with
  | root hi hr =>
    obtain ⟨p, hp, rfl⟩ := nodesOf_get hi
    refine (pull_root h hp hr).mono ?_
    rintro e w' ⟨rfl, rfl⟩
    exact ⟨rfl, ps, h, rfl, Moved.refl _ _⟩
  | kid hi hq hm hk hqi =>
    obtain ⟨p, hp, rfl⟩ := nodesOf_get hi
    obtain ⟨m, hm', rfl⟩ := nodesOf_get hm
    refine (pull_kid h hp hq hm' hk hqi).mono ?_
    rintro e w' ⟨rfl, kv', h1, h2⟩
    exact ⟨rfl, _, h1, by simp [nodesOf, pullP, List.map_set], h2⟩

theorem push_gen {w : World} {M : Nat → Lab} {tb : Nat} {nv uv : Value} {ps : List Pn} {us : List Value} (h : Lies w M tb nv uv ps us) {i k : Nat} {a : Int} {ns' : List Nd} (hp : Pushed (nodesOf ps) i k a ns') (hf : KidsFew (nodesOf ps)) :
    Calls Tryd.prog 65 #[.pointer (some ⟨tb, 0, none⟩), .int .i64 a, .int .i64 i, .int .i64 k] w fun e w' => e = .returned (.tuple #[]) ∧ ∃ M' ps', Lies w' M' tb nv uv ps' us ∧ nodesOf ps' = ns' ∧ Moved w M w' M' := by
  cases hp with
  | none =>
    refine (push_none tb _ _ _).mono ?_
    rintro e w' ⟨rfl, rfl⟩
    exact ⟨rfl, M, ps, h, rfl, Moved.refl _ _⟩
  | kid hm hi ha hk =>
    obtain ⟨p, hp, rfl⟩ := nodesOf_get hi
    obtain ⟨m, hm', rfl⟩ := nodesOf_get hm
    refine (push_all h hm' hp ha (hf _ _ hm) hk).mono ?_
    rintro e w' ⟨rfl, M', kv', h1, h2⟩
    exact ⟨rfl, M', _, h1, by simp [nodesOf, List.map_set], h2⟩

set_option maxHeartbeats 4000000 in
set_option maxRecDepth 100000 in
theorem move_any {w : World} {M : Nat → Lab} {tb : Nat} {nv uv : Value} {ps : List Pn} {us : List Value} (h : Lies w M tb nv uv ps us) {i k wz : Nat} {f a : Int} {mid ns' : List Nd} (hp : Pulled (nodesOf ps) i mid f wz) (hq : Pushed mid i k a ns') (hf : KidsFew mid) :
    Calls Tryd.prog 46 #[.pointer (some ⟨tb, 0, none⟩), .int .i64 a, .int .i64 i, .int .i64 k] w fun e w' => ∃ ca, e = .returned (.func (.func 66) #[] ca) ∧ ∃ M' ps', Lies w' M' tb nv uv ps' us ∧ nodesOf ps' = ns' ∧ Moved w M w' M' ∧ MvF w' M' (.func (.func 66) #[] ca) tb i f wz := by
  have HP : Hid (Pulled (nodesOf ps) i mid f wz) := hp
  have HQ : Hid (Pushed mid i k a ns') := hq
  have HF : Hid (KidsFew mid) := hf
  have H : Hid (Lies w M tb nv uv ps us) := h
  clear h hp hq hf
  go_enter Tryd.func46, Tryd.ntmps46
  go_wp2_with (first
    | (go_at_call 64; refine (pull_any ((H.out.alloc _).alloc _) HP.out).mono ?_; rintro e w1 ⟨rfl, ps1, hL1, hn1, hm1⟩
       have b0 : w1.cell? ⟨w.heap.size, 0, none⟩ = some (.pointer (some ⟨tb, 0, none⟩)) := moved_cell hm1 (H.out.fresh _ (Nat.le_refl _)) (by simp)
       have b1 : w1.cell? ⟨w.heap.size + 1, 0, none⟩ = some (.int .i64 i) := moved_cell hm1 (H.out.fresh _ (by omega)) (by simp)
       have l0 : w.heap.size + 1 < w1.heap.size := World.block_lt_of_cell? w1 _ b1
       have l1 : w.heap.size < w1.heap.size := by omega
       have H1 : Hid _ := And.intro hL1 (And.intro hm1 hn1)
       clear hL1 hm1 hn1)
    | (go_at_call 65; refine (push_gen ((H1.out.1.alloc _).alloc _) (H1.out.2.2.symm ▸ HQ.out) (H1.out.2.2.symm ▸ HF.out)).mono ?_; rintro e w2 ⟨rfl, M2, ps2, hL2, hn2, hm2⟩))
  go_ret
  have h0 := H.out.fresh w.heap.size (Nat.le_refl _)
  have h1 := H.out.fresh (w.heap.size + 1) (by omega)
  have h2 := H1.out.1.fresh w1.heap.size (Nat.le_refl _)
  have h3 := H1.out.1.fresh (w1.heap.size + 1) (by omega)
  have lb : ∀ {b : Nat}, b < w1.heap.size + 1 + 1 → M b = .other → M2 b = .other := fun {b} hb ho => (hm2.lab b (by simpa using hb)).trans ho
  refine ⟨_, rfl, M2, ps2, hL2, hn2, ((((((Moved.refl w M).alloc _).alloc _).trans H1.out.2.1).alloc _).alloc _).trans hm2, ⟨_, _, _, _, rfl, ⟨lb (by omega) h0, lb (by omega) h1, lb (by omega) h2, lb (by omega) h3⟩, ?_, ?_, ?_, ?_⟩⟩
  · exact moved_cell hm2 h0 (moved_cell (((Moved.refl w1 M).alloc _).alloc _) h0 b0)
  · exact moved_cell hm2 h1 (moved_cell (((Moved.refl w1 M).alloc _).alloc _) h1 b1)
  · exact moved_cell hm2 h2 (by simp)
  · exact moved_cell hm2 h3 (by simp)

set_option maxHeartbeats 4000000 in
set_option maxRecDepth 100000 in
theorem move1_any {w : World} {M : Nat → Lab} {tb : Nat} {nv uv : Value} {ps : List Pn} {us : List Value} (h : Lies w M tb nv uv ps us) {i wz wz' : Nat} {f f' : Int} {mid ns' : List Nd} {ca : Array Value} (hM : MvF w M (.func (.func 66) #[] ca) tb i f wz) (hp : Pulled (nodesOf ps) i mid f' wz') (hq : Pushed mid i wz f ns') (hf : KidsFew mid) :
    Calls Tryd.prog 66 ca w fun e w' => e = .returned (.tuple #[]) ∧ ∃ M' ps', Lies w' M' tb nv uv ps' us ∧ nodesOf ps' = ns' ∧ Moved w M w' M' := by
  obtain ⟨b1, b2, b3, b4, he, ⟨m1, m2, m3, m4⟩, k1, k2, k3, k4⟩ := hM
  cases he
  have HP : Hid (Pulled (nodesOf ps) i mid f' wz') := hp
  have HQ : Hid (Pushed mid i wz f ns') := hq
  have HF : Hid (KidsFew mid) := hf
  have H : Hid (Lies w M tb nv uv ps us) := h
  have HM : Hid (M b1 = .other ∧ M b2 = .other ∧ M b3 = .other ∧ M b4 = .other) := ⟨m1, m2, m3, m4⟩
  clear h hp hq hf m1 m2 m3 m4
  go_enter Tryd.func66, Tryd.ntmps66
  go_wp2_with (first
    | (go_at_call 64; refine (pull_any H.out HP.out).mono ?_; rintro e w1 ⟨rfl, ps1, hL1, hn1, hm1⟩
       have c1 := moved_cell hm1 HM.out.1 k1
       have c2 := moved_cell hm1 HM.out.2.1 k2
       have c3 := moved_cell hm1 HM.out.2.2.1 k3
       have c4 := moved_cell hm1 HM.out.2.2.2 k4
       have H1 : Hid _ := And.intro hL1 (And.intro hm1 hn1)
       clear hL1 hm1 hn1)
    | (go_at_call 65; refine (push_gen H1.out.1 (H1.out.2.2.symm ▸ HQ.out) (H1.out.2.2.symm ▸ HF.out)).mono ?_; rintro e w2 ⟨rfl, M2, ps2, hL2, hn2, hm2⟩))
  go_end0
  exact ⟨rfl, M2, ps2, hL2, hn2, H1.out.2.1.trans hm2⟩
end Go.Proofs.YtiikjflaonhfdaaDoor
