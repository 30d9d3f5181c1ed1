/- What Put makes of a tree, where a root becomes the last kid of another root. -/
import Derived.Test.YtcaodjejhgnfdabDoorPut
namespace Go.Proofs.YtcaodjejhgnfdabDoor
open Go.RowKit

/-- the nodes behind a Put -/
def putP (ps : List Pn) (a b : Nat) (pa pb : Pn) (kv : Value) : List Pn := (ps.set a ⟨{ pa.n with kids := pa.n.kids ++ [(b : Int)] }, pa.av, kv⟩).set b ⟨{ pb.n with parent := a }, pb.av, pb.kv⟩

set_option maxHeartbeats 4000000 in
set_option maxRecDepth 100000 in
theorem move_root {w : World} {M : Nat → Lab} {tb : Nat} {nv uv : Value} {ps : List Pn} {us : List Value} (h : Lies w M tb nv uv ps us) {a b : Nat} {pa pb : Pn} (ha : ps[a]? = some pa) (hb : ps[b]? = some pb) (hab : a ≠ b) (hk : pa.n.kids.length ≤ 1099511627776) (hr : pb.n.parent = -1) :
    Calls Tryd.prog 47 #[.pointer (some ⟨tb, 0, none⟩), .int .i64 a, .int .i64 b, .int .i64 pa.n.kids.length] w fun e w' => ∃ ca, e = .returned (.func (.func 68) #[] ca) ∧ ∃ M' kv', Lies w' M' tb nv uv (putP ps a b pa pb kv') us ∧ Moved w M w' M' := by
  have HA : Hid (ps[a]? = some pa) := ha
  have HB : Hid (ps[b]? = some pb) := hb
  have H : Hid (Lies w M tb nv uv ps us) := h
  clear h ha hb
  go_enter Tryd.func47, Tryd.ntmps47
  go_wp2_with (first
    | (go_at_call 66; refine (pull_root ((H.out.alloc _).alloc _) HB.out hr).mono ?_; rintro e w1 ⟨rfl, rfl⟩)
    | (go_at_call 67; refine (push_any ((((H.out.alloc _).alloc _).alloc _).alloc _) HA.out HB.out hab hk).mono ?_; rintro e w2 ⟨rfl, M2, kv2, hL, hm⟩))
  go_ret
  exact ⟨_, rfl, M2, kv2, hL, ((((((Moved.refl w M).alloc _).alloc _).alloc _).alloc _).trans hm)⟩

set_option maxHeartbeats 4000000 in
set_option maxRecDepth 100000 in
theorem put_good {w : World} {M : Nat → Lab} {tb : Nat} {nv uv : Value} {ps : List Pn} {us : List Value} (h : Lies w M tb nv uv ps us) {a b : Nat} {pa pb : Pn} (ha : ps[a]? = some pa) (hb : ps[b]? = some pb) (hab : a ≠ b) (hb0 : 0 < b) (hk : pa.n.kids.length ≤ 1099511627776) (hra : pa.n.parent = -1) (hrb : pb.n.parent = -1) (hkd : kidsB pa.n.kind = true) (hu : us.length ≤ 1099511627776) :
    Calls Tryd.prog 17 #[.pointer (some ⟨tb, 0, none⟩), .int .i64 a, .int .i64 b, .int .i64 pa.n.kids.length] w fun e w' => e = .returned .nilIface ∧ ∃ M' uv' kv' f, Lies w' M' tb nv uv' (putP ps a b pa pb kv') (us ++ [f]) ∧ Moved w M w' M' := by
  have hha := hasB_of ha
  have hhb := hasB_of hb
  obtain ⟨nb, cap, rfl, hc, hm, hnM, hnl, hal⟩ := h.form ha
  have hbl : b < ps.length := (List.getElem?_eq_some_iff.1 hb).1
  have c0 := h.cell0
  have c5 := (h.cellN rfl (f := 5) ha (by omega) rfl).1
  obtain ⟨ka, kc, hkv, _, _⟩ := (h.node a pa ha).2.shape
  rw [hkv] at c5
  have c4 := (h.cellN rfl (f := 4) hb (by omega) rfl).1
  rw [hrb] at c4
  have HA : Hid (ps[a]? = some pa) := ha
  have HB : Hid (ps[b]? = some pb) := hb
  have H : Hid (Lies w M tb (.slice (some ⟨nb, 0, none⟩) ps.length cap) uv ps us) := h
  have hn0 : ¬ ((b : Int) = 0) := by omega
  have hn0b : ((b : Int) == 0) = false := by simpa using hn0
  have hn1 : ¬ ((-1 : Int) = (a : Int)) := by omega
  have hn1b : ((-1 : Int) == (a : Int)) = false := by simp
  unfold maxLen at hm
  clear h ha hb hkv
  go_enter Tryd.func17, Tryd.ntmps17
  go_wp2_with (first
    | (go_at_call_of 20 (a : Int); refine (has_any H.out _).mono ?_; rintro e w' ⟨rfl, rfl⟩; rw [hha])
    | (go_at_call_of 20 (b : Int); refine (has_any H.out _).mono ?_; rintro e w' ⟨rfl, rfl⟩; rw [hhb])
    | (go_at_call 45; refine (mayHaveKids_any H.out HA.out).mono ?_; rintro e w' ⟨rfl, rfl⟩; rw [hkd])
    | (go_at_call 46; refine (within_root H.out HA.out hra hab).mono ?_; rintro e w' ⟨rfl, rfl⟩)
    | (go_at_call 47; refine (move_root H.out HA.out HB.out hab hk hrb).mono ?_; rintro e w1 ⟨ca, rfl, M1, kv1, hL1, hm1⟩; have H1 : Hid _ := And.intro hL1 hm1; clear hL1 hm1)
    | (go_at_call 41; refine (keep_any H1.out.1 _ _ ca hu).mono ?_; rintro e w2 ⟨rfl, M2, uv2, hL2, hm2⟩))
  all_goals go_ret
  all_goals exact ⟨rfl, M2, uv2, kv1, _, hL2, H1.out.2.trans hm2⟩

set_option maxHeartbeats 4000000 in
set_option maxRecDepth 100000 in
theorem put_bad {w : World} {M : Nat → Lab} {tb : Nat} {nv uv : Value} {ps : List Pn} {us : List Value} (h : Lies w M tb nv uv ps us) (hE : Errs w M) {a b : Nat} {pa pb : Pn} (ha : ps[a]? = some pa) (hb : ps[b]? = some pb) (hb0 : 0 < b) (k : Int) (hkd : kidsB pa.n.kind = false) :
    Calls Tryd.prog 17 #[.pointer (some ⟨tb, 0, none⟩), .int .i64 a, .int .i64 b, .int .i64 k] w fun e w' => (∃ v, e = .returned v ∧ isErr v) ∧ w' = w := by
  obtain ⟨t, ad, hc3⟩ := hE.cell 3 (by decide)
  have hha := hasB_of ha
  have hhb := hasB_of hb
  have HA : Hid (ps[a]? = some pa) := ha
  have H : Hid (Lies w M tb nv uv ps us) := h
  have hn0 : ¬ ((b : Int) = 0) := by omega
  have hn0b : ((b : Int) == 0) = false := by simpa using hn0
  clear h ha hb hE
  go_enter Tryd.func17, Tryd.ntmps17
  go_wp2_with (first
    | (go_at_call_of 20 (a : Int); refine (has_any H.out _).mono ?_; rintro e w' ⟨rfl, rfl⟩; rw [hha])
    | (go_at_call_of 20 (b : Int); refine (has_any H.out _).mono ?_; rintro e w' ⟨rfl, rfl⟩; rw [hhb])
    | (go_at_call 45; refine (mayHaveKids_any H.out HA.out).mono ?_; rintro e w' ⟨rfl, rfl⟩; rw [hkd]))
  all_goals go_ret
  all_goals exact ⟨⟨_, rfl, ⟨t, ad, rfl⟩⟩, rfl⟩
end Go.Proofs.YtcaodjejhgnfdabDoor
