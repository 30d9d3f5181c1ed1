/- What a function that is just kept has captured is new. -/
import Derived.Test.YtoanbjdifddcoaaGreatDoorM17
namespace Go.Proofs.YtoanbjdifddcoaaGreatDoor
open Go.RowKit

/-- what a function has captured lies behind a place -/
def NewF (B : Nat) (f : Value) : Prop := ∀ F xs cs, f = .func F xs cs → ∀ b, Value.pointer (some ⟨b, 0, none⟩) ∈ cs.toList → B ≤ b
theorem NewF.mono {B C : Nat} {f : Value} (h : NewF C f) (hBC : B ≤ C) : NewF B f := fun F xs cs h1 b hb => Nat.le_trans hBC (h F xs cs h1 b hb)

/-- both trees' labels -/
def join (M N : Nat → Lab) : Nat → Lab := fun b => if N b = .other then M b else N b
theorem join_other {M N : Nat → Lab} {b : Nat} (h1 : M b = .other) (h2 : N b = .other) : join M N b = .other := by
  unfold join
  rw [if_pos h2]
  exact h1
theorem join_parts {M N : Nat → Lab} {b : Nat} (h : join M N b = .other) : M b = .other ∧ N b = .other := by
  unfold join at h
  by_cases e : N b = .other
  · rw [if_pos e] at h; exact ⟨h, e⟩
  · rw [if_neg e] at h; exact absurd h e

theorem KeptF.joined {w : World} {M N : Nat → Lab} {tb B : Nat} {f : Value} {r : Rec} (h : KeptF w M tb f r) (hn : NewF B f) (hN : ∀ b, B ≤ b → N b = .other) : KeptF w (join M N) tb f r := by
  cases r with
  | forget n =>
    obtain ⟨b1, b2, rfl, h1, h2, h3⟩ := h
    have k := hn _ _ _ rfl
    exact ⟨b1, b2, rfl, join_other h1 (hN b1 (k b1 (by simp))), join_other h2 (hN b2 (k b2 (by simp))), h3⟩
  | move i fr wz =>
    obtain ⟨b1, b2, b3, b4, rfl, ⟨h1, h2, h3, h4⟩, h5⟩ := h
    have k := hn _ _ _ rfl
    exact ⟨b1, b2, b3, b4, rfl, ⟨join_other h1 (hN b1 (k b1 (by simp))), join_other h2 (hN b2 (k b2 (by simp))), join_other h3 (hN b3 (k b3 (by simp))), join_other h4 (hN b4 (k b4 (by simp)))⟩, h5⟩
  | cut i =>
    obtain ⟨b1, b2, rfl, h1, h2⟩ := h
    have k := hn _ _ _ rfl
    exact ⟨b1, b2, rfl, ⟨join_other h1.1 (hN b1 (k b1 (by simp))), h1.2⟩, ⟨join_other h2.1 (hN b2 (k b2 (by simp))), h2.2⟩⟩
  | back i k' old =>
    obtain ⟨b0, b1, b2, b3, rfl, h0, h1, h2, h3⟩ := h
    have k := hn _ _ _ rfl
    exact ⟨b0, b1, b2, b3, rfl, ⟨join_other h0.1 (hN b0 (k b0 (by simp))), h0.2⟩, ⟨join_other h1.1 (hN b1 (k b1 (by simp))), h1.2⟩, ⟨join_other h2.1 (hN b2 (k b2 (by simp))), h2.2⟩, ⟨join_other h3.1 (hN b3 (k b3 (by simp))), h3.2⟩⟩
  | ins i k' x =>
    obtain ⟨b1, b2, b3, b4, rfl, h1, h2, h3, h4, h5⟩ := h
    have k := hn _ _ _ rfl
    exact ⟨b1, b2, b3, b4, rfl, ⟨join_other h1.1 (hN b1 (k b1 (by simp))), h1.2⟩, ⟨join_other h2.1 (hN b2 (k b2 (by simp))), h2.2⟩, ⟨join_other h3.1 (hN b3 (k b3 (by simp))), h3.2⟩, ⟨join_other h4.1 (hN b4 (k b4 (by simp))), h4.2⟩, ⟨join_other h5.1 (hN b4 (k b4 (by simp))), h5.2⟩⟩
  | say i old =>
    obtain ⟨b0, b1, b2, rfl, h0, h1, h2⟩ := h
    have k := hn _ _ _ rfl
    exact ⟨b0, b1, b2, rfl, ⟨join_other h0.1 (hN b0 (k b0 (by simp))), h0.2⟩, ⟨join_other h1.1 (hN b1 (k b1 (by simp))), h1.2⟩, ⟨join_other h2.1 (hN b2 (k b2 (by simp))), h2.2⟩⟩

/-- what was captured of one map is so of another one where it is other -/
theorem KeptF.unjoin {w w' : World} {M N M' N' : Nat → Lab} {tb : Nat} {f : Value} {r : Rec} (h : KeptF w (join M N) tb f r) (hb : ∀ b, b < w.heap.size → M b = .other → N b = .other → w'.heap[b]? = w.heap[b]? ∧ M' b = .other ∧ N' b = .other) : KeptF w' (join M' N') tb f r := by
  have c : ∀ {b o : Nat} {v : Value}, join M N b = .other → w.cell? ⟨b, o, none⟩ = some v → join M' N' b = .other ∧ w'.cell? ⟨b, o, none⟩ = some v := fun {b o v} hj hc => by
    obtain ⟨j1, j2⟩ := join_parts hj
    obtain ⟨k1, k2, k3⟩ := hb b (World.block_lt_of_cell? w _ hc) j1 j2
    exact ⟨join_other k2 k3, (World.cell?_of_block (a := ⟨b, o, none⟩) k1).trans hc⟩
  cases r with
  | forget n =>
    obtain ⟨b1, b2, rfl, h1, h2, h3, h4⟩ := h
    exact ⟨b1, b2, rfl, (c h1 h3).1, (c h2 h4).1, (c h1 h3).2, (c h2 h4).2⟩
  | move i fr wz =>
    obtain ⟨b1, b2, b3, b4, rfl, ⟨h1, h2, h3, h4⟩, k1, k2, k3, k4⟩ := h
    exact ⟨b1, b2, b3, b4, rfl, ⟨(c h1 k1).1, (c h2 k2).1, (c h3 k3).1, (c h4 k4).1⟩, (c h1 k1).2, (c h2 k2).2, (c h3 k3).2, (c h4 k4).2⟩
  | cut i =>
    obtain ⟨b1, b2, rfl, h1, h2⟩ := h
    exact ⟨b1, b2, rfl, c h1.1 h1.2, c h2.1 h2.2⟩
  | back i k' old =>
    obtain ⟨b0, b1, b2, b3, rfl, h0, h1, h2, h3⟩ := h
    exact ⟨b0, b1, b2, b3, rfl, c h0.1 h0.2, c h1.1 h1.2, c h2.1 h2.2, c h3.1 h3.2⟩
  | ins i k' x =>
    obtain ⟨b1, b2, b3, b4, rfl, h1, h2, h3, h4, h5⟩ := h
    exact ⟨b1, b2, b3, b4, rfl, c h1.1 h1.2, c h2.1 h2.2, c h3.1 h3.2, c h4.1 h4.2, c h5.1 h5.2⟩
  | say i old =>
    obtain ⟨b0, b1, b2, rfl, h0, h1, h2⟩ := h
    exact ⟨b0, b1, b2, rfl, c h0.1 h0.2, c h1.1 h1.2, c h2.1 h2.2⟩
theorem KeptF.left {w : World} {M N : Nat → Lab} {tb : Nat} {f : Value} {r : Rec} (h : KeptF w (join M N) tb f r) : KeptF w M tb f r := by
  have c : ∀ {b : Nat}, join M N b = .other → M b = .other := fun hj => (join_parts hj).1
  cases r with
  | forget n =>
    obtain ⟨b1, b2, rfl, h1, h2, h3⟩ := h
    exact ⟨b1, b2, rfl, c h1, c h2, h3⟩
  | move i fr wz =>
    obtain ⟨b1, b2, b3, b4, rfl, ⟨h1, h2, h3, h4⟩, h5⟩ := h
    exact ⟨b1, b2, b3, b4, rfl, ⟨c h1, c h2, c h3, c h4⟩, h5⟩
  | cut i =>
    obtain ⟨b1, b2, rfl, h1, h2⟩ := h
    exact ⟨b1, b2, rfl, ⟨c h1.1, h1.2⟩, ⟨c h2.1, h2.2⟩⟩
  | back i k' old =>
    obtain ⟨b0, b1, b2, b3, rfl, h0, h1, h2, h3⟩ := h
    exact ⟨b0, b1, b2, b3, rfl, ⟨c h0.1, h0.2⟩, ⟨c h1.1, h1.2⟩, ⟨c h2.1, h2.2⟩, ⟨c h3.1, h3.2⟩⟩
  | ins i k' x =>
    obtain ⟨b1, b2, b3, b4, rfl, h1, h2, h3, h4, h5⟩ := h
    exact ⟨b1, b2, b3, b4, rfl, ⟨c h1.1, h1.2⟩, ⟨c h2.1, h2.2⟩, ⟨c h3.1, h3.2⟩, ⟨c h4.1, h4.2⟩, ⟨c h5.1, h5.2⟩⟩
  | say i old =>
    obtain ⟨b0, b1, b2, rfl, h0, h1, h2⟩ := h
    exact ⟨b0, b1, b2, rfl, ⟨c h0.1, h0.2⟩, ⟨c h1.1, h1.2⟩, ⟨c h2.1, h2.2⟩⟩

set_option maxHeartbeats 1000000 in
theorem forgetN_any {w : World} {M : Nat → Lab} {tb : Nat} {nv uv : Value} {ps : List Pn} {us : List Value} (h : Lies w M tb nv uv ps us) :
    Calls Tryz.prog 69 #[.pointer (some ⟨tb, 0, none⟩)] w fun e w' => ∃ ca, e = .returned (.func (.func 87) #[] ca) ∧ Frg w' M (.func (.func 87) #[] ca) tb ps.length ∧ Below w.heap.size w w' ∧ NewF w.heap.size (.func (.func 87) #[] ca) := by
  obtain ⟨a, cap, rfl, hc, hm⟩ := h.nodes.shape
  have c0 := h.cell0
  have hfr := h.fresh
  unfold maxLen at hm
  have H : Hid (∀ b, w.heap.size ≤ b → M b = .other) := hfr
  have hlt : tb < w.heap.size := lt_of_heap h.head
  clear h hfr
  go_enter Tryz.func69, Tryz.ntmps69
  go_wp2
  go_ret
  refine ⟨_, rfl, ⟨_, _, rfl, H.out _ (by simp), H.out _ (by simp), by simp, by simp⟩, (((Below.refl _ _).alloc (Nat.le_refl _) _).alloc (by simp) _), ?_⟩
  intro F xs cs e b hb
  cases e
  simp at hb
  omega
/-- a node was made, and what was kept is new -/
def MadeN (w : World) (M : Nat → Lab) (tb : Nat) (ps : List Pn) (us : List Value) (p : Pn) (e : Ending) (w' : World) : Prop :=
  e = .returned (.tuple #[.int .i64 ps.length, .nilIface]) ∧ ∃ M' nv' uv' f, Lies w' M' tb nv' uv' (ps ++ [p]) (us ++ [f]) ∧ Frg w' M' f tb ps.length ∧ Moved w M w' M' ∧ NewF w.heap.size f

set_option maxHeartbeats 2000000 in
set_option maxRecDepth 100000 in
theorem createN_good {w : World} {M : Nat → Lab} {tb : Nat} {nv uv : Value} {ps : List Pn} {us : List Value} (h : Lies w M tb nv uv ps us) (hn : ps.length < 400) (hu : us.length ≤ 1099511627776) (kind : Int) (tag words : ByteArray) (hw : words.size ≤ 20000) :
    Calls Tryz.prog 50 #[.pointer (some ⟨tb, 0, none⟩), .agg #[.int .i64 kind, .string tag, .string words, .slice none 0 0, .int .i64 0, .slice none 0 0]] w (MadeN w M tb ps us (newP kind tag words)) := by
  have H : Hid (Lies w M tb nv uv ps us) := h
  have hr : decide (ps.length < 400) = true := by simp; omega
  clear h
  go_enter Tryz.func50, Tryz.ntmps50
  go_wp2_with (first
    | (go_at_call 68; refine (room_any (H.out.alloc _) (by omega)).mono ?_; rintro e w' ⟨rfl, rfl⟩; rw [hr])
    | (go_at_call 69; refine (forgetN_any (H.out.alloc _)).mono ?_; rintro e w1 ⟨ca, rfl, hF, hB, hN⟩; have HN : Hid _ := hN; have H1 : Hid _ := And.intro ((H.out.alloc _).below hB) (And.intro hF hB); clear hF hB hN)
    | (go_at_call 55; refine (keep_any H1.out.1 _ _ ca hu).mono ?_; rintro e w2 ⟨rfl, M2, uv2, hL2, hm2⟩; obtain ⟨hb0, hb1, hb2, hb3, hb4, hb5⟩ := six_cells (((hm2.far _ (Nat.lt_of_lt_of_le (by simp) H1.out.2.2.size) (H.out.fresh _ (Nat.le_refl _))).trans (H1.out.2.2.block _ (by simp))).trans (heap_alloc_new w _)); have H2 : Hid _ := And.intro hL2 hm2; clear hL2 hm2)
    | (go_at_call 76; refine (add_any H2.out.1 (by omega) kind 0 tag words none 0 0 [] (Row.nil _ _ _ _ _)).mono ?_; rintro e w3 ⟨rfl, M3, nv3, hL3, hm3⟩))
  go_ret2
  exact ⟨rfl, M3, nv3, uv2, _, hL3, (H1.out.2.1.moved H2.out.2).moved hm3, ((((Moved.refl _ _).alloc _).below H1.out.2.2).trans H2.out.2).trans hm3, NewF.mono HN.out (by simp)⟩
set_option maxHeartbeats 2000000 in
theorem elementN_good {w : World} {M : Nat → Lab} {tb : Nat} {nv uv : Value} {ps : List Pn} {us : List Value} (h : Lies w M tb nv uv ps us) (hn : ps.length < 400) (hu : us.length ≤ 1099511627776) (tag : ByteArray) (ht : nameB tag = true) :
    Calls Tryz.prog 20 #[.pointer (some ⟨tb, 0, none⟩), .string tag] w (MadeN w M tb ps us (newP 2 tag ⟨#[]⟩)) := by
  have H : Hid (Lies w M tb nv uv ps us) := h
  clear h
  go_enter Tryz.func20, Tryz.ntmps20
  go_wp2_with (first
    | (go_at_call 49; refine (name_any _ _).mono ?_; rintro e w' ⟨rfl, rfl⟩; rw [ht])
    | (go_at_call 50; refine (createN_good H.out hn hu 2 tag ⟨#[]⟩ (by decide)).mono ?_; rintro e w' ⟨rfl, M', nv', uv', f, h1, h2, h3, h4⟩))
  go_ret2
  exact ⟨rfl, M', nv', uv', f, h1, h2, h3, h4⟩
set_option maxHeartbeats 2000000 in
theorem textN_good {w : World} {M : Nat → Lab} {tb : Nat} {nv uv : Value} {ps : List Pn} {us : List Value} (h : Lies w M tb nv uv ps us) (hn : ps.length < 400) (hu : us.length ≤ 1099511627776) (words : ByteArray) (hw : words.size ≤ 20000) :
    Calls Tryz.prog 23 #[.pointer (some ⟨tb, 0, none⟩), .string words] w (MadeN w M tb ps us (newP 3 ⟨#[]⟩ words)) := by
  have H : Hid (Lies w M tb nv uv ps us) := h
  clear h
  go_enter Tryz.func23, Tryz.ntmps23
  go_wp2_with (go_at_call 50; refine (createN_good H.out hn hu 3 ⟨#[]⟩ words hw).mono ?_; rintro e w' ⟨rfl, M', nv', uv', f, h1, h2, h3, h4⟩)
  go_ret2
  exact ⟨rfl, M', nv', uv', f, h1, h2, h3, h4⟩
set_option maxHeartbeats 2000000 in
theorem commentN_good {w : World} {M : Nat → Lab} {tb : Nat} {nv uv : Value} {ps : List Pn} {us : List Value} (h : Lies w M tb nv uv ps us) (hn : ps.length < 400) (hu : us.length ≤ 1099511627776) (words : ByteArray) (hw : words.size ≤ 20000) :
    Calls Tryz.prog 24 #[.pointer (some ⟨tb, 0, none⟩), .string words] w (MadeN w M tb ps us (newP 4 ⟨#[]⟩ words)) := by
  have H : Hid (Lies w M tb nv uv ps us) := h
  clear h
  go_enter Tryz.func24, Tryz.ntmps24
  go_wp2_with (go_at_call 50; refine (createN_good H.out hn hu 4 ⟨#[]⟩ words hw).mono ?_; rintro e w' ⟨rfl, M', nv', uv', f, h1, h2, h3, h4⟩)
  go_ret2
  exact ⟨rfl, M', nv', uv', f, h1, h2, h3, h4⟩

set_option maxHeartbeats 4000000 in
set_option maxRecDepth 100000 in
theorem moveN_any {w : World} {M : Nat → Lab} {tb : Nat} {nv uv : Value} {ps : List Pn} {us : List Value} (h : Lies w M tb nv uv ps us) {i k wz : Nat} {f a : Int} {mid ns' : List Nd} (hp : Pulled (nodesOf ps) i mid f wz) (hq : Pushed mid i k a ns') (hf : KidsFew mid) :
    Calls Tryz.prog 56 #[.pointer (some ⟨tb, 0, none⟩), .int .i64 a, .int .i64 i, .int .i64 k] w fun e w' => ∃ ca, e = .returned (.func (.func 80) #[] ca) ∧ ∃ M' ps', Lies w' M' tb nv uv ps' us ∧ nodesOf ps' = ns' ∧ Moved w M w' M' ∧ MvF w' M' (.func (.func 80) #[] ca) tb i f wz ∧ NewF w.heap.size (.func (.func 80) #[] ca) := by
  have HP : Hid (Pulled (nodesOf ps) i mid f wz) := hp
  have HQ : Hid (Pushed mid i k a ns') := hq
  have HF : Hid (KidsFew mid) := hf
  have H : Hid (Lies w M tb nv uv ps us) := h
  clear h hp hq hf
  go_enter Tryz.func56, Tryz.ntmps56
  go_wp2_with (first
    | (go_at_call 78; refine (pull_any ((H.out.alloc _).alloc _) HP.out).mono ?_; rintro e w1 ⟨rfl, ps1, hL1, hn1, hm1⟩
       have b0 : w1.cell? ⟨w.heap.size, 0, none⟩ = some (.pointer (some ⟨tb, 0, none⟩)) := moved_cell hm1 (H.out.fresh _ (Nat.le_refl _)) (by simp)
       have b1 : w1.cell? ⟨w.heap.size + 1, 0, none⟩ = some (.int .i64 i) := moved_cell hm1 (H.out.fresh _ (by omega)) (by simp)
       have l0 : w.heap.size + 1 < w1.heap.size := World.block_lt_of_cell? w1 _ b1
       have l1 : w.heap.size < w1.heap.size := by omega
       have H1 : Hid _ := And.intro hL1 (And.intro hm1 hn1)
       clear hL1 hm1 hn1)
    | (go_at_call 79; refine (push_gen ((H1.out.1.alloc _).alloc _) (H1.out.2.2.symm ▸ HQ.out) (H1.out.2.2.symm ▸ HF.out)).mono ?_; rintro e w2 ⟨rfl, M2, ps2, hL2, hn2, hm2⟩))
  go_ret
  have h0 := H.out.fresh w.heap.size (Nat.le_refl _)
  have h1 := H.out.fresh (w.heap.size + 1) (by omega)
  have h2 := H1.out.1.fresh w1.heap.size (Nat.le_refl _)
  have h3 := H1.out.1.fresh (w1.heap.size + 1) (by omega)
  have lb : ∀ {b : Nat}, b < w1.heap.size + 1 + 1 → M b = .other → M2 b = .other := fun {b} hb ho => (hm2.lab b (by simpa using hb)).trans ho
  refine ⟨_, rfl, M2, ps2, hL2, hn2, ((((((Moved.refl w M).alloc _).alloc _).trans H1.out.2.1).alloc _).alloc _).trans hm2, ⟨_, _, _, _, rfl, ⟨lb (by omega) h0, lb (by omega) h1, lb (by omega) h2, lb (by omega) h3⟩, ?_, ?_, ?_, ?_⟩, ?_⟩
  · exact moved_cell hm2 h0 (moved_cell (((Moved.refl w1 M).alloc _).alloc _) h0 b0)
  · exact moved_cell hm2 h1 (moved_cell (((Moved.refl w1 M).alloc _).alloc _) h1 b1)
  · exact moved_cell hm2 h2 (by simp)
  · exact moved_cell hm2 h3 (by simp)
  · intro F xs cs e b hb
    cases e
    simp at hb
    omega
end Go.Proofs.YtoanbjdifddcoaaGreatDoor
