/- What package tree's calls make of a tree of known nodes. -/
import Derived.Test.YtlfepdecgfcifaaGreatDoorM12
import Derived.Test.YtlfepdecgfcifaaGreatDoorM17
import Derived.Test.YtlfepdecgfcifaaGreatDoorM27
import Derived.Test.YtlfepdecgfcifaaGreatDoorM10
namespace Go.Proofs.YtlfepdecgfcifaaGreatDoor
open Go.RowKit

/-- a tree of these nodes lies there, and not too much was done -/
def PAt (Bw : World) (BM : Nat → Lab) (tb : Nat) (ns : List Nd) (U A K : Nat) (w : World) : Prop :=
  ∃ M nv uv ps us, Lies w M tb nv uv ps us ∧ Moved Bw BM w M ∧ nodesOf ps = ns ∧ us.length ≤ U ∧ SizedN ns A K
/-- the same, and the last node can be forgotten -/
def PFresh (Bw : World) (BM : Nat → Lab) (tb : Nat) (ns : List Nd) (n : Nd) (U A K : Nat) (w : World) : Prop :=
  ∃ M nv uv ps p us f, Lies w M tb nv uv (ps ++ [p]) (us ++ [f]) ∧ Frg w M f tb ps.length ∧ Moved Bw BM w M ∧ nodesOf ps = ns ∧ p.n = n ∧ us.length ≤ U ∧ SizedN ns A K

theorem PAt.parts {Bw : World} {BM : Nat → Lab} {tb : Nat} {ns : List Nd} {U A K : Nat} {w : World} (h : PAt Bw BM tb ns U A K w) : ∃ M nv uv ps us, Lies w M tb nv uv ps us ∧ Moved Bw BM w M ∧ nodesOf ps = ns ∧ us.length ≤ U ∧ SizedN ns A K ∧ ps.length = ns.length := by
  obtain ⟨M, nv, uv, ps, us, h1, h2, h3, h4, h5⟩ := h
  exact ⟨M, nv, uv, ps, us, h1, h2, h3, h4, h5, by rw [← h3]; simp [nodesOf]⟩
theorem PAt.below {Bw : World} {BM : Nat → Lab} {tb : Nat} {ns : List Nd} {U A K : Nat} {w w' : World} (h : PAt Bw BM tb ns U A K w) (hb : Below w.heap.size w w') : PAt Bw BM tb ns U A K w' := by
  obtain ⟨M, nv, uv, ps, us, h1, h2, h3, h4, h5⟩ := h
  exact ⟨M, nv, uv, ps, us, h1.below hb, h2.below hb, h3, h4, h5⟩
theorem PAt.mono {Bw : World} {BM : Nat → Lab} {tb : Nat} {ns : List Nd} {U A K U' A' K' : Nat} {w : World} (h : PAt Bw BM tb ns U A K w) (h1 : U ≤ U') (h2 : A ≤ A') (h3 : K ≤ K') : PAt Bw BM tb ns U' A' K' w := by
  obtain ⟨M, nv, uv, ps, us, g1, g2, g3, g4, g5⟩ := h
  exact ⟨M, nv, uv, ps, us, g1, g2, g3, Nat.le_trans g4 h1, g5.mono h2 h3⟩
theorem PFresh.at {Bw : World} {BM : Nat → Lab} {tb : Nat} {ns : List Nd} {n : Nd} {U A K : Nat} {w : World} (h : PFresh Bw BM tb ns n U A K w) (ha : n.attrs = []) (hk : n.kids = []) : PAt Bw BM tb (ns ++ [n]) (U + 1) A K w := by
  obtain ⟨M, nv, uv, ps, p, us, f, h1, _, h2, h3, h4, h5, h6⟩ := h
  exact ⟨M, nv, uv, _, _, h1, h2, by subst h4; rw [← h3]; simp [nodesOf], by simp; omega, h6.snoc _ ha hk⟩

theorem Made.fresh {Bw w w' : World} {BM M : Nat → Lab} {tb : Nat} {ps : List Pn} {us : List Value} {p : Pn} {e : Ending} {ns : List Nd} {U A K : Nat} (h : Made w M tb ps us p e w') (hm : Moved Bw BM w M) (hn : nodesOf ps = ns) (hu : us.length ≤ U) (hz : SizedN ns A K) : e = .returned (.tuple #[.int .i64 ns.length, .nilIface]) ∧ PFresh Bw BM tb ns p.n U A K w' := by
  obtain ⟨rfl, M', nv', uv', f, g1, g2, g3⟩ := h
  refine ⟨by rw [← hn]; simp [nodesOf], M', nv', uv', ps, p, us, f, g1, g2, hm.trans g3, hn, rfl, hu, hz⟩

section
variable {Bw : World} {BM : Nat → Lab} {tb : Nat} {ns : List Nd} {U A K : Nat} {w : World}

theorem PAt.element (h : PAt Bw BM tb ns U A K w) (hl : ns.length < 400) (hU : U ≤ 10000000000) (tag : ByteArray) (ht : nameB tag = true) :
    Calls Tryz.prog 17 #[.pointer (some ⟨tb, 0, none⟩), .string tag] w fun e w' => e = .returned (.tuple #[.int .i64 ns.length, .nilIface]) ∧ PFresh Bw BM tb ns ⟨2, tag, ⟨#[]⟩, [], -1, []⟩ U A K w' := by
  obtain ⟨M, nv, uv, ps, us, h1, h2, h3, h4, h5, h6⟩ := h.parts
  exact (element_good h1 (by omega) (by omega) tag ht).mono fun e w' hm => hm.fresh h2 h3 h4 h5
theorem PAt.text (h : PAt Bw BM tb ns U A K w) (hl : ns.length < 400) (hU : U ≤ 10000000000) (s : ByteArray) (ht : s.size ≤ 20000) :
    Calls Tryz.prog 20 #[.pointer (some ⟨tb, 0, none⟩), .string s] w fun e w' => e = .returned (.tuple #[.int .i64 ns.length, .nilIface]) ∧ PFresh Bw BM tb ns ⟨3, ⟨#[]⟩, s, [], -1, []⟩ U A K w' := by
  obtain ⟨M, nv, uv, ps, us, h1, h2, h3, h4, h5, h6⟩ := h.parts
  exact (text_good h1 (by omega) (by omega) s ht).mono fun e w' hm => hm.fresh h2 h3 h4 h5
theorem PAt.comment (h : PAt Bw BM tb ns U A K w) (hl : ns.length < 400) (hU : U ≤ 10000000000) (s : ByteArray) (ht : s.size ≤ 20000) :
    Calls Tryz.prog 19 #[.pointer (some ⟨tb, 0, none⟩), .string s] w fun e w' => e = .returned (.tuple #[.int .i64 ns.length, .nilIface]) ∧ PFresh Bw BM tb ns ⟨4, ⟨#[]⟩, s, [], -1, []⟩ U A K w' := by
  obtain ⟨M, nv, uv, ps, us, h1, h2, h3, h4, h5, h6⟩ := h.parts
  exact (comment_good h1 (by omega) (by omega) s ht).mono fun e w' hm => hm.fresh h2 h3 h4 h5
theorem PFresh.undo {n : Nd} (h : PFresh Bw BM tb ns n U A K w) :
    Calls Tryz.prog 18 #[.pointer (some ⟨tb, 0, none⟩)] w fun e w' => e = .returned (.bool true) ∧ PAt Bw BM tb ns U A K w' := by
  obtain ⟨M, nv, uv, ps, p, us, f, h1, hf, h2, h3, h4, h5, h6⟩ := h
  refine (undo_forget h1 hf).mono ?_
  rintro e w' ⟨rfl, nv', uv', g1, g2⟩
  exact ⟨rfl, M, nv', uv', ps, us, g1, h2.trans g2, h3, h5, h6⟩

theorem PAt.elementBad (h : PAt Bw BM tb ns U A K w) (hE : Errs Bw BM) (hl : ns.length ≤ 400) (tag : ByteArray) (ht : nameB tag = false ∨ ns.length = 400) :
    Calls Tryz.prog 17 #[.pointer (some ⟨tb, 0, none⟩), .string tag] w fun e w' => (∃ t a, e = .returned (.tuple #[.int .i64 0, .iface t (.pointer (some a))])) ∧ PAt Bw BM tb ns U A K w' := by
  obtain ⟨M, nv, uv, ps, us, h1, h2, h3, h4, h5, h6⟩ := h.parts
  refine (element_bad h1 (hE.moved h2) (by omega) tag (by rcases ht with e | e; exact .inl e; exact .inr (by omega))).mono ?_
  rintro e w' ⟨v, rfl, ⟨t, a, rfl⟩, hB⟩
  exact ⟨⟨t, a, rfl⟩, h.below hB⟩

set_option maxHeartbeats 1000000 in
theorem PAt.textBad (h : PAt Bw BM tb ns U A K w) (hE : Errs Bw BM) (hl : ns.length ≤ 400) (s : ByteArray) (ht : 20000 < s.size ∨ ns.length = 400) :
    Calls Tryz.prog 20 #[.pointer (some ⟨tb, 0, none⟩), .string s] w fun e w' => (∃ t a, e = .returned (.tuple #[.int .i64 0, .iface t (.pointer (some a))])) ∧ PAt Bw BM tb ns U A K w' := by
  obtain ⟨M, nv, uv, ps, us, h1, h2, h3, h4, h5, h6⟩ := h.parts
  have HL : Hid (Lies w M tb nv uv ps us) := h1
  have HE2 : Hid (Errs w M) := hE.moved h2
  have HBad : Hid (20000 < s.size ∨ ps.length = 400) := by rcases ht with e | e; exact .inl e; exact .inr (by omega)
  have hl2 : ps.length ≤ 400 := by omega
  have HP : Hid (PAt Bw BM tb ns U A K w) := h
  clear h1 h2 h3 h4 h5 h hE ht
  go_enter Tryz.func20, Tryz.ntmps20
  go_wp2_with (go_at_call 47; refine (create_bad HL.out HE2.out hl2 _ _ _ HBad.out).mono ?_; rintro e w1 ⟨v, rfl, ⟨t, a, rfl⟩, hB⟩)
  go_ret2
  exact ⟨⟨t, a, rfl⟩, HP.out.below hB⟩
set_option maxHeartbeats 1000000 in
theorem PAt.commentBad (h : PAt Bw BM tb ns U A K w) (hE : Errs Bw BM) (hl : ns.length ≤ 400) (s : ByteArray) (ht : 20000 < s.size ∨ ns.length = 400) :
    Calls Tryz.prog 19 #[.pointer (some ⟨tb, 0, none⟩), .string s] w fun e w' => (∃ t a, e = .returned (.tuple #[.int .i64 0, .iface t (.pointer (some a))])) ∧ PAt Bw BM tb ns U A K w' := by
  obtain ⟨M, nv, uv, ps, us, h1, h2, h3, h4, h5, h6⟩ := h.parts
  have HL : Hid (Lies w M tb nv uv ps us) := h1
  have HE2 : Hid (Errs w M) := hE.moved h2
  have HBad : Hid (20000 < s.size ∨ ps.length = 400) := by rcases ht with e | e; exact .inl e; exact .inr (by omega)
  have hl2 : ps.length ≤ 400 := by omega
  have HP : Hid (PAt Bw BM tb ns U A K w) := h
  clear h1 h2 h3 h4 h5 h hE ht
  go_enter Tryz.func19, Tryz.ntmps19
  go_wp2_with (go_at_call 47; refine (create_bad HL.out HE2.out hl2 _ _ _ HBad.out).mono ?_; rintro e w1 ⟨v, rfl, ⟨t, a, rfl⟩, hB⟩)
  go_ret2
  exact ⟨⟨t, a, rfl⟩, HP.out.below hB⟩

theorem PAt.set (h : PAt Bw BM tb ns U A K w) (hE : Errs Bw BM) (hU : U ≤ 10000000000) (hA : A ≤ 10000000000) {i : Nat} (hi : i < ns.length) (name value : ByteArray) (hvs : value.size ≤ 9223372036854775807) (x : Int) (hx : x = i) :
    Calls Tryz.prog 21 #[.pointer (some ⟨tb, 0, none⟩), .int .i64 x, .string name, .string value] w fun e w' => (∃ v, e = .returned v) ∧ PAt Bw BM tb (setS ns i name value) (U + 1) (A + 1) K w' := by
  subst hx
  obtain ⟨M, nv, uv, ps, us, h1, h2, h3, h4, h5, h6⟩ := h.parts
  obtain ⟨p, hp⟩ : ∃ p, ps[i]? = some p := ⟨ps[i]'(by omega), List.getElem?_eq_getElem _⟩
  have hg : ns[i]? = some p.n := h3 ▸ nodes_get hp
  have hsz := h5 i p.n hg
  have done : ∀ e w', WasSet w M tb nv ps us i p name value e w' → (p.n.kind = 2 ∧ nameB name = true ∧ value.size ≤ 20000) → (∃ v, e = .returned v) ∧ PAt Bw BM tb (setS ns i name value) (U + 1) (A + 1) K w' := by
    rintro e w' ⟨rfl, M', uv', av', f, g1, g2⟩ hgood
    refine ⟨⟨_, rfl⟩, M', nv, uv', _, _, g1, h2.trans g2, ?_, by simp; omega, h5.set i name value⟩
    unfold setS
    rw [hg]
    simp only [if_pos hgood]
    rw [← h3]
    simp [nodesOf, List.map_set]
  by_cases hbad : p.n.kind ≠ 2 ∨ nameB name = false ∨ 20000 < value.size
  · refine (set_bad h1 (hE.moved h2) hp name value hvs hbad).mono ?_
    rintro e w' ⟨⟨v, rfl, _⟩, hB⟩
    have hno : ¬ (p.n.kind = 2 ∧ nameB name = true ∧ value.size ≤ 20000) := by
      rintro ⟨q1, q2, q3⟩
      rcases hbad with q | q | q
      · exact q q1
      · rw [q2] at q; cases q
      · omega
    refine ⟨⟨v, rfl⟩, ?_⟩
    unfold setS
    rw [hg]
    simp only [if_neg hno]
    exact (h.below hB).mono (by omega) (by omega) (Nat.le_refl _)
  · have hk : p.n.kind = 2 := Classical.byContradiction fun h => hbad (.inl h)
    have hn : nameB name = true := by
      cases hn : nameB name
      · exact absurd (.inr (.inl hn)) hbad
      · rfl
    have hv : value.size ≤ 20000 := Nat.le_of_not_lt fun h => hbad (.inr (.inr h))
    cases hf : findA p.n.attrs name with
    | none => exact (set_new h1 (hE.moved h2) hp name value hk hn hv (by omega) (by omega) hf).mono fun e w' hw => done e w' hw ⟨hk, hn, hv⟩
    | some q => exact (set_old h1 (hE.moved h2) hp name value hk hn hv (by omega) hf).mono fun e w' hw => done e w' hw ⟨hk, hn, hv⟩

theorem PAt.put (h : PAt Bw BM tb ns U A K w) (hE : Errs Bw BM) (hU : U ≤ 10000000000) (hK : K ≤ 10000000000) {a b : Nat} {na nb : Nd} (ha : ns[a]? = some na) (hb : ns[b]? = some nb) (hab : a ≠ b) (hb0 : 0 < b) (hra : na.parent = -1) (hrb : nb.parent = -1) (x y : Int) (hx : x = a) (hy : y = b) :
    Calls Tryz.prog 23 #[.pointer (some ⟨tb, 0, none⟩), .int .i64 x, .int .i64 y, .int .i64 na.kids.length] w fun e w' => (∃ v, e = .returned v) ∧ PAt Bw BM tb (putS ns a b) (U + 1) A (K + 1) w' := by
  subst hx
  subst hy
  obtain ⟨M, nv, uv, ps, us, h1, h2, h3, h4, h5, h6⟩ := h.parts
  obtain ⟨pa, hpa, ea⟩ := nodesOf_get (ps := ps) (h3 ▸ ha)
  obtain ⟨pb, hpb, eb⟩ := nodesOf_get (ps := ps) (h3 ▸ hb)
  subst ea
  subst eb
  have hsz := h5 a pa.n ha
  cases hkd : kidsB pa.n.kind
  · refine (put_bad h1 (hE.moved h2) hpa hpb hb0 _ hkd).mono ?_
    rintro e w' ⟨⟨v, rfl, _⟩, rfl⟩
    refine ⟨⟨v, rfl⟩, ?_⟩
    unfold putS
    rw [ha, hb]
    simp only [hkd, Bool.false_eq_true, if_false]
    exact h.mono (by omega) (Nat.le_refl _) (by omega)
  · refine (put_good h1 hpa hpb hab hb0 (by omega) hra hrb hkd (by omega)).mono ?_
    rintro e w' ⟨rfl, M', uv', kv', f, g1, g2⟩
    refine ⟨⟨_, rfl⟩, M', nv, uv', _, _, g1, h2.trans g2, ?_, by simp; omega, h5.put a b⟩
    unfold putS
    rw [ha, hb]
    simp only [hkd, if_true]
    rw [← h3]
    simp [nodesOf, putP, List.map_set]

theorem PAt.parent (h : PAt Bw BM tb ns U A K w) {i : Nat} {n : Nd} (hi : ns[i]? = some n) (x : Int) (hx : x = i) :
    Calls Tryz.prog 22 #[.pointer (some ⟨tb, 0, none⟩), .int .i64 x] w fun e w' => e = .returned (.int .i64 n.parent) ∧ w' = w := by
  subst hx
  obtain ⟨M, nv, uv, ps, us, h1, h2, h3, h4, h5, h6⟩ := h.parts
  obtain ⟨p, hp, e⟩ := nodesOf_get (ps := ps) (h3 ▸ hi)
  subst e
  exact parent_any h1 hp
theorem PAt.kids (h : PAt Bw BM tb ns U A K w) (hK : K ≤ 10000000000) {i : Nat} {n : Nd} (hi : ns[i]? = some n) (x : Int) (hx : x = i) :
    Calls Tryz.prog 24 #[.pointer (some ⟨tb, 0, none⟩), .int .i64 x] w fun e w' => ∃ a c, e = .returned (.slice a n.kids.length c) ∧ Below w.heap.size w w' := by
  subst hx
  obtain ⟨M, nv, uv, ps, us, h1, h2, h3, h4, h5, h6⟩ := h.parts
  obtain ⟨p, hp, e⟩ := nodesOf_get (ps := ps) (h3 ▸ hi)
  subst e
  refine (kids_any h1 hp (by have := (h5 i p.n hi).2; omega)).mono ?_
  rintro e w' ⟨v', rfl, ho, hB⟩
  obtain ⟨a, c, rfl⟩ := own_shape ho
  exact ⟨a, c, rfl, hB⟩
end
end Go.Proofs.YtlfepdecgfcifaaGreatDoor
