/- A tree that can be undone down to what it was: what each change makes of it. -/
import Derived.Test.YtiikjflaonhfdaaDoorCopy
import Derived.Test.YtiikjflaonhfdaaDoorUndoA
namespace Go.Proofs.YtiikjflaonhfdaaDoor
open Go.RowKit

/-- what is kept, the last one first, undoes all down to a state -/
def Stk (w : World) (M : Nat → Lab) (tb K : Nat) : List Value → List Nd → List Nd → Prop
  | [], ns, base => ns = base
  | f :: fs, ns, base => ∃ r ns', KeptF w M tb f r ∧ Undoes ns ns' r ∧ WF ns' ∧ Few ns' K ∧ Stk w M tb K fs ns' base

theorem Stk.moved {w w' : World} {M M' : Nat → Lab} {tb K : Nat} (m : Moved w M w' M') : ∀ {fs : List Value} {ns base : List Nd}, Stk w M tb K fs ns base → Stk w' M' tb K fs ns base
  | [], _, _, h => h
  | _ :: _, _, _, h => by
    obtain ⟨r, ns', h1, h2, h3, h4, h5⟩ := h
    exact ⟨r, ns', h1.moved m, h2, h3, h4, Stk.moved m h5⟩
theorem Stk.mono {w : World} {M : Nat → Lab} {tb K L : Nat} (hKL : K ≤ L) : ∀ {fs : List Value} {ns base : List Nd}, Stk w M tb K fs ns base → Stk w M tb L fs ns base
  | [], _, _, h => h
  | _ :: _, _, _, h => by
    obtain ⟨r, ns', h1, h2, h3, h4, h5⟩ := h
    exact ⟨r, ns', h1, h2, h3, h4.mono hKL, Stk.mono hKL h5⟩

/-- a tree of these nodes lies there, and so many changes can be undone, down to a state -/
def UAt (w0 : World) (M0 : Nat → Lab) (tb K : Nat) (base ns : List Nd) (U : Nat) (w : World) : Prop :=
  ∃ M nv uv ps us, Lies w M tb nv uv ps us ∧ Moved w0 M0 w M ∧ nodesOf ps = ns ∧ WF ns ∧ Few ns K ∧ us.length = U ∧ U ≤ K ∧ Stk w M tb K us.reverse ns base

/-- some change was made, or none -/
def Stepped (w0 : World) (M0 : Nat → Lab) (tb K U : Nat) (base : List Nd) (e : Ending) (w' : World) : Prop :=
  (∃ v, e = .returned v) ∧ ∃ ns' U', U' ≤ U + 1 ∧ UAt w0 M0 tb (K + 1) base ns' U' w'

theorem UAt.mono {w0 w : World} {M0 : Nat → Lab} {tb K L U : Nat} {base ns : List Nd} (h : UAt w0 M0 tb K base ns U w) (hKL : K ≤ L) : UAt w0 M0 tb L base ns U w := by
  obtain ⟨M, nv, uv, ps, us, h1, h2, h3, h4, h5, h6, h7, h8⟩ := h
  exact ⟨M, nv, uv, ps, us, h1, h2, h3, h4, h5.mono hKL, h6, by omega, h8.mono hKL⟩
theorem UAt.below {w0 w w' : World} {M0 : Nat → Lab} {tb K U : Nat} {base ns : List Nd} (h : UAt w0 M0 tb K base ns U w) (hb : Below w.heap.size w w') : UAt w0 M0 tb K base ns U w' := by
  obtain ⟨M, nv, uv, ps, us, h1, h2, h3, h4, h5, h6, h7, h8⟩ := h
  exact ⟨M, nv, uv, ps, us, h1.below hb, h2.below hb, h3, h4, h5, h6, h7, h8.moved ((Moved.refl w M).below hb)⟩
theorem done_at {w0 w w' : World} {M0 M : Nat → Lab} {tb K U : Nat} {base : List Nd} {ps : List Pn} {us : List Value} (hd : Done w M tb ps us K w') (hm : Moved w0 M0 w M) (hW : WF (nodesOf ps)) (hF : Few (nodesOf ps) K) (hu : us.length = U) (hU : U ≤ K) (hs : Stk w M tb K us.reverse (nodesOf ps) base) : ∃ ns' U', U' ≤ U + 1 ∧ UAt w0 M0 tb (K + 1) base ns' U' w' := by
  obtain ⟨M', nv', uv', ps', f, r, g1, g2, g3, g4, g5, g6⟩ := hd
  refine ⟨_, U + 1, Nat.le_refl _, M', nv', uv', ps', us ++ [f], g1, hm.trans g5, rfl, g3, g6, by simp [hu], by omega, ?_⟩
  rw [List.reverse_append]
  exact ⟨r, _, g2, g4, hW, hF.mono (Nat.le_succ _), (hs.moved g5).mono (Nat.le_succ _)⟩

set_option maxHeartbeats 2000000 in
theorem text_bad {w : World} {M : Nat → Lab} {tb : Nat} {nv uv : Value} {ps : List Pn} {us : List Value} (h : Lies w M tb nv uv ps us) (hE : Errs w M) (hn : ps.length ≤ 400) (words : ByteArray) (hbad : 20000 < words.size ∨ ps.length = 400) :
    Calls Tryd.prog 23 #[.pointer (some ⟨tb, 0, none⟩), .string words] w fun e w' => (∃ v, e = .returned v) ∧ Below w.heap.size w w' := by
  have H : Hid (Lies w M tb nv uv ps us) := h
  have HE : Hid (Errs w M) := hE
  have HB : Hid (20000 < words.size ∨ ps.length = 400) := hbad
  clear h hE hbad
  go_enter Tryd.func23, Tryd.ntmps23
  go_wp2_with (go_at_call 16; refine (create_bad H.out HE.out hn 3 ⟨#[]⟩ words HB.out).mono ?_; rintro e w' ⟨v, rfl, ⟨t2, a2, rfl⟩, hB⟩)
  go_ret2
  exact ⟨⟨_, rfl⟩, hB⟩
set_option maxHeartbeats 2000000 in
theorem comment_bad {w : World} {M : Nat → Lab} {tb : Nat} {nv uv : Value} {ps : List Pn} {us : List Value} (h : Lies w M tb nv uv ps us) (hE : Errs w M) (hn : ps.length ≤ 400) (words : ByteArray) (hbad : 20000 < words.size ∨ ps.length = 400) :
    Calls Tryd.prog 24 #[.pointer (some ⟨tb, 0, none⟩), .string words] w fun e w' => (∃ v, e = .returned v) ∧ Below w.heap.size w w' := by
  have H : Hid (Lies w M tb nv uv ps us) := h
  have HE : Hid (Errs w M) := hE
  have HB : Hid (20000 < words.size ∨ ps.length = 400) := hbad
  clear h hE hbad
  go_enter Tryd.func24, Tryd.ntmps24
  go_wp2_with (go_at_call 16; refine (create_bad H.out HE.out hn 4 ⟨#[]⟩ words HB.out).mono ?_; rintro e w' ⟨v, rfl, ⟨t2, a2, rfl⟩, hB⟩)
  go_ret2
  exact ⟨⟨_, rfl⟩, hB⟩

section
variable {w0 : World} {M0 : Nat → Lab} {tb K U : Nat} {base ns : List Nd} {w : World}

theorem UAt.element (h : UAt w0 M0 tb K base ns U w) (hE : Errs w0 M0) (hK : K ≤ 1000) (s : ByteArray) : Calls Tryd.prog 7 #[.pointer (some ⟨tb, 0, none⟩), .string s] w (Stepped w0 M0 tb K U base) := by
  obtain ⟨M, nv, uv, ps, us, h1, h2, rfl, h4, h5, h6, h7, h8⟩ := id h
  have hl : ps.length ≤ 400 := by have := h4.len; simpa [nodesOf] using this
  by_cases hg : nameB s = true ∧ ps.length < 400
  · refine (element_good h1 hg.2 (by omega) s hg.1).mono fun e w' hm => ?_
    exact ⟨⟨_, hm.1⟩, done_at (hm.done h4 hg.2 h5 rfl rfl rfl) h2 h4 h5 h6 h7 h8⟩
  · refine (element_bad h1 (hE.moved h2) hl s ?_).mono ?_
    · by_cases hn : nameB s = true
      · exact .inr (by have : ¬ ps.length < 400 := fun h => hg ⟨hn, h⟩; omega)
      · exact .inl (by simpa using hn)
    · rintro e w' ⟨v, rfl, _, hB⟩
      exact ⟨⟨_, rfl⟩, _, _, Nat.le_succ _, (h.below hB).mono (Nat.le_succ _)⟩
theorem UAt.text (h : UAt w0 M0 tb K base ns U w) (hE : Errs w0 M0) (hK : K ≤ 1000) (s : ByteArray) : Calls Tryd.prog 23 #[.pointer (some ⟨tb, 0, none⟩), .string s] w (Stepped w0 M0 tb K U base) := by
  obtain ⟨M, nv, uv, ps, us, h1, h2, rfl, h4, h5, h6, h7, h8⟩ := id h
  have hl : ps.length ≤ 400 := by have := h4.len; simpa [nodesOf] using this
  by_cases hg : s.size ≤ 20000 ∧ ps.length < 400
  · refine (text_good h1 hg.2 (by omega) s hg.1).mono fun e w' hm => ?_
    exact ⟨⟨_, hm.1⟩, done_at (hm.done h4 hg.2 h5 rfl rfl rfl) h2 h4 h5 h6 h7 h8⟩
  · refine (text_bad h1 (hE.moved h2) hl s (by omega)).mono ?_
    rintro e w' ⟨hv, hB⟩
    exact ⟨hv, _, _, Nat.le_succ _, (h.below hB).mono (Nat.le_succ _)⟩
theorem UAt.comment (h : UAt w0 M0 tb K base ns U w) (hE : Errs w0 M0) (hK : K ≤ 1000) (s : ByteArray) : Calls Tryd.prog 24 #[.pointer (some ⟨tb, 0, none⟩), .string s] w (Stepped w0 M0 tb K U base) := by
  obtain ⟨M, nv, uv, ps, us, h1, h2, rfl, h4, h5, h6, h7, h8⟩ := id h
  have hl : ps.length ≤ 400 := by have := h4.len; simpa [nodesOf] using this
  by_cases hg : s.size ≤ 20000 ∧ ps.length < 400
  · refine (comment_good h1 hg.2 (by omega) s hg.1).mono fun e w' hm => ?_
    exact ⟨⟨_, hm.1⟩, done_at (hm.done h4 hg.2 h5 rfl rfl rfl) h2 h4 h5 h6 h7 h8⟩
  · refine (comment_bad h1 (hE.moved h2) hl s (by omega)).mono ?_
    rintro e w' ⟨hv, hB⟩
    exact ⟨hv, _, _, Nat.le_succ _, (h.below hB).mono (Nat.le_succ _)⟩
theorem UAt.put (h : UAt w0 M0 tb K base ns U w) (hE : Errs w0 M0) (hK : K ≤ 1000) (a b c : Int) : Calls Tryd.prog 25 #[.pointer (some ⟨tb, 0, none⟩), .int .i64 a, .int .i64 b, .int .i64 c] w (Stepped w0 M0 tb K U base) := by
  obtain ⟨M, nv, uv, ps, us, h1, h2, rfl, h4, h5, h6, h7, h8⟩ := id h
  refine (put_any h1 (hE.moved h2) h4 (by omega) a b c).mono ?_
  rintro e w' (⟨⟨v, rfl, _⟩, hB⟩ | hm)
  · exact ⟨⟨_, rfl⟩, _, _, Nat.le_succ _, (h.below hB).mono (Nat.le_succ _)⟩
  · exact ⟨⟨_, hm.1⟩, done_at (hm.done h5) h2 h4 h5 h6 h7 h8⟩
theorem UAt.take (h : UAt w0 M0 tb K base ns U w) (hE : Errs w0 M0) (hK : K ≤ 1000) (a : Int) : Calls Tryd.prog 26 #[.pointer (some ⟨tb, 0, none⟩), .int .i64 a] w (Stepped w0 M0 tb K U base) := by
  obtain ⟨M, nv, uv, ps, us, h1, h2, rfl, h4, h5, h6, h7, h8⟩ := id h
  refine (take_any h1 (hE.moved h2) h4 (by omega) a).mono ?_
  rintro e w' (⟨⟨v, rfl, _⟩, hB⟩ | hm)
  · exact ⟨⟨_, rfl⟩, _, _, Nat.le_succ _, (h.below hB).mono (Nat.le_succ _)⟩
  · exact ⟨⟨_, hm.1⟩, done_at (hm.done h5) h2 h4 h5 h6 h7 h8⟩
theorem UAt.set (h : UAt w0 M0 tb K base ns U w) (hE : Errs w0 M0) (hK : K ≤ 1000) (a : Int) (s t : ByteArray) (ht : t.size ≤ 9223372036854775807) : Calls Tryd.prog 27 #[.pointer (some ⟨tb, 0, none⟩), .int .i64 a, .string s, .string t] w (Stepped w0 M0 tb K U base) := by
  obtain ⟨M, nv, uv, ps, us, h1, h2, rfl, h4, h5, h6, h7, h8⟩ := id h
  refine (setU_any h1 (hE.moved h2) h4 h5 (by omega) (by omega) a s t ht).mono ?_
  rintro e w' ⟨hv, hB | hm⟩
  · exact ⟨hv, _, _, Nat.le_succ _, (h.below hB).mono (Nat.le_succ _)⟩
  · exact ⟨hv, done_at hm h2 h4 h5 h6 h7 h8⟩
theorem UAt.unset (h : UAt w0 M0 tb K base ns U w) (hE : Errs w0 M0) (hK : K ≤ 1000) (a : Int) (s : ByteArray) : Calls Tryd.prog 28 #[.pointer (some ⟨tb, 0, none⟩), .int .i64 a, .string s] w (Stepped w0 M0 tb K U base) := by
  obtain ⟨M, nv, uv, ps, us, h1, h2, rfl, h4, h5, h6, h7, h8⟩ := id h
  refine (unset_any h1 (hE.moved h2) h4 h5 (by omega) a s).mono ?_
  rintro e w' ⟨hv, hB | hm⟩
  · exact ⟨hv, _, _, Nat.le_succ _, (h.below hB).mono (Nat.le_succ _)⟩
  · exact ⟨hv, done_at hm h2 h4 h5 h6 h7 h8⟩
theorem UAt.say (h : UAt w0 M0 tb K base ns U w) (hE : Errs w0 M0) (hK : K ≤ 1000) (a : Int) (s : ByteArray) (hs : s.size ≤ 9223372036854775807) : Calls Tryd.prog 29 #[.pointer (some ⟨tb, 0, none⟩), .int .i64 a, .string s] w (Stepped w0 M0 tb K U base) := by
  obtain ⟨M, nv, uv, ps, us, h1, h2, rfl, h4, h5, h6, h7, h8⟩ := id h
  refine (say_any h1 (hE.moved h2) h4 h5 (by omega) a s hs).mono ?_
  rintro e w' ⟨hv, hB | hm⟩
  · exact ⟨hv, _, _, Nat.le_succ _, (h.below hB).mono (Nat.le_succ _)⟩
  · exact ⟨hv, done_at hm h2 h4 h5 h6 h7 h8⟩
theorem UAt.copy (h : UAt w0 M0 tb K base ns U w) (hE : Errs w0 M0) (hK : K ≤ 1000) (a : Int) : Calls Tryd.prog 30 #[.pointer (some ⟨tb, 0, none⟩), .int .i64 a] w (Stepped w0 M0 tb K U base) := by
  obtain ⟨M, nv, uv, ps, us, h1, h2, rfl, h4, h5, h6, h7, h8⟩ := id h
  refine (copy_any h1 (hE.moved h2) h4 h5 (by omega) (by omega) a).mono ?_
  rintro e w' ⟨hv, hB | hm⟩
  · exact ⟨hv, _, _, Nat.le_succ _, (h.below hB).mono (Nat.le_succ _)⟩
  · exact ⟨hv, done_at hm h2 h4 h5 h6 h7 h8⟩
theorem UAt.settle (h : UAt w0 M0 tb K base ns U w) : Calls Tryd.prog 9 #[.pointer (some ⟨tb, 0, none⟩)] w fun e w' => e = .returned (.tuple #[]) ∧ UAt w0 M0 tb K ns ns 0 w' := by
  obtain ⟨M, nv, uv, ps, us, h1, h2, rfl, h4, h5, h6, h7, h8⟩ := h
  refine (settle_any h1).mono ?_
  rintro e w' ⟨rfl, g1, g2⟩
  exact ⟨rfl, M, nv, _, ps, [], g1, h2.trans g2, rfl, h4, h5, rfl, Nat.zero_le _, rfl⟩

/-- nothing is left to be undone: all is as it was -/
theorem UAt.undo0 (h : UAt w0 M0 tb K base ns 0 w) : ns = base ∧ Calls Tryd.prog 12 #[.pointer (some ⟨tb, 0, none⟩)] w fun e w' => e = .returned (.bool false) ∧ w' = w := by
  obtain ⟨M, nv, uv, ps, us, h1, h2, h3, h4, h5, h6, h7, h8⟩ := h
  obtain rfl := List.eq_nil_of_length_eq_zero h6
  exact ⟨h8, undo_none h1⟩
theorem UAt.undo1 (h : UAt w0 M0 tb K base ns (U + 1) w) (hK : K ≤ 1000) : Calls Tryd.prog 12 #[.pointer (some ⟨tb, 0, none⟩)] w fun e w' => e = .returned (.bool true) ∧ ∃ ns', UAt w0 M0 tb K base ns' U w' := by
  obtain ⟨M, nv, uv, ps, us, h1, h2, rfl, h4, h5, h6, h7, h8⟩ := h
  obtain ⟨us', f, rfl⟩ : ∃ us' f, us = us' ++ [f] := ⟨us.dropLast, us.getLast (by intro e; subst e; simp at h6), (List.dropLast_concat_getLast _).symm⟩
  rw [List.reverse_append] at h8
  obtain ⟨r, ns', k1, k2, k3, k4, k5⟩ := h8
  refine (undo_any h1 k1 h4 h5 (by omega) k2).mono ?_
  rintro e w' ⟨rfl, M', nv', uv', ps', g1, g2, g3⟩
  exact ⟨rfl, ns', M', nv', uv', ps', us', g1, h2.trans g3, g2, k3, k4, by simpa using h6, by omega, k5.moved g3⟩
end
end Go.Proofs.YtiikjflaonhfdaaDoor
