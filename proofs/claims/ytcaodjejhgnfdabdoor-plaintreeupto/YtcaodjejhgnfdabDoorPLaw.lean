/- PlainTree, walked: the tree of any list is the document's. -/
import Derived.Test.YtcaodjejhgnfdabDoorPlainG
import Derived.Test.YtcaodjejhgnfdabDoorRFrom2
import Derived.Test.YtcaodjejhgnfdabDoorAlike
namespace Go.Proofs.YtcaodjejhgnfdabDoor
open Go.RowKit

theorem RLies.rehead {w : World} {M : Nat → Lab} {tb tb2 : Nat} {nv uv : Value} {ps : List Pn} {us : List Value} (h : RLies w M tb nv uv ps us) (hh : w.heap[tb2]? = some (.cells #[nv, uv] 32 (0, 0))) (hM : M tb2 = .other) : ∃ M', RLies w M' tb2 nv uv ps us := by
  have r := h.relabel hM (lt_of_heap hh) .tree
  exact ⟨_, r.fresh, by simp, hh, r.nodes, r.undos, r.node⟩

theorem TwAt.wide {w : World} {S S' b c : Nat} {t : Tw} (h : TwAt w S b c t) (hs : S ≤ S') : TwAt w S' b c t := by
  refine ⟨Nat.lt_of_lt_of_le h.blk hs, h.kind, h.tag, h.text, h.attrs, h.kids, h.al, h.kl, h.tl, h.xl, ?_, ?_⟩
  · intro j x hx
    obtain ⟨b', o', e1, e2, e3⟩ := h.att j x hx
    exact ⟨b', o', e1, Nat.lt_of_lt_of_le e2 hs, e3⟩
  · intro j x hx
    obtain ⟨b', o', e1, e2, e3⟩ := h.kid j x hx
    exact ⟨b', o', e1, Nat.lt_of_lt_of_le e2 hs, e3⟩
theorem TwigsIn.wide {w : World} {S S' : Nat} {a : Option Addr} {ts : List Tw} (h : TwigsIn w S a ts) (hs : S ≤ S') : TwigsIn w S' a ts := fun i t ht => by
  obtain ⟨b, o, e, hT⟩ := h i t ht
  exact ⟨b, o, e, hT.wide hs⟩

set_option maxHeartbeats 4000000 in
set_option maxRecDepth 100000 in
theorem plainTree_any {W : World} {cap : Nat} {ad : Option Addr} {ts : List Tw} (h : TwigsIn W W.heap.size ad ts) (hE : Errs W M0) (hf : Fair ts) :
    Calls Tryd.prog 4 #[.slice ad ts.length cap] W fun e w' => e = .returned (.bool true) ∧ Below W.heap.size W w' := by
  have H : Hid (TwigsIn W W.heap.size ad ts) := h
  have HE : Hid (Errs W M0) := hE
  have HF : Hid (Fair ts) := hf
  clear h hE hf
  go_enter Tryd.func4, Tryd.ntmps4
  go_wp2_with fail
  refine (treeG_any H.out HE.out HF.out).mono ?_
  intro e w1 hq
  rcases hq with ⟨rfl, hnf, hB⟩ | ⟨tb, M, nv, uv, ps, us, rfl, hL, hmv, hns, hlen, hsz⟩
  · have HN : Hid (¬ Few ts) := hnf
    have HB : Hid (Below W.heap.size W w1) := hB
    clear hnf hB
    go_wp2_with fail
    refine (fewTwigs_any (H.out.same (w' := w1) (fun b hb => HB.out.block b hb))).mono ?_
    rintro e w' ⟨⟨r, rfl, hr⟩, rfl⟩
    cases r
    · go_wp2
      all_goals go_ret
      all_goals exact ⟨rfl, HB.out⟩
    · exact absurd (hr rfl) HN.out
  · have HB : Hid (Below W.heap.size W w1) := ⟨hmv.os, hmv.tape, hmv.output, hmv.size, fun b hb => hmv.far b hb rfl⟩
    have HL : Hid (Lies w1 M tb nv uv ps us ∧ nodesOf ps = treeS ts ∧ SizedN (treeS ts) (5000000 * ts.length) (5000000 * ts.length + ts.length)) := ⟨hL, hns, hsz⟩
    clear hL hmv hns hsz
    go_wp2_with fail
    refine (fewTwigs_any (H.out.same (w' := w1) (fun b hb => HB.out.block b hb))).mono ?_
    rintro e w' ⟨⟨r, rfl, hr⟩, rfl⟩
    cases r
    · go_wp2
      all_goals go_ret
      all_goals exact ⟨rfl, HB.out⟩
    · have HFew : Hid (Few ts) := hr rfl
      clear hr
      have h60 := HFew.out.1
      go_wp2_with fail
      refine (fromTwigs_any ((H.out.same (w' := w') (fun b hb => HB.out.block b hb)).wide HB.out.size) HFew.out).mono ?_
      rintro e w2 ⟨a2, n2, c2, M2, tb2, qs, rfl, hR, hq, hB2⟩
      have HR : Hid (∃ M3, RLies (w2.alloc (.cells #[.slice a2 n2 c2, .slice none 0 0] 32)) M3 w2.heap.size (.slice a2 n2 c2) (.slice none 0 0) qs []) := (hR.alloc _).rehead (heap_alloc_new w2 _) (hR.fresh _ (Nat.le_refl _))
      have HB2 : Hid (Below w'.heap.size w' w2 ∧ nodesOf qs = treeS ts) := ⟨hB2, hq⟩
      clear hR hq hB2
      go_wp2_with fail
      obtain ⟨M3, hR3⟩ := HR.out
      obtain ⟨g1, g2, g3⟩ := HL.out
      refine (alike_any ((g1.below HB2.out.1).alloc _) hR3 (g2.trans HB2.out.2.symm) (g2 ▸ lastS_sound ts _) (g2 ▸ lastS_neat ts _) (by have := congrArg List.length g2; rw [show (treeS ts).length = ts.length + 1 from lastS_length ts _] at this; simp [nodesOf] at this; omega) (g2 ▸ g3.mono (by omega) (by omega))).mono ?_
      rintro e w3 ⟨rfl, hB3⟩
      have hb3 : Below W.heap.size W w3 := HB.out.trans ((HB2.out.1.mono HB.out.size).trans (((Below.refl _ _).alloc (Nat.le_refl _) _ |>.mono (by have := HB2.out.1.size; have := HB.out.size; omega)).trans (hB3.mono (by have := HB2.out.1.size; have := HB.out.size; simp; omega))))
      clear g1 g2 g3 hB3 hR3 HR HL
      go_wp2
      go_ret
      exact ⟨rfl, hb3⟩
end Go.Proofs.YtcaodjejhgnfdabDoor
