/- A list of twigs as it lies in memory, and what 'few' answers of it. -/
import Derived.Test.YtcaodjejhgnfdabDoorPure
namespace Go.Proofs.YtcaodjejhgnfdabDoor
open Go.RowKit

structure TwAt (w : World) (S b c : Nat) (t : Tw) : Prop where
  blk : b < S
  kind : w.cell? ⟨b, c, none⟩ = some (.int .i64 t.kind)
  tag : w.cell? ⟨b, c + 1, none⟩ = some (.string t.tag)
  text : w.cell? ⟨b, c + 2, none⟩ = some (.string t.text)
  attrs : w.cell? ⟨b, c + 3, none⟩ = some (.slice t.aa t.attrs.length t.ac)
  kids : w.cell? ⟨b, c + 4, none⟩ = some (.slice t.ka t.kids.length t.kc)
  al : t.attrs.length ≤ t.ac ∧ t.ac ≤ 9223372036854775807
  kl : t.kids.length ≤ t.kc ∧ t.kc ≤ 9223372036854775807
  tl : t.tag.size ≤ 9223372036854775807
  xl : t.text.size ≤ 9223372036854775807
  att : ∀ j x, t.attrs[j]? = some x → ∃ b' o', t.aa = some ⟨b', o', none⟩ ∧ b' < S ∧ w.cell? ⟨b', o' + j * 2, none⟩ = some (.string x.1) ∧ w.cell? ⟨b', o' + j * 2 + 1, none⟩ = some (.string x.2) ∧ x.1.size ≤ 9223372036854775807 ∧ x.2.size ≤ 9223372036854775807
  kid : ∀ j k, t.kids[j]? = some k → ∃ b' o', t.ka = some ⟨b', o', none⟩ ∧ b' < S ∧ w.cell? ⟨b', o' + j, none⟩ = some (.int .i64 k)

/-- the twigs of a slice -/
def TwigsIn (w : World) (S : Nat) (a : Option Addr) (ts : List Tw) : Prop :=
  ∀ i t, ts[i]? = some t → ∃ b o, a = some ⟨b, o, none⟩ ∧ TwAt w S b (o + i * 5) t

theorem TwAt.same {w w' : World} {S b c : Nat} {t : Tw} (h : TwAt w S b c t) (hs : ∀ b, b < S → w'.heap[b]? = w.heap[b]?) : TwAt w' S b c t := by
  have cc : ∀ b o, b < S → w'.cell? ⟨b, o, none⟩ = w.cell? ⟨b, o, none⟩ := fun b o hb => World.cell?_of_block (a := ⟨b, o, none⟩) (hs b hb)
  refine ⟨h.blk, (cc _ _ h.blk).trans h.kind, (cc _ _ h.blk).trans h.tag, (cc _ _ h.blk).trans h.text, (cc _ _ h.blk).trans h.attrs, (cc _ _ h.blk).trans h.kids, h.al, h.kl, h.tl, h.xl, ?_, ?_⟩
  · intro j x hx
    obtain ⟨b', o', e1, e2, e3, e4, e5⟩ := h.att j x hx
    exact ⟨b', o', e1, e2, (cc _ _ e2).trans e3, (cc _ _ e2).trans e4, e5⟩
  · intro j x hx
    obtain ⟨b', o', e1, e2, e3⟩ := h.kid j x hx
    exact ⟨b', o', e1, e2, (cc _ _ e2).trans e3⟩
theorem TwigsIn.same {w w' : World} {S : Nat} {a : Option Addr} {ts : List Tw} (h : TwigsIn w S a ts) (hs : ∀ b, b < S → w'.heap[b]? = w.heap[b]?) : TwigsIn w' S a ts := fun i t ht => by
  obtain ⟨b, o, e, hT⟩ := h i t ht
  exact ⟨b, o, e, hT.same hs⟩

/-- a twig that is spoken of -/
def FewOne (t : Tw) : Prop := t.text.size ≤ 300 ∧ t.tag.size ≤ 60 ∧ t.attrs.length ≤ 8 ∧ t.kids.length ≤ 60
def Few (ts : List Tw) : Prop := ts.length ≤ 60 ∧ ∀ (j : Nat) (t : Tw), ts[j]? = some t → FewOne t

/-- what 'few' answers -/
def FewPost (ts : List Tw) (e : Ending) : Prop := ∃ r, e = .returned (.bool r) ∧ (r = true → Few ts)
theorem FewPost.no (ts : List Tw) : FewPost ts (.returned (.bool false)) := ⟨false, rfl, fun h => by cases h⟩

set_option maxHeartbeats 8000000 in
set_option maxRecDepth 100000 in
theorem fewTwigs_any {w : World} {S cap : Nat} {a : Option Addr} {ts : List Tw} (h : TwigsIn w S a ts) :
    Calls Tryd.prog 5 #[.slice a ts.length cap] w fun e w' => FewPost ts e ∧ w' = w := by
  have H : Hid (TwigsIn w S a ts) := h
  clear h
  by_cases h60 : 60 < ts.length
  · go_enter Tryd.func5, Tryd.ntmps5
    go_wp2
    go_ret
    exact ⟨FewPost.no ts, rfl⟩
  · go_enter Tryd.func5, Tryd.ntmps5
    go_wp2
    go_loop [3] (fun i => ∃ k : Nat, k ≤ ts.length ∧ i = .int .i64 k ∧ Hid (∀ j, j < k → ∀ t, ts[j]? = some t → FewOne t)) (fun i => ts.length - (intOf i).toNat)
    case atStart => exact ⟨0, by omega, rfl, (fun j hj => absurd hj (by omega) : ∀ j, j < 0 → ∀ t, ts[j]? = some t → FewOne t)⟩
    case round =>
      obtain ⟨k, hk, rfl, hfew⟩ := hrel
      by_cases hlt : k < ts.length
      · obtain ⟨t, ht⟩ : ∃ t, ts[k]? = some t := ⟨_, List.getElem?_eq_getElem hlt⟩
        obtain ⟨b, o, rfl, hT⟩ := H.out k t ht
        have c1 := hT.tag
        have c2 := hT.text
        have c3 := hT.attrs
        have c4 := hT.kids
        obtain ⟨m1, m2⟩ := hT.al
        obtain ⟨m3, m4⟩ := hT.kl
        have m5 := hT.tl
        have m6 := hT.xl
        have HA : Hid _ := hT.att
        have HT : Hid (ts[k]? = some t) := ht
        clear hT ht
        by_cases q1 : 300 < t.text.size
        · go_wp2
          go_ret
          exact ⟨FewPost.no ts, rfl⟩
        by_cases q2 : 60 < t.tag.size
        · go_wp2
          go_ret
          exact ⟨FewPost.no ts, rfl⟩
        by_cases q3 : 8 < t.attrs.length
        · go_wp2
          go_ret
          exact ⟨FewPost.no ts, rfl⟩
        by_cases q4 : 60 < t.kids.length
        · go_wp2
          go_ret
          exact ⟨FewPost.no ts, rfl⟩
        go_wp2
        go_loop [4] (fun i => ∃ n : Nat, n ≤ t.attrs.length ∧ i = .int .i64 n) (fun i => t.attrs.length - (intOf i).toNat)
        case atStart => exact ⟨0, by omega, rfl⟩
        case round =>
          obtain ⟨n, hn, rfl⟩ := hrel
          by_cases hnl : n < t.attrs.length
          · obtain ⟨x, hx⟩ : ∃ x, t.attrs[n]? = some x := ⟨_, List.getElem?_eq_getElem hnl⟩
            obtain ⟨b', o', hA, _, d1, d2, d3, d4⟩ := HA.out n x hx
            rw [hA] at c3
            clear hx
            go_wp2
            all_goals first
              | (go_ret; exact ⟨FewPost.no ts, rfl⟩)
              | skip
            all_goals go_round
            case rel => exact ⟨n + 1, by omega, by go_num⟩
            case measure => simp [intOf]; omega
          · go_wp2
            go_round
            case rel =>
              refine ⟨k + 1, by omega, by go_num, ?_⟩
              intro j hj t' ht'
              by_cases hjk : j = k
              · subst hjk
                obtain rfl := Option.some.inj (ht'.symm.trans HT.out)
                exact ⟨by omega, by omega, by omega, by omega⟩
              · exact hfew.out j (by omega) t' ht'
            case measure => simp [intOf]; omega
      · go_wp2
        go_ret
        exact ⟨⟨true, rfl, fun _ => ⟨by omega, fun j t ht => hfew.out j (by have := (List.getElem?_eq_some_iff.1 ht).1; omega) t ht⟩⟩, rfl⟩
end Go.Proofs.YtcaodjejhgnfdabDoor
