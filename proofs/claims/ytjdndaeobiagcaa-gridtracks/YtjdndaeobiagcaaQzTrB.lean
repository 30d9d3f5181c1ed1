/- The document's SizeTracks: its tracks in memory, which it puts right in place. -/
import Derived.Test.YtjdndaeobiagcaaQzSpan
namespace Go.Proofs.Ytjdndaeobiagcaa
open Go.RowKit
set_option linter.unusedVariables false      -- bounds that are for the walk

def TrB (w : World) (g n : Nat) (T : Nat → Tr2) : Prop := ∃ arr, w.heap[g]? = some (.cells arr 56 (0, 0)) ∧ ∀ j : Nat, j < n → arr[j * 2]? = some (.int .i64 (T j).k) ∧ arr[j * 2 + 1]? = some (.int .i64 (T j).n)
section
variable {w w' : World} {g n : Nat} {T T' : Nat → Tr2}
theorem TrB.lt (h : TrB w g n T) : g < w.heap.size := by
  obtain ⟨arr, h, _⟩ := h
  exact ltH h
theorem TrB.at (h : TrB w g n T) {k : Nat} (hk : k < n) : w.cell? ⟨g, k * 2, none⟩ = some (.int .i64 (T k).k) ∧ w.cell? ⟨g, k * 2 + 1, none⟩ = some (.int .i64 (T k).n) := by
  obtain ⟨arr, h, h2⟩ := h
  obtain ⟨a1, a2⟩ := h2 k hk
  refine ⟨?_, ?_⟩ <;> rw [cell_of_row w g _ _ _ _ h] <;> assumption
theorem TrB.frz (h : TrB w g n T) (k : Nat) : w.frozen? ⟨g, k, none⟩ = false := by
  obtain ⟨arr, h, _⟩ := h
  simp [World.frozen?, h]
theorem TrB.congr (h : TrB w g n T) (e : ∀ j, j < n → T j = T' j) : TrB w g n T' := by
  obtain ⟨arr, h, h2⟩ := h
  exact ⟨arr, h, fun j hj => by rw [← e j hj]; exact h2 j hj⟩
theorem TrB.keep (h : TrB w g n T) (e : w'.heap[g]? = w.heap[g]?) : TrB w' g n T := by
  obtain ⟨arr, h, h2⟩ := h
  exact ⟨arr, e.trans h, h2⟩
theorem TrB.put (h : TrB w g n T) (x : Nat) (hx : x < n) (c : Int) : TrB (w.setCell ⟨g, x * 2, none⟩ (.int .i64 c)) g n (fun j => if j = x then ⟨c, (T j).n⟩ else T j) := by
  obtain ⟨arr, h, h2⟩ := h
  have e0 := heap_setCell_same w g (x * 2) arr 56 (.int .i64 c) h
  refine ⟨_, e0, fun j hj => ?_⟩
  obtain ⟨b1, b2⟩ := h2 x hx
  have hs : x * 2 < arr.size := by
    rcases Nat.lt_or_ge (x * 2) arr.size with h | h
    · exact h
    · rw [Array.getElem?_eq_none h] at b1; cases b1
  obtain ⟨a1, a2⟩ := h2 j hj
  by_cases e : j = x
  · subst e
    simp only [if_pos]
    refine ⟨?_, ?_⟩
    · rw [Array.getElem?_setIfInBounds_self_of_lt (by omega)]
    · rw [Array.getElem?_setIfInBounds_ne (by omega)]; exact a2
  · simp only [if_neg e]
    refine ⟨?_, ?_⟩
    · rw [Array.getElem?_setIfInBounds_ne (by omega)]; exact a1
    · rw [Array.getElem?_setIfInBounds_ne (by omega)]; exact a2
theorem TrB.reads {cap : Nat} (h : TrB w g n T) (h1 : n ≤ cap) (h2 : cap ≤ 9223372036854775807) : TkL w (.slice (some ⟨g, 0, none⟩) n cap) ((List.range n).map T) := by
  refine ⟨some ⟨g, 0, none⟩, cap, by simp, by simpa using h1, h2, fun j x hj => ⟨g, 0, rfl, h.lt, ?_⟩⟩
  have hjn : j < n := by have := (List.getElem?_eq_some_iff.1 hj).1; simpa using this
  rw [List.getElem?_map, List.getElem?_range hjn] at hj
  cases hj
  rw [Nat.zero_add]
  exact h.at hjn
end
theorem trsC_get : ∀ (l : List Tr2) (j f : Nat) (x : Tr2), l[j]? = some x → f < 2 → (trsC l)[j * 2 + f]? = (trC x)[f]?
  | [], j, f, x, h, _ => by simp at h
  | a :: r, 0, f, x, h, hf => by
    obtain rfl : a = x := by simpa using h
    unfold trsC
    rw [List.flatMap_cons, Nat.zero_mul, Nat.zero_add, List.getElem?_append_left (by simp [trC]; omega)]
  | a :: r, j + 1, f, x, h, hf => by
    have ih := trsC_get r j f x (by simpa using h) hf
    unfold trsC at ih ⊢
    rw [List.flatMap_cons, List.getElem?_append_right (by simp [trC]; omega), show (j + 1) * 2 + f - (trC a).length = j * 2 + f by simp [trC]; omega]
    exact ih
theorem own_trb {w : World} {B n : Nat} {v : Value} {xs : List Tr2} (hn : xs.length = n) (h : w.ownsRow B 56 2 v n (trsC xs)) : (v = .slice none 0 0 ∧ n = 0) ∨ ∃ g cap, v = .slice (some ⟨g, 0, none⟩) n cap ∧ B ≤ g ∧ n ≤ cap ∧ cap ≤ 9223372036854775807 ∧ TrB w g n (atT xs) := by
  obtain ⟨hl, h | ⟨g, cap, cur, rfl, hg, hh, h1, h2, h3, h4⟩⟩ := h
  · exact .inl h
  · unfold maxLen at h2
    refine .inr ⟨g, cap, rfl, hg, h1, by omega, cur, hh, fun j hj => ?_⟩
    have hx : xs[j]? = some (atT xs j) := by simp [atT, hn ▸ hj]
    have hc : ∀ (f : Nat) u, f < 2 → (trC (atT xs j))[f]? = some u → cur[j * 2 + f]? = some u := fun f u hf hu => by
      have e := trsC_get xs j f _ hx hf
      rw [hu, ← h4, List.getElem?_take] at e
      split at e
      · simpa using e
      · cases e
    exact ⟨hc 0 _ (by omega) rfl, hc 1 _ (by omega) rfl⟩

/-- tracks, needs and sizes -/
structure QoAt (w wr : World) (a na : Option Addr) (g n m nc ob : Nat) (nds : List Nd3) (T : Nat → Tr2) (sz : Nat → Int) : Prop where
  below : Below w.heap.size w wr
  trk : 0 < n → a = some ⟨g, 0, none⟩ ∧ w.heap.size ≤ g ∧ g ≠ ob ∧ (Value.slice na m nc).ownBlock ≠ some g ∧ TrB wr g n T
  nd : NsL wr (.slice na m nc) (nds.map dwnN)
  out : SzAt wr ob n sz
  lo : w.heap.size ≤ ob
  no2 : (Value.slice na m nc).ownBlock ≠ some ob
section
variable {w wr W8 : World} {a na : Option Addr} {g n m nc ob : Nat} {nds : List Nd3} {T T' : Nat → Tr2} {sz sz' : Nat → Int}
theorem keepM_set (w : World) (b k : Nat) (v : Value) : KeepM w b (w.setCell ⟨b, k, none⟩ v) := (KeepM.refl w b).setCell k v
theorem QoAt.congr (h : QoAt w wr a na g n m nc ob nds T sz) (e1 : ∀ j, j < n → T j = T' j) (e2 : ∀ j, j < n → sz j = sz' j) : QoAt w wr a na g n m nc ob nds T' sz' :=
  ⟨h.below, fun hn => ⟨(h.trk hn).1, (h.trk hn).2.1, (h.trk hn).2.2.1, (h.trk hn).2.2.2.1, (h.trk hn).2.2.2.2.congr e1⟩, h.nd, h.out.congr e2, h.lo, h.no2⟩
theorem QoAt.fix (h : QoAt w wr a na g n m nc ob nds T sz) {i : Nat} (hi : i < n) (c : Int) : QoAt w (wr.setCell ⟨g, i * 2, none⟩ (.int .i64 c)) a na g n m nc ob nds (fun j => if j = i then ⟨c, (T j).n⟩ else T j) sz := by
  obtain ⟨t1, t2, t3, t4, t5⟩ := h.trk (by omega)
  exact ⟨h.below.setCell t2 _, fun _ => ⟨t1, t2, t3, t4, t5.put i hi c⟩, h.nd.keepM (keepM_set wr g _ _) t4, h.out.other (Ne.symm t3) _ _, h.lo, h.no2⟩
theorem QoAt.size (h : QoAt w wr a na g n m nc ob nds T sz) (i : Nat) (c : Int) : QoAt w (wr.setCell ⟨ob, i, none⟩ (.int .i64 c)) a na g n m nc ob nds T (fun j => if j = i then c else sz j) := by
  refine ⟨h.below.setCell h.lo _, fun hn => ?_, h.nd.keepM (keepM_set wr ob _ _) h.no2, h.out.set i c, h.lo, h.no2⟩
  obtain ⟨t1, t2, t3, t4, t5⟩ := h.trk hn
  exact ⟨t1, t2, t3, t4, t5.keep (heap_setCell_other wr ⟨ob, i, none⟩ g _ t3)⟩
theorem QoAt.drew (h : QoAt w wr a na g n m nc ob nds T sz) : QoAt w wr.drew a na g n m nc ob nds T sz :=
  ⟨h.below.drew, h.trk, h.nd, h.out, h.lo, h.no2⟩
end
end Go.Proofs.Ytjdndaeobiagcaa
