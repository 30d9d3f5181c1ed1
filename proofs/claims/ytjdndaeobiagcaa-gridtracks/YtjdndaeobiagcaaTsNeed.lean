/- needsOf: the needs that count, by their spans. -/
import Derived.Test.YtjdndaeobiagcaaTsStb
import Derived.Test.YtjdndaeobiagcaaGM12
import Derived.Test.YtjdndaeobiagcaaSItem
namespace Go.Proofs.Ytjdndaeobiagcaa
open Go.RowKit
set_option linter.unusedVariables false      -- bounds that are for the walk

def ndC (x : Nd3) : List Value := [.int .i64 x.f, .int .i64 x.s, .int .i64 x.z]
def ndsC (l : List Nd3) : List Value := l.flatMap ndC
theorem ndsC_snoc (l : List Nd3) (x : Nd3) : ndsC (l ++ [x]) = ndsC l ++ ndC x := by simp [ndsC]
theorem ndsC_get : ∀ (l : List Nd3) (j f : Nat) (x : Nd3), l[j]? = some x → f < 3 → (ndsC l)[j * 3 + f]? = (ndC x)[f]?
  | [], j, f, x, h, _ => by simp at h
  | a :: r, 0, f, x, h, hf => by
    obtain rfl : a = x := by simpa using h
    unfold ndsC
    rw [List.flatMap_cons, Nat.zero_mul, Nat.zero_add, List.getElem?_append_left (by simp [ndC]; omega)]
  | a :: r, j + 1, f, x, h, hf => by
    have ih := ndsC_get r j f x (by simpa using h) hf
    unfold ndsC at ih ⊢
    rw [List.flatMap_cons, List.getElem?_append_right (by simp [ndC]; omega), show (j + 1) * 3 + f - (ndC a).length = j * 3 + f by simp [ndC]; omega, ih]
/-- needs that are read -/
def NsL (w : World) (v : Value) (l : List Nd3) : Prop := ∃ a cap, v = .slice a l.length cap ∧ l.length ≤ cap ∧ cap ≤ 9223372036854775807 ∧ ∀ (j : Nat) (x : Nd3), l[j]? = some x → ∃ b o, a = some ⟨b, o, none⟩ ∧ b < w.heap.size ∧ w.cell? ⟨b, o + j * 3, none⟩ = some (.int .i64 x.f) ∧ w.cell? ⟨b, o + j * 3 + 1, none⟩ = some (.int .i64 x.s) ∧ w.cell? ⟨b, o + j * 3 + 2, none⟩ = some (.int .i64 x.z)
theorem NsL.below {w w' : World} {v : Value} {l : List Nd3} (h : NsL w v l) (hb : Below w.heap.size w w') : NsL w' v l := by
  obtain ⟨a, cap, hv, h1, h2, hc⟩ := h
  refine ⟨a, cap, hv, h1, h2, fun j x hj => ?_⟩
  obtain ⟨b, o, e1, e2, e3, e4, e5⟩ := hc j x hj
  have hk := hb.block b e2
  exact ⟨b, o, e1, Nat.lt_of_lt_of_le e2 hb.size, (World.cell?_of_block (a := ⟨b, o + j * 3, none⟩) hk).trans e3, (World.cell?_of_block (a := ⟨b, o + j * 3 + 1, none⟩) hk).trans e4, (World.cell?_of_block (a := ⟨b, o + j * 3 + 2, none⟩) hk).trans e5⟩
def okN (x : Nd3) : Bool := decide (1 ≤ x.f ∧ x.f ≤ 200 ∧ 1 ≤ x.s ∧ x.s ≤ 20)
def hldN (x : Nd3) : Nd3 := ⟨x.f, x.s, heldN x.z⟩
/-- those that count -/
def needsP (l : List Nd3) : List Nd3 := (l.filter okN).map hldN
theorem needsP_take {l : List Nd3} {k : Nat} {x : Nd3} (h : l[k]? = some x) : needsP (l.take (k + 1)) = if okN x = true then needsP (l.take k) ++ [hldN x] else needsP (l.take k) := by
  unfold needsP
  rw [List.take_add_one, h]
  by_cases e : okN x = true
  · simp [List.filter_append, e]
  · simp [List.filter_append, e]
theorem needsP_len (l : List Nd3) (k : Nat) : (needsP (l.take k)).length ≤ k := by
  unfold needsP
  rw [List.length_map]
  refine Nat.le_trans (List.length_filter_le _ _) ?_
  rw [List.length_take]; omega
theorem Try.infoNd : (Try.prog.info? 60).map (fun i => (i.zero, i.size, i.bytes)) = some (some (.agg #[.int .i64 0, .int .i64 0, .int .i64 0]), 3, 24) := by kernel_rfl
def atN (l : List Nd3) (i : Nat) : Nd3 := (l[i]?).getD ⟨0, 0, 0⟩
theorem range_atN (l : List Nd3) : (List.range l.length).map (atN l) = l := by
  apply List.ext_getElem?
  intro j
  rw [List.getElem?_map]
  by_cases h : j < l.length
  · rw [List.getElem?_range h]
    simp [atN, h]
  · rw [List.getElem?_eq_none (by simp; omega), List.getElem?_eq_none (by omega)]; rfl
theorem needsP_span (l : List Nd3) (i : Nat) (h : i < (needsP l).length) : 1 ≤ (atN (needsP l) i).s ∧ (atN (needsP l) i).s ≤ 20 := by
  have e : atN (needsP l) i = (needsP l)[i] := by simp [atN, h]
  rw [e]
  have hm : (needsP l)[i] ∈ needsP l := List.getElem_mem h
  obtain ⟨x, hx, hx2⟩ := List.mem_map.1 hm
  have := of_decide_eq_true (List.mem_filter.1 hx).2
  rw [← hx2]
  exact ⟨this.2.2.1, this.2.2.2⟩
theorem ndB_reads {w : World} {g n cap : Nat} {D : Nat → Nd3} (h : NdB w g n D) (h1 : n ≤ cap) (h2 : cap ≤ 9223372036854775807) : NsL w (.slice (some ⟨g, 0, none⟩) n cap) ((List.range n).map D) := by
  refine ⟨_, cap, by simp, by simpa using h1, h2, fun j x hj => ⟨g, 0, rfl, h.lt, ?_⟩⟩
  have hjn : j < n := by have := (List.getElem?_eq_some_iff.1 hj).1; simpa using this
  rw [List.getElem?_map, List.getElem?_range hjn] at hj
  cases hj
  rw [Nat.zero_add]
  exact h.at hjn
/-- a row of needs of one's own: nothing, or a block -/
theorem own_nds {w : World} {B n : Nat} {v : Value} {xs : List Nd3} (hn : xs.length = n) (h : w.ownsRow B 60 3 v n (ndsC xs)) : (v = .slice none 0 0 ∧ n = 0) ∨ ∃ g cap, v = .slice (some ⟨g, 0, none⟩) n cap ∧ B ≤ g ∧ n ≤ cap ∧ cap ≤ 9223372036854775807 ∧ NdB w g n (atN xs) := by
  obtain ⟨hl, h | ⟨g, cap, cur, rfl, hg, hh, h1, h2, h3, h4⟩⟩ := h
  · exact .inl h
  · unfold maxLen at h2
    refine .inr ⟨g, cap, rfl, hg, h1, by omega, cur, hh, fun j hj => ?_⟩
    have hx : xs[j]? = some (atN xs j) := by simp [atN, hn ▸ hj]
    have hc : ∀ (f : Nat) u, f < 3 → (ndC (atN xs j))[f]? = some u → cur[j * 3 + f]? = some u := fun f u hf hu => by
      have e := ndsC_get xs j f _ hx hf
      rw [hu, ← h4, List.getElem?_take] at e
      split at e
      · simpa using e
      · cases e
    exact ⟨hc 0 _ (by omega) rfl, hc 1 _ (by omega) rfl, hc 2 _ (by omega) rfl⟩

set_option maxHeartbeats 400000 in
theorem insertion_nil (w : World) : Calls Try.prog 92 #[.slice none 0 0, .int .i64 0, .int .i64 0, needF] w fun e w' => e = .returned (.tuple #[]) ∧ w' = w := by
  unfold needF
  go_enter Try.func92, Try.ntmps92
  go_wp2_with fail
  go_loopw [8] (fun iv wr => iv = .int .i64 1 ∧ wr = w) (fun _ _ => 0)
  case atStart => exact ⟨rfl, rfl⟩
  case round =>
    obtain ⟨rfl, hw⟩ := hrel
    rw [hw]
    go_wp2_with fail
    go_returns
    exact ⟨rfl, rfl⟩
set_option maxHeartbeats 1000000 in
theorem sortStable_nil (w : World) : Calls Try.prog 77 #[.slice none 0 0, needF] w fun e w' => e = .returned (.tuple #[]) ∧ w' = w := by
  have IN := hidF (fun W => insertion_nil W)
  have ST : Hid (Calls Try.prog 89 #[.slice none 0 0, .int .i64 0, needF] w fun e w' => e = .returned (.tuple #[]) ∧ w' = w) := by
    show Calls _ _ _ _ _
    unfold needF at *
    go_enter Try.func89, Try.ntmps89
    go_wp2_with fail
    go_loopw [7, 8] (fun av bv wr => av = .int .i64 0 ∧ bv = .int .i64 20 ∧ wr = w) (fun _ _ _ => 0)
    case atStart => exact ⟨rfl, rfl, rfl⟩
    case round =>
      obtain ⟨rfl, rfl, hw⟩ := hrel
      rw [hw]
      go_wp2_with fail
      refine (IN.out _).mono ?_
      rintro e w1 ⟨rfl, hw1⟩
      rw [hw1]
      go_wp2_with fail
      go_loopw [6] (fun bv wx => bv = .int .i64 20 ∧ wx = w) (fun _ _ => 0)
      case atStart => exact ⟨rfl, rfl⟩
      case round =>
        obtain ⟨rfl, hw⟩ := hrel
        rw [hw]
        go_wp2_with fail
        go_returns
        exact ⟨rfl, rfl⟩
  unfold needF at *
  go_enter Try.func77, Try.ntmps77
  go_wp2_with fail
  refine ST.out.mono ?_
  rintro e w1 ⟨rfl, hw1⟩
  rw [hw1]
  go_wp2_with fail
  go_returns
  exact ⟨rfl, rfl⟩
end Go.Proofs.Ytjdndaeobiagcaa
