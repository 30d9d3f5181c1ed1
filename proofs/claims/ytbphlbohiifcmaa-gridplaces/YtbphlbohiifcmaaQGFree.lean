/- The document's grid: is none of an item's cells taken? -/
import Derived.Test.YtbphlbohiifcmaaQGBase
import Derived.Test.YtbphlbohiifcmaaGTof
namespace Go.Proofs.Ytbphlbohiifcmaa
open Go.RowKit
set_option linter.unusedVariables false      -- bounds that are for the walk

/-- a boolean that tells whether something is so -/
def IsB (v : Value) (p : Prop) : Prop := (v = .bool true ∧ p) ∨ (v = .bool false ∧ ¬ p)
/-- booleans that are read, by places -/
def StL (w : World) (v : Value) (n : Nat) (st : Nat → Bool) : Prop := ∃ a cap, v = .slice a n cap ∧ n ≤ cap ∧ cap ≤ 9223372036854775807 ∧ ∀ j : Nat, j < n → ∃ b o, a = some ⟨b, o, none⟩ ∧ b < w.heap.size ∧ w.cell? ⟨b, o + j, none⟩ = some (.bool (st j))
theorem StL.below {w w' : World} {v : Value} {n : Nat} {st : Nat → Bool} (h : StL w v n st) (hb : Below w.heap.size w w') : StL w' v n st := by
  obtain ⟨a, cap, hv, h1, h2, hc⟩ := h
  refine ⟨a, cap, hv, h1, h2, fun j hj => ?_⟩
  obtain ⟨b, o, e1, e2, e3⟩ := hc j hj
  exact ⟨b, o, e1, Nat.lt_of_lt_of_le e2 hb.size, (World.cell?_of_block (a := ⟨b, o + j, none⟩) (hb.block b e2)).trans e3⟩
/-- an item of the document's in a block of its own -/
def QxAt (w : World) (g : Nat) (i : Gi) : Prop := w.heap[g]? = some (.cells #[.int .i64 i.c, .int .i64 i.cs, .int .i64 i.r, .int .i64 i.rs] 48 (0, 0))
theorem QxAt.cells {w : World} {g : Nat} {i : Gi} (h : QxAt w g i) : g < w.heap.size ∧ w.cell? ⟨g, 0, none⟩ = some (.int .i64 i.c) ∧ w.cell? ⟨g, 1, none⟩ = some (.int .i64 i.cs) ∧ w.cell? ⟨g, 2, none⟩ = some (.int .i64 i.r) ∧ w.cell? ⟨g, 3, none⟩ = some (.int .i64 i.rs) := by
  have hh : w.heap[g]? = _ := h
  refine ⟨ltH hh, ?_, ?_, ?_, ?_⟩ <;> rw [cell_of_row w g _ _ _ _ hh] <;> rfl
theorem QxAt.frz {w : World} {g : Nat} {i : Gi} (h : QxAt w g i) (k : Nat) : w.frozen? ⟨g, k, none⟩ = false := by
  have hh : w.heap[g]? = _ := h
  simp [World.frozen?, hh]
theorem QxAt.held {w w' : World} {g : Nat} {i : Gi} (h : QxAt w g i) (hb : Below w.heap.size w w') : QxAt w' g i := (hb.block g h.cells.1).trans h

set_option maxHeartbeats 4000000 in
set_option maxRecDepth 100000 in
theorem free_any {w : World} {lv sv : Value} {its : List Gi} {st : Nat → Bool} (hl : GsL w lv its) (hs : StL w sv its.length st) (hi : ∀ i ∈ its, i.Sm) {x : Gi} (hx : x.Sm) (hn : its.length ≤ 200) :
    Calls Try.prog 49 #[lv, sv, gV x] w fun e w' => ∃ v, e = .returned v ∧ IsB v (FreeL its (fun j => st j = true) x) ∧ Below w.heap.size w w' := by
  obtain ⟨a, cap, rfl, hc1, hc2, hl⟩ := hl
  obtain ⟨sa, sc, rfl, sc1, sc2, hs⟩ := hs
  have HL := hidF hl
  have HS := hidF hs
  have HI := hidF hi
  obtain ⟨n, hN⟩ : ∃ n, its.length = n := ⟨_, rfl⟩
  have HN := hidF hN
  rw [hN] at hn hc1 sc1 HS ⊢
  have HXS := hidF hx
  have HT : Hid (Below w.heap.size w (w.alloc (.cells #[.int .i64 x.c, .int .i64 x.cs, .int .i64 x.r, .int .i64 x.rs] 48)) ∧ QxAt (w.alloc (.cells #[.int .i64 x.c, .int .i64 x.cs, .int .i64 x.r, .int .i64 x.rs] 48)) w.heap.size x) := ⟨(Below.refl _ _).alloc (Nat.le_refl _) _, heap_alloc_new w _⟩
  clear hl hs hi hN hx
  unfold gV
  go_enter Try.func49, Try.ntmps49
  go_wp2_with fail
  obtain ⟨g, hg⟩ : ∃ g, w.heap.size = g := ⟨_, rfl⟩
  have HG := hidF hg
  rw [hg]
  clear hg
  go_loopw [7] (fun iv wr => ∃ k : Nat, k ≤ n ∧ iv = .int .i64 k ∧ Hid (Below w.heap.size w wr ∧ QxAt wr g x ∧ ∀ (j : Nat) q, j < k → st j = true → its[j]? = some q → ¬ Ovl q x)) (fun iv _ => n - (intV iv).toNat)
  case atStart => exact ⟨0, Nat.zero_le _, rfl, HT.out.1, by rw [← HG.out]; exact HT.out.2, fun j q hj => by omega⟩
  case round =>
    obtain ⟨k, hk, rfl, HZ⟩ := hrel
    by_cases hlt : k < n
    · obtain ⟨q, hq⟩ : ∃ q, its[k]? = some q := ⟨_, List.getElem?_eq_getElem (by rw [HN.out]; exact hlt)⟩
      obtain ⟨b, o, rfl, e2, e3, e4, e5, e6⟩ := HL.out k q hq
      obtain ⟨b', o', rfl, f2, f3⟩ := HS.out k hlt
      have hkb := HZ.out.1.block b e2
      have x1 := Nat.lt_of_lt_of_le e2 HZ.out.1.size
      have x2 := (World.cell?_of_block (a := ⟨b, o + k * 4, none⟩) hkb).trans e3
      have x3 := (World.cell?_of_block (a := ⟨b, o + k * 4 + 1, none⟩) hkb).trans e4
      have x4 := (World.cell?_of_block (a := ⟨b, o + k * 4 + 2, none⟩) hkb).trans e5
      have x5 := (World.cell?_of_block (a := ⟨b, o + k * 4 + 3, none⟩) hkb).trans e6
      have y1 := Nat.lt_of_lt_of_le f2 HZ.out.1.size
      have y2 := (World.cell?_of_block (a := ⟨b', o' + k, none⟩) (HZ.out.1.block b' f2)).trans f3
      obtain ⟨z0, z1, z2, z3, z4⟩ := HZ.out.2.1.cells
      have i1 : (0 : Int) ≤ (k : Int) := by omega
      have i2 : (k : Int) < (n : Int) := by omega
      have OV := hidF (fun W => over_any q x (HI.out q (List.mem_of_getElem? hq)) HXS.out W)
      have HQ := hidF hq
      have HST := hidF (show st k = st k from rfl)
      clear hq e2 e3 e4 e5 e6 f2 f3 hkb
      unfold gV at OV
      have HB : Hid (Below wr.heap.size wr wr.drew) := (Below.refl _ _).drew
      by_cases hst : st k = true
      · have HSK := hidF hst
        rw [hst] at y2
        by_cases hov : Ovl q x
        · rw [decide_eq_true hov] at OV
          have HNF : Hid (¬ FreeL its (fun j => st j = true) x) := fun h => h k q HSK.out HQ.out hov
          clear hov hst
          go_upto_region 5 with fail
          go_region_with ((go_at_call 76; refine (OV.out _).mono ?_; rintro e w7 ⟨rfl, hb7⟩
                           have HX := hidF hb7
                           clear hb7))
          all_goals
            go_wp2_with fail
            go_returns
            exact ⟨_, rfl, .inr ⟨rfl, HNF.out⟩, HZ.out.1.drew.trans (HX.out.mono HZ.out.1.drew.size)⟩
        · rw [decide_eq_false hov] at OV
          have HNO : Hid (¬ Ovl q x) := hov
          clear hov hst
          go_upto_region 5 with fail
          go_region_with ((go_at_call 76; refine (OV.out _).mono ?_; rintro e w7 ⟨rfl, hb7⟩
                           have HX := hidF hb7
                           clear hb7))
          all_goals
            go_wp2_with fail
            go_roundw
            case rel =>
              go_light
              refine ⟨k + 1, by omega, by go_num, HZ.out.1.drew.trans (HX.out.mono HZ.out.1.drew.size), (HZ.out.2.1.held HB.out).held HX.out, fun j q' hj hs' hq' => ?_⟩
              by_cases e : j = k
              · subst e
                rw [HQ.out] at hq'
                cases hq'
                exact HNO.out
              · exact HZ.out.2.2 j q' (by omega) hs' hq'
            case measure => simp [intV]; omega
      · have hst' : st k = false := by simpa using hst
        rw [hst'] at y2
        have HSK := hidF hst'
        clear hst hst'
        go_wp2_with fail
        go_roundw
        case rel =>
          go_light
          refine ⟨k + 1, by omega, by go_num, HZ.out.1, HZ.out.2.1, fun j q' hj hs' hq' => ?_⟩
          by_cases e : j = k
          · subst e
            rw [HSK.out] at hs'
            cases hs'
          · exact HZ.out.2.2 j q' (by omega) hs' hq'
        case measure => simp [intV]; omega
    · obtain rfl : k = n := by omega
      have hl2 : ¬ (k : Int) < (k : Int) := by omega
      go_wp2_with fail
      go_returns
      refine ⟨_, rfl, .inl ⟨rfl, fun j q hj hq => ?_⟩, HZ.out.1⟩
      exact HZ.out.2.2 j q (by have := (List.getElem?_eq_some_iff.1 hq).1; rw [HN.out] at this; exact this) hj hq
end Go.Proofs.Ytbphlbohiifcmaa
