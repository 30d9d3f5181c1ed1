/- The law's own: its items as the program's. -/
import Derived.Test.YtbphlbohiifcmaaGTof
namespace Go.Proofs.Ytbphlbohiifcmaa
open Go.RowKit
set_option linter.unusedVariables false      -- bounds that are for the walk

theorem own_gs {w : World} {B : Nat} {v : Value} {xs : List Gi} (h : w.ownsRow B 47 4 v xs.length (gsC xs)) : GsL w v xs := by
  obtain ⟨hl, h | ⟨g, cap, cur, rfl, hg, hh, h1, h2, h3, h4⟩⟩ := h
  · obtain ⟨rfl, hn⟩ := h
    refine ⟨none, 0, by rw [hn], by omega, by omega, fun j x hj => ?_⟩
    have := (List.getElem?_eq_some_iff.1 hj).1
    omega
  · unfold maxLen at h2
    refine ⟨_, cap, rfl, h1, by omega, fun j x hj => ⟨g, 0, rfl, ?_⟩⟩
    have hc : ∀ (i : Nat) u, i < 4 → (gC x)[i]? = some u → w.cell? ⟨g, 0 + j * 4 + i, none⟩ = some u := fun i u hi hu => by
      have hjl := (List.getElem?_eq_some_iff.1 hj).1
      have e := gsC_get xs j i x hj hi
      rw [hu] at e
      rw [cell_of_row w g _ _ _ _ hh, Nat.zero_add]
      have := congrArg (fun l => l[j * 4 + i]?) h4
      simp only [e] at this
      rw [List.getElem?_take_of_lt (by omega)] at this
      simpa using this
    exact ⟨ltH hh, hc 0 _ (by omega) rfl, hc 1 _ (by omega) rfl, hc 2 _ (by omega) rfl, hc 3 _ (by omega) rfl⟩

set_option maxHeartbeats 4000000 in
set_option maxRecDepth 100000 in
theorem cells_any {w : World} {v : Value} {l : List Gi} (h : GsL w v l) (hlen : l.length ≤ 240) :
    Calls Try.prog 20 #[v] w fun e w' => ∃ v', e = .returned v' ∧ GsL w' v' l ∧ Below w.heap.size w w' := by
  obtain ⟨i0, hi, hz0, hz1, hz2⟩ := info_parts Try.infoG
  obtain ⟨a, cap, rfl, hc1, hc2, hl⟩ := h
  have HL := hidF hl
  obtain ⟨n, hn⟩ : ∃ n, l.length = n := ⟨_, rfl⟩
  have HN := hidF hn
  rw [hn] at hlen hc1 ⊢
  clear hl hn
  go_enter Try.func20, Try.ntmps20
  go_wp2_with fail
  go_loopw [3, 4] (fun pv i wr => ∃ k : Nat, k ≤ n ∧ i = .int .i64 k ∧ Hid (Below w.heap.size w wr ∧ wr.ownsRow w.heap.size 47 4 pv k (gsC (l.take k)))) (fun _ i _ => n - (intV i).toNat)
  case atStart => exact ⟨0, Nat.zero_le _, rfl, Below.refl _ _, World.ownsRow_nil _ _ _ _⟩
  case round =>
    obtain ⟨k, hk, rfl, H⟩ := hrel
    by_cases hlt : k < n
    · obtain ⟨x, hx⟩ : ∃ x, l[k]? = some x := ⟨_, List.getElem?_eq_getElem (by rw [HN.out]; exact hlt)⟩
      have HX := hidF hx
      obtain ⟨b, o, rfl, e2, e3, e4, e5, e6⟩ := HL.out k x hx
      have hkb := H.out.1.block b e2
      have x1 := Nat.lt_of_lt_of_le e2 H.out.1.size
      have x2 := (World.cell?_of_block (a := ⟨b, o + k * 4, none⟩) hkb).trans e3
      have x3 := (World.cell?_of_block (a := ⟨b, o + k * 4 + 1, none⟩) hkb).trans e4
      have x4 := (World.cell?_of_block (a := ⟨b, o + k * 4 + 2, none⟩) hkb).trans e5
      have x5 := (World.cell?_of_block (a := ⟨b, o + k * 4 + 3, none⟩) hkb).trans e6
      have i1 : (0 : Int) ≤ (k : Int) := by omega
      have i2 : (k : Int) < (n : Int) := by omega
      have x1' : b < wr.heap.size + 1 := by omega
      have HT : Hid (gsC (l.take (k + 1)) = gsC (l.take k) ++ gC x) := by
        show _ = _
        rw [List.take_add_one, hx]
        exact gsC_snoc _ _
      clear hx hkb e2 e3 e4 e5 e6
      obtain ⟨xc, xcs, xr, xrs⟩ := x
      simp only at x2 x3 x4 x5
      have H9 := hidF (fun (o : Obj) => And.intro (H.out.1.alloc H.out.1.size o) (H.out.2.alloc o))
      have hsz := H.out.1.size
      have HD : Hid (∀ o : Obj, Below w.heap.size w (wr.drew.alloc o) ∧ (wr.drew.alloc o).ownsRow w.heap.size 47 4 u3 k (gsC (l.take k))) := fun o => ⟨H.out.1.drew.alloc H.out.1.size o, World.ownsRow.alloc (w := wr.drew) H.out.2 o⟩
      have HU : Hid (∀ q, u3.ownBlock = some q → w.heap.size ≤ q) := fun q hq => (H.out.2.lt q hq).1
      go_wp2_with fail
      go_region_law ((refine step_own _ (by rfl) (.tmp 11) (.tmp 33) 40 (by rfl) w.heap.size 47 i0 _ 4 32 Try.underlying40 hi hz0 hz1 hz2 rfl (by decide) u3 k (gsC (l.take k)) (by simp [Act.eval]) (HD.out _).2 ⟨wr.heap.size, 0, none⟩ 1 1 (gC ⟨xc, xcs, xr, xrs⟩) (by simp [Act.eval]) rfl (fun j u hj => news_six wr.drew #[.int .i64 xc, .int .i64 xcs, .int .i64 xr, .int .i64 xrs] 47 j u hj) (by simp [Value.oneCell', gC]) (by unfold maxLen; omega) (by omega) (HD.out _).1.size ?_; intro v9 w8 hv1 hg1 hx1
                      have H3 := hidF (And.intro ((HD.out _).1.grown hg1 (HD.out _).1.size HU.out) hv1)
                      clear hv1 hg1 hx1))
      all_goals
        go_wp2_with fail
        go_roundw
        case rel => go_light; exact ⟨k + 1, by omega, by go_num, H3.out.1, by rw [HT.out]; exact H3.out.2⟩
        case measure => simp [intV]; omega
    · obtain rfl : k = n := by omega
      have hl2 : ¬ (k : Int) < (k : Int) := by omega
      go_wp2_with fail
      go_returns
      refine ⟨_, rfl, own_gs (B := w.heap.size) ?_, H.out.1⟩
      have := H.out.2
      rw [List.take_of_length_le (by rw [HN.out]; exact Nat.le_refl _)] at this
      rw [HN.out]
      exact this
end Go.Proofs.Ytbphlbohiifcmaa
