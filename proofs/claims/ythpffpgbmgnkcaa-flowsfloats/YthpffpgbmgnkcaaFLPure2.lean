/- Floats, as plain numbers: bounds, and the first height that does. -/
import Derived.Test.YthpffpgbmgnkcaaFLMem
namespace Go.Proofs.Ythpffpgbmgnkcaa

theorem gapN_bd (lo hi B : Int) (fs : List Fl) (y h : Int) (h1 : -B ≤ lo) (h2 : lo ≤ B) (h3 : -B ≤ hi) (h4 : hi ≤ B) (hf : ∀ o ∈ fs, -B ≤ o.x ∧ o.x + o.w ≤ B) :
    -B ≤ (gapN lo hi fs y h).l ∧ (gapN lo hi fs y h).l ≤ B ∧ -B ≤ (gapN lo hi fs y h).r ∧ (gapN lo hi fs y h).r ≤ B := by
  unfold gapN
  have : ∀ g : Gp, (-B ≤ g.l ∧ g.l ≤ B ∧ -B ≤ g.r ∧ g.r ≤ B) → -B ≤ (fs.foldl (gapS y h) g).l ∧ (fs.foldl (gapS y h) g).l ≤ B ∧ -B ≤ (fs.foldl (gapS y h) g).r ∧ (fs.foldl (gapS y h) g).r ≤ B := by
    induction fs with
    | nil => intro g hg; exact hg
    | cons a r ih =>
      intro g hg
      rw [List.foldl_cons]
      refine ih (fun o ho => hf o (List.mem_cons_of_mem _ ho)) _ ?_
      have ha := hf a (List.mem_cons_self ..)
      unfold gapS
      split
      · split
        · simp only; omega
        · simp only; omega
      · exact hg
  exact this _ ⟨h1, h2, h3, h4⟩

theorem cand_bd {fs : List Fl} (hb : Bd fs) (F : Int) (f1 : -16777216 ≤ F) (f2 : F ≤ 16777216) : ∀ z ∈ cands fs (topN fs F), -(((fs.length : Int) + 1) * 33554432 + 16777216) ≤ z ∧ z ≤ ((fs.length : Int) + 1) * 33554432 + 16777216 := by
  have ht : -(((fs.length : Int) + 1) * 33554432) ≤ topN fs F ∧ topN fs F ≤ ((fs.length : Int) + 1) * 33554432 := by
    rcases topN_is fs F with e | ⟨o, ho, e⟩
    · rw [e]; omega
    · have := hb o ho; rw [e]; omega
  intro z hz
  unfold cands at hz
  rcases List.mem_cons.1 hz with rfl | hz
  · omega
  · obtain ⟨hz, _⟩ := List.mem_filter.1 hz
    obtain ⟨o, ho, rfl⟩ := List.mem_map.1 hz
    have := hb o ho
    unfold foot
    omega

theorem heights_sorted (l : List Int) : (l.mergeSort fun x y => decide (x ≤ y)).Pairwise (fun x y => x ≤ y) := by
  have := List.pairwise_mergeSort (le := fun x y : Int => decide (x ≤ y)) (fun a b c h1 h2 => by simp at *; omega) (fun a b => by simp; omega) l
  simpa using this

/-- the first that does -/
theorem fit_first {lo hi : Int} {fs : List Fl} {w h fr y : Int} {pre rest : List Int} (e : pre ++ y :: rest = (cands fs fr).mergeSort fun x y => decide (x ≤ y)) (hp : ∀ z ∈ pre, fits lo hi fs w h z = false) (hy : fits lo hi fs w h y = true) : FitAt lo hi fs w h fr y := by
  have hm : ∀ z, z ∈ pre ++ y :: rest ↔ z ∈ cands fs fr := fun z => by rw [e]; exact List.mem_mergeSort
  have hs : (pre ++ y :: rest).Pairwise (fun x y => x ≤ y) := by rw [e]; exact heights_sorted _
  refine ⟨(hm y).1 (by simp), hy, fun z hz hf => ?_⟩
  rcases List.mem_append.1 ((hm z).2 hz) with h1 | h1
  · rw [hp z h1] at hf; cases hf
  · rcases List.mem_cons.1 h1 with rfl | h1
    · exact Int.le_refl _
    · exact (List.pairwise_cons.1 (List.pairwise_append.1 hs).2.1).1 z h1

theorem fit_more {lo hi : Int} {fs : List Fl} {w h fr y : Int} {pre rest : List Int} (e : pre ++ y :: rest = (cands fs fr).mergeSort fun x y => decide (x ≤ y)) (hp : ∀ z ∈ pre, fits lo hi fs w h z = false) (hy : fits lo hi fs w h y = false) : ∃ z rest', rest = z :: rest' := by
  cases rest with
  | cons z r => exact ⟨z, r, rfl⟩
  | nil =>
    exfalso
    have hm : ∀ z, z ∈ pre ++ [y] ↔ z ∈ cands fs fr := fun z => by rw [e]; exact List.mem_mergeSort
    obtain ⟨z, hz, hf, _⟩ := cands_some lo hi fs w h fr
    rcases List.mem_append.1 ((hm z).2 hz) with h1 | h1
    · rw [hp z h1] at hf; cases hf
    · rw [List.mem_singleton.1 h1, hy] at hf; cases hf

theorem Bd.snoc {fs : List Fl} (hb : Bd fs) {rt : Bool} {x y w h : Int} (hx : -((fs.length : Int) + 2) * 33554432 ≤ x ∧ x ≤ ((fs.length : Int) + 2) * 33554432) (hy : -((fs.length : Int) + 2) * 33554432 ≤ y ∧ y ≤ ((fs.length : Int) + 2) * 33554432) (hw : 0 ≤ w ∧ w ≤ 16777216) (hh : 0 ≤ h ∧ h ≤ 16777216) : Bd (fs ++ [⟨rt, x, y, w, h⟩]) := by
  intro o ho
  rw [List.length_append, List.length_singleton]
  rcases List.mem_append.1 ho with h1 | h1
  · have := hb o h1; omega
  · rw [List.mem_singleton.1 h1]; simp only; omega
end Go.Proofs.Ythpffpgbmgnkcaa
