/- Floats that are not wider than the room lie in it, apart from each other. -/
import Derived.Test.YthpffpgbmgnkcaaFLAdd
namespace Go.Proofs.Ythpffpgbmgnkcaa

/-- a float that is asked for -/
structure Pt where
  r : Bool
  i : Bool
  w : Int
  h : Int
  f : Int
  lo : Int
  hi : Int

def apartN (a b : Fl) : Prop := a.x + a.w ≤ b.x ∨ b.x + b.w ≤ a.x ∨ a.y + a.h ≤ b.y ∨ b.y + b.h ≤ a.y

structure Apt (width : Int) (ps : List Pt) (fs : List Fl) : Prop where
  len : fs.length = ps.length
  each : ∀ (j : Nat) p o, ps[j]? = some p → fs[j]? = some o → o.w = p.w ∧ o.h = p.h ∧ 0 ≤ o.x ∧ o.x + o.w ≤ width ∧ p.f ≤ o.y
  two : ∀ (i j : Nat) a b, i < j → fs[i]? = some a → fs[j]? = some b → apartN b a ∧ a.y ≤ b.y

theorem Apt.nil (width : Int) : Apt width [] [] := ⟨rfl, fun j p o h => by simp at h, fun i j a b _ h => by simp at h⟩

theorem cands_ge (fs : List Fl) (fr : Int) : ∀ z ∈ cands fs fr, fr ≤ z := by
  intro z hz
  unfold cands at hz
  rcases List.mem_cons.1 hz with rfl | hz
  · exact Int.le_refl _
  · have := (List.mem_filter.1 hz).2
    simp at this
    omega

theorem Apt.snoc {width : Int} {ps : List Pt} {fs : List Fl} (h : Apt width ps fs) (p : Pt) (rt : Bool) {x y : Int} (w2 : p.w ≤ width) (hf : FitAt 0 width fs p.w p.h (topN fs p.f) y) (hx : x = xOf rt (gapN 0 width fs y p.h) p.w) :
    Apt width (ps ++ [p]) (fs ++ [⟨rt, x, y, p.w, p.h⟩]) := by
  obtain ⟨t1, t2⟩ := topN_ge fs p.f
  have hy := cands_ge _ _ y hf.mem
  obtain ⟨g1, g2, g3, g4⟩ := gapN_facts 0 width fs y p.h
  have hfit := hf.fit
  unfold fits at hfit
  obtain ⟨g, hg⟩ : ∃ g, g = gapN 0 width fs y p.h := ⟨_, rfl⟩
  rw [← hg] at g1 g2 g3 g4 hfit hx
  have hroom : p.w ≤ g.r - g.l := by
    rcases Bool.eq_false_or_eq_true g.whole with e | e
    · have := g4 e; omega
    · rw [e] at hfit; simpa using hfit
  have hxl : g.l ≤ x ∧ x + p.w ≤ g.r := by
    rw [hx]; unfold xOf; cases rt <;> simp <;> omega
  have new : ∀ o ∈ fs, apartN ⟨rt, x, y, p.w, p.h⟩ o ∧ o.y ≤ y := by
    intro o ho
    have hoy := t2 o ho
    refine ⟨?_, by omega⟩
    unfold apartN
    simp only
    by_cases hm : meets o y p.h = true
    · obtain ⟨m1, m2⟩ := g3 o ho hm
      rcases Bool.eq_false_or_eq_true o.r with e | e
      · have := m1 e; omega
      · have := m2 e; omega
    · unfold meets foot at hm
      simp at hm
      have := hm (by omega)
      omega
  refine ⟨by simp [h.len], fun j q o hq ho => ?_, fun i j a b hij ha hb => ?_⟩
  · by_cases c : j < ps.length
    · rw [List.getElem?_append_left c] at hq
      rw [List.getElem?_append_left (by rw [h.len]; exact c)] at ho
      exact h.each j q o hq ho
    · have hj : j = ps.length := by
        have := (List.getElem?_eq_some_iff.1 hq).1
        simp at this
        omega
      subst hj
      rw [List.getElem?_append_right (Nat.le_refl _), Nat.sub_self] at hq
      rw [List.getElem?_append_right (by rw [h.len]; exact Nat.le_refl _), h.len, Nat.sub_self] at ho
      simp at hq ho
      subst hq ho
      exact ⟨rfl, rfl, (by show 0 ≤ x; omega), (by show x + p.w ≤ width; omega), (by show p.f ≤ y; omega)⟩
  · by_cases c : j < fs.length
    · rw [List.getElem?_append_left c] at hb
      rw [List.getElem?_append_left (by omega)] at ha
      exact h.two i j a b hij ha hb
    · have hj : j = fs.length := by
        have := (List.getElem?_eq_some_iff.1 hb).1
        simp at this
        omega
      subst hj
      rw [List.getElem?_append_right (Nat.le_refl _), Nat.sub_self] at hb
      rw [List.getElem?_append_left hij] at ha
      simp at hb
      subst hb
      exact new a (List.mem_of_getElem? ha)

/-- bounds of the next list -/
theorem bd_next {fs : List Fl} (hb : Bd fs) {lo hi : Int} (l1 : -16777216 ≤ lo) (l2 : lo ≤ hi) (l3 : hi ≤ 16777216) {rt : Bool} {W H F x y : Int} (w1 : 0 ≤ W) (w2 : W ≤ 16777216) (h1 : 0 ≤ H) (h2 : H ≤ 16777216) (f1 : -16777216 ≤ F) (f2 : F ≤ 16777216) (hf : FitAt lo hi fs W H (topN fs F) y) (hx : x = xOf rt (gapN lo hi fs y H) W) : Bd (fs ++ [⟨rt, x, y, W, H⟩]) := by
  have hy := cand_bd hb F f1 f2 y hf.mem
  have hg := gapN_bd lo hi (((fs.length : Int) + 1) * 33554432 + 16777216) fs y H (by omega) (by omega) (by omega) (by omega) (fun o ho => by have := hb o ho; omega)
  refine hb.snoc ?_ (by omega) ⟨w1, w2⟩ ⟨h1, h2⟩
  rw [hx]; unfold xOf; cases rt <;> simp <;> omega
end Go.Proofs.Ythpffpgbmgnkcaa
