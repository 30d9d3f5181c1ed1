/- Floats, as plain numbers: what lies where, what is left between, where one more fits. -/
import Derived.Below
namespace Go.Proofs.Ythpffpgbmgnkcaa

structure Fl where
  r : Bool
  x : Int
  y : Int
  w : Int
  h : Int

def foot (o : Fl) : Int := o.y + max o.h 1

/-- is it there from y on, h high? -/
def meets (o : Fl) (y h : Int) : Bool := decide (o.y < y + max h 1) && decide (y < foot o)

structure Gp where
  l : Int
  r : Int
  whole : Bool

def gapS (y h : Int) (g : Gp) (o : Fl) : Gp :=
  if meets o y h then (if o.r then ⟨g.l, min g.r o.x, false⟩ else ⟨max g.l (o.x + o.w), g.r, false⟩) else g

/-- what is left between the floats on both sides of a room -/
def gapN (lo hi : Int) (fs : List Fl) (y h : Int) : Gp := fs.foldl (gapS y h) ⟨lo, hi, true⟩

def fits (lo hi : Int) (fs : List Fl) (w h y : Int) : Bool := (gapN lo hi fs y h).whole || decide (w ≤ (gapN lo hi fs y h).r - (gapN lo hi fs y h).l)

/-- the least height that may do -/
def topN (fs : List Fl) (fr : Int) : Int := fs.foldl (fun a o => max a o.y) fr

/-- the heights that may do -/
def cands (fs : List Fl) (fr : Int) : List Int := fr :: (fs.map foot).filter (fun f => decide (fr < f))

/-- where one more lies -/
structure FitAt (lo hi : Int) (fs : List Fl) (w h fr y : Int) : Prop where
  mem : y ∈ cands fs fr
  fit : fits lo hi fs w h y = true
  least : ∀ z ∈ cands fs fr, fits lo hi fs w h z = true → y ≤ z

theorem FitAt.unique {lo hi : Int} {fs : List Fl} {w h fr y z : Int} (a : FitAt lo hi fs w h fr y) (b : FitAt lo hi fs w h fr z) : y = z := by
  have h1 := a.least z b.mem b.fit
  have h2 := b.least y a.mem a.fit
  omega

theorem gapN_snoc (lo hi : Int) (fs : List Fl) (o : Fl) (y h : Int) : gapN lo hi (fs ++ [o]) y h = gapS y h (gapN lo hi fs y h) o := by
  simp [gapN, List.foldl_append]

theorem topN_snoc (fs : List Fl) (o : Fl) (fr : Int) : topN (fs ++ [o]) fr = max (topN fs fr) o.y := by
  simp [topN, List.foldl_append]

theorem topN_ge (fs : List Fl) (fr : Int) : fr ≤ topN fs fr ∧ ∀ o ∈ fs, o.y ≤ topN fs fr := by
  unfold topN
  induction fs generalizing fr with
  | nil => simp
  | cons a r ih =>
    obtain ⟨h1, h2⟩ := ih (max fr a.y)
    refine ⟨by simp only [List.foldl_cons]; omega, fun o ho => ?_⟩
    simp only [List.foldl_cons]
    rcases List.mem_cons.1 ho with rfl | ho
    · omega
    · exact h2 o ho

theorem topN_is (fs : List Fl) (fr : Int) : topN fs fr = fr ∨ ∃ o ∈ fs, topN fs fr = o.y := by
  unfold topN
  induction fs generalizing fr with
  | nil => simp
  | cons a r ih =>
    simp only [List.foldl_cons]
    rcases ih (max fr a.y) with h | ⟨o, ho, h⟩
    · rw [h]
      by_cases c : a.y ≤ fr
      · left; omega
      · right; exact ⟨a, List.mem_cons_self .., by omega⟩
    · exact .inr ⟨o, List.mem_cons_of_mem _ ho, h⟩

/-- where none reaches in, the room is whole -/
theorem gapN_free (lo hi : Int) (fs : List Fl) (y h : Int) (hf : ∀ o ∈ fs, foot o ≤ y) : (gapN lo hi fs y h).whole = true := by
  unfold gapN
  have : ∀ g : Gp, g.whole = true → (fs.foldl (gapS y h) g).whole = true := by
    induction fs with
    | nil => intro g hg; exact hg
    | cons a r ih =>
      intro g hg
      rw [List.foldl_cons]
      refine ih (fun o ho => hf o (List.mem_cons_of_mem _ ho)) _ ?_
      have : meets a y h = false := by
        unfold meets
        have := hf a (List.mem_cons_self ..)
        simp
        intro _; omega
      unfold gapS
      rw [this]
      exact hg
  exact this _ rfl

/-- some height does -/
theorem cands_some (lo hi : Int) (fs : List Fl) (w h fr : Int) : ∃ y ∈ cands fs fr, fits lo hi fs w h y = true ∧ ∀ z ∈ cands fs fr, z ≤ y := by
  have : ∃ y ∈ cands fs fr, ∀ z ∈ cands fs fr, z ≤ y := by
    have hmax : ∀ (l : List Int) (a : Int), ∃ y ∈ a :: l, ∀ z ∈ a :: l, z ≤ y := by
      intro l
      induction l with
      | nil => intro a; exact ⟨a, by simp, by simp⟩
      | cons b r ih =>
        intro a
        obtain ⟨y, hy, hz⟩ := ih b
        by_cases c : a ≤ y
        · refine ⟨y, List.mem_cons_of_mem _ hy, fun z hz' => ?_⟩
          rcases List.mem_cons.1 hz' with rfl | hz'
          · exact c
          · exact hz z hz'
        · refine ⟨a, List.mem_cons_self .., fun z hz' => ?_⟩
          rcases List.mem_cons.1 hz' with rfl | hz'
          · exact Int.le_refl _
          · have := hz z hz'; omega
    exact hmax _ _
  obtain ⟨y, hy, hz⟩ := this
  refine ⟨y, hy, ?_, hz⟩
  unfold fits
  rw [gapN_free lo hi fs y h (fun o ho => ?_)]
  · rfl
  · by_cases c : fr < foot o
    · exact hz _ (by unfold cands; exact List.mem_cons_of_mem _ (List.mem_filter.2 ⟨List.mem_map_of_mem ho, by simpa using c⟩))
    · have := hz fr (by unfold cands; exact List.mem_cons_self ..)
      omega

/-- what has been left of a gap -/
theorem gapN_facts (lo hi : Int) (fs : List Fl) (y h : Int) : lo ≤ (gapN lo hi fs y h).l ∧ (gapN lo hi fs y h).r ≤ hi ∧
    (∀ o ∈ fs, meets o y h = true → (o.r = true → (gapN lo hi fs y h).r ≤ o.x) ∧ (o.r = false → o.x + o.w ≤ (gapN lo hi fs y h).l)) ∧
    ((gapN lo hi fs y h).whole = true → (gapN lo hi fs y h).l = lo ∧ (gapN lo hi fs y h).r = hi) := by
  unfold gapN
  have : ∀ g : Gp, g.l ≤ (fs.foldl (gapS y h) g).l ∧ (fs.foldl (gapS y h) g).r ≤ g.r ∧
      (∀ o ∈ fs, meets o y h = true → (o.r = true → (fs.foldl (gapS y h) g).r ≤ o.x) ∧ (o.r = false → o.x + o.w ≤ (fs.foldl (gapS y h) g).l)) ∧
      ((fs.foldl (gapS y h) g).whole = true → (fs.foldl (gapS y h) g) = g) := by
    induction fs with
    | nil => intro g; exact ⟨Int.le_refl _, Int.le_refl _, fun o ho => by simp at ho, fun _ => rfl⟩
    | cons a r ih =>
      intro g
      rw [List.foldl_cons]
      obtain ⟨h1, h2, h3, h4⟩ := ih (gapS y h g a)
      have hs : g.l ≤ (gapS y h g a).l ∧ (gapS y h g a).r ≤ g.r ∧ (meets a y h = true → (a.r = true → (gapS y h g a).r ≤ a.x) ∧ (a.r = false → a.x + a.w ≤ (gapS y h g a).l)) ∧ (meets a y h = true → (gapS y h g a).whole = false) ∧ (meets a y h = false → gapS y h g a = g) := by
        unfold gapS
        by_cases c : meets a y h = true
        · by_cases d : a.r = true
          · simp [c, d]; omega
          · simp [c, d]; omega
        · simp [c]
      refine ⟨by omega, by omega, fun o ho hm => ?_, fun hw => ?_⟩
      · rcases List.mem_cons.1 ho with rfl | ho
        · have := hs.2.2.1 hm
          exact ⟨fun e => by have := this.1 e; omega, fun e => by have := this.2 e; omega⟩
        · exact h3 o ho hm
      · have e := h4 hw
        rw [e] at hw ⊢
        by_cases c : meets a y h = true
        · rw [hs.2.2.2.1 c] at hw; cases hw
        · exact hs.2.2.2.2 (by simpa using c)
  obtain ⟨h1, h2, h3, h4⟩ := this ⟨lo, hi, true⟩
  exact ⟨h1, h2, h3, fun hw => by rw [h4 hw]; exact ⟨rfl, rfl⟩⟩
end Go.Proofs.Ythpffpgbmgnkcaa
