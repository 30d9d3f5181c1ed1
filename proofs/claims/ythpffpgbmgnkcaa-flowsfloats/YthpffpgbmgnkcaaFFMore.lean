/- FlowsFloats: what holds between two floats that are added. -/
import Derived.Test.YthpffpgbmgnkcaaFFBoth
import Derived.Deep.DeepCutAuto
import Derived.Deep.RegionHeld3
import Derived.StillTailTactics
namespace Go.Proofs.Ythpffpgbmgnkcaa
open Go.RowKit
set_option linter.unusedVariables false      -- bounds that are for the walk

def restOf : Nat → Code → Code
  | 0, c => c
  | n + 1, .seq _ c => restOf n c
  | _, c => c
def inB : Code → Code
  | .block _ c => c
  | c => c
def inLp : Code → Code
  | .loop c => c
  | c => c
def fstOf : Code → Code
  | .seq c _ => c
  | c => c
def bodyOf (f : Func) : Code := match f.body with | some c => c | none => .skip

/-- what is done with each float -/
def eachS (f : Func) : Code := inB (fstOf (restOf 1 (inLp (inB (restOf 1 (fstOf (restOf 8 (bodyOf f))))))))
/-- between two floats -/
def FInv (w wr : World) (fb lb rb : Nat) (wd : Int) : Prop := ∃ M sv lv fs lo hi, Bo w wr M fb lb rb sv lv wd fs fs lo hi ∧ Bd fs ∧ fs.length ≤ 200
/-- the room in which one is added -/
def CutG (w wx : World) (M : Nat → Lab) (fb lb rb : Nat) (sv lv : Value) (wd : Int) (fs : List Fl) (s : Value) : Prop :=
  ∃ gb lo hi, s = .pointer (some ⟨gb, 0, none⟩) ∧ -16777216 ≤ lo ∧ lo ≤ hi ∧ hi ≤ 16777216 ∧ Bo w wx M fb lb rb sv lv wd fs fs lo hi ∧ RmAt wx M gb lb lo hi
/-- a room of one's own was made -/
def CutIn (w wx : World) (M : Nat → Lab) (fb lb rb : Nat) (sv lv : Value) (wd : Int) (fs : List Fl) (lo hi plo phi : Int) (s : Value) : Prop :=
  ∃ gb, s = .pointer (some ⟨gb, 0, none⟩) ∧ gb ≠ rb ∧ Bo w wx M fb lb rb sv lv wd fs fs lo hi ∧ RmAt wx M gb lb (heldN plo) (max (heldN plo) (heldN phi))
theorem RmAt.far {w W : World} {M : Nat → Lab} {gb lb rb : Nat} {lo hi : Int} (h : RmAt w M gb lb lo hi) (hb : ∀ b, b ≠ rb → W.heap[b]? = w.heap[b]?) (hg : gb ≠ rb) : RmAt W M gb lb lo hi := ⟨(hb gb hg).trans h.head, h.lab⟩
theorem own_read5 {w : World} {base m : Nat} {v : Value} {fs : List Fl} (h : w.ownsRow base 43 5 v m (fcells fs)) (hm : fs.length = m) :
    ∀ (j : Nat) o, fs[j]? = some o → ∃ g c, v = .slice (some ⟨g, 0, none⟩) m c ∧ g < w.heap.size ∧ w.cell? ⟨g, j * 5, none⟩ = some (.bool o.r) ∧ w.cell? ⟨g, j * 5 + 1, none⟩ = some (.int .i64 o.x) ∧ w.cell? ⟨g, j * 5 + 2, none⟩ = some (.int .i64 o.y) ∧ w.cell? ⟨g, j * 5 + 3, none⟩ = some (.int .i64 o.w) ∧ w.cell? ⟨g, j * 5 + 4, none⟩ = some (.int .i64 o.h) := by
  intro j o hj
  have hjl := (List.getElem?_eq_some_iff.1 hj).1
  obtain ⟨hl, ⟨_, hn⟩ | ⟨g, cap, cur, rfl, hg, hh, h1, h2, h3, h4⟩⟩ := h
  · omega
  · refine ⟨g, cap, rfl, ltH hh, ?_⟩
    have hc : ∀ (i : Nat) u, i < 5 → (flv o)[i]? = some u → w.cell? ⟨g, j * 5 + i, none⟩ = some u := fun i u hi hu => by
      have e := fcells_get fs j i o hj hi
      rw [hu, ← h4, List.getElem?_take] at e
      rw [cell_of_row w g _ _ _ _ hh]
      split at e
      · simpa using e
      · cases e
    exact ⟨hc 0 _ (by omega) rfl, hc 1 _ (by omega) rfl, hc 2 _ (by omega) rfl, hc 3 _ (by omega) rfl, hc 4 _ (by omega) rfl⟩
/-- what comes of one more -/
def AddOut (lo hi : Int) (fs : List Fl) (rt : Bool) (wd ht fr x y : Int) (fs' : List Fl) : Prop :=
  (fs.length = 200 ∧ x = 0 ∧ y = 0 ∧ fs' = fs) ∨ (fs.length < 200 ∧ FitAt lo hi fs (max (heldN wd) 0) (max (heldN ht) 0) (topN fs (heldN fr)) y ∧ x = xOf rt (gapN lo hi fs y (max (heldN ht) 0)) (max (heldN wd) 0) ∧ fs' = fs ++ [⟨rt, x, y, max (heldN wd) 0, max (heldN ht) 0⟩])
theorem AddOut.bd {lo hi : Int} {fs fs' : List Fl} {rt : Bool} {wd ht fr x y : Int} (h : AddOut lo hi fs rt wd ht fr x y fs') (hb : Bd fs) (l1 : -16777216 ≤ lo) (l2 : lo ≤ hi) (l3 : hi ≤ 16777216) : Bd fs' ∧ fs'.length ≤ 200 := by
  have h1 := heldN_bd wd
  have h2 := heldN_bd ht
  have h3 := heldN_bd fr
  rcases h with ⟨hl, _, _, rfl⟩ | ⟨hl, hf, hx, rfl⟩
  · exact ⟨hb, by omega⟩
  · exact ⟨bd_next hb l1 l2 l3 (by omega) (by omega) (by omega) (by omega) h3.1 h3.2 hf hx, by rw [List.length_append]; simp; omega⟩
theorem add_both {w wr : World} {M : Nat → Lab} {fb lb rb gb : Nat} {sv lv : Value} {wd lo0 hi0 lo hi : Int} {fs gs : List Fl} (hB : Bo w wr M fb lb rb sv lv wd fs gs lo0 hi0) (hR : RmAt wr M gb lb lo hi) (bd : Bd fs) (hl : fs.length ≤ 200) (l1 : -16777216 ≤ lo) (l2 : lo ≤ hi) (l3 : hi ≤ 16777216) (rt : Bool) (pw ph pf : Int) :
    Calls Try.prog 10 #[.pointer (some ⟨gb, 0, none⟩), .bool rt, .int .i64 pw, .int .i64 ph, .int .i64 pf] wr fun e w' => ∃ x y fs' M' sv', e = .returned (.tuple #[.int .i64 x, .int .i64 y]) ∧ AddOut lo hi fs rt pw ph pf x y fs' ∧ Bo w w' M' fb lb rb sv' lv wd fs' gs lo0 hi0 := by
  by_cases h : fs.length = 200
  · refine (add_full hB.fl hR h rt pw ph pf).mono ?_
    rintro e w' ⟨rfl, hb⟩
    exact ⟨0, 0, fs, M, sv, rfl, .inl ⟨h, rfl, rfl, rfl⟩, hB.held hb⟩
  · refine (add_any hB.fl hR (by omega) bd l1 l2 l3 rt pw ph pf).mono ?_
    rintro e w' ⟨x, y, hf, hx, rfl, M', sv', hfl, hk⟩
    exact ⟨x, y, _, M', sv', rfl, .inr ⟨by omega, hf, hx, rfl⟩, hB.keptP hfl hk⟩
theorem qadd_both {w wr : World} {M : Nat → Lab} {fb lb rb : Nat} {sv lv : Value} {wd lo hi : Int} {fs fs' : List Fl} {rt : Bool} {pw ph pf x y : Int} (hB : Bo w wr M fb lb rb sv lv wd fs' fs lo hi) (ho : AddOut lo hi fs rt pw ph pf x y fs') (bd : Bd fs) (l1 : -16777216 ≤ lo) (l2 : lo ≤ hi) (l3 : hi ≤ 16777216) :
    Calls Try.prog 11 #[.pointer (some ⟨rb, 0, none⟩), .bool rt, .int .i64 pw, .int .i64 ph, .int .i64 pf] wr fun e w' => e = .returned (.tuple #[.int .i64 x, .int .i64 y]) ∧ FInv w w' fb lb rb wd := by
  have hbd := ho.bd bd l1 l2 l3
  rcases ho with ⟨h, rfl, rfl, rfl⟩ | ⟨h, hf, hx, rfl⟩
  · refine (qadd_full hB.q h rt pw ph pf).mono ?_
    rintro e w' ⟨rfl, hb⟩
    exact ⟨rfl, M, sv, lv, _, lo, hi, hB.held hb, hbd.1, hbd.2⟩
  · refine (qadd_any hB.q hB.below.size h bd l1 l2 l3 rt pw ph pf y hf).mono ?_
    rintro e w' ⟨x', lv', hx', rfl, hq, hk, hlv⟩
    obtain rfl : x' = x := by rw [hx', hx]
    exact ⟨rfl, M, sv, lv', _, lo, hi, hB.keptQ hq hk hlv, hbd.1, hbd.2⟩
/-- the program has added one -/
def CutA (w wx : World) (fb lb rb : Nat) (lv : Value) (wd : Int) (fs : List Fl) (lo hi : Int) (rt : Bool) (pw ph pf : Int) (s1 s2 : Value) : Prop :=
  ∃ x y fs' M' sv', s1 = .int .i64 x ∧ s2 = .int .i64 y ∧ AddOut lo hi fs rt pw ph pf x y fs' ∧ Bo w wx M' fb lb rb sv' lv wd fs' fs lo hi
end Go.Proofs.Ythpffpgbmgnkcaa
