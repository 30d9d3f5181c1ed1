/- Floats of the program and of the document, side by side in memory. -/
import Derived.Test.YthpffpgbmgnkcaaFLEdge
import Derived.Test.YthpffpgbmgnkcaaFLRoom
import Derived.Test.YthpffpgbmgnkcaaFQAdd
import Derived.Test.YthpffpgbmgnkcaaFAPure
import Derived.Test.YthpffpgbmgnkcaaFQFit
namespace Go.Proofs.Ythpffpgbmgnkcaa
open Go.RowKit
set_option linter.unusedVariables false      -- bounds that are for the walk

set_option maxHeartbeats 1000000 in
set_option maxRecDepth 100000 in
/-- one more where there are as many as may be: nothing -/
theorem add_full {w : World} {M : Nat → Lab} {lb fb : Nat} {sv : Value} {fs : List Fl} {lo hi : Int} (h : FlAt w M lb sv fs) (hr : RmAt w M fb lb lo hi) (hl : fs.length = 200) (rt : Bool) (wd ht fr : Int) :
    Calls Try.prog 10 #[.pointer (some ⟨fb, 0, none⟩), .bool rt, .int .i64 wd, .int .i64 ht, .int .i64 fr] w fun e w' => e = .returned (.tuple #[.int .i64 0, .int .i64 0]) ∧ Below w.heap.size w w' := by
  obtain ⟨f0, f1, f2, _, _, _⟩ := three_c hr.head
  obtain ⟨l0, _⟩ := one_c h.head
  have hfb := lt_of_heap hr.head
  have hlb := lt_of_heap h.head
  obtain ⟨a, cap, rfl, hc, hm⟩ := h.row.shape
  unfold maxLen at hm
  rw [hl] at l0 hc
  have f3 : fb < w.heap.size + 1 := by omega
  have f4 : fb < w.heap.size + 1 + 1 := by omega
  have f5 : fb < w.heap.size + 1 + 1 + 1 := by omega
  have l3 : lb < w.heap.size + 1 := by omega
  have l4 : lb < w.heap.size + 1 + 1 := by omega
  have l5 : lb < w.heap.size + 1 + 1 + 1 := by omega
  clear h hr hl
  go_enter Try.func10, Try.ntmps10
  go_wp2_with fail
  go_returns
  exact ⟨by first | rfl | simp, by go_grown⟩

set_option maxHeartbeats 1000000 in
set_option maxRecDepth 100000 in
theorem qadd_full {w : World} {B rb : Nat} {lv : Value} {fs : List Fl} {lo hi : Int} (h : QfAt w B rb lv fs lo hi) (hl : fs.length = 200) (rt : Bool) (wd ht fr : Int) :
    Calls Try.prog 11 #[.pointer (some ⟨rb, 0, none⟩), .bool rt, .int .i64 wd, .int .i64 ht, .int .i64 fr] w fun e w' => e = .returned (.tuple #[.int .i64 0, .int .i64 0]) ∧ Below w.heap.size w w' := by
  obtain ⟨rl, c0, c1, c2⟩ := h.cells
  obtain ⟨a, c, rfl, q1, q2⟩ := own_shapeQ h.row
  rw [hl] at c2 q1
  clear h hl
  go_enter Try.func11, Try.ntmps11
  go_wp2_with fail
  go_returns
  exact ⟨by first | rfl | simp, by go_grown⟩

/-- both sides: the program's floats fs in a room from 0 to wd, the document's gs -/
structure Bo (w wr : World) (M : Nat → Lab) (fb lb rb : Nat) (sv lv : Value) (wd : Int) (fs gs : List Fl) (lo hi : Int) : Prop where
  below : Below w.heap.size w wr
  fl : FlAt wr M lb sv fs
  rm : RmAt wr M fb lb 0 wd
  q : QfAt wr w.heap.size rb lv gs lo hi
  old : ∀ b, b < w.heap.size → M b = .other
  mrb : M rb = .other
  mlv : ∀ b, lv.ownBlock = some b → M b = .other
  nfr : fb ≠ rb
  nfl : lv.ownBlock ≠ some fb
section
variable {w wr W : World} {M M' : Nat → Lab} {fb lb rb : Nat} {sv sv' lv lv' : Value} {wd lo hi : Int} {fs fs' gs gs' : List Fl}
theorem Bo.held (h : Bo w wr M fb lb rb sv lv wd fs gs lo hi) (hb : Below wr.heap.size wr W) : Bo w W M fb lb rb sv lv wd fs gs lo hi :=
  ⟨h.below.trans (hb.mono h.below.size), h.fl.below hb, h.rm.below hb, h.q.below hb, h.old, h.mrb, h.mlv, h.nfr, h.nfl⟩
theorem FlAt.far {w W : World} {M : Nat → Lab} {lb : Nat} {sv : Value} {fs : List Fl} (h : FlAt w M lb sv fs) (hs : w.heap.size ≤ W.heap.size) (hb : ∀ b, b < w.heap.size → M b ≠ .other → W.heap[b]? = w.heap[b]?) : FlAt W M lb sv fs :=
  ⟨(hb lb (lt_of_heap h.head) (by rw [h.lab]; simp)).trans h.head, h.lab, h.row.keep (fun b hl e => hb b hl (by rw [e]; simp)) (fun _ _ => rfl), fun b hl => h.fresh b (Nat.le_trans hs hl)⟩
theorem ownsRow_at {w W : World} {B : Nat} {e : TypeId} {sz n : Nat} {v : Value} {xs : List Value} (h : w.ownsRow B e sz v n xs) (hb : ∀ g, v.ownBlock = some g → W.heap[g]? = w.heap[g]?) : W.ownsRow B e sz v n xs := by
  obtain ⟨hl, h0 | ⟨g, cap, cur, hv, hg, hh, h1, h2, h3, h4⟩⟩ := h
  · exact ⟨hl, .inl h0⟩
  · exact ⟨hl, .inr ⟨g, cap, cur, hv, hg, (hb g (by rw [hv]; rfl)).trans hh, h1, h2, h3, h4⟩⟩
/-- the program has one more -/
theorem Bo.keptP (h : Bo w wr M fb lb rb sv lv wd fs gs lo hi) (hf : FlAt W M' lb sv' fs') (hk : Kept wr M W M') : Bo w W M' fb lb rb sv' lv wd fs' gs lo hi := by
  have hlv : ∀ g, lv.ownBlock = some g → g < wr.heap.size := fun g e => (h.q.row.lt g e).2
  refine ⟨⟨hk.os.trans h.below.os, hk.tape.trans h.below.tape, hk.output.trans h.below.output, Nat.le_trans h.below.size hk.size, fun b hb => (hk.far b (Nat.lt_of_lt_of_le hb h.below.size) (h.old b hb)).trans (h.below.block b hb)⟩, hf,
    ⟨(hk.far fb (lt_of_heap h.rm.head) h.rm.lab).trans h.rm.head, (hk.lab fb (lt_of_heap h.rm.head)).trans h.rm.lab⟩,
    ⟨(hk.far rb (ltH h.q.head) h.mrb).trans h.q.head, h.q.low, ownsRow_at h.q.row (fun g e => hk.far g (hlv g e) (h.mlv g e)), h.q.ne⟩,
    fun b hb => (hk.lab b (Nat.lt_of_lt_of_le hb h.below.size)).trans (h.old b hb), (hk.lab rb (ltH h.q.head)).trans h.mrb, fun b e => (hk.lab b (hlv b e)).trans (h.mlv b e), h.nfr, h.nfl⟩
/-- the document has one more -/
theorem Bo.keptQ (h : Bo w wr M fb lb rb sv lv wd fs gs lo hi) (hq : QfAt W w.heap.size rb lv' gs' lo hi) (hk : KeepQ wr rb lv W) (hl : lv'.ownBlock = lv.ownBlock ∨ ∃ g, lv'.ownBlock = some g ∧ wr.heap.size ≤ g) : Bo w W M fb lb rb sv lv' wd fs gs' lo hi := by
  refine ⟨⟨hk.os.trans h.below.os, hk.tape.trans h.below.tape, hk.output.trans h.below.output, Nat.le_trans h.below.size hk.size, fun b hb => ?_⟩, h.fl.far hk.size (fun b hb e => ?_), ⟨?_, h.rm.lab⟩, hq, h.old, h.mrb, fun b e => ?_, h.nfr, ?_⟩
  · refine (hk.block b (Nat.lt_of_lt_of_le hb h.below.size) (by have := h.q.low; omega) (fun e => ?_)).trans (h.below.block b hb)
    have := (h.q.row.lt b e.symm).1
    omega
  · refine hk.block b hb (fun e2 => e (by rw [e2]; exact h.mrb)) (fun e2 => e (h.mlv b e2.symm))
  · exact (hk.block fb (lt_of_heap h.rm.head) h.nfr (fun e => h.nfl e.symm)).trans h.rm.head
  · rcases hl with hl | ⟨g, e2, hg⟩
    · exact h.mlv b (by rw [← hl]; exact e)
    · rw [e] at e2
      cases e2
      exact h.fl.fresh b hg
  · rcases hl with hl | ⟨g, e2, hg⟩
    · rw [hl]; exact h.nfl
    · intro e
      rw [e] at e2
      cases e2
      have := lt_of_heap h.rm.head
      omega
theorem Bo.setLo (h : Bo w wr M fb lb rb sv lv wd fs gs lo hi) (x : Int) : Bo w (wr.setCell ⟨rb, 0, none⟩ (.int .i64 x)) M fb lb rb sv lv wd fs gs x hi := by
  have far : ∀ b, b ≠ rb → (wr.setCell ⟨rb, 0, none⟩ (.int .i64 x)).heap[b]? = wr.heap[b]? := fun b hb => Below.heap_setCell _ _ _ b hb
  refine ⟨h.below.setCell h.q.low _, h.fl.far (by simp) (fun b _ e => far b (fun e2 => e (by rw [e2]; exact h.mrb))), ⟨(far fb h.nfr).trans h.rm.head, h.rm.lab⟩, ⟨?_, h.q.low, ownsRow_at h.q.row (fun g e => far g (fun e2 => h.q.ne (by rw [← e2]; exact e))), h.q.ne⟩, h.old, h.mrb, h.mlv, h.nfr, h.nfl⟩
  rw [heap_set _ _ _ _ _ _ _ h.q.head]
  rfl
theorem Bo.setHi (h : Bo w wr M fb lb rb sv lv wd fs gs lo hi) (x : Int) : Bo w (wr.setCell ⟨rb, 1, none⟩ (.int .i64 x)) M fb lb rb sv lv wd fs gs lo x := by
  have far : ∀ b, b ≠ rb → (wr.setCell ⟨rb, 1, none⟩ (.int .i64 x)).heap[b]? = wr.heap[b]? := fun b hb => Below.heap_setCell _ _ _ b hb
  refine ⟨h.below.setCell h.q.low _, h.fl.far (by simp) (fun b _ e => far b (fun e2 => e (by rw [e2]; exact h.mrb))), ⟨(far fb h.nfr).trans h.rm.head, h.rm.lab⟩, ⟨?_, h.q.low, ownsRow_at h.q.row (fun g e => far g (fun e2 => h.q.ne (by rw [← e2]; exact e))), h.q.ne⟩, h.old, h.mrb, h.mlv, h.nfr, h.nfl⟩
  rw [heap_set _ _ _ _ _ _ _ h.q.head]
  rfl
/-- what the document's own cells hold -/
theorem Bo.cells (h : Bo w wr M fb lb rb sv lv wd fs gs lo hi) : rb < wr.heap.size ∧ wr.cell? ⟨rb, 0, none⟩ = some (.int .i64 lo) ∧ wr.cell? ⟨rb, 1, none⟩ = some (.int .i64 hi) ∧ wr.cell? ⟨rb, 2, none⟩ = some lv ∧ wr.frozen? ⟨rb, 0, none⟩ = false ∧ wr.frozen? ⟨rb, 1, none⟩ = false := by
  obtain ⟨h1, h2, h3, h4⟩ := h.q.cells
  exact ⟨h1, h2, h3, h4, by simp [World.frozen?, h.q.head], by simp [World.frozen?, h.q.head]⟩
end

/-- the floats that are asked for, as they came in -/
def Puts7 (w : World) (pa : Option Addr) (ps : List Pt) : Prop :=
  ∀ (j : Nat) p, ps[j]? = some p → ∃ b o, pa = some ⟨b, o, none⟩ ∧ b < w.heap.size ∧ w.cell? ⟨b, o + j * 7, none⟩ = some (.bool p.r) ∧ w.cell? ⟨b, o + j * 7 + 1, none⟩ = some (.bool p.i) ∧ w.cell? ⟨b, o + j * 7 + 2, none⟩ = some (.int .i64 p.w) ∧
    w.cell? ⟨b, o + j * 7 + 3, none⟩ = some (.int .i64 p.h) ∧ w.cell? ⟨b, o + j * 7 + 4, none⟩ = some (.int .i64 p.f) ∧ w.cell? ⟨b, o + j * 7 + 5, none⟩ = some (.int .i64 p.lo) ∧ w.cell? ⟨b, o + j * 7 + 6, none⟩ = some (.int .i64 p.hi)
end Go.Proofs.Ythpffpgbmgnkcaa
