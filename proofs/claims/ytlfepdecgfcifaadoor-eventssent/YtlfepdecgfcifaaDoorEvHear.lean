/- Package events: an ear hears. -/
import Derived.Test.YtlfepdecgfcifaaDoorM11
import Derived.Deep.DeepCutAuto
namespace Go.Proofs.YtlfepdecgfcifaaDoor
open Go.RowKit
set_option linter.unusedVariables false
theorem Tryd.infoCall : (Tryd.prog.info? 99).map (fun i => (i.zero, i.size, i.bytes)) = some (some (.agg #[.int .i64 0, .int .i64 0, .int .i64 0]), 3, 24) := by kernel_rfl

def sendC (eb : Nat) (name : ByteArray) (cv : Value) (b e : Bool) : Array Value := #[.pointer (some ⟨eb, 0, none⟩), .string name, cv, .bool b, .bool e]
/-- a sending: its calls' row lies from n on, all else below -/
structure SdAt (n : Nat) (w : World) (sb eb : Nat) (v : Value) (xb : List Nat) (name : ByteArray) (st : EvT) (cv : Value) : Prop where
  pe : PEs w eb v xb st.E
  head : w.heap[sb]? = some (.cells (sendC eb name cv st.barred st.ended) 88 (0, 0))
  own : w.ownsRow n 99 3 cv st.calls.length (callsC st.calls)
  nle : n ≤ w.heap.size
  lts : sb < n
  lte : eb < n
  ltv : ∀ b, v.ownBlock = some b → b < n
  ltx : ∀ b ∈ xb, b < n
  s1 : sb ≠ eb
  s2 : v.ownBlock ≠ some sb
  s3 : ∀ b ∈ xb, b ≠ sb
/-- nothing turns but the sending's own cells, the ears' row and the calls' row, which may be a new one -/
structure Tn (sb : Nat) (v : Value) (w : World) (cv : Value) (w' : World) (cv' : Value) : Prop where
  os : w'.os = w.os
  tape : w'.tape = w.tape
  output : w'.output = w.output
  kept : KeepsOthers w w'
  block : ∀ b, b < w.heap.size → b ≠ sb → v.ownBlock ≠ some b → cv.ownBlock ≠ some b → w'.heap[b]? = w.heap[b]?
  own : cv'.ownBlock = cv.ownBlock ∨ ∃ b, cv'.ownBlock = some b ∧ w.heap.size ≤ b
def PostS (n : Nat) (w : World) (cv : Value) (sb eb : Nat) (v : Value) (xb : List Nat) (name : ByteArray) (st : EvT) (w' : World) : Prop :=
  ∃ cv', SdAt n w' sb eb v xb name st cv' ∧ Tn sb v w cv w' cv'
section
variable {n : Nat} {w w' w2 : World} {sb eb : Nat} {v cv cv1 cv2 : Value} {xb : List Nat} {name : ByteArray} {st st2 : EvT}
theorem Tn.refl (sb : Nat) (v : Value) (w : World) (cv : Value) : Tn sb v w cv w cv := ⟨rfl, rfl, rfl, KeepsOthers.refl w, fun _ _ _ _ _ => rfl, .inl rfl⟩
theorem Tn.trans (h : Tn sb v w cv w' cv1) (k : Tn sb v w' cv1 w2 cv2) : Tn sb v w cv w2 cv2 := by
  refine ⟨k.os.trans h.os, k.tape.trans h.tape, k.output.trans h.output, h.kept.trans k.kept, fun b h1 h2 h3 h4 => (k.block b (Nat.lt_of_lt_of_le h1 h.kept.size) h2 h3 (fun e => ?_)).trans (h.block b h1 h2 h3 h4), ?_⟩
  · rcases h.own with e2 | ⟨q, e2, hq⟩
    · exact h4 (e2.symm.trans e)
    · rw [e2] at e; cases e; omega
  · rcases k.own with e | ⟨q, e, hq⟩
    · rcases h.own with e2 | ⟨q, e2, hq⟩
      · exact .inl (e.trans e2)
      · exact .inr ⟨q, e.trans e2, hq⟩
    · exact .inr ⟨q, e, Nat.le_trans h.kept.size hq⟩
theorem Tn.of_below (sb : Nat) (v cv : Value) (h : Below w.heap.size w w') : Tn sb v w cv w' cv :=
  ⟨h.os, h.tape, h.output, ⟨h.size, fun k o hk _ => (h.block k (ltH hk)).trans hk⟩, fun b hb _ _ _ => h.block b hb, .inl rfl⟩
theorem Tn.set (h : Tn sb v w cv w' cv1) (o : Nat) (u : Value) : Tn sb v w cv (w'.setCell ⟨sb, o, none⟩ u) cv1 :=
  h.trans ⟨rfl, rfl, rfl, KeepsOthers.setCell _ _ _, fun b _ h2 _ _ => Below.heap_setCell _ _ _ _ h2, .inl rfl⟩
theorem Tn.chg {X : Nat → Prop} (h : Tn sb v w cv w' cv1) (k : Chg X w' w2) (hx : ∀ b, X b → b = sb ∨ v.ownBlock = some b) : Tn sb v w cv w2 cv1 :=
  h.trans ⟨k.os, k.tape, k.output, k.kept, fun b h1 h2 h3 _ => k.block b h1 (fun e => (hx b e).elim h2 h3), .inl rfl⟩
theorem SdAt.cells (h : SdAt n w sb eb v xb name st cv) : w.cell? ⟨sb, 0, none⟩ = some (.pointer (some ⟨eb, 0, none⟩)) ∧ w.cell? ⟨sb, 1, none⟩ = some (.string name) ∧ w.cell? ⟨sb, 2, none⟩ = some cv ∧ w.cell? ⟨sb, 3, none⟩ = some (.bool st.barred) ∧ w.cell? ⟨sb, 4, none⟩ = some (.bool st.ended) ∧ ∀ j, w.frozen? ⟨sb, j, none⟩ = false := by
  have hb := h.head
  refine ⟨?_, ?_, ?_, ?_, ?_, fun j => by simp [World.frozen?, hb]⟩ <;> (rw [cell_of_row _ _ _ _ _ _ hb]; rfl)
theorem SdAt.below (h : SdAt n w sb eb v xb name st cv) (hb : Below w.heap.size w w') : SdAt n w' sb eb v xb name st cv :=
  ⟨h.pe.below hb, (hb.block _ (ltH h.head)).trans h.head, own_below h.own hb (Nat.le_refl _), Nat.le_trans h.nle hb.size, h.lts, h.lte, h.ltv, h.ltx, h.s1, h.s2, h.s3⟩
theorem SdAt.alloc (h : SdAt n w sb eb v xb name st cv) (o : Obj) : SdAt n (w.alloc o) sb eb v xb name st cv := h.below ((Below.refl _ w).alloc (Nat.le_refl _) o)
/-- the calls have one more -/
theorem SdAt.more (h : SdAt n w sb eb v xb name st cv) {W6 : World} {v6 : Value} {x : EvC} (hl : Below w.heap.size w w') (hv6 : W6.ownsRow n 99 3 v6 (st.calls.length + 1) (callsC st.calls ++ callC x)) (hg : w'.grownBy W6 cv.ownBlock) (hx : v6.ownBlock = cv.ownBlock ∨ v6.ownBlock = some w'.heap.size) :
    SdAt n (W6.setCell ⟨sb, 2, none⟩ v6) sb eb v xb name { st with calls := st.calls ++ [x] } v6 ∧ Tn sb v w cv (W6.setCell ⟨sb, 2, none⟩ v6) v6 ∧ W6.heap[sb]? = some (.cells (sendC eb name cv st.barred st.ended) 88 (0, 0)) := by
  have ho : ∀ q, cv.ownBlock = some q → n ≤ q ∧ q < w.heap.size := fun q hq => h.own.lt q hq
  have low : ∀ q, q < w.heap.size → cv.ownBlock ≠ some q → W6.heap[q]? = w.heap[q]? := fun q hq hn => (hg.block q (Nat.lt_of_lt_of_le hq hl.size) (fun e => hn e.symm)).trans (hl.block q hq)
  have lown : ∀ q, q < n → W6.heap[q]? = w.heap[q]? := fun q hq => low q (Nat.lt_of_lt_of_le hq h.nle) (fun e => by have := (ho q e).1; omega)
  have hs6 : W6.heap[sb]? = some (.cells (sendC eb name cv st.barred st.ended) 88 (0, 0)) := (lown sb h.lts).trans h.head
  have oth : ∀ q, q ≠ sb → (W6.setCell ⟨sb, 2, none⟩ v6).heap[q]? = W6.heap[q]? := fun q hq => Below.heap_setCell _ _ _ _ hq
  refine ⟨⟨h.pe.far ((oth eb (Ne.symm h.s1)).trans (lown eb h.lte)) (fun b hb => (oth b (fun e => h.s2 (by rw [← e]; exact hb))).trans (lown b (h.ltv b hb))) (fun b hb => (oth b (h.s3 b hb)).trans (lown b (h.ltx b hb))), ?_, ?_, ?_, h.lts, h.lte, h.ltv, h.ltx, h.s1, h.s2, h.s3⟩, ?_, hs6⟩
  · rw [setCell_heap _ _ _ _ _ _ _ hs6]
    rfl
  · dsimp only
    rw [callsC_snoc, List.length_append]
    exact ownsRow_setCell_below hv6 h.lts v6
  · show n ≤ (W6.setCell _ _).heap.size
    have := hg.size; have := hl.size; have := h.nle
    simp [World.setCell]; omega
  · refine Tn.set ⟨hg.os.trans hl.os, hg.tape.trans hl.tape, hg.output.trans hl.output, KeepsOthers.trans ⟨hl.size, fun k o hk _ => (hl.block k (ltH hk)).trans hk⟩ (KeepsOthers.of_grownBy hg (fun b o hb hoo => ?_)), fun b hb _ _ h4 => low b hb h4, hx.elim .inl (fun e => .inr ⟨_, e, hl.size⟩)⟩ 2 v6
    obtain ⟨hl3, ⟨e1, _⟩ | ⟨g, cap, cur, e1, _, e2, _⟩⟩ := h.own
    · rw [e1] at hb; cases hb
    · rw [e1] at hb
      cases hb
      rw [(hl.block _ (ltH e2)).trans e2] at hoo
      cases hoo
      rfl
theorem SdAt.setB (h : SdAt n w sb eb v xb name st cv) (b : Bool) : SdAt n (w.setCell ⟨sb, 3, none⟩ (.bool b)) sb eb v xb name { st with barred := b } cv := by
  have oth : ∀ q, q ≠ sb → (w.setCell ⟨sb, 3, none⟩ (.bool b)).heap[q]? = w.heap[q]? := fun q hq => Below.heap_setCell _ _ _ _ hq
  refine ⟨h.pe.far (oth eb (Ne.symm h.s1)) (fun q hb => oth q (fun e => h.s2 (by rw [← e]; exact hb))) (fun q hb => oth q (h.s3 q hb)), ?_, ownsRow_setCell_below h.own h.lts _, by simpa [World.setCell] using h.nle, h.lts, h.lte, h.ltv, h.ltx, h.s1, h.s2, h.s3⟩
  rw [setCell_heap _ _ _ _ _ _ _ h.head]
  rfl
theorem SdAt.setE (h : SdAt n w sb eb v xb name st cv) (b : Bool) : SdAt n (w.setCell ⟨sb, 4, none⟩ (.bool b)) sb eb v xb name { st with ended := b } cv := by
  have oth : ∀ q, q ≠ sb → (w.setCell ⟨sb, 4, none⟩ (.bool b)).heap[q]? = w.heap[q]? := fun q hq => Below.heap_setCell _ _ _ _ hq
  refine ⟨h.pe.far (oth eb (Ne.symm h.s1)) (fun q hb => oth q (fun e => h.s2 (by rw [← e]; exact hb))) (fun q hb => oth q (h.s3 q hb)), ?_, ownsRow_setCell_below h.own h.lts _, by simpa [World.setCell] using h.nle, h.lts, h.lte, h.ltv, h.ltx, h.s1, h.s2, h.s3⟩
  rw [setCell_heap _ _ _ _ _ _ _ h.head]
  rfl
theorem SdAt.dropped (h : SdAt n w sb eb v xb name st cv) {E : List EvS} (hp : PEs w' eb v xb E) (hc : Chg (fun b => v.ownBlock = some b) w w') : SdAt n w' sb eb v xb name { st with E := E } cv ∧ Tn sb v w cv w' cv :=
  ⟨⟨hp, (hc.block _ (ltH h.head) h.s2).trans h.head, own_same h.own (fun b hb => hc.block b (h.own.lt b hb).2 (fun e => by have := h.ltv b e; have := (h.own.lt b hb).1; omega)), Nat.le_trans h.nle hc.size, h.lts, h.lte, h.ltv, h.ltx, h.s1, h.s2, h.s3⟩, (Tn.refl sb v w cv).chg hc (fun b e => .inr e)⟩
end
theorem ear_cells {w : World} {b : Nat} {x : EvE} (h : w.heap[b]? = some (.cells ⟨earC x⟩ 44 (0, 0))) : w.cell? ⟨b, 0, none⟩ = some (.int .i64 x.node) ∧ w.cell? ⟨b, 1, none⟩ = some (.string x.name) ∧ w.cell? ⟨b, 2, none⟩ = some (.bool x.down) ∧ w.cell? ⟨b, 3, none⟩ = some (.bool x.once) ∧ w.cell? ⟨b, 4, none⟩ = some (.bool x.calm) ∧ w.cell? ⟨b, 5, none⟩ = some (.bool x.stop) ∧ w.cell? ⟨b, 6, none⟩ = some (.bool x.now) ∧ w.cell? ⟨b, 7, none⟩ = some (.bool x.bar) := by
  refine ⟨?_, ?_, ?_, ?_, ?_, ?_, ?_, ?_⟩ <;> (rw [cell_of_row _ _ _ _ _ _ h]; rfl)

theorem hear_box {n : Nat} {w w6 : World} {sb eb : Nat} {v cv : Value} {xb : List Nat} {name : ByteArray} {st : EvT} (h : SdAt n w sb eb v xb name st cv) {o o2 : Obj} (hg6 : ((w.alloc o).alloc o2).grownBy w6 cv.ownBlock) : w6.heap[w.heap.size]? = some o := by
  refine (hg6.block w.heap.size (by rw [World.size_alloc, World.size_alloc]; omega) (fun e => ?_)).trans ((Below.heap_alloc _ _ _ (by rw [World.size_alloc]; omega)).trans (heap_alloc_new w _))
  have := (h.own.lt _ e.symm).2
  omega
/-- between two rows of hear -/
def HearAt (n : Nat) (w : World) (cv : Value) (sb eb : Nat) (v : Value) (xb : List Nat) (name : ByteArray) (st : EvT) (x : EvE) (wx : World) : Prop :=
  ∃ cv', SdAt n wx sb eb v xb name st cv' ∧ Tn sb v w cv wx cv' ∧ wx.heap[w.heap.size]? = some (.cells ⟨earC x⟩ 44 (0, 0)) ∧ n ≤ w.heap.size

section
variable {n : Nat} {w wx : World} {sb eb : Nat} {v cv : Value} {xb : List Nat} {name : ByteArray} {st : EvT} {x : EvE}
theorem HearAt.cells (h : HearAt n w cv sb eb v xb name st x wx) : wx.cell? ⟨sb, 0, none⟩ = some (.pointer (some ⟨eb, 0, none⟩)) ∧ wx.cell? ⟨sb, 3, none⟩ = some (.bool st.barred) ∧ wx.cell? ⟨sb, 4, none⟩ = some (.bool st.ended) ∧ (∀ j, wx.frozen? ⟨sb, j, none⟩ = false) ∧ wx.cell? ⟨w.heap.size, 3, none⟩ = some (.bool x.once) ∧ wx.cell? ⟨w.heap.size, 4, none⟩ = some (.bool x.calm) ∧ wx.cell? ⟨w.heap.size, 5, none⟩ = some (.bool x.stop) ∧ wx.cell? ⟨w.heap.size, 6, none⟩ = some (.bool x.now) ∧ wx.cell? ⟨w.heap.size, 7, none⟩ = some (.bool x.bar) := by
  obtain ⟨cv', h1, h2, h3, h4⟩ := h
  obtain ⟨c0, c1, c2, c3, c4, fz⟩ := h1.cells
  obtain ⟨e0, e1, e2, e3, e4, e5, e6, e7⟩ := ear_cells h3
  exact ⟨c0, c3, c4, fz, e3, e4, e5, e6, e7⟩
theorem HearAt.setB (h : HearAt n w cv sb eb v xb name st x wx) (b b' : Bool) (e : b = b') : HearAt n w cv sb eb v xb name { st with barred := b' } x (wx.setCell ⟨sb, 3, none⟩ (.bool b)) := by
  subst e
  obtain ⟨cv', h1, h2, h3, h4⟩ := h
  exact ⟨cv', h1.setB b, h2.set 3 _, (Below.heap_setCell _ _ _ _ (by show w.heap.size ≠ sb; have := h1.lts; omega)).trans h3, h4⟩
theorem HearAt.setE (h : HearAt n w cv sb eb v xb name st x wx) (b b' : Bool) (e : b = b') : HearAt n w cv sb eb v xb name { st with ended := b' } x (wx.setCell ⟨sb, 4, none⟩ (.bool b)) := by
  subst e
  obtain ⟨cv', h1, h2, h3, h4⟩ := h
  exact ⟨cv', h1.setE b, h2.set 4 _, (Below.heap_setCell _ _ _ _ (by show w.heap.size ≠ sb; have := h1.lts; omega)).trans h3, h4⟩
theorem HearAt.post (h : HearAt n w cv sb eb v xb name st x wx) : PostS n w cv sb eb v xb name st wx := by
  obtain ⟨cv', h1, h2, _, _⟩ := h
  exact ⟨cv', h1, h2⟩
end
set_option maxHeartbeats 8000000 in
set_option maxRecDepth 100000 in
theorem hear_any {n : Nat} {w : World} {sb eb : Nat} {v cv : Value} {xb : List Nat} {name : ByteArray} {st : EvT} (h : SdAt n w sb eb v xb name st cv) (k : Nat) (node ph : Int) (x : EvE) (hk : st.E[k]? = some ⟨x, false⟩) (hc : st.calls.length ≤ 1000000) :
    Calls Tryd.prog 70 #[.pointer (some ⟨sb, 0, none⟩), .int .i64 k, .int .i64 node, .int .i64 ph, .agg ⟨earC x⟩] w fun e w' => e = .returned (.tuple #[]) ∧ PostS n w cv sb eb v xb name (hearT st k node ph x) w' := by
  obtain ⟨i0, hi, hz0, hz1, hz2⟩ := info_parts Tryd.infoCall
  obtain ⟨c0, c1, c2, c3, c4, fz⟩ := h.cells
  have H := hid h
  have hsl : sb < w.heap.size := ltH h.head
  have HK := hid hk
  have hk0 : (0 : Int) ≤ (k : Int) := by omega
  obtain ⟨ca, cc, rfl⟩ : ∃ a c, cv = .slice a st.calls.length c := by
    obtain ⟨hl, ⟨rfl, h0⟩ | ⟨g', cap, cur, rfl, _⟩⟩ := h.own
    · exact ⟨none, 0, by rw [h0]⟩
    · exact ⟨_, cap, rfl⟩
  have HOW : Hid (∀ o o2 : Obj, ((w.alloc o).alloc o2).ownsRow n 99 3 (.slice ca st.calls.length cc) st.calls.length (callsC st.calls)) := fun o o2 => (h.own.alloc o).alloc o2
  have hnle := h.nle
  clear h hk
  go_enter Tryd.func70, Tryd.ntmps70
  go_upto_region 2 with (at_builtin; (refine wpList_append_own_at _ rfl (.tmp 14) (.tmp 19) 47 rfl n 99 i0 _ 3 24 Tryd.underlying47 hi hz0 hz1 hz2 rfl (by decide) _ st.calls.length (callsC st.calls) rfl (HOW.out _ _) ⟨w.heap.size + 1, 0, none⟩ 1 1 [.int .i64 k, .int .i64 node, .int .i64 ph] rfl rfl (news_new _ #[.int .i64 k, .int .i64 node, .int .i64 ph] 99 _ (by simp)) (by simp [Value.oneCell']) (by unfold maxLen <;> omega) (by omega) (by simp only [World.size_alloc] <;> omega) ?_; intro v6 w6 hv6 hg6 _ hx6o; obtain ⟨g6, cap6, rfl⟩ := ownsRow_succ hv6; obtain ⟨m1, m2, m3⟩ := H.out.more (w' := (w.alloc (.cells ⟨earC x⟩ 44)).alloc (.cells #[.int .i64 k, .int .i64 node, .int .i64 ph] 99)) (W6 := w6) (x := ⟨k, node, ph⟩) (((Below.refl _ w).alloc (Nat.le_refl _) _).alloc (by simp only [World.size_alloc]; omega) _) hv6 hg6 hx6o; have M1 := hid m1; have M2 := hid m2; have fz6 : ∀ j, w6.frozen? ⟨sb, j, none⟩ = false := (fun j => by simp [World.frozen?, m3]); have hc62 : w6.cell? ⟨sb, 2, none⟩ = some (.slice ca st.calls.length cc) := ((cell_of_row _ _ _ _ _ _ m3).trans rfl); have hx6 := hear_box H.out hg6; have HX6 := hid hx6; clear hv6 hg6 hx6o m1 m2 m3 hx6))
  obtain ⟨wz, hwz⟩ : ∃ wz, wz = w6.setCell ⟨sb, 2, none⟩ (.slice (some ⟨g6, 0, none⟩) (st.calls.length + 1) cap6) := ⟨_, rfl⟩
  have HA : Hid (HearAt n w (.slice ca st.calls.length cc) sb eb v xb name { st with calls := st.calls ++ [⟨k, node, ph⟩] } x wz) := by
    rw [hwz]
    exact ⟨_, M1.out, M2.out, (Below.heap_setCell _ _ _ _ (by show w.heap.size ≠ sb; omega)).trans HX6.out, hnle⟩
  rw [← hwz]
  clear hwz M1 M2 HX6 fz6 hc62 c0 c1 c2 c3 c4 fz H HOW
  go_cut [] (fun wx => Hid (HearAt n w (.slice ca st.calls.length cc) sb eb v xb name { st with calls := st.calls ++ [⟨k, node, ph⟩], barred := st.barred || (x.bar && !x.calm) } x wx))
  case first =>
    obtain ⟨d0, d3, d4, d5, e3, e4, e5, e6, e7⟩ := HA.out.cells
    dsimp only at d3 d4
    cases hb : st.barred
    · cases hbar : x.bar
      · rw [hb] at d3
        rw [hbar] at e7
        go_wp2_with fail
        go_meet
        exact HA.out.setB _ _ (by simp [*])
      · cases hcl : x.calm
        · rw [hb] at d3
          rw [hbar] at e7
          rw [hcl] at e4
          go_wp2_with fail
          go_meet
          exact HA.out.setB _ _ (by simp [*])
        · rw [hb] at d3
          rw [hbar] at e7
          rw [hcl] at e4
          go_wp2_with fail
          go_meet
          exact HA.out.setB _ _ (by simp [*])
    · rw [hb] at d3
      go_wp2_with fail
      go_meet
      exact HA.out.setB _ _ (by simp [*])
  case rest =>
  clear HA
  obtain ⟨wy, hwy⟩ : ∃ wy, wy = wc := ⟨_, rfl⟩
  subst hwy
  have HA := hcut
  clear hcut
  go_upto_region 3 with fail
  go_cut [] (fun wx => Hid (HearAt n w (.slice ca st.calls.length cc) sb eb v xb name { st with calls := st.calls ++ [⟨k, node, ph⟩], barred := st.barred || (x.bar && !x.calm), ended := st.ended || x.stop || x.now } x wx))
  case first =>
    obtain ⟨d0, d3, d4, d5, e3, e4, e5, e6, e7⟩ := HA.out.cells
    dsimp only at d3 d4
    cases hb : st.ended
    · cases hs : x.stop
      · rw [hb] at d4
        rw [hs] at e5
        go_wp2_with fail
        go_meet
        exact HA.out.setE _ _ (by simp [*])
      · rw [hb] at d4
        rw [hs] at e5
        go_wp2_with fail
        go_meet
        exact HA.out.setE _ _ (by simp [*])
    · rw [hb] at d4
      go_wp2_with fail
      go_meet
      exact HA.out.setE _ _ (by simp [*])
  case rest =>
  clear HA
  obtain ⟨wv, hwv⟩ : ∃ wv, wv = wc := ⟨_, rfl⟩
  subst hwv
  have HB := hcut
  clear hcut
  obtain ⟨d0, d3, d4, d5, e3, e4, e5, e6, e7⟩ := HB.out.cells
  clear d3 d4 e4 e5 e6 e7
  cases ho : x.once
  · rw [ho] at e3
    go_wp2_with fail
    go_end0
    refine ⟨rfl, ?_⟩
    have e : hearT st k node ph x = { st with calls := st.calls ++ [⟨k, node, ph⟩], barred := st.barred || (x.bar && !x.calm), ended := st.ended || x.stop || x.now } := by simp [hearT, ho]
    rw [e]
    exact HB.out.post
  · rw [ho] at e3
    have hpe : ∃ cv', SdAt n wv sb eb v xb name { st with calls := st.calls ++ [⟨k, node, ph⟩], barred := st.barred || (x.bar && !x.calm), ended := st.ended || x.stop || x.now } cv' ∧ Tn sb v w (.slice ca st.calls.length cc) wv cv' := by
      obtain ⟨cv', h1, h2, _, _⟩ := HB.out
      exact ⟨cv', h1, h2⟩
    have HP := hid hpe
    have HD : Hid (dropR st.E (k : Int) = (st.E.set k ⟨x, true⟩, true)) := by
      show _ = _
      unfold dropR
      rw [if_neg (by omega), Int.toNat_natCast, HK.out]
      rfl
    have HDR : Hid (∀ ww, ww = wv → Calls Tryd.prog 10 #[.pointer (some ⟨eb, 0, none⟩), .int .i64 (k : Int)] ww fun e w' => e = .returned (.bool true) ∧ PostS n w (.slice ca st.calls.length cc) sb eb v xb name (hearT st k node ph x) w') := by
      rintro ww rfl
      obtain ⟨cv', h1, h2⟩ := HP.out
      refine (drop_any h1.pe (k : Int)).mono ?_
      rintro e w' ⟨rfl, g1, g2⟩
      rw [HD.out] at g1 ⊢
      have g3 := h1.dropped g1 g2
      refine ⟨rfl, cv', ?_, h2.trans g3.2⟩
      have e : hearT st k node ph x = { E := st.E.set k ⟨x, true⟩, calls := st.calls ++ [⟨k, node, ph⟩], barred := st.barred || (x.bar && !x.calm), ended := st.ended || x.stop || x.now } := by simp [hearT, ho]
      rw [e]
      exact g3.1
    clear HB HP HD hpe
    go_wp2_with fail
    refine (HDR.out _ rfl).mono ?_
    rintro e w' ⟨rfl, hp⟩
    have HP := hid hp
    clear hp HDR
    go_wp2_with fail
    go_end0
    exact ⟨rfl, HP.out⟩
end Go.Proofs.YtlfepdecgfcifaaDoor
