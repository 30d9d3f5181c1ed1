/- All that a tree tells, as one list. -/
import Derived.Test.YtiikjflaonhfdaaDoorPlayL
namespace Go.Proofs.YtiikjflaonhfdaaDoor
open Go.RowKit

/-- lists that lie in memory from a block on, and not in a certain one -/
def IntsX (w : World) (B : Nat) (ob : Option Nat) (v : Value) (l : List Int) : Prop := ∃ a c, v = .slice a l.length c ∧ ∀ (k : Nat) (y : Int), l[k]? = some y → ∃ g, a = some ⟨g, 0, none⟩ ∧ B ≤ g ∧ some g ≠ ob ∧ w.cell? ⟨g, k, none⟩ = some (.int .i64 y)
def AttrsX (w : World) (B : Nat) (ob : Option Nat) (v : Value) (l : List (ByteArray × ByteArray)) : Prop := ∃ a c, v = .slice a l.length c ∧ ∀ (k : Nat) x, l[k]? = some x → ∃ g, a = some ⟨g, 0, none⟩ ∧ B ≤ g ∧ some g ≠ ob ∧ w.cell? ⟨g, k * 2, none⟩ = some (.string x.1) ∧ w.cell? ⟨g, k * 2 + 1, none⟩ = some (.string x.2)

theorem IntsX.keep {w w' : World} {B : Nat} {ob ob' : Option Nat} {v : Value} {l : List Int} (h : IntsX w B ob v l) (hb : ∀ g, g < w.heap.size → B ≤ g → some g ≠ ob → w'.heap[g]? = w.heap[g]? ∧ some g ≠ ob') : IntsX w' B ob' v l := by
  obtain ⟨a, c, h1, h2⟩ := h
  refine ⟨a, c, h1, fun k y hy => ?_⟩
  obtain ⟨g, e1, e2, e3, e4⟩ := h2 k y hy
  have hlt := World.block_lt_of_cell? w _ e4
  exact ⟨g, e1, e2, (hb g hlt e2 e3).2, (World.cell?_of_block (a := ⟨g, k, none⟩) (hb g hlt e2 e3).1).trans e4⟩
theorem AttrsX.keep {w w' : World} {B : Nat} {ob ob' : Option Nat} {v : Value} {l : List (ByteArray × ByteArray)} (h : AttrsX w B ob v l) (hb : ∀ g, g < w.heap.size → B ≤ g → some g ≠ ob → w'.heap[g]? = w.heap[g]? ∧ some g ≠ ob') : AttrsX w' B ob' v l := by
  obtain ⟨a, c, h1, h2⟩ := h
  refine ⟨a, c, h1, fun k y hy => ?_⟩
  obtain ⟨g, e1, e2, e3, e4, e5⟩ := h2 k y hy
  have hlt := World.block_lt_of_cell? w _ e4
  exact ⟨g, e1, e2, (hb g hlt e2 e3).2, (World.cell?_of_block (a := ⟨g, k * 2, none⟩) (hb g hlt e2 e3).1).trans e4, (World.cell?_of_block (a := ⟨g, k * 2 + 1, none⟩) (hb g hlt e2 e3).1).trans e5⟩
theorem IntsX.at {w : World} {B : Nat} {ob : Option Nat} {v : Value} {l : List Int} (h : IntsX w B ob v l) : IntsAt w v l := by
  obtain ⟨a, c, h1, h2⟩ := h
  refine ⟨a, c, h1, fun k y hy => ?_⟩
  obtain ⟨g, e1, _, _, e4⟩ := h2 k y hy
  exact ⟨g, e1, e4⟩
theorem AttrsX.at {w : World} {B : Nat} {ob : Option Nat} {v : Value} {l : List (ByteArray × ByteArray)} (h : AttrsX w B ob v l) : AttrsAt w v l := by
  obtain ⟨a, c, h1, h2⟩ := h
  refine ⟨a, c, h1, fun k y hy => ?_⟩
  obtain ⟨g, e1, _, _, e4, e5⟩ := h2 k y hy
  exact ⟨g, e1, e4, e5⟩
theorem own_intsX {w : World} {B C : Nat} {v : Value} {ob : Option Nat} {xs : List Int} (h : w.ownsRow C 3 1 v xs.length (xs.map intV)) (hBC : B ≤ C) (hob : ∀ g, ob = some g → g < C) : IntsX w B ob v xs := by
  obtain ⟨_, a, c, hv, _, _, hc⟩ := own_cell h
  refine ⟨a, c, hv, fun k y hy => ?_⟩
  obtain ⟨g, e1, e2, _⟩ := hc k y hy
  have hg := (h.lt g (by rw [hv, e1]; rfl)).1
  exact ⟨g, e1, by omega, fun e => by have := hob g e.symm; omega, e2⟩
theorem own_attrsX {w : World} {B C : Nat} {v : Value} {ob : Option Nat} {at_ : List (ByteArray × ByteArray)} (h : w.ownsRow C 78 2 v at_.length (attrCells at_)) (hBC : B ≤ C) (hob : ∀ g, ob = some g → g < C) : AttrsX w B ob v at_ := by
  obtain ⟨a, c, hv, hc⟩ := own_attrs h
  refine ⟨a, c, hv, fun k y hy => ?_⟩
  obtain ⟨g, e1, e2, e3⟩ := hc k y hy
  have hg := (h.lt g (by rw [hv, e1]; rfl)).1
  exact ⟨g, e1, by omega, fun e => by have := hob g e.symm; omega, e2, e3⟩

/-- a node as it is told -/
abbrev Tld := Nd × Value × Value
def tldCells (l : List Tld) : List Value := l.flatMap fun x => [.int .i64 x.1.kind, .string x.1.tag, .string x.1.words, x.2.1, x.2.2]
theorem tldCells_length (l : List Tld) : (tldCells l).length = l.length * 5 := by
  induction l with
  | nil => rfl
  | cons x l ih => simp only [tldCells, List.flatMap_cons, List.length_append, List.length_cons, List.length_nil] at ih ⊢; omega
theorem tldCells_get (l : List Tld) : ∀ (i : Nat) (x : Tld), l[i]? = some x → (tldCells l)[i * 5]? = some (.int .i64 x.1.kind) ∧ (tldCells l)[i * 5 + 1]? = some (.string x.1.tag) ∧ (tldCells l)[i * 5 + 2]? = some (.string x.1.words) ∧ (tldCells l)[i * 5 + 3]? = some x.2.1 ∧ (tldCells l)[i * 5 + 4]? = some x.2.2 := by
  induction l with
  | nil => intro i x h; simp at h
  | cons y l ih =>
    intro i x h
    cases i with
    | zero => simp at h; subst h; exact ⟨rfl, rfl, rfl, rfl, rfl⟩
    | succ i =>
      have := ih i x (by simpa using h)
      have e : tldCells (y :: l) = .int .i64 y.1.kind :: .string y.1.tag :: .string y.1.words :: y.2.1 :: y.2.2 :: tldCells l := rfl
      rw [e, show (i + 1) * 5 = i * 5 + 5 by omega, show i * 5 + 5 + 1 = i * 5 + 1 + 5 by omega, show i * 5 + 5 + 2 = i * 5 + 2 + 5 by omega, show i * 5 + 5 + 3 = i * 5 + 3 + 5 by omega, show i * 5 + 5 + 4 = i * 5 + 4 + 5 by omega]
      exact this
theorem tldCells_append (l m : List Tld) : tldCells (l ++ m) = tldCells l ++ tldCells m := by simp [tldCells]

/-- the first nodes are told -/
def Told (w0 : World) (ns : List Nd) (k : Nat) (v : Value) (w : World) : Prop :=
  ∃ l : List Tld, l.map Prod.fst = ns.take k ∧ w.ownsRow w0.heap.size 56 5 v k (tldCells l) ∧ (∀ x ∈ l, AttrsX w w0.heap.size v.ownBlock x.2.1 x.1.attrs ∧ IntsX w w0.heap.size v.ownBlock x.2.2 (x.1.kids ++ [x.1.parent])) ∧ Below w0.heap.size w0 w

theorem five_at {w : World} {b : Nat} {t : TypeId} {a0 a1 a2 a3 a4 : Value} (h : w.heap[b]? = some (.cells #[a0, a1, a2, a3, a4] t (0, 0))) :
    w.cell? ⟨b, 0, none⟩ = some a0 ∧ w.cell? ⟨b, 1, none⟩ = some a1 ∧ w.cell? ⟨b, 2, none⟩ = some a2 ∧ w.cell? ⟨b, 3, none⟩ = some a3 ∧ w.cell? ⟨b, 4, none⟩ = some a4 ∧ w.frozen? ⟨b, 4, none⟩ = false := by
  refine ⟨?_, ?_, ?_, ?_, ?_, by simp [World.frozen?, h]⟩ <;> (rw [cell_of_row w b _ _ _ _ h]; rfl)

theorem Told.next {w wr w5 w10 w11 : World} {ns : List Nd} {n : Nd} {k : Nat} {ov ov' v5 v9 : Value} {l : List Tld} {O : Obj} (hk : ns[k]? = some n) (hl : l.map Prod.fst = ns.take k) (hown : wr.ownsRow w.heap.size 56 5 ov k (tldCells l))
    (hx : ∀ x ∈ l, AttrsX wr w.heap.size ov.ownBlock x.2.1 x.1.attrs ∧ IntsX wr w.heap.size ov.ownBlock x.2.2 (x.1.kids ++ [x.1.parent])) (hB : Below w.heap.size w wr)
    (ho5 : w5.ownsRow wr.heap.size 78 2 v5 n.attrs.length (attrCells n.attrs)) (hB5 : Below wr.heap.size wr w5)
    (F : ∀ g, g < w5.heap.size → w10.heap[g]? = w5.heap[g]?) (s10 : w5.heap.size ≤ w10.heap.size) (ost : w10.os = w5.os ∧ w10.tape = w5.tape ∧ w10.output = w5.output)
    (ho9 : w10.ownsRow w5.heap.size 3 1 v9 (n.kids ++ [n.parent]).length ((n.kids ++ [n.parent]).map intV))
    (hg11 : (w10.alloc O).grownBy w11 ov.ownBlock) (ho11 : w11.ownsRow w.heap.size 56 5 ov' (k + 1) (tldCells l ++ [.int .i64 n.kind, .string n.tag, .string n.words, v5, v9])) (hb11 : ov'.ownBlock = ov.ownBlock ∨ ov'.ownBlock = some (w10.alloc O).heap.size) : Told w ns (k + 1) ov' w11 := by
  have hwr := hB5.size
  have hww := hB.size
  have hob : ∀ g, ov.ownBlock = some g → w.heap.size ≤ g ∧ g < wr.heap.size := fun g hg => hown.lt g hg
  have e11 : (w10.alloc O).heap.size = w10.heap.size + 1 := by simp
  have ob' : ∀ g, g < w10.heap.size → some g ≠ ov.ownBlock → some g ≠ ov'.ownBlock := by
    intro g hg hne e
    rcases hb11 with h | h
    · exact hne (e.trans h)
    · rw [h, e11] at e
      have := Option.some.inj e
      omega
  have A10 : ∀ g, g < w10.heap.size → some g ≠ ov.ownBlock → w11.heap[g]? = w10.heap[g]? := fun g hg hne => (hg11.block g (by rw [e11]; omega) hne).trans (Below.heap_alloc w10 O g hg)
  have A5 : ∀ g, g < w5.heap.size → some g ≠ ov.ownBlock → w11.heap[g]? = w5.heap[g]? := fun g hg hne => (A10 g (by omega) hne).trans (F g hg)
  have Ar : ∀ g, g < wr.heap.size → some g ≠ ov.ownBlock → w11.heap[g]? = wr.heap[g]? := fun g hg hne => (A5 g (by omega) hne).trans (hB5.block g hg)
  refine ⟨l ++ [(n, v5, v9)], ?_, by rw [tldCells_append]; exact ho11, fun x hx' => ?_, ?_⟩
  · rw [List.map_append, hl]
    obtain ⟨hlt, rfl⟩ := List.getElem?_eq_some_iff.1 hk
    rw [List.take_succ_eq_append_getElem hlt]
    rfl
  · rcases List.mem_append.1 hx' with hx' | hx'
    · obtain ⟨h1, h2⟩ := hx x hx'
      exact ⟨h1.keep fun g hg _ hne => ⟨Ar g hg hne, ob' g (by omega) hne⟩, h2.keep fun g hg _ hne => ⟨Ar g hg hne, ob' g (by omega) hne⟩⟩
    · rw [List.mem_singleton] at hx'
      subst hx'
      refine ⟨(own_attrsX (ob := ov.ownBlock) ho5 hww (fun g hg => (hob g hg).2)).keep fun g hg _ hne => ⟨A5 g hg hne, ob' g (by omega) hne⟩, (own_intsX (ob := ov.ownBlock) ho9 (by omega) (fun g hg => by have := (hob g hg).2; omega)).keep fun g hg _ hne => ⟨A10 g hg hne, ob' g hg hne⟩⟩
  · refine ⟨(hg11.os.trans (show w10.os = _ from ost.1)).trans (hB5.os.trans hB.os), (hg11.tape.trans (show w10.tape = _ from ost.2.1)).trans (hB5.tape.trans hB.tape), (hg11.output.trans (show w10.output = _ from ost.2.2)).trans (hB5.output.trans hB.output), ?_, fun g hg => ?_⟩
    · have := hg11.size
      rw [e11] at this
      omega
    · exact (Ar g (by omega) (fun e => by have := (hob g e.symm).1; omega)).trans (hB.block g hg)

theorem step_append_one {P : Program} (w : World) {ops : Array Oper} {o : Oper} {a : Act} {K : Act → World → Prop} {Q : Exit → Act → World → Prop} {E : Prop} (hgd : o.guard = none) (s x : Operand) (t ty : TypeId)
    (ho : o.op = .call { callee := .builtin .append, args := #[s, x], argTypes := #[t, t] }) (hty : o.type = ty) (v u : Value) (hs : a.eval s = v) (hx : a.eval x = u) (r : Value) (w' : World) (hr : (Builtin.append_ #[t, t] ty #[v, u]).run P w = .ok r w')
    (h : K (a.put o.dst r) w') : if Region.wanted o (yielded ops a.tmps) = true then Oper.wp P o a w K Q else E := by
  have hw : Region.wanted o (yielded ops a.tmps) = true := by simp [Region.wanted, hgd]
  rw [if_pos hw]
  unfold Oper.wp execOp
  simp only [ho, hty, resolve, invoke, builtin, Sem.run_bind, Sem.run_pure, Result.andThen_ok, List.map_toArray, List.map_cons, List.map_nil, hs, hx, hr]
  exact h

theorem Tryd.infoTwig : (Tryd.prog.info? 56).map (fun i => (i.zero, i.size, i.bytes)) = some (some (.agg #[.int .i64 0, .string ⟨#[]⟩, .string ⟨#[]⟩, .slice none 0 0, .slice none 0 0]), 5, 88) := by kernel_rfl

set_option maxHeartbeats 8000000 in
set_option maxRecDepth 100000 in
theorem look_any {w : World} {M : Nat → Lab} {tb : Nat} {nv uv : Value} {ps : List Pn} {us : List Value} (h : Lies w M tb nv uv ps us) (hW : WF (nodesOf ps)) {K : Nat} (hF : Few (nodesOf ps) K) (hK : K ≤ 1000) :
    Calls Tryd.prog 10 #[.pointer (some ⟨tb, 0, none⟩)] w fun e w' => ∃ v, e = .returned v ∧ Told w (nodesOf ps) ps.length v w' := by
  obtain ⟨i0, hi, hz0, hz1, hz2⟩ := info_parts Tryd.infoTwig
  obtain ⟨j0, hj, hy0, hy1, hy2⟩ := info_parts Tryd.infoInt
  have H : Hid (∀ w', Below w.heap.size w w' → Lies w' M tb nv uv ps us) := fun w' hb => h.below hb
  have hpl : ps.length ≤ 400 := by have := hW.len; simpa [nodesOf] using this
  have HW : Hid (WF (nodesOf ps)) := hW
  have HF : Hid (Few (nodesOf ps) K) := hF
  have HT0 : Hid (Told w (nodesOf ps) 0 (.slice none 0 0) w) := ⟨[], rfl, World.ownsRow_nil _ _ _ _, (fun x hx => absurd hx (by simp)), Below.refl _ _⟩
  clear h hW hF
  go_enter Tryd.func10, Tryd.ntmps10
  go_wp2
  go_loopw [3, 4] (fun ov iv wr => ∃ k : Nat, k ≤ ps.length ∧ iv = .int .i64 k ∧ Hid (Told w (nodesOf ps) k ov wr)) (fun _ iv _ => ps.length - (intOf iv).toNat)
  case atStart => exact ⟨0, by omega, rfl, HT0⟩
  case round =>
    rename_i ov iv wr
    obtain ⟨k, hk, rfl, hT⟩ := hrel
    obtain ⟨l, hl, hown, hx, hB⟩ := hT.out
    have HLw : Hid (Lies wr M tb nv uv ps us) := H.out wr hB
    by_cases hkl : k < ps.length
    · obtain ⟨p, hp⟩ : ∃ p, ps[k]? = some p := ⟨_, List.getElem?_eq_getElem hkl⟩
      have HP : Hid (ps[k]? = some p) := hp
      have hpa : p.n.attrs.length ≤ 1099511627776 := by have := HF.out k _ (nodes_get hp); omega
      have hpk : p.n.kids.length ≤ 400 := HW.out.few (nodes_get hp)
      obtain ⟨oa, oc, hov⟩ := own_shape hown
      subst hov
      have HO : Hid _ := And.intro hl (And.intro hown (And.intro hx hB))
      clear hp hl hown hx hB hT
      go_wp2_with (first
        | (go_at_call 8; refine (size_any HLw.out).mono ?_; rintro e w' ⟨rfl, hw⟩; obtain rfl : wr = w' := hw.symm)
        | (go_at_call 17; refine (kind_any HLw.out HP.out).mono ?_; rintro e w' ⟨rfl, hw⟩; obtain rfl : wr = w' := hw.symm)
        | (go_at_call 18; refine (tag_any HLw.out HP.out).mono ?_; rintro e w' ⟨rfl, hw⟩; obtain rfl : wr = w' := hw.symm)
        | (go_at_call 19; refine (words_any HLw.out HP.out).mono ?_; rintro e w' ⟨rfl, hw⟩; obtain rfl : wr = w' := hw.symm)
        | (go_at_call 20; refine (attrs_any HLw.out HP.out hpa).mono ?_; rintro e w5 ⟨v5, rfl, ho5, hB5⟩; have H5 : Hid _ := And.intro ho5 hB5; obtain ⟨a5, c5, hv5⟩ := own_shape ho5; subst hv5; clear ho5 hB5)
        | (go_at_call 21; refine (kids_any (HLw.out.below H5.out.2) HP.out (by omega)).mono ?_; rintro e w6 ⟨v6, rfl, ho6, hB6⟩; have H6 : Hid _ := And.intro ho6 hB6; obtain ⟨a6, c6, hv6⟩ := own_shape ho6; subst hv6
           obtain ⟨O1, hO1⟩ : ∃ O1 : Obj, O1 = .cells #[.int .i64 p.n.kind, .string p.n.tag, .string p.n.words, .slice a5 p.n.attrs.length c5, .slice a6 p.n.kids.length c6] 56 := ⟨_, rfl⟩
           obtain ⟨v9, w9, hrun, ho9, hg9, hb9⟩ := run_app_own (P := Tryd.prog) ((w6.alloc O1).alloc (.cells #[.int .i64 p.n.parent] 3)).drew w5.heap.size 42 42 3 j0 (.int .i64 0) 1 8 Tryd.underlying42 hj hy0 hy1 hy2 rfl (by decide) (.slice a6 p.n.kids.length c6) p.n.kids.length (p.n.kids.map intV) ((ho6.alloc O1).alloc _) (.slice (some ⟨w6.heap.size + 1, 0, none⟩) 1 1) 1 [.int .i64 p.n.parent] ⟨rfl, by simp [Value.oneCell'], _, _, rfl, .inr ⟨_, rfl, news_two w6 O1 #[.int .i64 p.n.parent] 3⟩⟩ (by unfold maxLen; omega) (by omega) (by have := hB6.size; simp; omega)
           have HRUN : Hid _ := hrun
           clear hrun
           obtain ⟨a9, c9, hv9⟩ := own_shape ho9
           subst hv9
           have hblk : w9.heap[w6.heap.size]? = some O1 := by
             rw [hg9.block w6.heap.size (by simp; omega) (fun e => by have := (ho6.lt _ e.symm).2; omega)]
             exact (Below.heap_alloc (w6.alloc O1) _ w6.heap.size (by simp)).trans (heap_alloc_new w6 O1)
           subst hO1
           have hcs := five_at hblk
           have H9 : Hid _ := And.intro ho9 (And.intro hg9 (And.intro hb9 hblk))
           obtain ⟨z0, z1, z2, z3, z4, zf⟩ := hcs
           have hl9 : w6.heap.size < w9.heap.size := lt_of_heap hblk
           have hv6k : ∀ g, (Value.slice a6 p.n.kids.length c6).ownBlock = some g → w5.heap.size ≤ g ∧ g < w6.heap.size := fun g hg => ho6.lt g hg
           have h56 := hB6.size
           have F5 : ∀ g, g < w5.heap.size → (w9.setCell ⟨w6.heap.size, 4, none⟩ (.slice a9 (p.n.kids.length + 1) c9)).heap[g]? = w5.heap[g]? := fun g hg => by
             rw [Below.heap_setCell w9 _ _ g (by show g ≠ w6.heap.size; omega), hg9.block g (by simp; omega) (fun e => by have := (hv6k g e.symm).1; omega)]
             exact ((Below.heap_alloc (w6.alloc _) _ g (by simp; omega)).trans (Below.heap_alloc w6 _ g (by omega))).trans (hB6.block g hg)
           have s9 := hg9.size
           have hb9' : (Value.slice a9 (p.n.kids.length + 1) c9).ownBlock ≠ some w6.heap.size := fun e => by
             rcases hb9 with h | h
             · have := (hv6k _ (h.symm.trans e)).2
               omega
             · rw [h] at e
               have := Option.some.inj e
               simp at this
               omega
           have HF10 : Hid ((∀ g, g < w5.heap.size → (w9.setCell ⟨w6.heap.size, 4, none⟩ (.slice a9 (p.n.kids.length + 1) c9)).heap[g]? = w5.heap[g]?) ∧ w5.heap.size ≤ (w9.setCell ⟨w6.heap.size, 4, none⟩ (.slice a9 (p.n.kids.length + 1) c9)).heap.size ∧ ((w9.setCell ⟨w6.heap.size, 4, none⟩ (.slice a9 (p.n.kids.length + 1) c9)).os = w5.os ∧ (w9.setCell ⟨w6.heap.size, 4, none⟩ (.slice a9 (p.n.kids.length + 1) c9)).tape = w5.tape ∧ (w9.setCell ⟨w6.heap.size, 4, none⟩ (.slice a9 (p.n.kids.length + 1) c9)).output = w5.output) ∧ (w9.setCell ⟨w6.heap.size, 4, none⟩ (.slice a9 (p.n.kids.length + 1) c9)).ownsRow w5.heap.size 3 1 (.slice a9 (p.n.kids.length + 1) c9) (p.n.kids ++ [p.n.parent]).length ((p.n.kids ++ [p.n.parent]).map intV)) := by
             refine ⟨F5, ?_, ⟨hg9.os.trans hB6.os, hg9.tape.trans hB6.tape, hg9.output.trans hB6.output⟩, ?_⟩
             · simp at s9
               simp [World.setCell]
               omega
             · have := own_same (w' := w9.setCell ⟨w6.heap.size, 4, none⟩ (.slice a9 (p.n.kids.length + 1) c9)) ho9 (fun q hq => Below.heap_setCell w9 _ _ q (fun e => hb9' (by rw [hq, e])))
               simpa [intV] using this
           have HOW : Hid (∀ o, ((w9.setCell ⟨w6.heap.size, 4, none⟩ (.slice a9 (p.n.kids.length + 1) c9)).alloc o).ownsRow w.heap.size 56 5 (.slice oa k oc) k (tldCells l)) := fun o => by
             refine World.ownsRow.alloc (own_same HO.out.2.1 fun q hq => ?_) o
             have hq' := (HO.out.2.1.lt q hq).2
             have := H5.out.2.size
             exact (F5 q (by omega)).trans (H5.out.2.block q hq')
           have HOW2 : Hid (w.heap.size ≤ w9.heap.size) := by
             have h1 := HO.out.2.2.2.size
             have h2 := H5.out.2.size
             simp at s9
             show w.heap.size ≤ w9.heap.size
             omega
           obtain ⟨y0, y1, y2, y3, y4, _⟩ := five_at (setCell_heap w9 w6.heap.size 4 (.slice a9 (p.n.kids.length + 1) c9) _ _ _ hblk)
           clear hv6k h56 F5 s9 hb9'
           have HL7 : Hid (∀ o, Lies (w6.alloc o).drew M tb nv uv ps us) := fun o => (((HLw.out.below H5.out.2).below hB6).alloc o).drew
           clear ho6 hB6 ho9 hg9 hb9 hblk))
      refine wp_region_held_drew (S := fun _ => True) (by kernel_rfl) trivial (fun _ => ?_)
      refine wpAnyH_take (i := 0) (v := ?_) rfl (by kernel_rfl) (by kernel_rfl) (by kernel_rfl) (fun _ _ _ h => h) (Or.inl ⟨by rfl, ?_⟩) trivial ?_
      rotate_left
      · intro wy _
        go_simp
        with_reducible rfl
      simp only [Act.put]
      refine wpAnyH_take (i := 2) (v := ?_) rfl (by kernel_rfl) (by kernel_rfl) (by kernel_rfl) (fun _ _ _ h => h) (Or.inl ⟨by rfl, ?_⟩) trivial ?_
      rotate_left
      · intro wy _
        go_simp
        with_reducible rfl
      simp only [Act.put]
      refine wpAnyH_take (i := 3) (v := ?_) rfl (by kernel_rfl) (by kernel_rfl) (by kernel_rfl) (fun _ _ _ h => h) (Or.inl ⟨by rfl, ?_⟩) trivial ?_
      rotate_left
      · intro wy _
        go_simp
        with_reducible rfl
      simp only [Act.put]
      refine wpAnyH_ready (rs := [1, 4]) (by kernel_rfl) (by simp) ?_
      refine AllReadyH.cons rfl (fun K hK => ?_) ?_
      · go_simp
        refine hK.out _ _ trivial (fun _ => ?_)
        clear hK K
        refine wpAnyH_ready (rs := [4]) (by kernel_rfl) (by simp) ?_
        refine AllReadyH.cons rfl (fun K hK => ?_) ?_
        · go_simp
          refine (parent_any (HL7.out _) HP.out).mono ?_
          rintro e w' ⟨rfl, hw⟩
          subst hw
          dsimp only
          refine hK.out _ _ trivial (fun _ => ?_)
          clear hK K
          refine wpAnyH_ready (rs := [5]) (by kernel_rfl) (by simp) ?_
          refine AllReadyH.cons rfl (fun K hK => ?_) ?_
          · go_simp
            refine hK.out _ _ trivial (fun _ => ?_)
            clear hK K
            refine wpAnyH_ready (rs := [6]) (by kernel_rfl) (by simp) ?_
            refine AllReadyH.cons rfl (fun K hK => ?_) ?_
            · refine step_append_one _ (by rfl) (.tmp 29) (.tmp 33) 42 42 (by rfl) (by rfl) (.slice a6 p.n.kids.length c6) (.slice (some ⟨w6.heap.size + 1, 0, none⟩) 1 1) (by rfl) (by rfl) _ w9 HRUN.out ?_
              simp only [Act.put]
              refine hK.out _ _ trivial (fun _ => ?_)
              clear hK K
              refine wpAnyH_take (i := 7) (v := ?_) rfl (by kernel_rfl) (by kernel_rfl) (by kernel_rfl) (fun _ _ _ h => h) (Or.inl ⟨by rfl, ?_⟩) trivial ?_
              rotate_left
              · intro wy _
                go_simp
                with_reducible rfl
              simp only [Act.put]
              refine wpAnyH_ready (rs := [8]) (by kernel_rfl) (by simp) ?_
              refine AllReadyH.cons rfl (fun K hK => ?_) ?_
              · go_simp
                refine hK.out _ _ trivial (fun _ => ?_)
                clear hK K
                refine wpAnyH_done (by kernel_rfl) ?_ _
                go_wp2_with (at_builtin; refine wpList_app_own _ (by rfl) _ _ 32 (by rfl) w.heap.size 56 i0 _ 5 88 Tryd.underlying32 hi hz0 hz1 hz2 rfl (by decide) (.slice oa k oc) k (tldCells l) (by rfl) (HOW.out _) _ 1 [.int .i64 p.n.kind, .string p.n.tag, .string p.n.words, .slice a5 p.n.attrs.length c5, .slice a9 (p.n.kids.length + 1) c9] (by rfl) ⟨rfl, by simp [Value.oneCell'], _, _, rfl, .inr ⟨_, rfl, news_new _ #[.int .i64 p.n.kind, .string p.n.tag, .string p.n.words, .slice a5 p.n.attrs.length c5, .slice a9 (p.n.kids.length + 1) c9] 56 _ (by simp [World.setCell])⟩⟩ (by unfold maxLen; omega) (by omega) (by have := HOW2.out; simp [World.setCell]; omega) ?_; intro v11 w11 hv11 hg11 hb11; have H11 : Hid _ := And.intro hv11 (And.intro hg11 hb11); clear hv11 hg11 hb11)
                go_roundw
                case rel =>
                  go_light
                  refine ⟨k + 1, by omega, by go_num, ?_⟩
                  exact Told.next (nodes_get HP.out) HO.out.1 HO.out.2.1 HO.out.2.2.1 HO.out.2.2.2 H5.out.1 H5.out.2 HF10.out.1 HF10.out.2.1 HF10.out.2.2.1 HF10.out.2.2.2 H11.out.2.1 H11.out.1 H11.out.2.2
                case measure => go_light; simp [intOf]; omega
              exact AllReadyH.nil
            exact AllReadyH.nil
          exact AllReadyH.nil
        exact AllReadyH.nil
      refine AllReadyH.cons rfl (fun K hK => ?_) ?_
      · go_simp
        refine (parent_any (HL7.out _) HP.out).mono ?_
        rintro e w' ⟨rfl, hw⟩
        subst hw
        dsimp only
        refine hK.out _ _ trivial (fun _ => ?_)
        clear hK K
        refine wpAnyH_ready (rs := [1, 5]) (by kernel_rfl) (by simp) ?_
        refine AllReadyH.cons rfl (fun K hK => ?_) ?_
        · go_simp
          refine hK.out _ _ trivial (fun _ => ?_)
          clear hK K
          refine wpAnyH_ready (rs := [5]) (by kernel_rfl) (by simp) ?_
          refine AllReadyH.cons rfl (fun K hK => ?_) ?_
          · go_simp
            refine hK.out _ _ trivial (fun _ => ?_)
            clear hK K
            refine wpAnyH_ready (rs := [6]) (by kernel_rfl) (by simp) ?_
            refine AllReadyH.cons rfl (fun K hK => ?_) ?_
            · refine step_append_one _ (by rfl) (.tmp 29) (.tmp 33) 42 42 (by rfl) (by rfl) (.slice a6 p.n.kids.length c6) (.slice (some ⟨w6.heap.size + 1, 0, none⟩) 1 1) (by rfl) (by rfl) _ w9 HRUN.out ?_
              simp only [Act.put]
              refine hK.out _ _ trivial (fun _ => ?_)
              clear hK K
              refine wpAnyH_take (i := 7) (v := ?_) rfl (by kernel_rfl) (by kernel_rfl) (by kernel_rfl) (fun _ _ _ h => h) (Or.inl ⟨by rfl, ?_⟩) trivial ?_
              rotate_left
              · intro wy _
                go_simp
                with_reducible rfl
              simp only [Act.put]
              refine wpAnyH_ready (rs := [8]) (by kernel_rfl) (by simp) ?_
              refine AllReadyH.cons rfl (fun K hK => ?_) ?_
              · go_simp
                refine hK.out _ _ trivial (fun _ => ?_)
                clear hK K
                refine wpAnyH_done (by kernel_rfl) ?_ _
                go_wp2_with (at_builtin; refine wpList_app_own _ (by rfl) _ _ 32 (by rfl) w.heap.size 56 i0 _ 5 88 Tryd.underlying32 hi hz0 hz1 hz2 rfl (by decide) (.slice oa k oc) k (tldCells l) (by rfl) (HOW.out _) _ 1 [.int .i64 p.n.kind, .string p.n.tag, .string p.n.words, .slice a5 p.n.attrs.length c5, .slice a9 (p.n.kids.length + 1) c9] (by rfl) ⟨rfl, by simp [Value.oneCell'], _, _, rfl, .inr ⟨_, rfl, news_new _ #[.int .i64 p.n.kind, .string p.n.tag, .string p.n.words, .slice a5 p.n.attrs.length c5, .slice a9 (p.n.kids.length + 1) c9] 56 _ (by simp [World.setCell])⟩⟩ (by unfold maxLen; omega) (by omega) (by have := HOW2.out; simp [World.setCell]; omega) ?_; intro v11 w11 hv11 hg11 hb11; have H11 : Hid _ := And.intro hv11 (And.intro hg11 hb11); clear hv11 hg11 hb11)
                go_roundw
                case rel =>
                  go_light
                  refine ⟨k + 1, by omega, by go_num, ?_⟩
                  exact Told.next (nodes_get HP.out) HO.out.1 HO.out.2.1 HO.out.2.2.1 HO.out.2.2.2 H5.out.1 H5.out.2 HF10.out.1 HF10.out.2.1 HF10.out.2.2.1 HF10.out.2.2.2 H11.out.2.1 H11.out.1 H11.out.2.2
                case measure => go_light; simp [intOf]; omega
              exact AllReadyH.nil
            exact AllReadyH.nil
          exact AllReadyH.nil
        refine AllReadyH.cons rfl (fun K hK => ?_) ?_
        · go_simp
          refine hK.out _ _ trivial (fun _ => ?_)
          clear hK K
          refine wpAnyH_ready (rs := [1]) (by kernel_rfl) (by simp) ?_
          refine AllReadyH.cons rfl (fun K hK => ?_) ?_
          · go_simp
            refine hK.out _ _ trivial (fun _ => ?_)
            clear hK K
            refine wpAnyH_ready (rs := [6]) (by kernel_rfl) (by simp) ?_
            refine AllReadyH.cons rfl (fun K hK => ?_) ?_
            · refine step_append_one _ (by rfl) (.tmp 29) (.tmp 33) 42 42 (by rfl) (by rfl) (.slice a6 p.n.kids.length c6) (.slice (some ⟨w6.heap.size + 1, 0, none⟩) 1 1) (by rfl) (by rfl) _ w9 HRUN.out ?_
              simp only [Act.put]
              refine hK.out _ _ trivial (fun _ => ?_)
              clear hK K
              refine wpAnyH_take (i := 7) (v := ?_) rfl (by kernel_rfl) (by kernel_rfl) (by kernel_rfl) (fun _ _ _ h => h) (Or.inl ⟨by rfl, ?_⟩) trivial ?_
              rotate_left
              · intro wy _
                go_simp
                with_reducible rfl
              simp only [Act.put]
              refine wpAnyH_ready (rs := [8]) (by kernel_rfl) (by simp) ?_
              refine AllReadyH.cons rfl (fun K hK => ?_) ?_
              · go_simp
                refine hK.out _ _ trivial (fun _ => ?_)
                clear hK K
                refine wpAnyH_done (by kernel_rfl) ?_ _
                go_wp2_with (at_builtin; refine wpList_app_own _ (by rfl) _ _ 32 (by rfl) w.heap.size 56 i0 _ 5 88 Tryd.underlying32 hi hz0 hz1 hz2 rfl (by decide) (.slice oa k oc) k (tldCells l) (by rfl) (HOW.out _) _ 1 [.int .i64 p.n.kind, .string p.n.tag, .string p.n.words, .slice a5 p.n.attrs.length c5, .slice a9 (p.n.kids.length + 1) c9] (by rfl) ⟨rfl, by simp [Value.oneCell'], _, _, rfl, .inr ⟨_, rfl, news_new _ #[.int .i64 p.n.kind, .string p.n.tag, .string p.n.words, .slice a5 p.n.attrs.length c5, .slice a9 (p.n.kids.length + 1) c9] 56 _ (by simp [World.setCell])⟩⟩ (by unfold maxLen; omega) (by omega) (by have := HOW2.out; simp [World.setCell]; omega) ?_; intro v11 w11 hv11 hg11 hb11; have H11 : Hid _ := And.intro hv11 (And.intro hg11 hb11); clear hv11 hg11 hb11)
                go_roundw
                case rel =>
                  go_light
                  refine ⟨k + 1, by omega, by go_num, ?_⟩
                  exact Told.next (nodes_get HP.out) HO.out.1 HO.out.2.1 HO.out.2.2.1 HO.out.2.2.2 H5.out.1 H5.out.2 HF10.out.1 HF10.out.2.1 HF10.out.2.2.1 HF10.out.2.2.2 H11.out.2.1 H11.out.1 H11.out.2.2
                case measure => go_light; simp [intOf]; omega
              exact AllReadyH.nil
            exact AllReadyH.nil
          exact AllReadyH.nil
        exact AllReadyH.nil
      exact AllReadyH.nil
    · obtain rfl : k = ps.length := by omega
      obtain ⟨oa, oc, hov⟩ := own_shape hown
      subst hov
      clear hl hown hx hB
      go_wp2_with (go_at_call 8; refine (size_any HLw.out).mono ?_; rintro e w' ⟨rfl, hw⟩; obtain rfl : wr = w' := hw.symm)
      go_ret
      exact ⟨_, rfl, hT.out⟩
end Go.Proofs.YtiikjflaonhfdaaDoor
