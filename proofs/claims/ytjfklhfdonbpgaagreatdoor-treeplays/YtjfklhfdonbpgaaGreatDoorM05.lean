/- The document's answer: back to what was. -/
import Derived.Test.YtjfklhfdonbpgaaGreatDoorRMakeE
import Derived.Test.YtjfklhfdonbpgaaGreatDoorM00
namespace Go.Proofs.YtjfklhfdonbpgaaGreatDoor
open Go.RowKit

theorem Row.to {w w' : World} {M M' : Nat → Lab} {l : Lab} {e : TypeId} {size n : Nat} {v : Value} {xs : List Value} (h : Row w M l e size v n xs) (hb : ∀ b, b < w.heap.size → M b = l → w'.heap[b]? = w.heap[b]? ∧ M' b = l) : Row w' M' l e size v n xs := by
  obtain ⟨hl, a, cap, rfl, h1, h2, h3⟩ := h
  refine ⟨hl, a, cap, rfl, h1, h2, ?_⟩
  rcases h3 with h3 | ⟨g, cur, rfl, hM, hg, h4, h5⟩
  · exact .inl h3
  · obtain ⟨k1, k2⟩ := hb g (lt_of_heap hg) hM
    exact .inr ⟨g, cur, rfl, k2, k1.trans hg, h4, h5⟩

/-- the last one is cut off -/
theorem Row.cut {w : World} {M : Nat → Lab} {l : Lab} {e : TypeId} {n cap : Nat} {a : Option Addr} {xs : List Value} {x : Value} (h : Row w M l e 1 (.slice a (n + 1) cap) (n + 1) (xs ++ [x])) : Row w M l e 1 (.slice a n cap) n xs := by
  obtain ⟨hl, a', cap', hv, h1, h2, h3⟩ := h
  injection hv with e1 e2 e3
  subst e1
  subst e3
  have hx : xs.length = n := by simpa using hl
  refine ⟨by omega, a, cap, rfl, by omega, h2, ?_⟩
  rcases h3 with ⟨h3, _⟩ | ⟨g, cur, rfl, hM, hg, h4, h5⟩
  · omega
  · refine .inr ⟨g, cur, rfl, hM, hg, h4, ?_⟩
    have := congrArg (List.take n) h5
    rw [List.take_take, List.take_append_of_le_length (by omega), List.take_of_length_le (by omega : xs.length ≤ n)] at this
    rw [← this]
    congr 1
    omega

/-- the labels behind an Undo -/
def over (L M : Nat → Lab) : Nat → Lab := fun b => if L b = .other then M b else L b

/-- behind an Undo -/
def RBack (w : World) (M L : Nat → Lab) (tb : Nat) (us : List Value) (ns' : List Nd) (w' : World) : Prop :=
  ∃ nv' uv' ps', RLies w' (over L M) tb nv' uv' ps' us ∧ nodesOf ps' = ns' ∧ w'.os = w.os ∧ w'.tape = w.tape ∧ w'.output = w.output ∧ w'.heap.size = w.heap.size ∧ ∀ b, b ≠ tb → w'.heap[b]? = w.heap[b]?

theorem rback {w : World} {M L : Nat → Lab} {tb : Nat} {nv : Value} {a : Option Addr} {cap : Nat} {ps : List Pn} {us : List Value} {v : Value} {ns' : List Nd} (h : RLies w M tb nv (.slice a (us.length + 1) cap) ps (us ++ [v])) (hc : KeptCopy w L v ns') (hd : ∀ b, L b ≠ .other → M b = .other) :
    RBack w M L tb us ns' ((w.setCell ⟨tb, 0, none⟩ v).setCell ⟨tb, 1, none⟩ (.slice a us.length cap)) := by
  obtain ⟨qs, k1, k2, k3, k4⟩ := hc
  have htb : L tb = .other := by
    by_cases e : L tb = .other
    · exact e
    · have := hd tb e; rw [h.tree] at this; cases this
  have far : ∀ b, b ≠ tb → ((w.setCell ⟨tb, 0, none⟩ v).setCell ⟨tb, 1, none⟩ (.slice a us.length cap)).heap[b]? = w.heap[b]? := fun b hb =>
    (Below.heap_setCell _ _ _ b (by show b ≠ tb; exact hb)).trans (Below.heap_setCell _ _ _ b (by show b ≠ tb; exact hb))
  have new : ∀ {l : Lab} {e : TypeId} {size n : Nat} {x : Value} {xs : List Value}, l ≠ .other → Row w L l e size x n xs → Row ((w.setCell ⟨tb, 0, none⟩ v).setCell ⟨tb, 1, none⟩ (.slice a us.length cap)) (over L M) l e size x n xs := by
    intro l e size n x xs hl hr
    refine hr.to fun b _ e => ⟨far b (fun e' => hl ?_), ?_⟩
    · rw [← e, e']; exact htb
    · unfold over
      rw [if_neg (by rw [e]; exact hl)]
      exact e
  refine ⟨v, .slice a us.length cap, qs, ⟨?_, ?_, ?_, new (by intro e; cases e) k3, ?_, fun i p hp => ⟨new (by intro e; cases e) (k4 i p hp).1, new (by intro e; cases e) (k4 i p hp).2⟩⟩, k1, rfl, rfl, rfl, by simp [World.setCell], far⟩
  · intro b hb
    have hb' : w.heap.size ≤ b := by simpa [World.setCell] using hb
    unfold over
    rw [if_pos (k2 b hb')]
    exact h.fresh b hb'
  · unfold over
    rw [if_pos htb]
    exact h.tree
  · have h1 := setCell_heap w tb 0 v _ _ _ h.head
    have h2 := setCell_heap _ tb 1 (.slice a us.length cap) _ _ _ h1
    exact h2
  · have hr := h.undos
    rw [List.length_append] at hr
    have hr2 := Row.cut (n := us.length) hr
    refine hr2.to fun b _ e => ⟨far b (fun e' => ?_), ?_⟩
    · rw [e', h.tree] at e; cases e
    · have : L b = .other := by
        by_cases e2 : L b = .other
        · exact e2
        · have := hd b e2; rw [e] at this; cases this
      unfold over
      rw [if_pos this]
      exact e

set_option maxHeartbeats 2000000 in
theorem rundo_none {w : World} {M : Nat → Lab} {tb : Nat} {nv uv : Value} {ps : List Pn} (h : RLies w M tb nv uv ps []) :
    Calls Tryz.prog 39 #[.pointer (some ⟨tb, 0, none⟩)] w fun e w' => e = .returned (.bool false) ∧ w' = w := by
  obtain ⟨a, cap, rfl, hc, hm⟩ := h.undos.shape
  have c1 := h.cell1
  dsimp only [List.length_nil] at c1
  clear h
  go_enter Tryz.func39, Tryz.ntmps39
  go_wp2
  go_ret
  exact ⟨rfl, rfl⟩

set_option maxHeartbeats 4000000 in
set_option maxRecDepth 100000 in
theorem rundo_some {w : World} {M L : Nat → Lab} {tb : Nat} {nv uv : Value} {ps : List Pn} {us : List Value} {v : Value} {ns' : List Nd} (h : RLies w M tb nv uv ps (us ++ [v])) (hc : KeptCopy w L v ns') (hd : ∀ b, L b ≠ .other → M b = .other) :
    Calls Tryz.prog 39 #[.pointer (some ⟨tb, 0, none⟩)] w fun e w' => e = .returned (.bool true) ∧ RBack w M L tb us ns' w' := by
  obtain ⟨g, cap, hv, hc1, hm, hM, hgl⟩ := h.undos.form (by simp)
  have hx := (h.undos.cell hv (j := us.length) (u := v) (by simp)).1
  have e1 : (us ++ [v]).length = us.length + 1 := by simp
  rw [e1] at hv hc1
  subst hv
  have c0 := h.cell0
  have c1 := h.cell1
  have f0 := h.frozen 0
  have f1 := h.frozen 1
  have hlt : tb < w.heap.size := lt_of_heap h.head
  have hne : g ≠ tb := fun e => by rw [e, h.tree] at hM; cases hM
  have HF : Hid (RBack w M L tb us ns' _) := rback h hc hd
  unfold maxLen at hm
  have hsh : ∃ a3 n3 c3, v = .slice a3 n3 c3 := by
    obtain ⟨qs, _, _, k3, _⟩ := hc
    obtain ⟨a3, c3, e, _⟩ := k3.shape
    exact ⟨a3, _, c3, e⟩
  obtain ⟨a3, n3, c3, rfl⟩ := hsh
  clear h hc hd
  go_enter Tryz.func39, Tryz.ntmps39
  go_wp2
  go_ret
  exact ⟨rfl, HF.out⟩
end Go.Proofs.YtjfklhfdonbpgaaGreatDoor

/- The document's tree beside the program's: the copies that it keeps, each of its own. -/
namespace Go.Proofs.YtjfklhfdonbpgaaGreatDoor
open Go.RowKit

/-- copies of these nodes, the last one first, each of its own, in memory that is free -/
def CopyStk (w : World) : (Nat → Prop) → List Value → List (List Nd) → Prop
  | _, [], [] => True
  | free, v :: vs, ns :: nss => ∃ L, KeptCopy w L v ns ∧ (∀ b, L b ≠ .other → free b) ∧ CopyStk w (fun b => free b ∧ L b = .other) vs nss
  | _, _, _ => False

theorem CopyStk.keep {w w' : World} (hs : w.heap.size ≤ w'.heap.size) : ∀ {vs : List Value} {nss : List (List Nd)} {free free' : Nat → Prop}, CopyStk w free vs nss → (∀ b, b < w.heap.size → free b → w'.heap[b]? = w.heap[b]? ∧ free' b) → CopyStk w' free' vs nss
  | [], [], _, _, _, _ => trivial
  | [], _ :: _, _, _, h, _ => h.elim
  | _ :: _, [], _, _, h, _ => h.elim
  | _ :: _, _ :: _, free, free', h, hb => by
    obtain ⟨L, h1, h2, h3⟩ := h
    refine ⟨L, h1.keep hs (fun b hb' hne => (hb b hb' (h2 b hne)).1), fun b hne => (hb b (h1.lt hne) (h2 b hne)).2, ?_⟩
    exact CopyStk.keep hs h3 fun b hb' hf => ⟨(hb b hb' hf.1).1, (hb b hb' hf.1).2, hf.2⟩

theorem CopyStk.push {w w' : World} {N' : Nat → Lab} {v : Value} {ns : List Nd} {vs : List Value} {nss : List (List Nd)} {free free' : Nat → Prop} (hs : w.heap.size ≤ w'.heap.size) (h : CopyStk w free vs nss) (hc : CopyOf w w' N' v ns)
    (hold : ∀ b, b < w.heap.size → free b → w'.heap[b]? = w.heap[b]? ∧ free' b) (hnew : ∀ b, w.heap.size ≤ b → N' b = .other → free' b) : CopyStk w' free' (v :: vs) (ns :: nss) := by
  obtain ⟨L, h1, h2⟩ := hc
  refine ⟨L, h1, fun b hne => hnew b (h2 b hne).1 (h2 b hne).2, CopyStk.keep hs h fun b hb hf => ⟨(hold b hb hf).1, (hold b hb hf).2, ?_⟩⟩
  by_cases e : L b = .other
  · exact e
  · have := (h2 b e).1; omega

/-- a tree of the document's of these nodes lies there, beside what M labels, and these were ahead of each change, the last one first -/
def DAt (w : World) (M : Nat → Lab) (tb : Nat) (ns : List Nd) (past : List (List Nd)) : Prop :=
  ∃ N nv uv ps us, RLies w N tb nv uv ps us ∧ nodesOf ps = ns ∧ (∀ b, N b ≠ .other → M b = .other) ∧ CopyStk w (fun b => N b = .other ∧ M b = .other) us.reverse past

/-- the program's tree moved on -/
theorem DAt.prog {w w' : World} {M M' : Nat → Lab} {tb : Nat} {ns : List Nd} {past : List (List Nd)} (h : DAt w M tb ns past) (m : Moved w M w' M') : DAt w' M' tb ns past := by
  obtain ⟨N, nv, uv, ps, us, h1, h2, h3, h4⟩ := h
  have old : ∀ b, N b ≠ .other → b < w.heap.size := fun b hb => by
    rcases Nat.lt_or_ge b w.heap.size with h | h
    · exact h
    · exact absurd (h1.fresh b h) hb
  refine ⟨N, nv, uv, ps, us, h1.far m.size (fun b hb hne => m.far b hb (h3 b hne)), h2, fun b hb => (m.lab b (old b hb)).trans (h3 b hb), ?_⟩
  exact CopyStk.keep m.size h4 fun b hb hf => ⟨m.far b hb hf.2, hf.1, (m.lab b hb).trans hf.2⟩

/-- the document's tree was changed -/
theorem DAt.done {w w' : World} {M N : Nat → Lab} {tb : Nat} {us : List Value} {ns ns' : List Nd} {past : List (List Nd)} (hd : RDone w N tb us ns ns' w') (hN : ∀ b, N b ≠ .other → M b = .other) (hf : ∀ b, w.heap.size ≤ b → M b = .other)
    (h4 : CopyStk w (fun b => N b = .other ∧ M b = .other) us.reverse past) : DAt w' M tb ns' (ns :: past) := by
  obtain ⟨N', nv', uv', ps', v, g1, g2, g3, g4⟩ := hd
  refine ⟨N', nv', uv', ps', us ++ [v], g1, g2, fun b hb => ?_, ?_⟩
  · rcases Nat.lt_or_ge b w.heap.size with h | h
    · exact hN b (by rw [← g3.lab b h]; exact hb)
    · exact hf b h
  · rw [List.reverse_append]
    exact CopyStk.push g3.size h4 g4 (fun b hb hh => ⟨g3.far b hb hh.1, (g3.lab b hb).trans hh.1, hh.2⟩) (fun b hb hh => ⟨hh, hf b hb⟩)

/-- what the document's changes leave of the program's tree -/
theorem Lies.beside {w w' : World} {M N N' : Nat → Lab} {tb : Nat} {nv uv : Value} {ps : List Pn} {us : List Value} (h : Lies w M tb nv uv ps us) (m : Moved w N w' N') (hN : ∀ b, N b ≠ .other → M b = .other) : Lies w' M tb nv uv ps us :=
  h.far m.size fun b hb hne => m.far b hb (by
    by_cases e : N b = .other
    · exact e
    · exact absurd (hN b e) hne)

/-- the document's Undo -/
theorem DAt.back {w w' : World} {M N L : Nat → Lab} {tb : Nat} {us : List Value} {ns' : List Nd} {past : List (List Nd)} (hd : RBack w N L tb us ns' w') (hN : ∀ b, N b ≠ .other → M b = .other) (htb : N tb = .tree) (hL : ∀ b, L b ≠ .other → N b = .other ∧ M b = .other)
    (h4 : CopyStk w (fun b => (N b = .other ∧ M b = .other) ∧ L b = .other) us.reverse past) : DAt w' M tb ns' past := by
  obtain ⟨nv', uv', ps', g1, g2, _, _, _, g6, g7⟩ := hd
  refine ⟨over L N, nv', uv', ps', us, g1, g2, fun b hb => ?_, ?_⟩
  · by_cases e : L b = .other
    · unfold over at hb
      rw [if_pos e] at hb
      exact hN b hb
    · exact (hL b e).2
  · refine CopyStk.keep (Nat.le_of_eq g6.symm) h4 fun b _ hf => ⟨g7 b (fun e => ?_), ?_, hf.1.2⟩
    · subst e
      have := hf.1.1
      rw [htb] at this
      cases this
    · unfold over
      rw [if_pos hf.2]
      exact hf.1.1
end Go.Proofs.YtjfklhfdonbpgaaGreatDoor

/- What Set makes of a tree, where it sets. -/
namespace Go.Proofs.YtjfklhfdonbpgaaGreatDoor
open Go.RowKit

theorem moved_cell {w w' : World} {M M' : Nat → Lab} (m : Moved w M w' M') {b o : Nat} {v : Value} (hM : M b = .other) (hc : w.cell? ⟨b, o, none⟩ = some v) : w'.cell? ⟨b, o, none⟩ = some v :=
  (World.cell?_of_block (a := ⟨b, o, none⟩) (m.far b (World.block_lt_of_cell? w _ hc) hM)).trans hc

/-- an attribute was set -/
def WasSet (w : World) (M : Nat → Lab) (tb : Nat) (nv : Value) (ps : List Pn) (us : List Value) (i : Nat) (p : Pn) (name value : ByteArray) (e : Ending) (w' : World) : Prop :=
  e = .returned .nilIface ∧ ∃ M' uv' av' f, Lies w' M' tb nv uv' (ps.set i ⟨{ p.n with attrs := setAttr p.n.attrs name value }, av', p.kv⟩) (us ++ [f]) ∧ Moved w M w' M'

set_option maxHeartbeats 4000000 in
set_option maxRecDepth 100000 in
theorem set_new {w : World} {M : Nat → Lab} {tb : Nat} {nv uv : Value} {ps : List Pn} {us : List Value} (h : Lies w M tb nv uv ps us) (hE : Errs w M) {i : Nat} {p : Pn} (hp : ps[i]? = some p) (name value : ByteArray) (hk : p.n.kind = 2) (hn : nameB name = true) (hv : value.size ≤ 20000) (hu : us.length ≤ 1099511627776) (ha : p.n.attrs.length ≤ 1099511627776) (hf : findA p.n.attrs name = none) :
    Calls Tryz.prog 30 #[.pointer (some ⟨tb, 0, none⟩), .int .i64 i, .string name, .string value] w (WasSet w M tb nv ps us i p name value) := by
  obtain ⟨i0, hi, hz0, hz1, hz2⟩ := info_parts Tryz.infoAttr
  have hfi : findI p.n.attrs name = -1 := by simp only [findI, hf]
  have hsa : Hid (setAttr p.n.attrs name value = p.n.attrs ++ [(name, value)]) := by
    show setAttr _ _ _ = _
    simp only [setAttr, hf]
  obtain ⟨nb, nc, rfl, hc, hm, hnM, hnl, hil⟩ := h.form hp
  obtain ⟨aa, ac, hav, hac1, hac2⟩ := (h.node i p hp).1.shape
  have hlt : tb < w.heap.size := lt_of_heap h.head
  have c0 := h.cell0
  have W0 : Hid (∀ w', Below w.heap.size w w' → Lies w' M tb (.slice (some ⟨nb, 0, none⟩) ps.length nc) uv ps us ∧ Errs w' M) := fun w' hb => ⟨h.below hb, hE.below hb⟩
  have HP : Hid (ps[i]? = some p) := hp
  have HF : Hid (∀ b, w.heap.size ≤ b → M b = .other) := h.fresh
  have i1 : (0 : Int) ≤ (i : Int) := by omega
  have i2 : (i : Int) < (ps.length : Int) := by omega
  unfold maxLen at hm hac2
  clear h hE hp hf
  go_enter Tryz.func30, Tryz.ntmps30
  go_wp2_with (first
    | (go_at_call 60; refine (wantElement_any (W0.out _ (((Below.refl _ _).alloc (Nat.le_refl _) _).alloc (by simp) _)).1 (W0.out _ (((Below.refl _ _).alloc (Nat.le_refl _) _).alloc (by simp) _)).2 HP.out).mono ?_; rintro e w' ⟨⟨v, rfl, hv⟩, rfl⟩; rw [if_pos hk] at hv; subst hv)
    | (go_at_call 49; refine (name_any _ _).mono ?_; rintro e w' ⟨rfl, rfl⟩; rw [hn]))
  go_quiet (fail)
  go_wp2_with (first
    | (go_at_call 61; refine (find_any (W0.out _ (below_drewN (((Below.refl _ _).alloc (Nat.le_refl _) _).alloc (by simp) _) _)).1 HP.out name).mono ?_; rintro e w1 ⟨rfl, hB⟩; rw [hfi]
       have b0 : w1.cell? ⟨w.heap.size, 0, none⟩ = some (.pointer (some ⟨tb, 0, none⟩)) := (hB.cell (p := ⟨w.heap.size, 0, none⟩) (by simp; omega)).trans (by simp)
       have b1 : w1.cell? ⟨w.heap.size + 1, 0, none⟩ = some (.int .i64 i) := (hB.cell (p := ⟨w.heap.size + 1, 0, none⟩) (by simp)).trans (by simp)
       have hB1 : Hid (Below w.heap.size w w1) := (below_drewN (((Below.refl _ _).alloc (Nat.le_refl _) _).alloc (by simp) _) _).trans (hB.mono (by simp; omega))
       have c3 := ((W0.out w1 hB1.out).1.cellN rfl (f := 3) HP.out (by omega) rfl)
       rw [hav] at c3
       obtain ⟨c3, c3f⟩ := c3
       have l0 : w.heap.size + 1 < w1.heap.size := World.block_lt_of_cell? w1 _ b1
       have l1 : nb < w1.heap.size := World.block_lt_of_cell? w1 _ c3
       have HB2 : Hid (∀ o1 o2, Below w1.heap.size w1 ((w1.alloc o1).alloc o2)) := fun o1 o2 => ((Below.refl _ _).alloc (Nat.le_refl _) _).alloc (by simp) _
       have HLW : Hid (∀ o1 o2, Lies ((w1.alloc o1).alloc o2) M tb (.slice (some ⟨nb, 0, none⟩) ps.length nc) uv ps us) := fun o1 o2 => ((W0.out w1 hB1.out).1.alloc o1).alloc o2
       have HRW : Hid (∀ o1 o2, Row ((w1.alloc o1).alloc o2) M (.attrs i) 79 2 (.slice aa p.n.attrs.length ac) p.n.attrs.length (attrCells p.n.attrs)) := fun o1 o2 => hav ▸ ((HLW.out o1 o2).node i p HP.out).1
       clear hB)
    | (at_builtin; (refine wpList_app_row _ (by rfl) (.tmp 42) (.tmp 46) 37 (by rfl) M (.attrs i) 79 i0 _ 2 32 Tryz.underlying37 hi hz0 hz1 hz2 rfl (by decide) (.slice aa p.n.attrs.length ac) p.n.attrs.length (attrCells p.n.attrs) (by rfl) (HRW.out _ _) ⟨w1.heap.size + 1, 0, none⟩ 1 1 [.string name, .string value] (by rfl) rfl (news_new (w1.alloc _) #[.string name, .string value] 79 _ (by simp)) (by simp [Value.oneCell']) (by decide) (by unfold maxLen; omega) (by omega) (HLW.out _ _).fresh ?_); intro g cap1 w2 M2 hr st
       (obtain ⟨q1, q2, ⟨u3, q3⟩, q4⟩ := (HLW.out _ _).setAttrs rfl HP.out st (at' := p.n.attrs ++ [(name, value)]) (by rw [List.length_append, attrCells_append]; exact hr))
       (have b0' : (w2.setCell ⟨nb, i * 6 + 3, none⟩ (.slice (some ⟨g, 0, none⟩) (p.n.attrs.length + 1) cap1)).cell? ⟨w.heap.size, 0, none⟩ = some (.pointer (some ⟨tb, 0, none⟩)) := moved_cell q2 (HF.out _ (Nat.le_refl _)) (((HB2.out _ _).cell (p := ⟨w.heap.size, 0, none⟩) (by show w.heap.size < w1.heap.size; omega)).trans b0))
       (have HQ : Hid _ := And.intro q1 (((((Moved.refl w M).below hB1.out).alloc _).alloc _).trans q2))
       clear q1 q2 hr st)
    | (go_at_call 55; refine (keep_any HQ.out.1 _ _ _ hu).mono ?_; rintro e w3 ⟨rfl, M3, uv3, hL3, hm3⟩))
  go_ret
  exact ⟨rfl, M3, uv3, _, _, hsa.out ▸ hL3, HQ.out.2.trans hm3⟩

set_option maxHeartbeats 4000000 in
set_option maxRecDepth 100000 in
theorem set_old {w : World} {M : Nat → Lab} {tb : Nat} {nv uv : Value} {ps : List Pn} {us : List Value} (h : Lies w M tb nv uv ps us) (hE : Errs w M) {i : Nat} {p : Pn} (hp : ps[i]? = some p) (name value : ByteArray) (hk : p.n.kind = 2) (hn : nameB name = true) (hv : value.size ≤ 20000) (hu : us.length ≤ 1099511627776) {k : Nat} (hf : findA p.n.attrs name = some k) :
    Calls Tryz.prog 30 #[.pointer (some ⟨tb, 0, none⟩), .int .i64 i, .string name, .string value] w (WasSet w M tb nv ps us i p name value) := by
  have hfi : findI p.n.attrs name = k := by simp only [findI, hf]
  have hkl : k < p.n.attrs.length := by
    unfold findA at hf
    rw [List.findIdx?_eq_some_iff_getElem] at hf
    exact hf.1
  obtain ⟨x, hx⟩ : ∃ x, p.n.attrs[k]? = some x := ⟨_, List.getElem?_eq_getElem hkl⟩
  have hsa : Hid (setAttr p.n.attrs name value = p.n.attrs.set k (x.1, value)) := by
    show setAttr _ _ _ = _
    simp only [setAttr, hf]
    rw [List.getD_eq_getElem?_getD, hx]
    rfl
  obtain ⟨nb, nc, rfl, hc, hm, hnM, hnl, hil⟩ := h.form hp
  obtain ⟨ag, ac, hav, hac1, hac2, hagM, hagl⟩ := (h.node i p hp).1.form (by omega)
  have hlt : tb < w.heap.size := lt_of_heap h.head
  have c0 := h.cell0
  have W0 : Hid (∀ w', Below w.heap.size w w' → Lies w' M tb (.slice (some ⟨nb, 0, none⟩) ps.length nc) uv ps us ∧ Errs w' M) := fun w' hb => ⟨h.below hb, hE.below hb⟩
  have HP : Hid (ps[i]? = some p) := hp
  have HX : Hid (p.n.attrs[k]? = some x) := hx
  have HF : Hid (∀ b, w.heap.size ≤ b → M b = .other) := h.fresh
  have i1 : (0 : Int) ≤ (i : Int) := by omega
  have i2 : (i : Int) < (ps.length : Int) := by omega
  have i3 : (0 : Int) ≤ (k : Int) := by omega
  have i4 : (k : Int) < (p.n.attrs.length : Int) := by omega
  unfold maxLen at hm hac2
  clear h hE hp hf hx
  go_enter Tryz.func30, Tryz.ntmps30
  go_wp2_with (first
    | (go_at_call 60; refine (wantElement_any (W0.out _ (((Below.refl _ _).alloc (Nat.le_refl _) _).alloc (by simp) _)).1 (W0.out _ (((Below.refl _ _).alloc (Nat.le_refl _) _).alloc (by simp) _)).2 HP.out).mono ?_; rintro e w' ⟨⟨v, rfl, hv⟩, rfl⟩; rw [if_pos hk] at hv; subst hv)
    | (go_at_call 49; refine (name_any _ _).mono ?_; rintro e w' ⟨rfl, rfl⟩; rw [hn]))
  go_quiet (fail)
  go_wp2_with (first
    | (go_at_call 61; refine (find_any (W0.out _ (below_drewN (((Below.refl _ _).alloc (Nat.le_refl _) _).alloc (by simp) _) _)).1 HP.out name).mono ?_; rintro e w1 ⟨rfl, hB⟩; rw [hfi]
       have b0 : w1.cell? ⟨w.heap.size, 0, none⟩ = some (.pointer (some ⟨tb, 0, none⟩)) := (hB.cell (p := ⟨w.heap.size, 0, none⟩) (by simp; omega)).trans (by simp)
       have b1 : w1.cell? ⟨w.heap.size + 1, 0, none⟩ = some (.int .i64 i) := (hB.cell (p := ⟨w.heap.size + 1, 0, none⟩) (by simp)).trans (by simp)
       have hB1 : Hid (Below w.heap.size w w1) := (below_drewN (((Below.refl _ _).alloc (Nat.le_refl _) _).alloc (by simp) _) _).trans (hB.mono (by simp; omega))
       obtain ⟨c3, c3f⟩ := ((W0.out w1 hB1.out).1.cellN rfl (f := 3) HP.out (by omega) rfl)
       rw [hav] at c3
       have cx := ((W0.out w1 hB1.out).1.node i p HP.out).1.cell hav (attrCells_get p.n.attrs k x HX.out).2
       obtain ⟨cx, cxf⟩ := cx
       have l0 : w.heap.size + 1 < w1.heap.size := World.block_lt_of_cell? w1 _ b1
       have l1 : nb < w1.heap.size := World.block_lt_of_cell? w1 _ c3
       have l2 : ag < w1.heap.size := World.block_lt_of_cell? w1 _ cx
       have st : Step w1 M (w1.setCell ⟨ag, k * 2 + 1, none⟩ (.string value)) M (.attrs i) := step_setCell _ hagM (W0.out w1 hB1.out).1.fresh
       have hrs := ((W0.out w1 hB1.out).1.node i p HP.out).1.set hav (k * 2 + 1) (.string value) (by rw [attrCells_length]; omega)
       have HQ : Hid _ := (W0.out w1 hB1.out).1.turnAttrs HP.out st (at' := p.n.attrs.set k (x.1, value)) (by rw [List.length_set, attrCells_set p.n.attrs k x value HX.out]; exact hrs)
       have bx : (w1.setCell ⟨ag, k * 2 + 1, none⟩ (.string value)).cell? ⟨w.heap.size, 0, none⟩ = some (.pointer (some ⟨tb, 0, none⟩)) := moved_cell HQ.out.2 (HF.out _ (Nat.le_refl _)) b0
       have hbx : ∀ o1 o2, (((w1.setCell ⟨ag, k * 2 + 1, none⟩ (.string value)).alloc o1).alloc o2).cell? ⟨w.heap.size, 0, none⟩ = some (.pointer (some ⟨tb, 0, none⟩)) := fun o1 o2 => moved_cell (((Moved.refl _ M).alloc o1).alloc o2) (HF.out _ (Nat.le_refl _)) bx
       have hne1 : ¬ (w.heap.size = ag) := by omega
       have hne2 : ¬ (ag = w.heap.size) := by omega
       clear hB st hrs))
  go_region
  all_goals go_wp2_with fail
  all_goals go_region
  all_goals go_wp2_with (go_at_call 55; refine (keep_any ((HQ.out.1.alloc _).alloc _).drew.drew _ _ _ hu).mono ?_; rintro e w3 ⟨rfl, M3, uv3, hL3, hm3⟩)
  all_goals go_ret
  all_goals exact ⟨rfl, M3, uv3, _, _, hsa.out ▸ hL3, (((((Moved.refl w M).below hB1.out).trans HQ.out.2).alloc _).alloc _).drew.drew.trans hm3⟩
end Go.Proofs.YtjfklhfdonbpgaaGreatDoor
