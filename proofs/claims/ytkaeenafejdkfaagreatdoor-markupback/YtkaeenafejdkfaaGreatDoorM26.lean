/- The program: what a piece makes of a grower. -/
import Derived.Test.YtkaeenafejdkfaaGreatDoorM25
import Derived.Test.YtkaeenafejdkfaaGreatDoorM12
import Derived.Test.YtkaeenafejdkfaaGreatDoorM24
import Derived.Test.YtkaeenafejdkfaaGreatDoorM08
import Derived.Test.YtkaeenafejdkfaaGreatDoorM11
namespace Go.Proofs.YtkaeenafejdkfaaGreatDoor
open Go.RowKit

/-- what a piece makes of a tree -/
def pieceM (ns : List Nd) (op : List Nat) (pc : Pc) : Option (List Nd × List Nat) := match pc with
  | .text t _ => (textM ns (inn op) t).map fun x => (x, op)
  | .com t _ => (comM ns (inn op) t).map fun x => (x, op)
  | .none _ => some (ns, op)
  | .fin n _ => some (ns, shutM ns (inL [n]) (inL []) op op)
  | .start n l _ => if nameB n = true then startM ns op n l else some (ns, op)

set_option maxHeartbeats 4000000 in
set_option maxRecDepth 100000 in
theorem take_text {w : World} {gb tb : Nat} {ns : List Nd} {op : List Nat} {u i0 e0 : Nat} {M Mo : Nat → Lab} (h : GS w gb tb ns op (txOf ns op) u M Mo) (hI : Inv ns op i0) (hu : u + 1 ≤ 1000000) (t : ByteArray) (he : i0 ≤ e0) (he2 : e0 ≤ 20000) (ht : t.size ≤ e0 - i0) (bv : Value) (hbv : w.cell? ⟨0, 0, none⟩ = some bv) :
    Calls Tryz.prog 72 #[.pointer (some ⟨gb, 0, none⟩), pcv 1 i0 ⟨#[]⟩ t (.slice none 0 0)] w (GOut w gb tb ((textM ns (inn op) t).map fun x => (x, op)) (u + 1 + 1) M Mo i0 bv) := by
  obtain ⟨R, hR⟩ : ∃ R, R = (textM ns (inn op) t).map fun x => (x, op) := ⟨_, rfl⟩
  have hB1 : Below w.heap.size w (w.alloc (.cells #[.int .i64 1, .int .i64 i0, .string ⟨#[]⟩, .string t, .slice none 0 0] 121)) := (Below.refl _ _).alloc (Nat.le_refl _) _
  have hel := World.block_lt_of_cell? w _ hbv
  have hsay := say_any (h.below hB1) hI hu t he he2 ht bv ((hB1.cell (p := ⟨0, 0, none⟩) hel).trans hbv)
  rw [← hR] at hsay ⊢
  have HS := hid hsay
  have HV : Hid (GMv gb w M Mo (w.alloc (.cells #[.int .i64 1, .int .i64 i0, .string ⟨#[]⟩, .string t, .slice none 0 0] 121)) M Mo) := GMv.below hB1
  unfold pcv at HS ⊢
  clear h hI hbv hsay hB1 hR
  go_enter Tryz.func72, Tryz.ntmps72
  go_wp2_with fail
  refine HS.out.mono ?_
  intro e w' hout
  cases R with
  | none =>
    obtain ⟨⟨fb, rfl, hfb⟩, M', Mo', hV'⟩ := hout
    exact ⟨rfl, ⟨fb, rfl, hfb⟩, M', Mo', HV.out.trans hV'⟩
  | some x =>
    obtain ⟨ns', op'⟩ := x
    obtain ⟨rfl, M', Mo', hG, hV'⟩ := hout
    have HG := hid hG
    have HV' := hid hV'
    clear hG hV'
    go_wp2_with fail
    go_end0
    exact ⟨rfl, M', Mo', HG.out, HV.out.trans HV'.out⟩

set_option maxHeartbeats 4000000 in
set_option maxRecDepth 100000 in
theorem take_none {w : World} {gb tb : Nat} {ns : List Nd} {op : List Nat} {tx u i0 : Nat} {M Mo : Nat → Lab} (h : GS w gb tb ns op tx u M Mo) :
    Calls Tryz.prog 72 #[.pointer (some ⟨gb, 0, none⟩), pcv 0 i0 ⟨#[]⟩ ⟨#[]⟩ (.slice none 0 0)] w fun e w' => e = .returned (.tuple #[]) ∧ GDone w gb tb ns op tx u M Mo w' := by
  have hB1 : Below w.heap.size w (w.alloc (.cells #[.int .i64 0, .int .i64 i0, .string ⟨#[]⟩, .string ⟨#[]⟩, .slice none 0 0] 121)) := (Below.refl _ _).alloc (Nat.le_refl _) _
  have H1 := hid (h.below hB1)
  have HV : Hid (GMv gb w M Mo (w.alloc (.cells #[.int .i64 0, .int .i64 i0, .string ⟨#[]⟩, .string ⟨#[]⟩, .slice none 0 0] 121)) M Mo) := GMv.below hB1
  unfold pcv
  clear h hB1
  go_enter Tryz.func72, Tryz.ntmps72
  go_wp2_with fail
  go_end0
  exact ⟨rfl, M, Mo, H1.out, HV.out⟩

set_option maxHeartbeats 4000000 in
set_option maxRecDepth 100000 in
theorem take_fin {w : World} {gb tb : Nat} {ns : List Nd} {op : List Nat} {u i0 : Nat} {M Mo : Nat → Lab} (h : GS w gb tb ns op (txOf ns op) u M Mo) (hI : Inv ns op i0) (name : ByteArray) :
    Calls Tryz.prog 72 #[.pointer (some ⟨gb, 0, none⟩), pcv 4 i0 name ⟨#[]⟩ (.slice none 0 0)] w fun e w' => e = .returned (.tuple #[]) ∧ GDone w gb tb ns (shutM ns (inL [name]) (inL []) op op) (txOf ns (shutM ns (inL [name]) (inL []) op op)) u M Mo w' := by
  have hB1 : Below w.heap.size w (w.alloc (.cells #[.int .i64 4, .int .i64 i0, .string name, .string ⟨#[]⟩, .slice none 0 0] 121)) := (Below.refl _ _).alloc (Nat.le_refl _) _
  have hS1 : (w.alloc (.cells #[.int .i64 4, .int .i64 i0, .string name, .string ⟨#[]⟩, .slice none 0 0] 121)).heap.size = w.heap.size + 1 := by simp
  have hB2 : Below (w.alloc (.cells #[.int .i64 4, .int .i64 i0, .string name, .string ⟨#[]⟩, .slice none 0 0] 121)).heap.size (w.alloc (.cells #[.int .i64 4, .int .i64 i0, .string name, .string ⟨#[]⟩, .slice none 0 0] 121)) ((w.alloc (.cells #[.int .i64 4, .int .i64 i0, .string name, .string ⟨#[]⟩, .slice none 0 0] 121)).alloc (.cells #[.string name] 9)) := (Below.refl _ _).alloc (Nat.le_refl _) _
  have hB3 : Below w.heap.size w ((w.alloc (.cells #[.int .i64 4, .int .i64 i0, .string name, .string ⟨#[]⟩, .slice none 0 0] 121)).alloc (.cells #[.string name] 9)) := hB1.trans (hB2.mono (by omega))
  have hst := StrsAt.new (w.alloc (.cells #[.int .i64 4, .int .i64 i0, .string name, .string ⟨#[]⟩, .slice none 0 0] 121)) [name] (by simp)
  rw [hS1] at hst
  have hshut := (h.below hB3).shut hI (a1 := some ⟨w.heap.size + 1, 0, none⟩) (n1 := 1) (c1 := 1) (a2 := none) (n2 := 0) (c2 := 0) hst (.inl ⟨rfl, _, _, rfl⟩)
  have HS := hid hshut
  have HV : Hid (GMv gb w M Mo ((w.alloc (.cells #[.int .i64 4, .int .i64 i0, .string name, .string ⟨#[]⟩, .slice none 0 0] 121)).alloc (.cells #[.string name] 9)) M Mo) := GMv.below hB3
  unfold pcv
  clear h hI hB1 hB2 hB3 hst hshut hS1
  go_enter Tryz.func72, Tryz.ntmps72
  go_wp2_with fail
  refine HS.out.mono ?_
  rintro e w' ⟨rfl, M', Mo', hG, hV'⟩
  have HG := hid hG
  have HV' := hid hV'
  clear hG hV'
  go_wp2_with fail
  go_end0
  exact ⟨rfl, M', Mo', HG.out, HV.out.trans HV'.out⟩

set_option maxHeartbeats 4000000 in
set_option maxRecDepth 100000 in
theorem take_start {w : World} {gb tb : Nat} {ns : List Nd} {op : List Nat} {u i0 : Nat} {M Mo : Nat → Lab} {X : List (Nat × Obj)} (h : GS w gb tb ns op (txOf ns op) u M Mo) (hI : Inv ns op i0) (hu : u + 20010 ≤ 1000000) (name : ByteArray) (l : List (ByteArray × ByteArray)) (hll : l.length ≤ 20000) (hln : ∀ x ∈ l, nameB x.1 = true ∧ x.2.size ≤ 20000) (a0 : Option Addr) (c0 : Nat) (hX : Held w M Mo gb X) (hA : AttrsX X a0 l) (bv : Value) (hbv : w.cell? ⟨0, 0, none⟩ = some bv) :
    Calls Tryz.prog 72 #[.pointer (some ⟨gb, 0, none⟩), pcv 3 i0 name ⟨#[]⟩ (.slice a0 l.length c0)] w (GOut w gb tb (if nameB name = true then startM ns op name l else some (ns, op)) (u + 2 + l.length) M Mo i0 bv) := by
  have hB1 : Below w.heap.size w (w.alloc (.cells #[.int .i64 3, .int .i64 i0, .string name, .string ⟨#[]⟩, .slice a0 l.length c0] 121)) := (Below.refl _ _).alloc (Nat.le_refl _) _
  have hel := World.block_lt_of_cell? w _ hbv
  have HV : Hid (GMv gb w M Mo (w.alloc (.cells #[.int .i64 3, .int .i64 i0, .string name, .string ⟨#[]⟩, .slice a0 l.length c0] 121)) M Mo) := GMv.below hB1
  cases hname : nameB name
  · simp only [Bool.false_eq_true, if_false]
    obtain ⟨nv, uv, ps, us, g1, g2, g3⟩ := h.tree
    have H1 : Hid (GS (w.alloc (.cells #[.int .i64 3, .int .i64 i0, .string name, .string ⟨#[]⟩, .slice a0 l.length c0] 121)) gb tb ns op (txOf ns op) (u + 2 + l.length) M Mo) := GS.below ⟨⟨nv, uv, ps, us, g1, g2, by omega⟩, h.head, h.gm, h.gO, h.apart, h.fresh, h.errs, h.errO⟩ hB1
    unfold pcv
    clear h hI hbv hB1 g1 g2 g3
    go_enter Tryz.func72, Tryz.ntmps72
    go_wp2_with (go_at_call 80; refine (name_any _ _).mono ?_; rintro e w' ⟨rfl, rfl⟩; rw [hname])
    go_end0
    exact ⟨rfl, M, Mo, H1.out, HV.out⟩
  · simp only [if_true]
    obtain ⟨R, hR⟩ : ∃ R, R = startM ns op name l := ⟨_, rfl⟩
    have hst := start_any (h.below hB1) hI hu name hname l hll hln a0 c0 (hX.mv (GMv.below hB1)) hA bv ((hB1.cell (p := ⟨0, 0, none⟩) hel).trans hbv)
    rw [← hR] at hst ⊢
    have HS := hid hst
    unfold pcv at HS ⊢
    clear h hI hbv hst hB1 hR
    go_enter Tryz.func72, Tryz.ntmps72
    go_wp2_with (go_at_call 80; refine (name_any _ _).mono ?_; rintro e w' ⟨rfl, rfl⟩; rw [hname])
    refine HS.out.mono ?_
    intro e w' hout
    cases R with
    | none =>
      obtain ⟨⟨fb, rfl, hfb⟩, M', Mo', hV'⟩ := hout
      exact ⟨rfl, ⟨fb, rfl, hfb⟩, M', Mo', HV.out.trans hV'⟩
    | some x =>
      obtain ⟨ns', op'⟩ := x
      obtain ⟨rfl, M', Mo', hG, hV'⟩ := hout
      have HG := hid hG
      have HV' := hid hV'
      clear hG hV'
      go_wp2_with fail
      go_end0
      exact ⟨rfl, M', Mo', HG.out, HV.out.trans HV'.out⟩

set_option maxHeartbeats 4000000 in
set_option maxRecDepth 100000 in
theorem take_com {w : World} {gb tb : Nat} {ns : List Nd} {op : List Nat} {u i0 : Nat} {M Mo : Nat → Lab} (h : GS w gb tb ns op (txOf ns op) u M Mo) (hI : Inv ns op i0) (hu : u + 1 ≤ 1000000) (t : ByteArray) (ht : t.size ≤ 20000) (bv : Value) (hbv : w.cell? ⟨0, 0, none⟩ = some bv) :
    Calls Tryz.prog 72 #[.pointer (some ⟨gb, 0, none⟩), pcv 2 i0 ⟨#[]⟩ t (.slice none 0 0)] w (GOut w gb tb ((comM ns (inn op) t).map fun x => (x, op)) (u + 1 + 1) M Mo i0 bv) := by
  have hgl0 : gb < w.heap.size := by obtain ⟨a, c, hg, _⟩ := h.head; exact lt_of_heap hg
  have hfr : M w.heap.size = .other ∧ Mo w.heap.size = .other := by
    obtain ⟨_, _, _, _, hL, _, _⟩ := h.tree
    exact ⟨hL.fresh _ (Nat.le_refl _), h.fresh _ (Nat.le_refl _)⟩
  have hB1 : Below w.heap.size w (w.alloc (.cells #[.int .i64 2, .int .i64 i0, .string ⟨#[]⟩, .string t, .slice none 0 0] 121)) := (Below.refl _ _).alloc (Nat.le_refl _) _
  have hel := World.block_lt_of_cell? w _ hbv
  have HE1 : Hid ((w.alloc (.cells #[.int .i64 2, .int .i64 i0, .string ⟨#[]⟩, .string t, .slice none 0 0] 121)).cell? ⟨0, 0, none⟩ = some bv) := (hB1.cell (p := ⟨0, 0, none⟩) hel).trans hbv
  obtain ⟨Y, hY⟩ : ∃ Y, Y = [(w.heap.size, Obj.cells #[.int .i64 2, .int .i64 i0, .string ⟨#[]⟩, .string t, .slice none 0 0] 121 (0, 0))] := ⟨_, rfl⟩
  have H1 : Hid (SAt w gb tb M Mo Y ns op (txOf ns op) u (w.alloc (.cells #[.int .i64 2, .int .i64 i0, .string ⟨#[]⟩, .string t, .slice none 0 0] 121))) := by
    refine ⟨M, Mo, h.below hB1, GMv.below hB1, ?_⟩
    rw [hY]
    intro x hx
    rw [List.mem_singleton] at hx
    subst hx
    exact ⟨heap_alloc_new w _, hfr.1, hfr.2, by show w.heap.size ≠ gb; omega⟩
  have HYm : Hid ((w.heap.size, Obj.cells #[.int .i64 2, .int .i64 i0, .string ⟨#[]⟩, .string t, .slice none 0 0] 121 (0, 0)) ∈ Y) := by show _ ∈ Y; rw [hY]; simp
  have HI := hid hI
  obtain ⟨ga, gc, hg1⟩ := H1.out.cells
  obtain ⟨e0, e1, e2, ef⟩ := three_cells hg1
  obtain ⟨p0, p1, p2, p3, p4, pf⟩ := five_cells (H1.out.held HYm.out)
  have hwl : w.heap.size < (w.alloc (.cells #[.int .i64 2, .int .i64 i0, .string ⟨#[]⟩, .string t, .slice none 0 0] 121)).heap.size := by simp
  unfold pcv comM
  clear h hI hY hfr hbv hg1
  by_cases hl : ns.length < 400
  · rw [if_pos hl]
    go_enter Tryz.func72, Tryz.ntmps72
    go_wp2_with fail
    generalize w.alloc (.cells #[.int .i64 2, .int .i64 i0, .string ⟨#[]⟩, .string t, .slice none 0 0] 121) = w1 at *
    go_region_with ((go_at_call 39; refine (SAt.mkComment (H1.out.below ((Below.refl _ _).drew)) (by omega) hl t ht).mono ?_; rintro e w4 ⟨rfl, h4⟩; have H4 := hid h4; obtain ⟨q0, q1, q2, q3, q4, qf⟩ := five_cells (H4.out.held HYm.out); clear h4))
    all_goals (
      go_wp2_with fail
      refine (SAt.add H4.out HI.out.wf HI.out.chain hl rfl rfl (by omega) (by have := HI.out.few; omega) 2 i0 ⟨#[]⟩ t none 0 0).mono ?_
      rintro e w5 ⟨rfl, h5⟩
      have H5 := hid h5
      clear h5
      go_wp2_with fail
      go_end0
      obtain ⟨m, hm, _⟩ := HI.out.chain.inner HI.out.wf
      have ht0 : txOf (addN ns (inn op) (comN t)) op = 0 := by unfold txOf; rw [textAt_new hm]; rfl
      refine ⟨rfl, ?_⟩
      rw [ht0]
      exact H5.out.done)
  · rw [if_neg hl]
    have hl4 : ns.length = 400 := by have := HI.out.wf.len; omega
    go_enter Tryz.func72, Tryz.ntmps72
    go_wp2_with fail
    generalize w.alloc (.cells #[.int .i64 2, .int .i64 i0, .string ⟨#[]⟩, .string t, .slice none 0 0] 121) = w1 at *
    go_region_with ((go_at_call 39; refine (SAt.noComment (H1.out.below ((Below.refl _ _).drew)) hl4 t).mono ?_; rintro e w4 ⟨v, rfl, ⟨vt, vx, rfl⟩, hvc, hB4⟩; have hvc' : w1.cell? ⟨0, 0, none⟩ = some (.iface vt (.pointer (some vx))) := hvc; have H4 : Hid (SAt w gb tb M Mo Y ns op (txOf ns op) u w4 ∧ Below w1.heap.size w1 w4) := ⟨H1.out.below ((Below.refl _ _).drew.trans hB4), (Below.refl _ _).drew.trans hB4⟩; have HV := hid hvc'; obtain ⟨q0, q1, q2, q3, q4, qf⟩ := five_cells (H4.out.1.held HYm.out); clear hB4 hvc hvc'))
    all_goals (
      go_wp2_with fail
      obtain rfl := Option.some.inj (HE1.out.symm.trans HV.out)
      refine (add_bad (gb := gb) vt vx _ ⟨vt, vx, rfl⟩ ((H4.out.2.cell (p := ⟨0, 0, none⟩) (World.block_lt_of_cell? w1 _ HE1.out)).trans HE1.out) 2 i0 ⟨#[]⟩ t none 0 0 0).mono ?_
      rintro e w5 ⟨⟨fb, rfl, hfb⟩, hB5⟩
      obtain ⟨M5, Mo5, _, hV5, _⟩ := H4.out.1.below hB5
      exact ⟨rfl, ⟨fb, rfl, hfb⟩, M5, Mo5, hV5⟩)
end Go.Proofs.YtkaeenafejdkfaaGreatDoor

/- Reading as plain mathematics, and what is known of pieces. -/
namespace Go.Proofs.YtkaeenafejdkfaaGreatDoor

theorem bodyR_two {l : List UInt8} {r : Nat} (h : bodyR l = some r) : 2 ≤ l.length := by
  unfold bodyR at h
  iterate 8 (split at h; · rename_i e; subst e; decide)
  unfold bodyT at h
  split at h
  · simp
  · cases h
theorem refAt_three {l : List UInt8} {r n : Nat} (h : refAt l = some (r, n)) : 3 ≤ n ∧ n ≤ l.length := by
  unfold refAt at h
  simp only at h
  split at h
  · rename_i hc
    cases hb : bodyR (l.takeWhile bodyB) with
    | none => rw [hb] at h; cases h
    | some x =>
      rw [hb] at h
      have h2 := bodyR_two hb
      have hl := (List.getElem?_eq_some_iff.1 hc).1
      simp at h
      omega
  · cases h
theorem runeL_four (n : Nat) : (runeL n).length ≤ 4 := by
  unfold runeL
  split
  · simp
  · split
    · simp
    · split <;> simp
theorem meantL_len : ∀ (f : Nat) (l : List UInt8), (meantL f l).length ≤ l.length
  | 0, _ => by simp [meantL]
  | _ + 1, [] => by simp [meantL]
  | f + 1, c :: l => by
    unfold meantL
    split
    · split
      · rename_i r n hr
        obtain ⟨h1, h2⟩ := refAt_three hr
        have := meantL_len f (l.drop n)
        have := runeL_four r
        rw [List.length_append, List.length_cons]
        rw [List.length_drop] at *
        omega
      · have := meantL_len f l
        simp only [List.length_cons]; omega
    · have := meantL_len f l
      simp only [List.length_cons]; omega
theorem meantS_size (s : ByteArray) : (meantS s).size ≤ s.size := by
  have := meantL_len s.data.toList.length s.data.toList
  have e : (meantS s).size = (meant s.data.toList).length := by unfold meantS; simp [ByteArray.size]
  rw [e]
  unfold meant
  simpa using this
theorem valP_fact {s nm : ByteArray} {k : Nat} (hk : k ≤ s.size) : (valP s nm k).2.1.size ≤ s.size ∧ k ≤ (valP s nm k).2.2 := by
  unfold valP
  split
  · split
    · rename_i e he
      obtain ⟨h1, h2, _⟩ := findE_some he
      refine ⟨?_, by show k ≤ e + 1; omega⟩
      refine Nat.le_trans (meantS_size _) ?_
      rw [ByteArray.size_extract]; omega
    · exact ⟨Nat.zero_le _, by show k ≤ s.size + 1; omega⟩
  · refine ⟨?_, spanE_le _ _ _⟩
    refine Nat.le_trans (meantS_size _) ?_
    rw [ByteArray.size_extract]; omega
theorem attrP_fact {s : ByteArray} {i : Nat} (hi : i < s.size) : (attrP s i).2.1.size ≤ s.size ∧ i < (attrP s i).2.2 := by
  unfold attrP
  simp only
  have h1 : i + 1 ≤ spanE inAttrB s (i + 1) := spanE_le _ _ _
  have h2 : spanE inAttrB s (i + 1) ≤ s.size := spanE_size _ _ _ hi
  have h3 := spanE_le blankB s (spanE inAttrB s (i + 1))
  have h4 := spanE_size blankB s (spanE inAttrB s (i + 1)) h2
  split
  · rename_i h61
    have hlt : spanE blankB s (spanE inAttrB s (i + 1)) < s.size := by
      rcases Nat.lt_or_ge (spanE blankB s (spanE inAttrB s (i + 1))) s.size with h | h
      · exact h
      · rw [bt_ge h] at h61; omega
    have h5 := spanE_le blankB s (spanE blankB s (spanE inAttrB s (i + 1)) + 1)
    have h6 := spanE_size blankB s (spanE blankB s (spanE inAttrB s (i + 1)) + 1) hlt
    obtain ⟨g1, g2⟩ := valP_fact (s := s) (nm := smallS (s.extract i (spanE inAttrB s (i + 1)))) h6
    exact ⟨g1, by omega⟩
  · exact ⟨Nat.zero_le _, by show i < spanE inAttrB s (i + 1); omega⟩
/-- a start tag's attributes: not too many, each with a name, and where the tag ends -/
theorem attrsF_fact {ok : ByteArray → Bool} {s : ByteArray} : ∀ (f i : Nat) (l0 l : List (ByteArray × ByteArray)) (e : Nat), i ≤ s.size → attrsF ok f s i l0 = some (l, e) → (∀ x ∈ l0, ok x.1 = true ∧ x.2.size ≤ s.size) → (∀ x ∈ l, ok x.1 = true ∧ x.2.size ≤ s.size) ∧ l.length + i ≤ l0.length + e ∧ i < e ∧ e ≤ s.size
  | 0, _, _, _, _, _, h, _ => by cases h
  | f + 1, i, l0, l, e, hi, h, h0 => by
    unfold attrsF at h
    simp only at h
    have hj1 := spanE_le betwB s i
    have hj2 := spanE_size betwB s i hi
    generalize spanE betwB s i = j at *
    split at h
    · cases h
    · split at h
      · simp at h
        obtain ⟨rfl, rfl⟩ := h
        exact ⟨h0, by omega, by omega, by omega⟩
      · obtain ⟨g1, g2⟩ := attrP_fact (s := s) (i := j) (by omega)
        split at h
        · cases h
        · have hrec := attrsF_fact f (attrP s j).2.2 (if ok (attrP s j).1 then l0 ++ [((attrP s j).1, (attrP s j).2.1)] else l0) l e (by omega) h (by
            intro x hx
            split at hx
            · rename_i hok
              rcases List.mem_append.1 hx with hx | hx
              · exact h0 x hx
              · rw [List.mem_singleton] at hx
                subst hx
                exact ⟨hok, g1⟩
            · exact h0 x hx)
          obtain ⟨r1, r2, r3, r4⟩ := hrec
          refine ⟨r1, ?_, by omega, r4⟩
          split at r2
          · rw [List.length_append, List.length_singleton] at r2; omega
          · omega
/-- what is known of a piece -/
def PcFact (s : ByteArray) (i : Nat) (pc : Pc) : Prop := i < pc.to ∧ pc.to ≤ s.size ∧ match pc with
  | .text t e => t.size ≤ e - i
  | .com t _ => t.size ≤ s.size
  | .start _ l e => l.length ≤ e - i ∧ ∀ x ∈ l, nameB x.1 = true ∧ x.2.size ≤ s.size
  | _ => True
theorem piece_fact {s : ByteArray} {i : Nat} (hi : i < s.size) : PcFact s i (pieceP nameB s i) := by
  unfold pieceP
  split
  · have h1 := wordN_le s (i + 1)
    have h2 := wordN_size s (i + 1) hi
    refine ⟨by show i < wordN s (i + 1); omega, h2, ?_⟩
    show (meantS (s.extract i (wordN s (i + 1)))).size ≤ _
    refine Nat.le_trans (meantS_size _) ?_
    rw [ByteArray.size_extract]; omega
  · split
    · rename_i hc
      have h4 : i + 4 ≤ s.size := hc.1
      split
      · rename_i k hk
        obtain ⟨g1, g2, _⟩ := findE_some hk
        have g3 : k + 3 ≤ s.size := g2.1
        refine ⟨by show i < k + 3; omega, g3, ?_⟩
        show (s.extract (i + 4) k).size ≤ s.size
        rw [ByteArray.size_extract]; omega
      · refine ⟨hi, Nat.le_refl _, ?_⟩
        show (s.extract (i + 4) s.size).size ≤ s.size
        rw [ByteArray.size_extract]; omega
    · split
      · split
        · rename_i k hk
          obtain ⟨g1, g2, _⟩ := findE_some hk
          have g3 : k + 1 ≤ s.size := g2.1
          exact ⟨by show i < k + 1; omega, g3, trivial⟩
        · exact ⟨hi, Nat.le_refl _, trivial⟩
      · split
        · rename_i h47
          have h2 : i + 2 ≤ s.size := by
            rcases Nat.lt_or_ge (i + 1) s.size with h | h
            · omega
            · rw [bt_ge h] at h47; omega
          unfold endP
          simp only
          split
          · rename_i e name he
            split at he
            · rename_i k hk
              obtain ⟨g1, g2, _⟩ := findE_some hk
              have g3 : k + 1 ≤ s.size := g2.1
              have g4 := spanE_le inTagB s (i + 2)
              simp at he
              obtain ⟨rfl, rfl⟩ := he
              exact ⟨by show i < k + 1; omega, g3, trivial⟩
            · cases he
          · exact ⟨hi, Nat.le_refl _, trivial⟩
        · unfold startP
          simp only
          split
          · rename_i l e he
            have g4 := spanE_le inTagB s (i + 1)
            have g5 := spanE_size inTagB s (i + 1) hi
            obtain ⟨r1, r2, r3, r4⟩ := attrsF_fact _ _ _ _ _ g5 he (by simp)
            refine ⟨by show i < e; omega, r4, ?_, r1⟩
            simp at r2
            show l.length ≤ e - i
            omega
          · exact ⟨hi, Nat.le_refl _, trivial⟩

inductive Res where
  | ok (ns : List Nd)
  | bad (i : Nat)
def rawThen (k : Nat → List Nd → List Nat → Res) (s : ByteArray) (i : Nat) (raw : ByteArray) (ns : List Nd) (op : List Nat) : Res :=
  if raw = ⟨#[]⟩ then k i ns op else if rawE s raw i = i then k i ns op else match textM ns (inn op) (s.extract i (rawE s raw i)) with
    | none => .bad i
    | some ns' => k (rawE s raw i) ns' op
/-- the tree of a text, or which piece is one too many -/
def readF : Nat → ByteArray → Nat → List Nd → List Nat → Res
  | 0, _, _, ns, _ => .ok ns
  | f + 1, s, i, ns, op => if i < s.size then (match pieceM ns op (pieceP nameB s i) with
      | none => .bad i
      | some (ns', op') => rawThen (readF f s) s (pieceP nameB s i).to (pieceP nameB s i).raw ns' op') else .ok ns
def docN : Nd := ⟨1, ⟨#[]⟩, ⟨#[]⟩, [], -1, []⟩
def readS (s : ByteArray) : Res := readF s.size s 0 [docN] []

theorem text_inv {ns ns' : List Nd} {op : List Nat} {i e : Nat} (h : Inv ns op i) {t : ByteArray} (hie : i ≤ e) (ht : t.size ≤ e - i) (hm : textM ns (inn op) t = some ns') : Inv ns' op e := by
  unfold textM at hm
  split at hm
  · rename_i k hk
    obtain ⟨n, hn, _, _⟩ := textAt_some h.wf hk
    obtain rfl := Option.some.inj hm
    exact (h.join t hn hie ht).1
  · split at hm
    · rename_i hl
      obtain rfl := Option.some.inj hm
      exact (h.mono hie).add hl (textN t) rfl rfl (by show t.size ≤ e; omega) (Nat.zero_le _)
    · cases hm
theorem piece_inv {s : ByteArray} {ns ns' : List Nd} {op op' : List Nat} {i : Nat} {pc : Pc} (h : Inv ns op i) (hp : PcFact s i pc) (hc : ∀ t e, pc = .com t e → t.size ≤ e) (hm : pieceM ns op pc = some (ns', op')) : Inv ns' op' pc.to := by
  obtain ⟨h1, h2, h3⟩ := hp
  cases pc with
  | text t e =>
    unfold pieceM at hm
    simp only [Option.map_eq_some_iff] at hm
    obtain ⟨x, hx, e1⟩ := hm
    simp at e1
    obtain ⟨rfl, rfl⟩ := e1
    exact text_inv h (Nat.le_of_lt h1) h3 hx
  | com t e =>
    unfold pieceM comM at hm
    simp only [Option.map_eq_some_iff] at hm
    obtain ⟨x, hx, e1⟩ := hm
    simp at e1
    obtain ⟨rfl, rfl⟩ := e1
    split at hx
    · rename_i hl
      obtain rfl := Option.some.inj hx
      exact (h.mono (Nat.le_of_lt h1)).add hl (comN t) rfl rfl (hc t e rfl) (Nat.zero_le _)
    · cases hx
  | none e =>
    simp [pieceM] at hm
    obtain ⟨rfl, rfl⟩ := hm
    exact h.mono (Nat.le_of_lt h1)
  | fin n e =>
    simp [pieceM] at hm
    obtain ⟨rfl, rfl⟩ := hm
    exact (h.shut _ _).mono (Nat.le_of_lt h1)
  | start n l e =>
    unfold pieceM at hm
    simp only at hm
    split at hm
    · unfold startM at hm
      split at hm
      · rename_i hl
        simp at hm
        obtain ⟨rfl, rfl⟩ := hm
        have h5 : Inv ns (opAfter ns op n) e := (h.shut _ _).mono (Nat.le_of_lt h1)
        have hfl : (firsts l).length ≤ e := Nat.le_trans (firsts_le l) (Nat.le_trans h3.1 (Nat.sub_le _ _))
        unfold opThen
        split
        · rename_i hst
          have hst2 : (opAfter ns op n).length < 40 := by
            rw [Bool.and_eq_true, decide_eq_true_eq] at hst
            exact hst.2
          exact h5.open hl (elN n (firsts l)) rfl rfl (Nat.zero_le _) hfl rfl hst2
        · exact h5.add hl (elN n (firsts l)) rfl rfl (Nat.zero_le _) hfl
      · cases hm
    · simp at hm
      obtain ⟨rfl, rfl⟩ := hm
      exact h.mono (Nat.le_of_lt h1)
theorem com_fact {s : ByteArray} {i : Nat} (hi : i < s.size) : ∀ t e, pieceP nameB s i = .com t e → t.size ≤ e := by
  intro t e h
  unfold pieceP at h
  split at h
  · cases h
  · split at h
    · split at h
      · rename_i k hk
        cases h
        rw [ByteArray.size_extract]; omega
      · cases h
        rw [ByteArray.size_extract]; omega
    · split at h
      · split at h <;> cases h
      · split at h
        · split at h <;> cases h
        · unfold startP at h
          simp only at h
          split at h <;> cases h
theorem inv0 : Inv [docN] [] 0 := by
  have hd : ∀ (j : Nat) (n : Nd), [docN][j]? = some n → j = 0 ∧ n = docN := by
    intro j n h
    cases j with
    | zero => simp at h; exact ⟨rfl, h.symm⟩
    | succ j => simp at h
  refine ⟨⟨⟨docN, rfl, rfl, rfl⟩, by simp, ?_, ?_, ?_, ?_⟩, .nil, by simp, ?_, ?_⟩
  · intro j n h; obtain ⟨_, rfl⟩ := hd j n h; simp [docN]
  · intro j n h x hx; obtain ⟨_, rfl⟩ := hd j n h; simp [docN] at hx
  · intro j n h; obtain ⟨_, rfl⟩ := hd j n h; exact .inl rfl
  · intro j n h; obtain ⟨rfl, rfl⟩ := hd j n h; exact ⟨[0], .root rfl rfl⟩
  · intro j n h; obtain ⟨_, rfl⟩ := hd j n h; exact Nat.le_refl _
  · intro j n h; obtain ⟨_, rfl⟩ := hd j n h; exact Nat.le_refl _
end Go.Proofs.YtkaeenafejdkfaaGreatDoor

/- What is spelt of a tree, and what it becomes where the tree grows. -/
namespace Go.Proofs.YtkaeenafejdkfaaGreatDoor

def endL (t : ByteArray) : List UInt8 := 60 :: 47 :: (t.data.toList ++ [62])
def openL (n : Nd) : List UInt8 := 60 :: (n.tag.data.toList ++ (attrsL n.attrs ++ [62]))
def comL (w : ByteArray) : List UInt8 := 60 :: 33 :: 45 :: 45 :: (w.data.toList ++ [45, 45, 62])
def wordsK (ns : List Nd) (k : Int) : List UInt8 := match ns[k.toNat]? with
  | some n => n.words.data.toList
  | none => []
/-- what is spelt of kids, where so many elements are open -/
def spellK (ns : List Nd) : Nat → Nat → List Int → List UInt8
  | 0, _, _ => []
  | f + 1, d, ks => ks.flatMap fun k => match ns[k.toNat]? with
    | none => []
    | some n => if n.kind = 2 then openL n ++ (if rawB n.tag = true then n.kids.flatMap (wordsK ns) ++ endL n.tag else if (!voidB n.tag && decide (d < 40)) = true then spellK ns f (d + 1) n.kids ++ endL n.tag else [])
      else if n.kind = 3 then quoteL 60 n.words.data.toList else if n.kind = 4 then comL n.words else []
def nodeL (ns : List Nd) (f d : Nat) (n : Nd) : List UInt8 :=
  if n.kind = 2 then openL n ++ (if rawB n.tag = true then n.kids.flatMap (wordsK ns) ++ endL n.tag else if (!voidB n.tag && decide (d < 40)) = true then spellK ns f (d + 1) n.kids ++ endL n.tag else [])
  else if n.kind = 3 then quoteL 60 n.words.data.toList else if n.kind = 4 then comL n.words else []
theorem spellK_nil (ns : List Nd) (f d : Nat) : spellK ns f d [] = [] := by cases f <;> rfl
theorem spellK_cons {ns : List Nd} {f d k : Nat} {n : Nd} {ks : List Int} (hk : ns[k]? = some n) : spellK ns (f + 1) d ((k : Int) :: ks) = nodeL ns f d n ++ spellK ns (f + 1) d ks := by
  rw [spellK, List.flatMap_cons, Int.toNat_natCast, hk]
  rfl
theorem spellK_app (ns : List Nd) (f d : Nat) (a b : List Int) : spellK ns f d (a ++ b) = spellK ns f d a ++ spellK ns f d b := by
  cases f with
  | zero => rfl
  | succ f => rw [spellK, List.flatMap_append]; rfl
theorem words_same {ns ns' : List Nd} {ks : List Int} {a b : Nat} (h : Cover ns ks a b) (hs : ∀ j, a ≤ j → j < b → ns'[j]? = ns[j]?) : ks.flatMap (wordsK ns') = ks.flatMap (wordsK ns) := by
  induction h with
  | nil => rfl
  | @cons k n ks m b hk h1 h2 i1 i2 =>
    have l1 := h1.le
    have l2 := h2.le
    rw [List.flatMap_cons, List.flatMap_cons, i2 (fun j q1 q2 => hs j (by omega) q2)]
    congr 1
    unfold wordsK
    rw [Int.toNat_natCast, hs k (Nat.le_refl _) (by omega)]
theorem spell_same {ns ns' : List Nd} {ks : List Int} {a b : Nat} (h : Cover ns ks a b) (hs : ∀ j, a ≤ j → j < b → ns'[j]? = ns[j]?) : ∀ f g d, b - a < f → b - a < g → spellK ns' f d ks = spellK ns g d ks := by
  induction h with
  | nil => intro f g d _ _; rw [spellK_nil, spellK_nil]
  | @cons k n ks m b hk h1 h2 i1 i2 =>
    intro f g d hf hg
    have l1 := h1.le
    have l2 := h2.le
    cases f with
    | zero => omega
    | succ f =>
      cases g with
      | zero => omega
      | succ g =>
        have hk' : ns'[k]? = some n := (hs k (Nat.le_refl _) (by omega)).trans hk
        rw [spellK_cons hk, spellK_cons hk', i2 (fun j q1 q2 => hs j (by omega) q2) (f + 1) (g + 1) d (by omega) (by omega)]
        congr 1
        unfold nodeL
        rw [words_same h1 (fun j q1 q2 => hs j (by omega) (by omega)), i1 (fun j q1 q2 => hs j (by omega) (by omega)) f g (d + 1) (by omega) (by omega)]
/-- the end tags of open elements -/
def endsL (ns : List Nd) (op : List Nat) : List UInt8 := op.flatMap fun k => endL (tagOf ns k)
/-- the open elements may have kids, and none is raw -/
def OpenO (ns : List Nd) : List Nat → Prop
  | [] => True
  | k :: l => voidB (tagOf ns k) = false ∧ l.length < 40 ∧ rawB (tagOf ns k) = false ∧ OpenO ns l
theorem tag_of {ns : List Nd} {k : Nat} {n : Nd} (h : ns[k]? = some n) : tagOf ns k = n.tag := by unfold tagOf; rw [h]
/-- what is spelt ahead of the kids of the innermost open one -/
theorem spell_ctx {ns : List Nd} (h0 : Cov ns 0 ns.length) : ∀ {op : List Nat}, Chain ns op → OpenO ns op → ∃ pre, ∀ (ns' : List Nd) (r m m' : Nd), Cov ns' 0 ns'.length → Chain ns' op → ns.length ≤ ns'.length → ns'[0]? = some r → ns[inn op]? = some m → ns'[inn op]? = some m' → (∀ j, j < inn op → ns'[j]? = ns[j]?) → m'.kind = m.kind → m'.tag = m.tag → m'.attrs = m.attrs →
    spellK ns' (ns'.length + 1) 0 r.kids = pre ++ spellK ns' (ns'.length + 1) op.length m'.kids ++ endsL ns op
  | _, .nil, _ => ⟨[], fun ns' r m m' _ _ _ hr _ hm' _ _ _ _ => by
      obtain rfl := Option.some.inj (hr.symm.trans hm')
      simp [endsL]⟩
  | _, .cons (k := k) (n := n) (m := mm) (l := l) hk h2 hpar hm hl hc, ho => by
    obtain ⟨o1, o2, o3, o4⟩ := ho
    obtain ⟨pre, hpre⟩ := spell_ctx h0 hc o4
    have hlt := chain_lt (.cons hk h2 hpar hm hl hc) h0
    have hl' := hl
    rw [List.getLast?_eq_some_iff] at hl'
    obtain ⟨ks, hks⟩ := hl'
    obtain ⟨mx, e1, e2⟩ := cov_inner hc h0
    obtain rfl := Option.some.inj (e1.symm.trans hm)
    rw [hks] at e2
    obtain ⟨c, nx, q1, q2, q3, _⟩ := e2.last
    obtain rfl : c = k := by omega
    have hkl : c < ns.length := (List.getElem?_eq_some_iff.1 hk).1
    have l3 := q3.le
    refine ⟨pre ++ spellK ns (ns.length + 1) l.length ks ++ openL n, ?_⟩
    intro ns' r m m' hcov hch hlen hr hmn hmn' hsame hkd htg hat
    have hmn2 : ns[c]? = some m := hmn
    have hmn2' : ns'[c]? = some m' := hmn'
    obtain rfl := Option.some.inj (hk.symm.trans hmn2)
    have hq : ns'[inn l]? = some mx := (hsame (inn l) (show inn l < c from hlt)).trans hm
    have hcl : Chain ns' l := by
      cases hch with
      | cons _ _ _ _ _ hc' => exact hc'
    have step := hpre ns' r mx mx hcov hcl hlen hr hm hq (fun j hj => hsame j (show j < c by omega)) rfl rfl rfl
    have hcovk : Cov ns' c ns'.length := cov_inner hch hcov
    obtain ⟨mk, f1, f2⟩ := hcovk
    obtain rfl := Option.some.inj (f1.symm.trans hmn2')
    have l4 := f2.le
    rw [step, hks, spellK_app, spell_same q3 (fun j g1 g2 => hsame j (show j < c from g2)) (ns'.length + 1) (ns.length + 1) l.length (by omega) (by omega), spellK_cons hmn2', spellK_nil, List.append_nil]
    have tg : tagOf ns c = n.tag := tag_of hk
    have hop : openL mk = openL n := by unfold openL; rw [htg, hat]
    have hnode : nodeL ns' ns'.length l.length mk = openL n ++ (spellK ns' (ns'.length + 1) (l.length + 1) mk.kids ++ endL n.tag) := by
      unfold nodeL
      rw [if_pos (hkd.trans h2), hop, htg, ← tg, if_neg (by rw [o3]; simp), if_pos (by rw [o1]; simp [o2])]
      rw [spell_same f2 (fun _ _ _ => rfl) ns'.length (ns'.length + 1) (l.length + 1) (by omega) (by omega)]
    rw [hnode]
    show _ = _ ++ spellK ns' (ns'.length + 1) (l.length + 1) mk.kids ++ endsL ns (c :: l)
    unfold endsL
    rw [List.flatMap_cons, tg]
    simp only [List.append_assoc]
end Go.Proofs.YtkaeenafejdkfaaGreatDoor

/- The program: what lies in a raw element is spelt as it stands. -/
namespace Go.Proofs.YtkaeenafejdkfaaGreatDoor
open Go.RowKit

/-- a row of numbers -/
def IntRow (w : World) (v : Value) (ks : List Int) : Prop :=
  ∃ a c, v = .slice a ks.length c ∧ ∀ (j : Nat) (x : Int), ks[j]? = some x → ∃ (g : Nat) (cur : Array Value) (fr : Nat × Nat), a = some ⟨g, 0, none⟩ ∧ w.heap[g]? = some (.cells cur 3 fr) ∧ cur[j]? = some (Value.int .i64 x)
theorem IntRow.keep {B : Nat} {w w' : World} {v : Value} {ks : List Int} (h : IntRow w v ks) (hk : Spk B w w') : IntRow w' v ks := by
  obtain ⟨a, c, rfl, h⟩ := h
  refine ⟨a, c, rfl, fun j x hj => ?_⟩
  obtain ⟨g, cur, fr, h1, h2, h3⟩ := h j x hj
  exact ⟨g, cur, fr, h1, hk.row g _ _ _ h2 (by decide) (by decide), h3⟩
theorem IntRow.of {w : World} {B : Nat} {v : Value} {ks : List Int} (h : w.ownsRow B 3 1 v ks.length (ks.map intV)) : IntRow w v ks := by
  rcases h.2 with ⟨rfl, h0⟩ | ⟨g, cap, cur, rfl, _, hg, _, _, _, ht⟩
  · have e : ks = [] := List.eq_nil_of_length_eq_zero h0
    subst e
    exact ⟨none, 0, rfl, fun j x hj => by simp at hj⟩
  · refine ⟨_, cap, rfl, fun j x hj => ⟨g, cur, _, rfl, hg, ?_⟩⟩
    have hjl : j < ks.length := by
      rcases Nat.lt_or_ge j ks.length with h | h
      · exact h
      · rw [List.getElem?_eq_none h] at hj; cases hj
    have e := congrArg (fun l => l[j]?) ht
    simp only [List.getElem?_take, Nat.mul_one, if_pos hjl, List.getElem?_map, hj, Array.getElem?_toList] at e
    exact e
theorem IntRow.cell {w : World} {a : Option Addr} {c : Nat} {ks : List Int} (h : IntRow w (.slice a ks.length c) ks) {j : Nat} {x : Int} (hj : ks[j]? = some x) : ∃ g, a = some ⟨g, 0, none⟩ ∧ w.cell? ⟨g, j, none⟩ = some (.int .i64 x) := by
  obtain ⟨a', c', e, h⟩ := h
  injection e with e1 _ e2
  subst e1
  obtain ⟨g, cur, fr, rfl, h2, h3⟩ := h j x hj
  exact ⟨g, rfl, by rw [Lib.cell_of_heap h2]; exact h3⟩

/-- the tree lies below, and a speller beside it -/
structure WAt (w0 : World) (M : Nat → Lab) (tb : Nat) (nv uv : Value) (ps : List Pn) (us : List Value) (b : Nat) (l : List UInt8) (op : Int) (w : World) : Prop where
  tree : Lies w0 M tb nv uv ps us
  sp : Sp w0.heap.size b (Lib.byteCells l) (.pointer (some ⟨tb, 0, none⟩)) op w
  kept : Spk w0.heap.size w0 w
theorem WAt.lies {w0 : World} {M : Nat → Lab} {tb : Nat} {nv uv : Value} {ps : List Pn} {us : List Value} {b : Nat} {l : List UInt8} {op : Int} {w : World} (h : WAt w0 M tb nv uv ps us b l op w) : Lies w M tb nv uv ps us := h.tree.below h.kept.below
theorem Sp.block {B b : Nat} {bs : List Value} {tv : Value} {op : Int} {w : World} (h : Sp B b bs tv op w) : ∃ p v, w.heap[b]? = some (.cells #[p, v, tv, .int .i64 op] 132 (0, 0)) ∧ B ≤ b := by
  rcases h with ⟨h0, v, h1, _⟩ | ⟨h0, v, h1, _⟩
  · exact ⟨_, v, h1, h0⟩
  · exact ⟨_, v, h1, h0⟩
theorem SpAt.below {B b : Nat} {p : Value} {bs : List Value} {tv : Value} {op : Int} {w w' : World} (h : SpAt B b p bs tv op w) (hb : Below w.heap.size w w') : SpAt B b p bs tv op w' := by
  have hlt := h.lt
  obtain ⟨hB, v, h1, hown, hne⟩ := h
  refine ⟨hB, v, (hb.block b hlt).trans h1, ?_, hne⟩
  exact hown.kept (row := none) ⟨hb.os, hb.tape, hb.output, hb.size, fun k hk _ => hb.block k hk⟩ (by cases hv : v.ownBlock <;> simp)
theorem Sp.below {B b : Nat} {bs : List Value} {tv : Value} {op : Int} {w w' : World} (h : Sp B b bs tv op w) (hb : Below w.heap.size w w') : Sp B b bs tv op w' := h.elim (fun x => .inl (x.below hb)) (fun x => .inr (x.below hb))
theorem WAt.below {w0 : World} {M : Nat → Lab} {tb : Nat} {nv uv : Value} {ps : List Pn} {us : List Value} {b : Nat} {l : List UInt8} {op : Int} {w w' : World} (h : WAt w0 M tb nv uv ps us b l op w) (hb : Below w.heap.size w w') : WAt w0 M tb nv uv ps us b l op w' :=
  ⟨h.tree, h.sp.below hb, h.kept.trans (Spk.of h.kept.below.size hb)⟩

theorem words_take {ns : List Nd} {ks : List Int} {k : Nat} {x : Int} {n : Nd} (hx : ks[k]? = some x) (hn : ns[x.toNat]? = some n) : (ks.take (k + 1)).flatMap (wordsK ns) = (ks.take k).flatMap (wordsK ns) ++ n.words.data.toList := by
  rw [List.take_add_one, hx]
  simp [List.flatMap_append, wordsK, hn]
theorem flat_pre {α : Type} (f : α → List UInt8) (l : List α) (k : Nat) : ((l.take k).flatMap f).length ≤ (l.flatMap f).length := by
  conv => rhs; rw [← List.take_append_drop k l, List.flatMap_append, List.length_append]
  omega

set_option maxHeartbeats 4000000 in
set_option maxRecDepth 100000 in
theorem rawWords_any {w0 : World} {M : Nat → Lab} {tb : Nat} {nv uv : Value} {ps : List Pn} {us : List Value} {b : Nat} {l : List UInt8} {op : Int} {w : World} (h : WAt w0 M tb nv uv ps us b l op w) {i : Nat} {p : Pn} (hp : ps[i]? = some p)
    (hkl : p.n.kids.length ≤ 100000) (hks : ∀ x ∈ p.n.kids, ∃ j : Nat, ∃ q, x = j ∧ ps[j]? = some q) (hlen : l.length + (p.n.kids.flatMap (wordsK (nodesOf ps))).length ≤ 20000) :
    Calls Tryz.prog 146 #[.pointer (some ⟨b, 0, none⟩), .int .i64 i] w fun e w' => e = .returned (.tuple #[]) ∧ WAt w0 M tb nv uv ps us b (l ++ p.n.kids.flatMap (wordsK (nodesOf ps))) op w' ∧ Spk w0.heap.size w w' := by
  obtain ⟨p0, v0, hb0, hB0⟩ := h.sp.block
  have c2 : w.cell? ⟨b, 2, none⟩ = some (.pointer (some ⟨tb, 0, none⟩)) := by rw [Lib.cell_of_heap hb0]; rfl
  have H := hid h
  clear h hb0
  go_enter Tryz.func146, Tryz.ntmps146
  go_wp2_with fail
  refine (kids_any H.out.lies hp (by omega)).mono ?_
  rintro e w1 ⟨v1, rfl, ho, hb1⟩
  have hr1 := IntRow.of ho
  obtain ⟨a1, k1, rfl, _⟩ := id hr1
  have H1 := hid (H.out.below hb1)
  have HK1 := hid (Spk.of H.out.kept.below.size hb1)
  have HR1 := hid hr1
  clear ho hb1 hr1
  go_wp2_with fail
  go_loopw [13] (fun v wr => ∃ k : Nat, k ≤ p.n.kids.length ∧ v = .int .i64 k ∧ Hid (WAt w0 M tb nv uv ps us b (l ++ (p.n.kids.take k).flatMap (wordsK (nodesOf ps))) op wr ∧ Spk w0.heap.size w1 wr)) (fun v _ => p.n.kids.length - (intOf v).toNat)
  case atStart => exact ⟨0, by omega, rfl, hid ⟨by simpa using H1.out, Spk.refl _ _⟩⟩
  case round =>
    obtain ⟨k, hk, rfl, HR⟩ := hrel
    by_cases hlt : k < p.n.kids.length
    · obtain ⟨x, hx⟩ : ∃ x, p.n.kids[k]? = some x := ⟨_, List.getElem?_eq_getElem hlt⟩
      obtain ⟨j, q, rfl, hq⟩ := hks x (List.mem_of_getElem? hx)
      have HW := hid (words_take (ns := nodesOf ps) (n := q.n) hx (by simpa using nodes_get hq))
      have HP := hid (flat_pre (wordsK (nodesOf ps)) p.n.kids (k + 1))
      obtain ⟨g, rfl, hcell⟩ := (HR1.out.keep HR.out.2).cell hx
      obtain ⟨p2, v2, hb2, _⟩ := HR.out.1.sp.block
      have d2 : wr.cell? ⟨b, 2, none⟩ = some (.pointer (some ⟨tb, 0, none⟩)) := by rw [Lib.cell_of_heap hb2]; rfl
      clear hx hb2 c2
      go_wp2_with fail
      refine (words_any HR.out.1.lies hq).mono ?_
      rintro e w2 ⟨rfl, rfl⟩
      go_wp2_with fail
      refine (spPut_new [q.n.words] HR.out.1.sp (Spk.refl _ _) HR.out.1.kept.below.size ?_ (by simp) (.inl rfl)).mono ?_
      · have h1 := HP.out
        rw [HW.out, List.length_append] at h1
        simp only [catN, Lib.byteCells_length, List.length_append]
        have : q.n.words.size = q.n.words.data.toList.length := rfl
        omega
      rintro e w4 ⟨rfl, g4⟩
      have H4 : Hid (WAt w0 M tb nv uv ps us b (l ++ (p.n.kids.take (k + 1)).flatMap (wordsK (nodesOf ps))) op w4 ∧ Spk w0.heap.size w1 w4) := by
        refine ⟨⟨H1.out.tree, ?_, HR.out.1.kept.trans g4.out.2⟩, HR.out.2.trans g4.out.2⟩
        have e := g4.out.1
        rw [catV_one, ← Lib.byteCells_append, List.append_assoc, ← HW.out] at e
        exact e
      clear g4 HR d2 hcell
      go_wp2_with fail
      refine ⟨⟨k + 1, by omega, by go_num, H4⟩, ?_⟩
      simp [intOf]; omega
    · have hkk : k = p.n.kids.length := by omega
      subst hkk
      go_wp2_with fail
      go_end0
      have := HR.out
      rw [List.take_length] at this
      exact ⟨rfl, this.1, HK1.out.trans this.2⟩
end Go.Proofs.YtkaeenafejdkfaaGreatDoor
