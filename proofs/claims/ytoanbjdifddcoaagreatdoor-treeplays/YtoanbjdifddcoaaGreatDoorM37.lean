/- The document's answer: an attribute goes. -/
import Derived.Test.YtoanbjdifddcoaaGreatDoorM29
import Derived.Test.YtoanbjdifddcoaaGreatDoorM09
import Derived.Test.YtoanbjdifddcoaaGreatDoorM02
namespace Go.Proofs.YtoanbjdifddcoaaGreatDoor
open Go.RowKit

section
variable {P : Program}
theorem step_app_own (w : World) {ops : Array Oper} {o : Oper} {a : Act} {K : Act → World → Prop} {Q : Exit → Act → World → Prop} {E : Prop} (hgd : o.guard = none) (s x : Operand) (t : TypeId)
    (ho : o.op = .call { callee := .builtin .append, args := #[s, x], argTypes := #[t, t] })
    (base : Nat) (e : TypeId) (i : TypeInfo) (z : Value) (size bytes : Nat) (ht : P.underlying t = some (.slice e)) (hi : P.info? e = some i) (hz : i.zero = some z)
    (hsize : i.size = size) (hby : i.bytes = bytes) (hzs : z.cells.size = size) (hsz : 0 < size)
    (v : Value) (n : Nat) (xs : List Value) (hs : a.eval s = v) (hown : w.ownsRow base e size v n xs)
    (xv : Value) (m : Nat) (news : List Value) (hx : a.eval x = xv) (hsrc : SrcOf w size xv m news)
    (h63 : n + m ≤ maxLen) (hbytes : (n + m) * bytes ≤ 140737488355328) (hbase : base ≤ w.heap.size)
    (h : ∀ v' w', w'.ownsRow base e size v' (n + m) (xs ++ news) → w.grownBy w' v.ownBlock → (v'.ownBlock = v.ownBlock ∨ v'.ownBlock = some w.heap.size) → K (a.put o.dst v') w') :
    if Region.wanted o (yielded ops a.tmps) = true then Oper.wp P o a w K Q else E := by
  have hw : Region.wanted o (yielded ops a.tmps) = true := by simp [Region.wanted, hgd]
  rw [if_pos hw]
  exact wp_app_own w s x t ho base e i z size bytes ht hi hz hsize hby hzs hsz v n xs hs hown xv m news hx hsrc h63 hbytes hbase h
end

theorem srcTake {w : World} {size g n cap c cap' : Nat} {xs : List Value} (h : SrcOf w size (.slice (some ⟨g, 0, none⟩) n cap) n xs) (hc : c ≤ n) : SrcOf w size (.slice (some ⟨g, 0, none⟩) c cap') c (xs.take (c * size)) := by
  obtain ⟨h1, h2, a, c', h3, h4⟩ := h
  cases h3
  refine ⟨?_, fun u hu => h2 u (List.mem_of_mem_take hu), _, _, rfl, .inr ⟨_, rfl, ?_⟩⟩
  · rw [List.length_take, h1]
    exact Nat.min_eq_left (Nat.mul_le_mul_right _ hc)
  · rcases h4 with ⟨h4, _⟩ | ⟨ad, h4, h5⟩
    · cases h4
    · cases h4
      intro j u hu
      refine h5 j u ?_
      rw [List.getElem?_take] at hu
      split at hu
      · exact hu
      · cases hu
theorem srcDrop {w : World} {size g n cap c cap' : Nat} {xs : List Value} (h : SrcOf w size (.slice (some ⟨g, 0, none⟩) n cap) n xs) : SrcOf w size (.slice (some ⟨g, c * size, none⟩) (n - c) cap') (n - c) (xs.drop (c * size)) := by
  obtain ⟨h1, h2, a, c', h3, h4⟩ := h
  cases h3
  refine ⟨?_, fun u hu => h2 u (List.mem_of_mem_drop hu), _, _, rfl, .inr ⟨_, rfl, ?_⟩⟩
  · rw [List.length_drop, h1, Nat.sub_mul]
  · rcases h4 with ⟨h4, _⟩ | ⟨ad, h4, h5⟩
    · cases h4
    · cases h4
      intro j u hu
      rw [List.getElem?_drop] at hu
      have := h5 (c * size + j) u hu
      rw [add0] at this
      rw [← this]
      congr 1
      unfold Addr.add
      simp
theorem srcZero (w : World) (size : Nat) (a : Option Addr) (c : Nat) : SrcOf w size (.slice a 0 c) 0 [] := by
  refine ⟨by simp, by simp, a, c, rfl, ?_⟩
  cases a with
  | none => exact .inl ⟨rfl, rfl⟩
  | some ad => exact .inr ⟨ad, rfl, by simp⟩
theorem srcDropI {w : World} {size g n cap c cap' : Nat} {xs : List Value} (h : SrcOf w size (.slice (some ⟨g, 0, none⟩) n cap) n xs) (hc : c ≤ n) (hcap : n ≤ cap) : SrcOf w size (.slice (if cap = c then some ⟨g, 0, none⟩ else some ⟨g, c * size, none⟩) (n - c) cap') (n - c) (xs.drop (c * size)) := by
  by_cases e : cap = c
  · rw [if_pos e]
    have e1 : n - c = 0 := by omega
    have e0 : n = c := by omega
    have e2 : xs.drop (c * size) = [] := List.drop_eq_nil_of_le (by rw [h.1, e0]; exact Nat.le_refl _)
    rw [e1, e2]
    exact srcZero _ _ _ _
  · rw [if_neg e]
    exact srcDrop h

theorem attrCells_takeR : ∀ (l : List (ByteArray × ByteArray)) (k : Nat), attrCells (l.take k) = (attrCells l).take (k * 2)
  | [], k => by simp [attrCells]
  | x :: l, 0 => by simp [attrCells]
  | x :: l, k + 1 => by
    have := attrCells_takeR l k
    simp only [attrCells, List.take_succ_cons, List.flatMap_cons] at this ⊢
    rw [this, show (k + 1) * 2 = k * 2 + 1 + 1 by omega]
    rfl
theorem attrCells_dropR : ∀ (l : List (ByteArray × ByteArray)) (k : Nat), attrCells (l.drop k) = (attrCells l).drop (k * 2)
  | [], k => by simp [attrCells]
  | x :: l, 0 => by simp [attrCells]
  | x :: l, k + 1 => by
    have := attrCells_dropR l k
    simp only [attrCells, List.drop_succ_cons, List.flatMap_cons] at this ⊢
    rw [this, show (k + 1) * 2 = k * 2 + 1 + 1 by omega]
    rfl

/-- a node's attributes are another list that was just made, or none -/
theorem RLies.ownAttrs0 {w0 w : World} {M0 M : Nat → Lab} {tb : Nat} {nv uv : Value} {ps : List Pn} {us : List Value} (h : RLies w M tb nv uv ps us) (m : Moved w0 M0 w M) {nb k c0 : Nat} (hv : nv = .slice (some ⟨nb, 0, none⟩) k c0) {i : Nat} {p : Pn} (hp : ps[i]? = some p) {ks : List (ByteArray × ByteArray)} {v : Value} {B : Nat}
    (ho : w.ownsRow B 79 2 v ks.length (attrCells ks)) (hB : w0.heap.size ≤ B) (hM : ∀ g, v.ownBlock = some g → M g = .other) :
    ∃ M', RLies (w.setCell ⟨nb, i * 6 + 3, none⟩ v) M' tb nv uv (ps.set i ⟨{ p.n with attrs := ks }, v, p.kv⟩) us ∧ Moved w0 M0 (w.setCell ⟨nb, i * 6 + 3, none⟩ v) M' := by
  rcases id ho.2 with ⟨rfl, e⟩ | ⟨g, cap, cur, rfl, hb, hg, _⟩
  · have hks : ks = [] := List.eq_nil_of_length_eq_zero e
    subst hks
    obtain ⟨q1, q2, _⟩ := h.setAttrs hv hp (Step.refl h.fresh (.attrs i)) (av' := .slice none 0 0) (at' := []) (Row.nil _ _ _ _ _)
    exact ⟨M, q1, m.trans q2⟩
  · have hgM : M g = .other := hM g rfl
    have hr := h.relabel hgM (lt_of_heap hg) (.attrs i)
    have hrow : Row w (fun b => if b = g then .attrs i else M b) (.attrs i) 79 2 (.slice (some ⟨g, 0, none⟩) ks.length cap) ks.length (attrCells ks) := own_row ho (fun g' e => by cases e; simp)
    obtain ⟨q1, q2, _⟩ := hr.setAttrs hv hp (Step.refl hr.fresh (.attrs i)) hrow
    have mr : Moved w0 M0 w (fun b => if b = g then .attrs i else M b) := ⟨m.os, m.tape, m.output, m.size, fun b hb' => by
      have : b ≠ g := by omega
      simp only [if_neg this]
      exact m.lab b hb', m.far⟩
    exact ⟨_, q1, mr.trans q2⟩

set_option maxHeartbeats 2000000 in
set_option maxRecDepth 100000 in
theorem rset_none {w : World} {M : Nat → Lab} {tb : Nat} {nv uv : Value} {ps : List Pn} {us : List Value} (h : RLies w M tb nv uv ps us) {a : Int} (hb : hasB ps.length a = false) (name value : ByteArray) (drop : Bool) :
    Calls Tryz.prog 31 #[.pointer (some ⟨tb, 0, none⟩), .int .i64 a, .string name, .string value, .bool drop] w fun e w' => e = .returned (.int .i64 4) ∧ w' = w := by
  have H : Hid (RLies w M tb nv uv ps us) := h
  clear h
  go_enter Tryz.func31, Tryz.ntmps31
  go_wp2_with (go_at_call 43; refine (rhas_any H.out _).mono ?_; rintro e w' ⟨rfl, rfl⟩; rw [hb])
  go_ret
  exact ⟨rfl, rfl⟩

/-- behind a Set that drops an attribute -/
def DropPost (w : World) (M : Nat → Lab) (tb : Nat) (ps : List Pn) (us : List Value) (i : Nat) (n : Nd) (name : ByteArray) (e : Ending) (w' : World) : Prop :=
      (e = .returned (.int .i64 5) ∧ n.kind ≠ 2 ∧ w' = w) ∨ (e = .returned (.int .i64 3) ∧ n.kind = 2 ∧ findA n.attrs name = none ∧ w' = w) ∨
      (e = .returned (.int .i64 0) ∧ n.kind = 2 ∧ ∃ k, findA n.attrs name = some k ∧ RDone w M tb us (nodesOf ps) ((nodesOf ps).set i { n with attrs := n.attrs.eraseIdx k }) w')

set_option maxHeartbeats 8000000 in
set_option maxRecDepth 100000 in
theorem rdrop_any {w : World} {M : Nat → Lab} {tb : Nat} {nv uv : Value} {ps : List Pn} {us : List Value} (h : RLies w M tb nv uv ps us) (hs : Small ps) (hn : ps.length ≤ 1000000) (hu : us.length ≤ 1000000000) {i : Nat} {p : Pn} (hp : ps[i]? = some p) (ha : p.n.attrs.length ≤ 1000000000) (name value : ByteArray) :
    Calls Tryz.prog 31 #[.pointer (some ⟨tb, 0, none⟩), .int .i64 i, .string name, .string value, .bool true] w (DropPost w M tb ps us i p.n name) := by
  obtain ⟨i0, hi, hz0, hz1, hz2⟩ := info_parts Tryz.infoAttr
  have hb : hasB ps.length i = true := hasB_of hp
  obtain ⟨nb, nc, rfl, hc, hm, hnM, hnl, hil⟩ := h.form hp
  obtain ⟨aa, ac, hav, hac1, hac2⟩ := (h.node i p hp).1.shape
  have hlt : tb < w.heap.size := lt_of_heap h.head
  have c0 := h.cell0
  have k0 := (h.cellN rfl (f := 0) hp (by omega) rfl).1
  rw [Nat.add_zero] at k0
  have k3 := (h.cellN rfl (f := 3) hp (by omega) rfl).1
  rw [hav] at k3
  have HRow : Hid (Row w M (.attrs i) 79 2 (.slice aa p.n.attrs.length ac) p.n.attrs.length (attrCells p.n.attrs)) := hav ▸ (h.node i p hp).1
  have H : Hid (RLies w M tb (.slice (some ⟨nb, 0, none⟩) ps.length nc) uv ps us) := h
  have HS : Hid (Small ps) := hs
  have HP : Hid (ps[i]? = some p) := hp
  have i1 : (0 : Int) ≤ (i : Int) := by omega
  have i2 : (i : Int) < (ps.length : Int) := by omega
  unfold maxLen at hm hac2
  clear h hs hp
  by_cases q1 : p.n.kind = 2
  case neg =>
    have q1b : (p.n.kind != 2) = true := by simp [q1]
    go_enter Tryz.func31, Tryz.ntmps31
    go_wp2_with (go_at_call 43; refine (rhas_any H.out _).mono ?_; rintro e w' ⟨rfl, rfl⟩; rw [hb])
    go_ret
    exact .inl ⟨rfl, q1, rfl⟩
  have hfc : findA p.n.attrs name = none ∨ ∃ k, findA p.n.attrs name = some k := by cases findA p.n.attrs name <;> simp
  rcases hfc with hf | ⟨k, hf⟩
  · have HFD : Hid (findA p.n.attrs name = none) := hf
    have hfi : findI p.n.attrs name = -1 := by simp only [findI, hf]
    clear hf
    go_enter Tryz.func31, Tryz.ntmps31
    go_wp2_with (first
      | (go_at_call 43; refine (rhas_any H.out _).mono ?_; rintro e w' ⟨rfl, rfl⟩; rw [hb])
      | (go_at_call 44; refine (at_any HRow.out name).mono ?_; rintro e w' ⟨rfl, rfl⟩; rw [hfi]))
    go_ret
    exact .inr (.inl ⟨rfl, q1, HFD.out, rfl⟩)
  · have HFD : Hid (findA p.n.attrs name = some k) := hf
    have hfi : findI p.n.attrs name = k := by simp only [findI, hf]
    have hkl : k < p.n.attrs.length := by
      unfold findA at hf
      rw [List.findIdx?_eq_some_iff_getElem] at hf
      exact hf.1
    have i3 : (0 : Int) ≤ (k : Int) := by omega
    have i4 : (k : Int) < (p.n.attrs.length : Int) := by omega
    have i5 : (k : Int) + 1 ≤ (p.n.attrs.length : Int) := by omega
    have i6 : (0 : Int) ≤ (k : Int) + 1 := by omega
    have hwr : IntKind.i64.wrap ((k : Int) + 1) = (k : Int) + 1 := by
      rw [IntKind.wrap_i64]
      omega
    obtain ⟨ag, ac', hav', _, _, hagM, hagl⟩ := HRow.out.form (by omega)
    cases hav'
    clear hf
    go_enter Tryz.func31, Tryz.ntmps31
    go_wp2_with (first
      | (go_at_call 43; refine (rhas_any H.out _).mono ?_; rintro e w' ⟨rfl, rfl⟩; rw [hb])
      | (go_at_call 44; refine (at_any HRow.out name).mono ?_; rintro e w' ⟨rfl, rfl⟩; rw [hfi])
      | (go_at_call 52; refine (rkeepE_any H.out HS.out hn hu).mono ?_; rintro e w1 ⟨rfl, M1, uv1, v1, l1, m1, kk⟩
         have d0 := l1.cell0
         have d3 := (l1.cellN rfl (f := 3) HP.out (by omega) rfl).1
         rw [hav] at d3
         have hl1 : tb < w1.heap.size := lt_of_heap l1.head
         have hl2 : nb < w1.heap.size := World.block_lt_of_cell? w1 _ d3
         have H1 : Hid (RLies w1 M1 tb (.slice (some ⟨nb, 0, none⟩) ps.length nc) uv1 ps (us ++ [v1]) ∧ Moved w' M w1 M1 ∧ CopyOf w' w1 M1 v1 (nodesOf ps)) := ⟨l1, m1, kk⟩
         have HSrc : Hid (SrcOf w1 2 (.slice (some ⟨ag, 0, none⟩) p.n.attrs.length ac) p.n.attrs.length (attrCells p.n.attrs)) := (hav ▸ (l1.node i p HP.out).1).src (one_attr _)
         clear l1 m1 kk)
      | (at_builtin; refine wpList_app_own _ (by rfl) _ _ 37 (by rfl) w1.heap.size 79 i0 _ 2 32 Tryz.underlying37 hi hz0 hz1 hz2 rfl (by decide) (.slice none 0 0) 0 [] (by rfl) (World.ownsRow_nil _ _ _ _) _ k ((attrCells p.n.attrs).take (k * 2)) (by rfl) (by simp [Act.eval]; exact srcTake HSrc.out (by omega)) (by unfold maxLen; omega) (by omega) (Nat.le_refl _) ?_
         intro u4 x4 hu4 hg4 _
         rw [Nat.zero_add, List.nil_append] at hu4
         have HV4 : Hid (x4.ownsRow w1.heap.size 79 2 u4 k ((attrCells p.n.attrs).take (k * 2)) ∧ Below w1.heap.size w1 x4) := ⟨hu4, below_grown hg4⟩
         have hx4 : w1.heap.size ≤ x4.heap.size := hg4.size
         have l4 := H1.out.1.below (below_grown hg4)
         have z0 := l4.cell0
         have z3 := (l4.cellN rfl (f := 3) HP.out (by omega) rfl).1
         rw [hav] at z3
         have z3f := (l4.cellN rfl (f := 3) HP.out (by omega) rfl).2
         obtain ⟨a4, e4, hv4⟩ := own_shape hu4
         subst hv4
         clear hu4 hg4 l4))
    have eL : (p.n.attrs.eraseIdx k).length = k + (p.n.attrs.length - (k + 1)) := by rw [List.length_eraseIdx, if_pos hkl]; omega
    have eA : attrCells (p.n.attrs.eraseIdx k) = (attrCells p.n.attrs).take (k * 2) ++ (attrCells p.n.attrs).drop ((k + 1) * 2) := by rw [List.eraseIdx_eq_take_drop_succ, attrCells_append, attrCells_takeR, attrCells_dropR]
    have HE : Hid ((p.n.attrs.eraseIdx k).length = k + (p.n.attrs.length - (k + 1)) ∧ attrCells (p.n.attrs.eraseIdx k) = (attrCells p.n.attrs).take (k * 2) ++ (attrCells p.n.attrs).drop ((k + 1) * 2)) := ⟨eL, eA⟩
    clear eL eA
    go_region_law ((refine step_app_own _ (by rfl) (.tmp 61) (.tmp 72) 37 (by rfl) w1.heap.size 79 i0 _ 2 32 Tryz.underlying37 hi hz0 hz1 hz2 rfl (by decide) (.slice a4 k e4) k ((attrCells p.n.attrs).take (k * 2)) (by first | rfl | (simp [Act.eval]; done) | (simp [Act.eval, Act.put]; done)) (own_same HV4.out.1 (fun _ _ => rfl)) _ (p.n.attrs.length - (k + 1)) ((attrCells p.n.attrs).drop ((k + 1) * 2)) (by rfl) (by simp [Act.eval]; exact srcDropI ((HSrc.out.below HV4.out.2).keep (fun _ _ h => h)) (by omega) (by omega)) (by unfold maxLen; omega) (by omega) hx4 ?_
                    intro u5 x5 hu5 hg5 _
                    have hb5 : Below w1.heap.size w1 x5 := HV4.out.2.drew.grown hg5 hx4 (fun b hb => (HV4.out.1.lt b hb).1)
                    obtain ⟨a5, e5, hv5⟩ := own_shape hu5
                    subst hv5
                    rw [← HE.out.1, ← HE.out.2] at hu5
                    have l5 := H1.out.1.below hb5
                    have q0 := l5.cell0
                    obtain ⟨q3, q3f⟩ := l5.cellN rfl (f := 3) HP.out (by omega) rfl
                    rw [hav] at q3
                    have HQ : Hid _ := l5.ownAttrs0 ((Moved.refl w1 M1).below hb5) rfl HP.out hu5 (Nat.le_refl _) (fun g hg => H1.out.1.fresh g (hu5.lt g hg).1)
                    clear hu5 hg5 hb5 l5))
    all_goals go_wp2
    all_goals go_ret
    all_goals
      obtain ⟨M5, r1, r2⟩ := HQ.out
      rw [HE.out.1] at r1 r2
      exact .inr (.inr ⟨rfl, q1, k, HFD.out, M5, _, uv1, _, v1, r1, by simp [nodesOf, List.map_set], H1.out.2.1.trans r2, CopyOf.moved H1.out.2.2 r2⟩)
end Go.Proofs.YtoanbjdifddcoaaGreatDoor

/- The document's answer: another text; back to what was. -/
namespace Go.Proofs.YtoanbjdifddcoaaGreatDoor
open Go.RowKit

set_option maxHeartbeats 4000000 in
set_option maxRecDepth 100000 in
theorem rsay_good {w : World} {M : Nat → Lab} {tb : Nat} {nv uv : Value} {ps : List Pn} {us : List Value} (h : RLies w M tb nv uv ps us) (hs : Small ps) (hn : ps.length ≤ 1000000) (hu : us.length ≤ 1000000000) {i : Nat} {p : Pn} (hp : ps[i]? = some p) (hk : p.n.kind = 3 ∨ p.n.kind = 4) (s : ByteArray) (hsz : s.size ≤ 20000) :
    Calls Tryz.prog 34 #[.pointer (some ⟨tb, 0, none⟩), .int .i64 i, .string s] w fun e w' => e = .returned (.int .i64 0) ∧ RDone w M tb us (nodesOf ps) ((nodesOf ps).set i { p.n with words := s }) w' := by
  have hb : hasB ps.length i = true := hasB_of hp
  obtain ⟨nb, nc, rfl, hc, hm, hnM, hnl, hil⟩ := h.form hp
  have hlt : tb < w.heap.size := lt_of_heap h.head
  have c0 := h.cell0
  have k0 := (h.cellN rfl (f := 0) hp (by omega) rfl).1
  rw [Nat.add_zero] at k0
  have H : Hid (RLies w M tb (.slice (some ⟨nb, 0, none⟩) ps.length nc) uv ps us) := h
  have HS : Hid (Small ps) := hs
  have HP : Hid (ps[i]? = some p) := hp
  have i1 : (0 : Int) ≤ (i : Int) := by omega
  have i2 : (i : Int) < (ps.length : Int) := by omega
  unfold maxLen at hm
  clear h hs hp
  rcases hk with hk | hk
  all_goals
    rw [hk] at k0
    clear hk
    go_enter Tryz.func34, Tryz.ntmps34
    go_wp2_with (first
      | (go_at_call 43; refine (rhas_any H.out _).mono ?_; rintro e w' ⟨rfl, rfl⟩; rw [hb])
      | (go_at_call 52; refine (rkeepE_any H.out HS.out hn hu).mono ?_; rintro e w1 ⟨rfl, M1, uv1, v1, l1, m1, kk⟩
         have d0 := l1.cell0
         obtain ⟨cx, cxf⟩ := l1.cellN rfl (f := 2) HP.out (by omega) rfl
         have HQ : Hid _ := l1.setNode rfl (p' := ⟨{ p.n with words := s }, p.av, p.kv⟩) (c := .string s) HP.out (f := 2) (by omega) rfl (l1.node i p HP.out).1 (l1.node i p HP.out).2
         have HM : Hid _ := And.intro m1 kk
         clear l1 m1 kk))
    go_ret
    have mv := HQ.out.2.moved (by intro e; cases e)
    exact ⟨rfl, M1, _, uv1, _, v1, HQ.out.1, by simp [nodesOf, List.map_set], HM.out.1.trans mv, CopyOf.moved HM.out.2 mv⟩

set_option maxHeartbeats 4000000 in
set_option maxRecDepth 100000 in
theorem rsay_none {w : World} {M : Nat → Lab} {tb : Nat} {nv uv : Value} {ps : List Pn} {us : List Value} (h : RLies w M tb nv uv ps us) {a : Int} (hb : hasB ps.length a = false) (s : ByteArray) :
    Calls Tryz.prog 34 #[.pointer (some ⟨tb, 0, none⟩), .int .i64 a, .string s] w fun e w' => e = .returned (.int .i64 4) ∧ w' = w := by
  have H : Hid (RLies w M tb nv uv ps us) := h
  clear h
  go_enter Tryz.func34, Tryz.ntmps34
  go_wp2_with (go_at_call 43; refine (rhas_any H.out _).mono ?_; rintro e w' ⟨rfl, rfl⟩; rw [hb])
  go_ret
  exact ⟨rfl, rfl⟩
set_option maxHeartbeats 4000000 in
set_option maxRecDepth 100000 in
theorem rsay_bad {w : World} {M : Nat → Lab} {tb : Nat} {nv uv : Value} {ps : List Pn} {us : List Value} (h : RLies w M tb nv uv ps us) {i : Nat} {p : Pn} (hp : ps[i]? = some p) (s : ByteArray) (hk : ¬ (p.n.kind = 3 ∨ p.n.kind = 4)) :
    Calls Tryz.prog 34 #[.pointer (some ⟨tb, 0, none⟩), .int .i64 i, .string s] w fun e w' => e = .returned (.int .i64 5) ∧ w' = w := by
  have hb : hasB ps.length i = true := hasB_of hp
  obtain ⟨nb, nc, rfl, hc, hm, hnM, hnl, hil⟩ := h.form hp
  have c0 := h.cell0
  have k0 := (h.cellN rfl (f := 0) hp (by omega) rfl).1
  rw [Nat.add_zero] at k0
  have H : Hid (RLies w M tb (.slice (some ⟨nb, 0, none⟩) ps.length nc) uv ps us) := h
  have i1 : (0 : Int) ≤ (i : Int) := by omega
  have i2 : (i : Int) < (ps.length : Int) := by omega
  have q3 : (p.n.kind != 3) = true := by simp; intro e; exact hk (.inl e)
  have q4 : (p.n.kind != 4) = true := by simp; intro e; exact hk (.inr e)
  unfold maxLen at hm
  clear h hp hk
  go_enter Tryz.func34, Tryz.ntmps34
  go_wp2_with (go_at_call 43; refine (rhas_any H.out _).mono ?_; rintro e w' ⟨rfl, rfl⟩; rw [hb])
  go_ret
  exact ⟨rfl, rfl⟩
set_option maxHeartbeats 4000000 in
set_option maxRecDepth 100000 in
theorem rsay_long {w : World} {M : Nat → Lab} {tb : Nat} {nv uv : Value} {ps : List Pn} {us : List Value} (h : RLies w M tb nv uv ps us) {i : Nat} {p : Pn} (hp : ps[i]? = some p) (s : ByteArray) (hk : p.n.kind = 3 ∨ p.n.kind = 4) (hsz : 20000 < s.size) (hs : s.size ≤ 9223372036854775807) :
    Calls Tryz.prog 34 #[.pointer (some ⟨tb, 0, none⟩), .int .i64 i, .string s] w fun e w' => e = .returned (.int .i64 2) ∧ w' = w := by
  have hb : hasB ps.length i = true := hasB_of hp
  obtain ⟨nb, nc, rfl, hc, hm, hnM, hnl, hil⟩ := h.form hp
  have c0 := h.cell0
  have k0 := (h.cellN rfl (f := 0) hp (by omega) rfl).1
  rw [Nat.add_zero] at k0
  have H : Hid (RLies w M tb (.slice (some ⟨nb, 0, none⟩) ps.length nc) uv ps us) := h
  have i1 : (0 : Int) ≤ (i : Int) := by omega
  have i2 : (i : Int) < (ps.length : Int) := by omega
  unfold maxLen at hm
  clear h hp
  rcases hk with hk | hk
  all_goals
    rw [hk] at k0
    clear hk
    go_enter Tryz.func34, Tryz.ntmps34
    go_wp2_with (go_at_call 43; refine (rhas_any H.out _).mono ?_; rintro e w' ⟨rfl, rfl⟩; rw [hb])
    go_ret
    exact ⟨rfl, rfl⟩
end Go.Proofs.YtoanbjdifddcoaaGreatDoor
