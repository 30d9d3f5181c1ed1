/- The document's answer: which error, where a node cannot be made. -/
import Derived.Test.YtkaeenafejdkfaaGreatDoorM30
import Derived.Test.YtkaeenafejdkfaaGreatDoorM31
import Derived.Test.YtkaeenafejdkfaaGreatDoorM23
import Derived.StillTailTactics
import Derived.BigQuiet
import Derived.Test.YtkaeenafejdkfaaGreatDoorM24
namespace Go.Proofs.YtkaeenafejdkfaaGreatDoor
open Go.RowKit

set_option maxHeartbeats 4000000 in
set_option maxRecDepth 100000 in
theorem rmake_bound {EX : Ext} {w : World} {M : Nat → Lab} {tb : Nat} {nv uv : Value} {ps : List Pn} {us : List Value} (h : RLies (EX := EX) w M tb nv uv ps us) (s : ByteArray) (hs : s.size ≤ 9223372036854775807) {kind : Int} (hk : kind ≠ 2) (hl : ps.length ≤ 400) (hf : ps.length = 400 ∨ 20000 < s.size) :
    Calls Tryz.prog 46 #[.pointer (some ⟨tb, 0, none⟩), .int .i64 kind, .string s] w fun e w' => e = .returned (.tuple #[.int .i64 0, .int .i64 2]) ∧ w' = w := by
  obtain ⟨a, cap, rfl, hc, hm⟩ := h.nodes.shape
  have c0 := h.cell0
  have hkb : (kind == 2) = false := by rw [beq_eq_false_iff_ne]; exact hk
  have hkn : (kind != 2) = true := by simp [bne, hkb]
  unfold maxLen at hm
  clear h
  by_cases h4 : ps.length = 400
  · rw [h4] at c0
    clear hf
    go_enter Tryz.func46, Tryz.ntmps46
    go_wp2_with (go_at_call 26; refine (isName_any _ _).mono ?_; rintro e w' ⟨rfl, rfl⟩; cases hq : nameB s)
    all_goals go_ret2
    all_goals exact ⟨rfl, rfl⟩
  · have h5 : ps.length < 400 := by omega
    have h6 : 20000 < s.size := by omega
    have h7 : (20000 : Int) < (s.size : Int) := by omega
    have h8 : ¬ ((400 : Int) ≤ (ps.length : Int)) := by omega
    clear hf
    go_enter Tryz.func46, Tryz.ntmps46
    go_wp2_with (go_at_call 26; refine (isName_any _ _).mono ?_; rintro e w' ⟨rfl, rfl⟩; cases hq : nameB s)
    all_goals go_ret2
    all_goals exact ⟨rfl, rfl⟩
end Go.Proofs.YtkaeenafejdkfaaGreatDoor

/- The document's builder: how it lies in memory. -/
namespace Go.Proofs.YtkaeenafejdkfaaGreatDoor
open Go.RowKit

/-- a builder's block behind its tree: the innermost open one, what is bad -/
abbrev bExt (p : Nat) (c a : Int) : Ext := ⟨[.int .i64 p, .int .i64 c, .int .i64 a], 60⟩
theorem BL.head {p : Nat} {c a : Int} {w : World} {M : Nat → Lab} {bb : Nat} {nv uv : Value} {ps : List Pn} {us : List Value} (h : RLies (EX := bExt p c a) w M bb nv uv ps us) : w.heap[bb]? = some (.cells #[nv, uv, .int .i64 p, .int .i64 c, .int .i64 a] 60 (0, 0)) := RLies.head (EX := bExt p c a) h
theorem BL.set {p q : Nat} {c a c' a' : Int} {w : World} {M : Nat → Lab} {bb : Nat} {nv uv : Value} {ps : List Pn} {us : List Value} (h : RLies (EX := bExt p c a) w M bb nv uv ps us) {o : Nat} {v : Value} (he : (#[nv, uv, .int .i64 p, .int .i64 c, .int .i64 a] : Array Value).setIfInBounds o v = #[nv, uv, .int .i64 q, .int .i64 c', .int .i64 a']) :
    RLies (EX := bExt q c' a') (w.setCell ⟨bb, o, none⟩ v) M bb nv uv ps us ∧ Moved w M (w.setCell ⟨bb, o, none⟩ v) M := by
  have st : Step w M (w.setCell ⟨bb, o, none⟩ v) M .tree := step_setCell v (RLies.tree (EX := bExt p c a) h) (RLies.fresh (EX := bExt p c a) h)
  have hn := RLies.node (EX := bExt p c a) h
  refine ⟨RLies.mk (EX := bExt q c' a') st.fresh (RLies.tree (EX := bExt p c a) h) ?_ ((RLies.nodes (EX := bExt p c a) h).step st (by intro e; cases e)) ((RLies.undos (EX := bExt p c a) h).step st (by intro e; cases e)) (fun i p hp => ⟨(hn i p hp).1.step st (by intro e; cases e), (hn i p hp).2.step st (by intro e; cases e)⟩), st.moved (by intro e; cases e)⟩
  rw [setCell_heap w bb o v _ _ _ (BL.head h), he]
/-- a builder of these nodes lies there, and not too much was done -/
def BAt (B : World) (bb : Nat) (ns : List Nd) (p : Nat) (c a : Int) (U : Nat) (w : World) (M : Nat → Lab) : Prop :=
  ∃ nv uv ps us, RLies (EX := bExt p c a) w M bb nv uv ps us ∧ nodesOf ps = ns ∧ us.length ≤ U ∧ Moved B (fun _ => .other) w M
theorem BAt.below {B w w' : World} {bb p U : Nat} {ns : List Nd} {c a : Int} {M : Nat → Lab} (h : BAt B bb ns p c a U w M) (hb : Below w.heap.size w w') : BAt B bb ns p c a U w' M := by
  obtain ⟨nv, uv, ps, us, h1, h2, h3, h4⟩ := h
  exact ⟨nv, uv, ps, us, RLies.below (EX := bExt p c a) h1 hb, h2, h3, h4.below hb⟩
theorem BAt.fresh {B w : World} {bb p U : Nat} {ns : List Nd} {c a : Int} {M : Nat → Lab} (h : BAt B bb ns p c a U w M) : ∀ b, w.heap.size ≤ b → M b = .other := by
  obtain ⟨nv, uv, ps, us, h1, _⟩ := h
  exact RLies.fresh (EX := bExt p c a) h1
theorem BAt.mono {B w : World} {bb p U V : Nat} {ns : List Nd} {c a : Int} {M : Nat → Lab} (h : BAt B bb ns p c a U w M) (hU : U ≤ V) : BAt B bb ns p c a V w M := by
  obtain ⟨nv, uv, ps, us, h1, h2, h3, h4⟩ := h
  exact ⟨nv, uv, ps, us, h1, h2, Nat.le_trans h3 hU, h4⟩
/-- what can be read of a builder -/
structure BSee (w : World) (bb nb cap : Nat) (ns : List Nd) (p : Nat) (c a : Int) : Prop where
  lt : bb < w.heap.size
  nlt : nb < w.heap.size
  c0 : w.cell? ⟨bb, 0, none⟩ = some (.slice (some ⟨nb, 0, none⟩) ns.length cap)
  c2 : w.cell? ⟨bb, 2, none⟩ = some (.int .i64 p)
  c3 : w.cell? ⟨bb, 3, none⟩ = some (.int .i64 c)
  c4 : w.cell? ⟨bb, 4, none⟩ = some (.int .i64 a)
  fr : ∀ o, w.frozen? ⟨bb, o, none⟩ = false
  le : ns.length ≤ cap
  mx : cap ≤ 9223372036854775807
  nd : ∀ (x : Nat) (n : Nd), ns[x]? = some n → w.cell? ⟨nb, x * 6, none⟩ = some (.int .i64 n.kind) ∧ w.cell? ⟨nb, x * 6 + 1, none⟩ = some (.string n.tag) ∧ w.cell? ⟨nb, x * 6 + 2, none⟩ = some (.string n.words) ∧ w.cell? ⟨nb, x * 6 + 4, none⟩ = some (.int .i64 n.parent)
  nf : ∀ (x : Nat) (n : Nd) (f : Nat), ns[x]? = some n → f < 6 → w.frozen? ⟨nb, x * 6 + f, none⟩ = false
  ks : ∀ (x : Nat) (n : Nd), ns[x]? = some n → ∃ ka kc, w.cell? ⟨nb, x * 6 + 5, none⟩ = some (.slice ka n.kids.length kc) ∧ n.kids.length ≤ kc ∧ kc ≤ 9223372036854775807 ∧ ∀ (j : Nat) (z : Int), n.kids[j]? = some z → ∃ g, ka = some ⟨g, 0, none⟩ ∧ g < w.heap.size ∧ w.cell? ⟨g, j, none⟩ = some (.int .i64 z)
theorem BAt.see {B w : World} {bb p U : Nat} {ns : List Nd} {c a : Int} {M : Nat → Lab} (h : BAt B bb ns p c a U w M) (hW : WF ns) : ∃ nb cap, BSee w bb nb cap ns p c a := by
  obtain ⟨nv, uv, ps, us, h1, rfl, h3, h4⟩ := h
  obtain ⟨n0, hn0, _⟩ := hW.root
  obtain ⟨p0, hp0, _⟩ := nodesOf_get hn0
  have hh := BL.head h1
  obtain ⟨nb, cap, rfl, hc, hm, hM, hl, _⟩ := RLies.form (EX := bExt p c a) h1 hp0
  have hlen : (nodesOf ps).length = ps.length := by simp [nodesOf]
  refine ⟨nb, cap, ⟨lt_of_heap hh, hl, ?_, ?_, ?_, ?_, ?_, by rw [hlen]; exact hc, by unfold maxLen at hm; exact hm, ?_, ?_, ?_⟩⟩
  · rw [hlen, cell_of_row w bb 0 _ _ _ hh]; rfl
  · rw [cell_of_row w bb 2 _ _ _ hh]; rfl
  · rw [cell_of_row w bb 3 _ _ _ hh]; rfl
  · rw [cell_of_row w bb 4 _ _ _ hh]; rfl
  · intro o; simp [World.frozen?, hh]
  · intro x n hx
    obtain ⟨q, hq, rfl⟩ := nodesOf_get hx
    have k0 := (RLies.cellN (EX := bExt p c a) h1 rfl (f := 0) hq (by omega) rfl).1
    rw [Nat.add_zero] at k0
    exact ⟨k0, (RLies.cellN (EX := bExt p c a) h1 rfl (f := 1) hq (by omega) rfl).1, (RLies.cellN (EX := bExt p c a) h1 rfl (f := 2) hq (by omega) rfl).1, (RLies.cellN (EX := bExt p c a) h1 rfl (f := 4) hq (by omega) rfl).1⟩
  · intro x n f hx hf
    obtain ⟨q, hq, rfl⟩ := nodesOf_get hx
    have hlt : f < q.cells.length := by simpa [Pn.cells] using hf
    exact (RLies.cellN (EX := bExt p c a) h1 rfl (f := f) hq hf (List.getElem?_eq_getElem hlt)).2
  · intro x n hx
    obtain ⟨q, hq, rfl⟩ := nodesOf_get hx
    have k5 := (RLies.cellN (EX := bExt p c a) h1 rfl (f := 5) hq (by omega) rfl).1
    have hrow := (RLies.node (EX := bExt p c a) h1 x q hq).2
    obtain ⟨ka, kc, hkv, e1, e2⟩ := hrow.shape
    rw [hkv] at k5
    refine ⟨ka, kc, k5, e1, by unfold maxLen at e2; exact e2, fun j z hz => ?_⟩
    have hjl : j < q.n.kids.length := (List.getElem?_eq_some_iff.1 hz).1
    obtain ⟨g, cap2, f1, _, _, _, f5⟩ := hrow.form (by omega)
    rw [hkv] at f1
    injection f1 with f1 _ _
    subst f1
    refine ⟨g, rfl, f5, (hrow.cell hkv ?_).1⟩
    rw [List.getElem?_map, hz]
    rfl
theorem chain_pos {ns : List Nd} (hW : WF ns) {k : Nat} {l : List Nat} (h : Chain ns (k :: l)) : 0 < k := by
  cases h with
  | cons hk h2 _ _ _ _ =>
    rcases Nat.eq_zero_or_pos k with e | e
    · subst e
      obtain ⟨n, r1, r2, _⟩ := hW.root
      obtain rfl := Option.some.inj (hk.symm.trans r1)
      omega
    · exact e
end Go.Proofs.YtkaeenafejdkfaaGreatDoor

/- The document's builder: a node is made and put. -/
namespace Go.Proofs.YtkaeenafejdkfaaGreatDoor
open Go.RowKit

def mkN (kind : Int) (s : ByteArray) : Nd := if kind = 2 then ⟨2, s, ⟨#[]⟩, [], -1, []⟩ else ⟨kind, ⟨#[]⟩, s, [], -1, []⟩
theorem mkN_parent (kind : Int) (s : ByteArray) : (mkN kind s).parent = -1 := by unfold mkN; split <;> rfl
theorem mkN_kids (kind : Int) (s : ByteArray) : (mkN kind s).kids = [] := by unfold mkN; split <;> rfl
theorem add_put {ns : List Nd} {p : Nat} {n m : Nd} (hW : WF ns) (hp : ns[p]? = some m) : (((ns ++ [n]).set p { m with kids := insK (outOf m.kids (ns.length : Int)) m.kids.length (ns.length : Int) }).set ns.length { n with parent := (p : Int) }) = addN ns p n := by
  have hlt : p < ns.length := (List.getElem?_eq_some_iff.1 hp).1
  have e1 : outOf m.kids (ns.length : Int) = m.kids := by
    unfold outOf
    rw [List.filter_eq_self]
    intro x hx
    obtain ⟨c, m', e1, e2, _⟩ := hW.kid p m hp x hx
    have := (List.getElem?_eq_some_iff.1 e2).1
    simp
    omega
  have e2 : insK m.kids m.kids.length (ns.length : Int) = m.kids ++ [(ns.length : Int)] := by
    unfold insK
    rw [List.take_length, List.drop_length]
  rw [e1, e2]
  unfold addN
  rw [hp]
  simp only
  rw [List.set_append_left _ _ hlt, List.set_append_right _ _ (by simp)]
  simp
theorem up_snoc {ns : List Nd} {p : Nat} {la : List Nat} (h : Up ns p la) (n : Nd) : Up (ns ++ [n]) p la := by
  induction h with
  | root h' hp' => exact .root (by rw [List.getElem?_append_left (List.getElem?_eq_some_iff.1 h').1]; exact h') hp'
  | up h' hp' _ ih => exact .up (by rw [List.getElem?_append_left (List.getElem?_eq_some_iff.1 h').1]; exact h') hp' ih
theorem small_of {ps : List Pn} {ns : List Nd} (hn : nodesOf ps = ns) (hW : WF ns) (ha : ∀ (j : Nat) (n : Nd), ns[j]? = some n → n.attrs.length ≤ 100000) : Small ps := by
  subst hn
  intro j p hp
  have hj : (nodesOf ps)[j]? = some p.n := by unfold nodesOf; rw [List.getElem?_map, hp]; rfl
  exact ⟨Nat.le_trans (ha j p.n hj) (by decide), Nat.le_trans (hW.few hj) (by decide)⟩

set_option maxHeartbeats 4000000 in
set_option maxRecDepth 100000 in
theorem rmake_fullB {EX : Ext} {w : World} {M : Nat → Lab} {tb : Nat} {nv uv : Value} {ps : List Pn} {us : List Value} (h : RLies (EX := EX) w M tb nv uv ps us) (s : ByteArray) (hs : s.size ≤ 9223372036854775807) {kind : Int} (hk : kind = 2 → nameB s = true) (h4 : ps.length = 400) :
    Calls Tryz.prog 46 #[.pointer (some ⟨tb, 0, none⟩), .int .i64 kind, .string s] w fun e w' => e = .returned (.tuple #[.int .i64 0, .int .i64 2]) ∧ w' = w := by
  by_cases hk2 : kind = 2
  · obtain ⟨a, cap, rfl, hc, hm⟩ := h.nodes.shape
    have c0 := h.cell0
    rw [h4] at c0
    have hq := hk hk2
    subst hk2
    unfold maxLen at hm
    clear h hk
    go_enter Tryz.func46, Tryz.ntmps46
    go_wp2_with (go_at_call 26; refine (isName_any _ _).mono ?_; rintro e w' ⟨rfl, rfl⟩; rw [hq])
    go_ret2
    exact ⟨rfl, rfl⟩
  · exact rmake_bound h s hs hk2 (by omega) (.inl h4)
theorem rmake_good {EX : Ext} {w : World} {M : Nat → Lab} {tb : Nat} {nv uv : Value} {ps : List Pn} {us : List Value} (h : RLies (EX := EX) w M tb nv uv ps us) (hs : Small ps) (hn : ps.length < 400) (hu : us.length ≤ 1000000000) (kind : Int) (s : ByteArray) (hg : (kind = 2 ∧ nameB s = true) ∨ (¬ kind = 2 ∧ s.size ≤ 20000)) :
    Calls Tryz.prog 46 #[.pointer (some ⟨tb, 0, none⟩), .int .i64 kind, .string s] w (RMade (EX := EX) w M tb ps us ⟨mkN kind s, .slice none 0 0, .slice none 0 0⟩) := by
  rcases hg with ⟨rfl, h1⟩ | ⟨h1, h2⟩
  · exact rmake_elem h hs hn hu s h1
  · unfold mkN
    rw [if_neg h1]
    exact rmake_other h hs hn hu s kind h1 h2

set_option maxHeartbeats 8000000 in
set_option maxRecDepth 100000 in
theorem bput_good {B w : World} {bb U : Nat} {ns : List Nd} {c a : Int} {M : Nat → Lab} {op : List Nat} {i : Nat} (h : BAt B bb ns (inn op) c a U w M) (hI : Inv ns op i) (hi : i ≤ 20000) (hU : U ≤ 1000000) (hl : ns.length < 400) (kind : Int) (s : ByteArray) (hg : (kind = 2 ∧ nameB s = true) ∨ (¬ kind = 2 ∧ s.size ≤ 20000)) (fr : Nat) :
    Calls Tryz.prog 24 #[.pointer (some ⟨bb, 0, none⟩), .int .i64 kind, .string s, .int .i64 fr] w fun e w' => e = .returned (.int .i64 ns.length) ∧ ∃ M', BAt B bb (addN ns (inn op) (mkN kind s)) (inn op) c a (U + 2) w' M' ∧ Moved w M w' M' := by
  obtain ⟨m, hm, hmk⟩ := hI.chain.inner hI.wf
  have hup := hI.chain.up hI.wf
  obtain ⟨p, hp⟩ : ∃ p, p = inn op := ⟨_, rfl⟩
  rw [← hp] at h hm hup ⊢
  have hW := hI.wf
  have hat : ∀ (j : Nat) (n : Nd), ns[j]? = some n → n.attrs.length ≤ 100000 := fun j n hn => Nat.le_trans (hI.attrs j n hn) (by omega)
  obtain ⟨n, hn⟩ : ∃ n, n = mkN kind s := ⟨_, rfl⟩
  have hnp : n.parent = -1 := by rw [hn]; exact mkN_parent _ _
  have hnk : n.kids = [] := by rw [hn]; exact mkN_kids _ _
  have hna : n.attrs = [] := by rw [hn]; unfold mkN; split <;> rfl
  obtain ⟨nv, uv, ps, us, h1, rfl, h3, h4⟩ := id h
  obtain ⟨nb, cap, hS⟩ := h.see hW
  have hlp : (nodesOf ps).length = ps.length := by simp [nodesOf]
  obtain ⟨N, hN⟩ : ∃ N, N = (nodesOf ps).length := ⟨_, rfl⟩
  have hmk1 := rmake_good (EX := bExt p c a) h1 (small_of rfl hW hat) (by omega) (by omega) kind s hg
  rw [← hn] at hmk1 ⊢
  unfold RMade at hmk1
  rw [← hlp, ← hN] at hmk1
  have hW2 : WF (nodesOf ps ++ [n]) := hW.snoc hl n hnp hnk
  -- what the second call does
  have step2 : ∀ (w1 : World) (M1 : Nat → Lab) (nv1 uv1 v1 : Value), RLies (EX := bExt p c a) w1 M1 bb nv1 uv1 (ps ++ [⟨n, .slice none 0 0, .slice none 0 0⟩]) (us ++ [v1]) → Moved w M w1 M1 →
      BAt B bb (nodesOf ps ++ [n]) p c a (U + 1) w1 M1 ∧ ∀ w2, Below w1.heap.size w1 w2 → Calls Tryz.prog 48 #[.pointer (some ⟨bb, 0, none⟩), .int .i64 p, .int .i64 N, .int .i64 m.kids.length] w2 fun e w' => e = .returned (.int .i64 0) ∧ ∃ M', BAt B bb (addN (nodesOf ps) p n) p c a (U + 2) w' M' ∧ Moved w M w' M' := by
    intro w1 M1 nv1 uv1 v1 l1 m1
    have hnn : nodesOf (ps ++ [⟨n, .slice none 0 0, .slice none 0 0⟩]) = nodesOf ps ++ [n] := by simp [nodesOf]
    refine ⟨⟨nv1, uv1, _, _, l1, hnn, by simp; omega, h4.trans m1⟩, fun w2 hb2 => ?_⟩
    have hpl : p < (nodesOf ps).length := (List.getElem?_eq_some_iff.1 hm).1
    obtain ⟨q, hq, hqm⟩ := nodesOf_get hm
    have hq2 : (ps ++ [(⟨n, .slice none 0 0, .slice none 0 0⟩ : Pn)])[p]? = some q := by rw [List.getElem?_append_left (by omega)]; exact hq
    have hn2 : (ps ++ [(⟨n, .slice none 0 0, .slice none 0 0⟩ : Pn)])[N]? = some ⟨n, .slice none 0 0, .slice none 0 0⟩ := by rw [hN, hlp]; simp
    have hat2 : ∀ (j : Nat) (x : Nd), (nodesOf ps ++ [n])[j]? = some x → x.attrs.length ≤ 100000 := by
      intro j x hx
      rcases Nat.lt_or_ge j (nodesOf ps).length with hj | hj
      · rw [List.getElem?_append_left hj] at hx; exact hat j x hx
      · rw [List.getElem?_append_right hj] at hx
        have : x = n := by
          cases hjj : j - (nodesOf ps).length with
          | zero => rw [hjj] at hx; simpa using hx.symm
          | succ k => rw [hjj] at hx; simp at hx
        rw [this, hna]; simp
    have hup2 : Up (nodesOf (ps ++ [⟨n, .slice none 0 0, .slice none 0 0⟩])) p (op ++ [0]) := by
      rw [hnn]
      exact up_snoc hup n
    have hno : N ∉ op ++ [0] := fun hmem => by
      have := hup.lt _ hmem
      omega
    have e0 : outOf q.n.kids (N : Int) = q.n.kids := by
      unfold outOf
      rw [List.filter_eq_self]
      intro x hx
      rw [hqm] at hx
      obtain ⟨cc, m', e1, e2, _⟩ := hW.kid p m hm x hx
      have := (List.getElem?_eq_some_iff.1 e2).1
      simp
      omega
    have hput := rput_root (EX := bExt p c a) (RLies.below (EX := bExt p c a) l1 hb2) (small_of hnn hW2 hat2) (by simp; omega) (by simp; omega) (c := m.kids.length) hn2 hq2 (by omega) (by rw [hqm]; omega) (by rw [hqm]; omega) hup2 hno (by rw [e0, hqm]; exact Nat.le_refl _) (by rw [hqm]; exact Nat.le_trans (hW.few hm) (by decide)) hnp
    refine hput.mono ?_
    rintro e w' ⟨rfl, M', nv', uv', ps', v', q1, q2, q3, _⟩
    refine ⟨rfl, M', ⟨nv', uv', ps', _, q1, ?_, by simp; omega, (h4.trans (m1.below hb2)).trans q3⟩, (m1.below hb2).trans q3⟩
    rw [q2, hnn, hqm]
    show _ = addN (nodesOf ps) p n
    rw [hN]
    exact add_put hW hm
  have H2 := hid step2
  have HMK := hid hmk1
  have HW2 := hid hW2
  have hmW : (nodesOf ps ++ [n])[p]? = some m := by rw [List.getElem?_append_left (List.getElem?_eq_some_iff.1 hm).1]; exact hm
  have HMW := hid hmW
  have hpN : p < N := by rw [hN]; exact (List.getElem?_eq_some_iff.1 hm).1
  have hN4 : N < 400 := by omega
  have hNl : (nodesOf ps ++ [n]).length = N + 1 := by rw [hN]; simp
  obtain ⟨L, hL⟩ : ∃ L, L = N + 1 := ⟨_, rfl⟩
  rw [← hL] at hNl
  have HNl := hid hNl
  have i1 : (0 : Int) ≤ (p : Int) := by omega
  have i2 : (p : Int) < (L : Int) := by omega
  rw [← hN]
  generalize addN (nodesOf ps) p n = AN at H2 ⊢
  clear h hI hup hp hW hat hnp hnk hna h1 h3 h4 hS hlp hmk1 hW2 step2 hm hmW hg hmk hl hn hN hNl hL
  go_enter Tryz.func24, Tryz.ntmps24
  go_wp2_with (go_at_call 46; refine HMK.out.mono ?_; rintro e w1 ⟨rfl, M1, nv1, uv1, v1, l1, m1⟩; obtain ⟨hb1, hput⟩ := H2.out w1 M1 nv1 uv1 v1 l1 m1; obtain ⟨nb1, cap1, hS1⟩ := hb1.see HW2.out; obtain ⟨ka, kc, k5, k6, k7, hkx⟩ := hS1.ks _ _ HMW.out; clear hkx; have c0 := hS1.c0; rw [HNl.out] at c0; have c2 := hS1.c2; have z1 := hS1.le; rw [HNl.out] at z1; have z2 := hS1.mx; have z3 := hS1.lt; have z4 := hS1.nlt; have HP := hid hput; clear l1 m1 hb1 hS1 hput)
  go_still_tail 21, (by kernel_rfl)
  go_wp2_with (go_at_call 48; refine (HP.out _ ((Below.refl _ _).drew)).mono ?_; rintro e w3 ⟨rfl, M3, hB3, hV3⟩; have H3 := hid (And.intro hB3 hV3); clear hB3 hV3)
  go_ret
  exact ⟨rfl, M3, H3.out.1, H3.out.2⟩

set_option maxHeartbeats 8000000 in
set_option maxRecDepth 100000 in
theorem bput_bad {B w : World} {bb U : Nat} {ns : List Nd} {c a : Int} {M : Nat → Lab} {p : Nat} (h : BAt B bb ns p c a U w M) (hW : WF ns) (hl : ns.length = 400) (kind : Int) (s : ByteArray) (hs : s.size ≤ 100000) (hg : kind = 2 → nameB s = true) (fr : Nat) :
    Calls Tryz.prog 24 #[.pointer (some ⟨bb, 0, none⟩), .int .i64 kind, .string s, .int .i64 fr] w fun e w' => e = .returned (.int .i64 0) ∧ BAt B bb ns p (if c = 0 then 2 else c) (if c = 0 then (fr : Int) else a) U w' M ∧ Moved w M w' M := by
  obtain ⟨nb, cap, hS⟩ := h.see hW
  obtain ⟨nv, uv, ps, us, h1, h2, h3, h4⟩ := id h
  have hlp : (nodesOf ps).length = ps.length := by simp [nodesOf]
  have hmk := rmake_fullB (EX := bExt p c a) h1 s (by omega) hg (by rw [← hlp, h2]; exact hl)
  have HMK := hid hmk
  have c3 := hS.c3
  have c4 := hS.c4
  have f3 := hS.fr 3
  have f4 := hS.fr 4
  have z3 := hS.lt
  by_cases hc : c = 0
  · subst hc
    obtain ⟨q1, q2⟩ := BL.set (q := p) (c' := 2) (a' := a) h1 (o := 3) (v := .int .i64 2) rfl
    obtain ⟨r1, r2⟩ := BL.set (q := p) (c' := 2) (a' := fr) q1 (o := 4) (v := .int .i64 fr) rfl
    have HR := hid (And.intro (⟨nv, uv, ps, us, r1, h2, h3, h4.trans (q2.trans r2)⟩ : BAt B bb ns p 2 fr U _ M) (q2.trans r2))
    clear h hW hg hS h1 h2 h3 h4 hlp hmk q1 q2 r1 r2 hl
    simp only [if_true]
    go_enter Tryz.func24, Tryz.ntmps24
    go_wp2_with (go_at_call 46; refine HMK.out.mono ?_; rintro e w1 ⟨rfl, rfl⟩)
    go_ret
    exact ⟨rfl, HR.out.1, HR.out.2⟩
  · have hcb : (c == 0) = false := by rw [beq_eq_false_iff_ne]; exact hc
    have H := hid h
    rw [if_neg hc, if_neg hc]
    clear h hW hg hS h1 h2 h3 h4 hlp hmk hl
    go_enter Tryz.func24, Tryz.ntmps24
    go_wp2_with (go_at_call 46; refine HMK.out.mono ?_; rintro e w1 ⟨rfl, rfl⟩)
    go_ret
    exact ⟨rfl, H.out, Moved.refl _ _⟩
end Go.Proofs.YtkaeenafejdkfaaGreatDoor

/- The document's builder: a text. -/
namespace Go.Proofs.YtkaeenafejdkfaaGreatDoor
open Go.RowKit

/-- what adding made of a builder -/
def BOut (B : World) (bb : Nat) (ns : List Nd) (p : Nat) (c a : Int) (U : Nat) (fr : Nat) (w : World) (M : Nat → Lab) (R : Option (List Nd)) (w' : World) : Prop :=
  ∃ M', Moved w M w' M' ∧ match R with
    | some ns' => BAt B bb ns' p c a (U + 2) w' M'
    | none => BAt B bb ns p (if c = 0 then 2 else c) (if c = 0 then (fr : Int) else a) (U + 2) w' M'
theorem bput_any {B w : World} {bb U : Nat} {ns : List Nd} {c a : Int} {M : Nat → Lab} {op : List Nat} {i : Nat} (h : BAt B bb ns (inn op) c a U w M) (hI : Inv ns op i) (hi : i ≤ 20000) (hU : U ≤ 1000000) (kind : Int) (s : ByteArray) (hk : ¬ kind = 2) (hs : s.size ≤ 20000) (fr : Nat) :
    Calls Tryz.prog 24 #[.pointer (some ⟨bb, 0, none⟩), .int .i64 kind, .string s, .int .i64 fr] w fun e w' => (∃ z : Int, e = .returned (.int .i64 z)) ∧ BOut B bb ns (inn op) c a U fr w M (if ns.length < 400 then some (addN ns (inn op) (mkN kind s)) else none) w' := by
  by_cases hl : ns.length < 400
  · rw [if_pos hl]
    refine (bput_good h hI hi hU hl kind s (.inr ⟨hk, hs⟩) fr).mono ?_
    rintro e w' ⟨rfl, M', h1, h2⟩
    exact ⟨⟨_, rfl⟩, M', h2, h1⟩
  · rw [if_neg hl]
    have := hI.wf.len
    refine (bput_bad h hI.wf (by omega) kind s (by omega) (fun e => absurd e hk) fr).mono ?_
    rintro e w' ⟨rfl, h1, h2⟩
    exact ⟨⟨_, rfl⟩, M, h2, h1.mono (by omega)⟩

theorem last_get {l : List Int} {z : Int} (h : l.getLast? = some z) : 0 < l.length ∧ l[l.length - 1]? = some z := by
  rw [List.getLast?_eq_getElem?] at h
  have := (List.getElem?_eq_some_iff.1 h).1
  exact ⟨by omega, h⟩

set_option maxHeartbeats 8000000 in
set_option maxRecDepth 100000 in
theorem btext_put {B w : World} {bb U : Nat} {ns : List Nd} {c a : Int} {M : Nat → Lab} {op : List Nat} {i : Nat} (h : BAt B bb ns (inn op) c a U w M) (hI : Inv ns op i) (hi : i ≤ 20000) (hU : U ≤ 1000000) (t : ByteArray) (hte : t ≠ ⟨#[]⟩) (ht : t.size ≤ 20000) (fr : Nat) (hx : textAt ns (inn op) = none) :
    Calls Tryz.prog 23 #[.pointer (some ⟨bb, 0, none⟩), .string t, .int .i64 fr] w fun e w' => e = .returned (.tuple #[]) ∧ BOut B bb ns (inn op) c a U fr w M (textM ns (inn op) t) w' := by
  have hR : textM ns (inn op) t = (if ns.length < 400 then some (addN ns (inn op) (mkN 3 t)) else none) := by
    unfold textM; rw [hx]; rfl
  rw [hR]
  obtain ⟨R, hRR⟩ : ∃ R, R = (if ns.length < 400 then some (addN ns (inn op) (mkN 3 t)) else none) := ⟨_, rfl⟩
  have hput := fun (w1 : World) (hb : Below w.heap.size w w1) => bput_any (h.below hb) hI hi hU 3 t (by decide) ht fr
  rw [← hRR] at hput ⊢
  obtain ⟨m, hm, hmk⟩ := hI.chain.inner hI.wf
  clear hmk
  have hW := hI.wf
  obtain ⟨nb, cap, hS⟩ := h.see hW
  have c0 := hS.c0
  have c2 := hS.c2
  have z1 := hS.le
  have z2 := hS.mx
  have z3 := hS.lt
  have z4 := hS.nlt
  obtain ⟨ka, kc, k5, k6, k7, hks⟩ := hS.ks _ _ hm
  have hpl := (List.getElem?_eq_some_iff.1 hm).1
  have i1 : (0 : Int) ≤ (inn op : Int) := by omega
  have i2 : (inn op : Int) < (ns.length : Int) := by omega
  have hq : (t.toList == []) = false := by
    rw [beq_eq_false_iff_ne]; intro e; exact hte (toList_inj' (e.trans (by rw [Lib.toList_data])))
  have HP : Hid (∀ w1, Below w.heap.size w w1 → Calls Tryz.prog 24 #[.pointer (some ⟨bb, 0, none⟩), .int .i64 3, .string t, .int .i64 fr] w1 fun e w' => (∃ z : Int, e = .returned (.int .i64 z)) ∧ BOut B bb ns (inn op) c a U fr w M R w') := hid (fun w1 hb => (hput w1 hb).mono (by
    rintro e w' ⟨h1, M', h2, h3⟩
    exact ⟨h1, M', ((Moved.refl w M).below hb).trans h2, h3⟩))
  have HB := hid hte
  have hw4 := hW.len
  rcases hkl : m.kids.getLast? with _ | z
  · have hk0 : m.kids.length = 0 := by rw [List.getLast?_eq_none_iff] at hkl; rw [hkl]; rfl
    rw [hk0] at k5
    clear h hI hx hR hRR hput hm hW hS hks hkl hte hpl hk0 k6 hw4
    generalize inn op = p at *
    go_enter Tryz.func23, Tryz.ntmps23
    go_wp2_with fail
    go_still_tail 12, (by kernel_rfl)
    go_wp2_with fail
    go_quiet (fail)
    go_wp2_with (go_at_call 24; refine (HP.out _ (below_drewN (Below.refl _ _) _)).mono ?_; rintro e w3 ⟨⟨z, rfl⟩, hO⟩; have HO := hid hO; clear hO)
    go_end0
    exact ⟨rfl, HO.out⟩
  · obtain ⟨hk0, hk1⟩ := last_get hkl
    obtain ⟨L, hL⟩ : ∃ L, m.kids.length = L + 1 := ⟨m.kids.length - 1, by omega⟩
    have hk2 : m.kids[L]? = some z := by rw [hL] at hk1; exact hk1
    obtain ⟨g, rfl, hgl, kg⟩ := hks L z hk2
    obtain ⟨kk, n, rfl, hn, _⟩ := hW.kid _ _ hm z (List.mem_of_getLast? hkl)
    have hn3 : ¬ n.kind = 3 := by
      intro e
      unfold textAt at hx
      rw [hm] at hx
      simp only [hkl, Int.toNat_natCast, hn, e, if_true] at hx
      cases hx
    have kk0 := (hS.nd _ _ hn).1
    have hkl2 := (List.getElem?_eq_some_iff.1 hn).1
    have i3 : (0 : Int) ≤ (kk : Int) := by omega
    have i4 : (kk : Int) < (ns.length : Int) := by omega
    have b3 : (n.kind == 3) = false := by rw [beq_eq_false_iff_ne]; exact hn3
    rw [hL] at k5
    obtain ⟨kd, hkd⟩ : ∃ kd, kd = n.kind := ⟨_, rfl⟩
    rw [← hkd] at kk0 b3
    have hLc : L + 1 ≤ kc := by omega
    have j1 : (0 : Int) ≤ (L : Int) := by omega
    have j2 : (L : Int) < (L : Int) + 1 := by omega
    clear h hI hx hR hRR hput hm hW hS hks hkl hte hpl hk0 k6 hw4 hk1 hk2 hn hn3 hL hkd hkl2
    generalize inn op = p at *
    go_enter Tryz.func23, Tryz.ntmps23
    go_wp2_with fail
    go_still_tail 12, (by kernel_rfl)
    go_wp2_with fail
    go_quiet (fail)
    go_wp2_with (go_at_call 24; refine (HP.out _ (below_drewN (Below.refl _ _) _)).mono ?_; rintro e w3 ⟨⟨z, rfl⟩, hO⟩; have HO := hid hO; clear hO)
    go_end0
    exact ⟨rfl, HO.out⟩

theorem BAt.join {B w : World} {bb p U : Nat} {ns : List Nd} {c a : Int} {M : Nat → Lab} (h : BAt B bb ns p c a U w M) (hW : WF ns) {nb l cap : Nat} (hS : w.cell? ⟨bb, 0, none⟩ = some (.slice (some ⟨nb, 0, none⟩) l cap)) {k : Nat} {n : Nd} (hk : ns[k]? = some n) (t : ByteArray) : BAt B bb (joinT ns k t) p c a U (w.setCell ⟨nb, k * 6 + 2, none⟩ (.string (n.words ++ t))) M ∧ Moved w M (w.setCell ⟨nb, k * 6 + 2, none⟩ (.string (n.words ++ t))) M := by
  obtain ⟨nv, uv, ps, us, h1, rfl, h3, h4⟩ := h
  obtain ⟨q, hq, rfl⟩ := nodesOf_get hk
  obtain ⟨nb2, cap2, rfl, _, _, _, _, _⟩ := RLies.form (EX := bExt p c a) h1 hq
  have e : nb2 = nb := by
    rw [RLies.cell0 (EX := bExt p c a) h1] at hS
    simp at hS
    exact hS.1
  subst e
  have hnd := RLies.node (EX := bExt p c a) h1 k q hq
  obtain ⟨r1, r2⟩ := RLies.setNode (EX := bExt p c a) h1 rfl (f := 2) (c := .string (q.n.words ++ t)) hq (by omega) (p' := ⟨{ q.n with words := q.n.words ++ t }, q.av, q.kv⟩) rfl hnd.1 hnd.2
  have mv := r2.moved (by intro e; cases e)
  refine ⟨⟨_, uv, _, us, r1, ?_, h3, h4.trans mv⟩, mv⟩
  unfold joinT
  rw [hk]
  simp [nodesOf, List.map_set]

set_option maxHeartbeats 8000000 in
set_option maxRecDepth 100000 in
theorem btext_join {B w : World} {bb U : Nat} {ns : List Nd} {c a : Int} {M : Nat → Lab} {op : List Nat} {i : Nat} (h : BAt B bb ns (inn op) c a U w M) (hI : Inv ns op i) (hi : i ≤ 20000) (t : ByteArray) (hte : t ≠ ⟨#[]⟩) (ht : t.size ≤ 20000) (fr : Nat) {k : Nat} (hx : textAt ns (inn op) = some k) :
    Calls Tryz.prog 23 #[.pointer (some ⟨bb, 0, none⟩), .string t, .int .i64 fr] w fun e w' => e = .returned (.tuple #[]) ∧ BOut B bb ns (inn op) c a U fr w M (textM ns (inn op) t) w' := by
  have hR : textM ns (inn op) t = some (joinT ns k t) := by unfold textM; rw [hx]
  rw [hR]
  obtain ⟨m, hm, hmk⟩ := hI.chain.inner hI.wf
  clear hmk
  have hW := hI.wf
  obtain ⟨z, n, hkl, hn, hn3, hzk⟩ : ∃ z n, m.kids.getLast? = some z ∧ ns[k]? = some n ∧ n.kind = 3 ∧ z.toNat = k := by
    unfold textAt at hx
    rw [hm] at hx
    simp only at hx
    split at hx
    · rename_i z hz
      split at hx
      · rename_i n hn
        split at hx
        · rename_i h3
          obtain rfl := Option.some.inj hx
          exact ⟨z, n, hz, hn, h3, rfl⟩
        · cases hx
      · cases hx
    · cases hx
  obtain ⟨kk, n', rfl, _, _⟩ := hW.kid _ _ hm z (List.mem_of_getLast? hkl)
  obtain rfl : kk = k := by simpa using hzk
  have hwn := hI.words kk n hn
  obtain ⟨nb, cap, hS⟩ := h.see hW
  have HO : Hid (∀ w1, Below w.heap.size w w1 → BAt B bb (joinT ns kk t) (inn op) c a U (w1.setCell ⟨nb, kk * 6 + 2, none⟩ (.string (n.words ++ t))) M ∧ Moved w M (w1.setCell ⟨nb, kk * 6 + 2, none⟩ (.string (n.words ++ t))) M) := hid (fun w1 hb => by
    obtain ⟨q1, q2⟩ := (h.below hb).join hW ((hb.cell (p := ⟨bb, 0, none⟩) hS.lt).trans hS.c0) hn t
    exact ⟨q1, ((Moved.refl w M).below hb).trans q2⟩)
  have c0 := hS.c0
  have c2 := hS.c2
  have z1 := hS.le
  have z2 := hS.mx
  have z3 := hS.lt
  have z4 := hS.nlt
  obtain ⟨ka, kc, k5, k6, k7, hks⟩ := hS.ks _ _ hm
  have hpl := (List.getElem?_eq_some_iff.1 hm).1
  have i1 : (0 : Int) ≤ (inn op : Int) := by omega
  have i2 : (inn op : Int) < (ns.length : Int) := by omega
  have hq : (t.toList == []) = false := by
    rw [beq_eq_false_iff_ne]; intro e; exact hte (toList_inj' (e.trans (by rw [Lib.toList_data])))
  obtain ⟨hk0, hk1⟩ := last_get hkl
  obtain ⟨L, hL⟩ : ∃ L, m.kids.length = L + 1 := ⟨m.kids.length - 1, by omega⟩
  have hk2 : m.kids[L]? = some (kk : Int) := by rw [hL] at hk1; exact hk1
  obtain ⟨g, rfl, hgl, kg⟩ := hks L _ hk2
  obtain ⟨kk0, _, kk2, _⟩ := hS.nd _ _ hn
  have kf2 := hS.nf _ _ 2 hn (by omega)
  rw [hn3] at kk0
  have hkl2 := (List.getElem?_eq_some_iff.1 hn).1
  have i3 : (0 : Int) ≤ (kk : Int) := by omega
  have i4 : (kk : Int) < (ns.length : Int) := by omega
  rw [hL] at k5
  obtain ⟨wd, hwd⟩ : ∃ wd, wd = n.words := ⟨_, rfl⟩
  rw [← hwd] at kk2 HO hwn
  have hLc : L + 1 ≤ kc := by omega
  have j1 : (0 : Int) ≤ (L : Int) := by omega
  have j2 : (L : Int) < (L : Int) + 1 := by omega
  have h9 : ¬ wd.size + t.size > 9223372036854775807 := by omega
  have HS := hid hS
  clear h hI hx hR hm hW hS hks hkl hte hpl hk0 k6 hk1 hk2 hn hn3 hL hkl2 hwd hzk
  generalize inn op = p at *
  generalize joinT ns kk t = JN at *
  go_enter Tryz.func23, Tryz.ntmps23
  go_wp2_with fail
  go_still_tail 12, (by kernel_rfl)
  go_wp2_with fail
  go_quiet (fail)
  go_wp2_with fail
  generalize hw1 : w.drewN _ = w1
  have hb : Below w.heap.size w w1 := by rw [← hw1]; exact below_drewN (Below.refl _ _) _
  have d0 := (hb.cell (p := ⟨bb, 0, none⟩) z3).trans c0
  have d2 := (hb.cell (p := ⟨nb, kk * 6 + 2, none⟩) z4).trans kk2
  have df : w1.frozen? ⟨nb, kk * 6 + 2, none⟩ = false := by
    rw [← kf2]; unfold World.frozen?; rw [hb.block nb z4]
  have y3 : bb < w1.heap.size := Nat.lt_of_lt_of_le z3 hb.size
  have y4 : nb < w1.heap.size := Nat.lt_of_lt_of_le z4 hb.size
  have HB := hid hb
  clear hw1 hb c0 c2 k5 kg kk0 kk2 kf2 z3 z4 hgl HS
  go_still_tail 19, (by kernel_rfl)
  go_wp2_with fail
  refine bodyPost_ret (results_none rfl _ _ _) rfl ?_
  obtain ⟨q1, q2⟩ := HO.out _ (HB.out.drew)
  exact ⟨rfl, M, q2, q1.mono (by omega)⟩

theorem btext_any {B w : World} {bb U : Nat} {ns : List Nd} {c a : Int} {M : Nat → Lab} {op : List Nat} {i : Nat} (h : BAt B bb ns (inn op) c a U w M) (hI : Inv ns op i) (hi : i ≤ 20000) (hU : U ≤ 1000000) (t : ByteArray) (hte : t ≠ ⟨#[]⟩) (ht : t.size ≤ 20000) (fr : Nat) :
    Calls Tryz.prog 23 #[.pointer (some ⟨bb, 0, none⟩), .string t, .int .i64 fr] w fun e w' => e = .returned (.tuple #[]) ∧ BOut B bb ns (inn op) c a U fr w M (textM ns (inn op) t) w' := by
  cases hx : textAt ns (inn op) with
  | none => exact btext_put h hI hi hU t hte ht fr hx
  | some k => exact btext_join h hI hi t hte ht fr hx

set_option maxHeartbeats 8000000 in
set_option maxRecDepth 100000 in
theorem btext_nil {B w : World} {bb U : Nat} {ns : List Nd} {c a : Int} {M : Nat → Lab} {op : List Nat} {i : Nat} (h : BAt B bb ns (inn op) c a U w M) (hI : Inv ns op i) (fr : Nat) :
    Calls Tryz.prog 23 #[.pointer (some ⟨bb, 0, none⟩), .string ⟨#[]⟩, .int .i64 fr] w fun e w' => e = .returned (.tuple #[]) ∧ BAt B bb ns (inn op) c a U w' M ∧ Moved w M w' M := by
  obtain ⟨m, hm, hmk⟩ := hI.chain.inner hI.wf
  clear hmk
  have hW := hI.wf
  obtain ⟨nb, cap, hS⟩ := h.see hW
  have c0 := hS.c0
  have c2 := hS.c2
  have z1 := hS.le
  have z2 := hS.mx
  have z3 := hS.lt
  have z4 := hS.nlt
  obtain ⟨ka, kc, k5, k6, k7, hks⟩ := hS.ks _ _ hm
  have hpl := (List.getElem?_eq_some_iff.1 hm).1
  have i1 : (0 : Int) ≤ (inn op : Int) := by omega
  have i2 : (inn op : Int) < (ns.length : Int) := by omega
  have H := hid h
  have hq : ((⟨#[]⟩ : ByteArray).toList == []) = true := by rw [Lib.toList_data]; rfl
  clear h hI hm hW hS hks hpl
  generalize inn op = p at *
  go_enter Tryz.func23, Tryz.ntmps23
  go_wp2_with fail
  go_still_tail 12, (by kernel_rfl)
  go_wp2_with fail
  refine bodyPost_ret (results_none rfl _ _ _) rfl ?_
  exact ⟨rfl, H.out.below ((Below.refl _ _).drew), (Moved.refl _ _).below ((Below.refl _ _).drew)⟩
end Go.Proofs.YtkaeenafejdkfaaGreatDoor

/- The document's builder: how many are open; an end tag. -/
namespace Go.Proofs.YtkaeenafejdkfaaGreatDoor
open Go.RowKit

set_option maxHeartbeats 4000000 in
set_option maxRecDepth 100000 in
theorem deep_any {B w : World} {bb U : Nat} {ns : List Nd} {c a : Int} {M : Nat → Lab} {op : List Nat} (h : BAt B bb ns (inn op) c a U w M) (hW : WF ns) (hc : Chain ns op) (hl : op.length ≤ 40) :
    Calls Tryz.prog 67 #[.pointer (some ⟨bb, 0, none⟩)] w fun e w' => e = .returned (.int .i64 op.length) ∧ w' = w := by
  obtain ⟨nb, cap, hS⟩ := h.see hW
  obtain ⟨L, hLe⟩ : ∃ L, L = op.length := ⟨_, rfl⟩
  rw [← hLe] at hl ⊢
  have HL := hid hLe
  obtain ⟨p, hp⟩ : ∃ p, p = inn op := ⟨_, rfl⟩
  rw [← hp] at hS
  have c0 := hS.c0
  have c2 := hS.c2
  have hle := hS.le
  have hmx := hS.mx
  have hw4 := hW.len
  have HW := hid hW
  have HN := hid hS.nd
  have HC := hid hc
  have HP := hid hp
  clear h hc hW hS hp hLe
  go_enter Tryz.func67, Tryz.ntmps67
  go_wp2
  go_loopg [3, 4] L (fun g n k wr => wr = w ∧ ∃ (l : List Nat) (x m : Nat), n = .int .i64 m ∧ k = .int .i64 x ∧ m + l.length = L ∧ l.length = g ∧ Hid (x = inn l) ∧ Hid (Chain ns l))
  case atStart => exact ⟨rfl, op, p, 0, rfl, rfl, by rw [HL.out]; omega, HL.out.symm, HP, HC⟩
  case round =>
    obtain ⟨rfl, l, x, m, rfl, rfl, hm, hg, hx, hcl⟩ := hrel
    cases l with
    | nil =>
      have ex : x = 0 := hx.out
      subst ex
      have em : m = L := by simpa using hm
      subst em
      go_wp2
      go_ret
      exact ⟨rfl, rfl⟩
    | cons y l =>
      have ex : x = y := hx.out
      subst ex
      have hpos := chain_pos HW.out hcl.out
      cases hcl.out with
      | cons hk h2 hpar hm2 hl2 hc2 =>
        rename_i n m2
        have c4 := (HN.out _ _ hk).2.2.2
        rw [hpar] at c4
        obtain ⟨y2, hy2⟩ : ∃ y2, y2 = inn l := ⟨_, rfl⟩
        rw [← hy2] at c4
        have hxl : x < ns.length := (List.getElem?_eq_some_iff.1 hk).1
        have HY := hid hy2
        have HC2 := hid hc2
        have p1 : (0 : Int) < (x : Int) := by omega
        rw [List.length_cons] at hm hg
        clear hk h2 hpar hm2 hl2 hc2 hy2 hx hcl n m2
        go_wp2
        go_roundg l.length
        case measure => omega
        case rel => exact ⟨rfl, l, y2, m + 1, by go_num, rfl, by omega, rfl, HY, HC2⟩

set_option maxHeartbeats 4000000 in
set_option maxRecDepth 100000 in
theorem bend_any {B w : World} {bb U : Nat} {ns : List Nd} {c a : Int} {M : Nat → Lab} {op : List Nat} (h : BAt B bb ns (inn op) c a U w M) (hW : WF ns) (hc : Chain ns op) (name : ByteArray) :
    Calls Tryz.prog 25 #[.pointer (some ⟨bb, 0, none⟩), .string name] w fun e w' => e = .returned (.tuple #[]) ∧ BAt B bb ns (inn (shutM ns (inL [name]) (inL []) op op)) c a U w' M ∧ Moved w M w' M := by
  obtain ⟨nb, cap, hS⟩ := h.see hW
  obtain ⟨R, hR⟩ : ∃ R, R = shutM ns (inL [name]) (inL []) op op := ⟨_, rfl⟩
  rw [← hR]
  have HR := hid hR
  obtain ⟨p, hp⟩ : ∃ p, p = inn op := ⟨_, rfl⟩
  rw [← hp] at hS h
  have c0 := hS.c0
  have c2 := hS.c2
  have hfr := hS.fr 2
  have hbl := hS.lt
  have hle := hS.le
  have hmx := hS.mx
  have hw4 := hW.len
  have HW := hid hW
  have HN := hid hS.nd
  have HC := hid hc
  have HP := hid hp
  have H := hid h
  clear h hc hW hS hp hR
  go_enter Tryz.func25, Tryz.ntmps25
  go_wp2
  go_loopg [4] op.length (fun g k wr => wr = w ∧ ∃ (l : List Nat) (x : Nat), k = .int .i64 x ∧ l.length = g ∧ Hid (x = inn l) ∧ Hid (Chain ns l) ∧ Hid (R = shutM ns (inL [name]) (inL []) op l))
  case atStart => exact ⟨rfl, op, p, rfl, rfl, HP, HC, HR⟩
  case round =>
    obtain ⟨rfl, l, x, rfl, hg, hx, hcl, hrl⟩ := hrel
    cases l with
    | nil =>
      have ex : x = 0 := hx.out
      subst ex
      have HE : Hid (inn R = p) := hid (by rw [hrl.out]; exact HP.out.symm)
      go_wp2
      go_end0
      exact ⟨rfl, by rw [HE.out]; exact H.out, Moved.refl _ _⟩
    | cons y l =>
      have ex : x = y := hx.out
      subst ex
      have hpos := chain_pos HW.out hcl.out
      cases hcl.out with
      | cons hk h2 hpar hm2 hl2 hc2 =>
        rename_i n m2
        obtain ⟨k0, k1, k2, c4⟩ := HN.out _ _ hk
        clear k2
        rw [hpar] at c4
        obtain ⟨y2, hy2⟩ : ∃ y2, y2 = inn l := ⟨_, rfl⟩
        rw [← hy2] at c4
        obtain ⟨tg, htg⟩ : ∃ tg, tg = n.tag := ⟨_, rfl⟩
        rw [← htg] at k1
        have htag : tagOf ns x = tg := by unfold tagOf; rw [hk, htg]
        have hxl : x < ns.length := (List.getElem?_eq_some_iff.1 hk).1
        have HY := hid hy2
        have HC2 := hid hc2
        have p1 : (0 : Int) < (x : Int) := by omega
        rw [List.length_cons] at hg
        have hin0 : inL [] tg = false := by
          cases e : inL [] tg
          · rfl
          · have := (Lib.containsS_iff _ _).1 e
            simp at this
        by_cases he : tg = name
        · subst he
          have HRR : Hid (R = l) := hid (by
            rw [hrl.out]
            unfold shutM
            rw [htag, if_pos (show inL [tg] tg = true from (Lib.containsS_iff _ _).2 (by simp))])
          have HRI : Hid (y2 = inn R) := hid (by rw [HRR.out]; exact HY.out)
          clear hk h2 hpar hm2 hl2 hc2 hy2 hx hcl htg htag hrl n m2 k0
          go_wp2
          refine bodyPost_ret (results_none rfl _ _ _) rfl ?_
          obtain ⟨nv, uv, ps, us, g1, g2, g3, g4⟩ := H.out
          obtain ⟨q1, q2⟩ := BL.set (q := y2) (c' := c) (a' := a) g1 (o := 2) (v := .int .i64 y2) rfl
          exact ⟨rfl, by rw [← HRI.out]; exact ⟨nv, uv, ps, us, q1, g2, g3, g4.trans q2⟩, q2⟩
        · have hbq : (tg.toList == name.toList) = false := by rw [beq_eq_false_iff_ne]; exact fun e => he (toList_inj' e)
          have HRR : Hid (R = shutM ns (inL [name]) (inL []) op l) := hid (by
            rw [hrl.out, shutM, htag, if_neg (fun e : inL [name] tg = true => he (by have := (Lib.containsS_iff _ _).1 e; simpa using this)), hin0]
            simp)
          clear hk h2 hpar hm2 hl2 hc2 hy2 hx hcl htg htag hrl n m2 k0 he
          go_wp2
          go_roundg l.length
          case measure => omega
          case rel => exact ⟨rfl, l, y2, rfl, rfl, HY, HC2, HRR⟩
end Go.Proofs.YtkaeenafejdkfaaGreatDoor
