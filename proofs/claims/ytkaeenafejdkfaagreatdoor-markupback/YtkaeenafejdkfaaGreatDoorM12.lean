/- Nodes that lie in their tree's order, each ahead of what lies in it. -/
import Derived.Test.YtkaeenafejdkfaaGreatDoorM11
import Derived.Test.YtkaeenafejdkfaaGreatDoorShelf
import Derived.Test.YtkaeenafejdkfaaGreatDoorChecked
import Derived.RangeFuncNested
import Derived.RangeFuncBound
import Derived.RangeFuncCalls
import Derived.RangeFuncLeaves
import Derived.RangeFuncBox
import Derived.Shelf.Abstract
import Derived.Shelf.RegionOpen
import Derived.WalkKit
import Derived.OwnWalkIn
import Derived.TacticsInMore
import Derived.LoopNIn
import Derived.LoopIn
import Derived.Test.YtkaeenafejdkfaaGreatDoorM02
import Derived.Test.YtkaeenafejdkfaaGreatDoorM08
import Derived.Test.YtkaeenafejdkfaaGreatDoorM10
import Derived.Deep.RegionLaw
namespace Go.Proofs.YtkaeenafejdkfaaGreatDoor

/-- these kids, and all that lies in them, are just the nodes from one number up to another one -/
inductive Cover (ns : List Nd) : List Int → Nat → Nat → Prop where
  | nil (a : Nat) : Cover ns [] a a
  | cons {k : Nat} {n : Nd} {ks : List Int} {m b : Nat} (hk : ns[k]? = some n) (h1 : Cover ns n.kids (k + 1) m) (h2 : Cover ns ks m b) : Cover ns ((k : Int) :: ks) k b
theorem Cover.le {ns : List Nd} {ks : List Int} {a b : Nat} (h : Cover ns ks a b) : a ≤ b := by
  induction h with
  | nil => exact Nat.le_refl _
  | cons _ _ _ i1 i2 => omega
theorem Cover.same {ns ns' : List Nd} {ks : List Int} {a b : Nat} (h : Cover ns ks a b) (hs : ∀ (j : Nat) (n : Nd), a ≤ j → j < b → ns[j]? = some n → ∃ n' : Nd, ns'[j]? = some n' ∧ n'.kids = n.kids) : Cover ns' ks a b := by
  induction h with
  | nil => exact .nil _
  | cons hk h1 h2 i1 i2 =>
    have l1 := h1.le
    have l2 := h2.le
    obtain ⟨n', e1, e2⟩ := hs _ _ (Nat.le_refl _) (by omega) hk
    exact .cons e1 (by rw [e2]; exact i1 (fun j n q1 q2 q3 => hs j n (by omega) (by omega) q3)) (i2 (fun j n q1 q2 q3 => hs j n (by omega) (by omega) q3))
theorem Cover.app {ns : List Nd} {ks ls : List Int} {a m b : Nat} (h : Cover ns ks a m) (h2 : Cover ns ls m b) : Cover ns (ks ++ ls) a b := by
  induction h with
  | nil => exact h2
  | cons hk q1 _ _ i2 => exact .cons hk q1 (i2 h2)
theorem Cover.last {ns : List Nd} : ∀ {ks : List Int} {k : Int} {a b : Nat}, Cover ns (ks ++ [k]) a b → ∃ (c : Nat) (n : Nd), k = c ∧ ns[c]? = some n ∧ Cover ns ks a c ∧ Cover ns n.kids (c + 1) b
  | [], _, _, _, h => by
    cases h with
    | cons hk h1 h2 =>
      cases h2
      exact ⟨_, _, rfl, hk, .nil _, h1⟩
  | _ :: ks, _, _, _, h => by
    cases h with
    | cons hk h1 h2 =>
      obtain ⟨c, n, e1, e2, e3, e4⟩ := Cover.last (ks := ks) h2
      exact ⟨c, n, e1, e2, .cons hk h1 e3, e4⟩
/-- what lies in a node goes on up to a number -/
def Cov (ns : List Nd) (id b : Nat) : Prop := ∃ n, ns[id]? = some n ∧ Cover ns n.kids (id + 1) b
theorem cov_inner {ns : List Nd} : ∀ {op : List Nat}, Chain ns op → Cov ns 0 ns.length → Cov ns (inn op) ns.length
  | _, .nil, h => h
  | _, .cons (k := k) (n := n) (m := m) hk h2 hp hm hl hc, h => by
    obtain ⟨m', e1, e2⟩ := cov_inner hc h
    obtain rfl := Option.some.inj (e1.symm.trans hm)
    rw [List.getLast?_eq_some_iff] at hl
    obtain ⟨ks, hks⟩ := hl
    rw [hks] at e2
    obtain ⟨c, n', q1, q2, _, q4⟩ := e2.last
    obtain rfl : c = k := by omega
    exact ⟨n', q2, q4⟩
/-- each open one has a greater number than the next -/
theorem chain_lt {ns : List Nd} {k : Nat} {l : List Nat} (h : Chain ns (k :: l)) (h0 : Cov ns 0 ns.length) : inn l < k := by
  cases h with
  | cons hk h2 hp hm hl hc =>
    obtain ⟨m', e1, e2⟩ := cov_inner hc h0
    obtain rfl := Option.some.inj (e1.symm.trans hm)
    rw [List.getLast?_eq_some_iff] at hl
    obtain ⟨ks, hks⟩ := hl
    rw [hks] at e2
    obtain ⟨c, n', q1, q2, q3, q4⟩ := e2.last
    have := q3.le
    omega
theorem cov_up {ns : List Nd} {p : Nat} {m : Nd} {x : Nd} (hp : ns[p]? = some m) (h0 : Cov ns 0 ns.length) : ∀ {op : List Nat}, Chain ns op → inn op ≤ p → (inn op = p ∨ ∃ y, (addN ns p x)[inn op]? = some y ∧ ns[inn op]? = some y) → Cov (addN ns p x) (inn op) (ns.length + 1) → Cov (addN ns p x) 0 (ns.length + 1)
  | _, .nil, _, _, h => h
  | _, .cons (k := k) (n := n) (m := mm) (l := l) hk h2 hpar hm hl hc, hle, _, h => by
    have hlt := chain_lt (.cons hk h2 hpar hm hl hc) h0
    have hle' : k ≤ p := hle
    have hne : inn l ≠ p := by omega
    have hplt : p < ns.length := (List.getElem?_eq_some_iff.1 hp).1
    have hm2 : (addN ns p x)[inn l]? = some mm := by rw [add_get hp, if_neg (by omega), if_neg hne]; exact hm
    refine cov_up hp h0 hc (by omega) (.inr ⟨mm, hm2, hm⟩) ?_
    obtain ⟨m', e1, e2⟩ := cov_inner hc h0
    obtain rfl := Option.some.inj (e1.symm.trans hm)
    have hl' := hl
    rw [List.getLast?_eq_some_iff] at hl'
    obtain ⟨ks, hks⟩ := hl'
    rw [hks] at e2
    obtain ⟨c, n', q1, q2, q3, q4⟩ := e2.last
    obtain rfl : c = k := by omega
    obtain ⟨y, f1, f2⟩ := h
    refine ⟨_, hm2, ?_⟩
    rw [hks]
    refine Cover.app (q3.same ?_) (.cons f1 f2 (.nil _))
    intro j z g1 g2 g3
    exact ⟨z, by rw [add_get hp, if_neg (by omega), if_neg (by omega)]; exact g3, rfl⟩
/-- a new last kid of the innermost open one -/
theorem cov_add {ns : List Nd} {op : List Nat} {m : Nd} {x : Nd} (hc : Chain ns op) (hp : ns[inn op]? = some m) (hx : x.kids = []) (h0 : Cov ns 0 ns.length) : Cov (addN ns (inn op) x) 0 (addN ns (inn op) x).length := by
  rw [add_len hp]
  refine cov_up hp h0 hc (Nat.le_refl _) (.inl rfl) ?_
  obtain ⟨m', e1, e2⟩ := cov_inner hc h0
  obtain rfl := Option.some.inj (e1.symm.trans hp)
  have hlt : inn op < ns.length := (List.getElem?_eq_some_iff.1 hp).1
  refine ⟨_, by rw [add_get hp, if_neg (by omega), if_pos rfl], ?_⟩
  refine Cover.app (e2.same ?_) (.cons (n := { x with parent := (inn op : Int) }) (by rw [add_get hp, if_pos rfl]) (by show Cover _ x.kids _ _; rw [hx]; exact .nil _) (.nil _))
  intro j z g1 g2 g3
  exact ⟨z, by rw [add_get hp, if_neg (by omega), if_neg (by omega)]; exact g3, rfl⟩
end Go.Proofs.YtkaeenafejdkfaaGreatDoor

/- The program: slices.Backward over whole numbers, and slices.Contains of texts. -/
namespace Go.Proofs.YtkaeenafejdkfaaGreatDoor
open Go.RowKit Go.Shelf
attribute [local go_sem] Oper.semAt_some

/-- texts that lie in a slice -/
def StrsAt (w : World) (v : Value) (A : List ByteArray) : Prop :=
  (A = [] ∧ ∃ a c, v = .slice a 0 c) ∨ ∃ b c, v = .slice (some ⟨b, 0, none⟩) A.length c ∧ A.length ≤ 100 ∧ b < w.heap.size ∧ ∀ j, j < A.length → w.cell? ⟨b, j, none⟩ = some (.string (A.getD j ByteArray.empty))
theorem StrsAt.below {w w' : World} {v : Value} {A : List ByteArray} (h : StrsAt w v A) (hb : Below w.heap.size w w') : StrsAt w' v A := by
  rcases h with h | ⟨b, c, h1, h2, h3, h4⟩
  · exact .inl h
  · exact .inr ⟨b, c, h1, h2, Nat.lt_of_lt_of_le h3 hb.size, fun j hj => (hb.cell (p := ⟨b, j, none⟩) h3).trans (h4 j hj)⟩
theorem contains_any {w : World} {v : Value} {A : List ByteArray} (h : StrsAt w v A) (x : ByteArray) :
    Calls Tryz.prog 144 #[v, .string x] w fun e w' => e = .returned (.bool (Lib.containsS A x)) ∧ w' = w := by
  rcases h with ⟨rfl, a, c, rfl⟩ | ⟨b, c, rfl, h2, _, h4⟩
  · exact Tryz.slices_Contains_string_empty a c x w
  · have := Tryz.slices_Contains_string b 0 A.length c A x w (Nat.le_refl _) (by omega) (fun j hj => by rw [Nat.zero_add]; exact h4 j hj)
    rw [List.take_length] at this
    exact this

/-- the k-th of what comes -/
def bkF (zs : List Int) (k : Nat) : Int × Int := ((zs.length : Int) - 1 - k, zs[zs.length - 1 - k]?.getD 0)
abbrev BkA (zs : List Int) : Type := { x : Int × Int // ∃ k : Nat, k < zs.length ∧ x = bkF zs k }
def upto {α : Type} (f : Nat → α) (k : Nat) : List α := (List.range k).map f
theorem upto_succ {α : Type} (f : Nat → α) (k : Nat) : upto f (k + 1) = upto f k ++ [f k] := by simp [upto, List.range_succ]
theorem upto_length {α : Type} (f : Nat → α) (k : Nat) : (upto f k).length = k := by simp [upto]

set_option maxRecDepth 100000 in
set_option maxHeartbeats 4000000 in
theorem back1_in (F : Fence) (n : Nat) (h8 : F.fn 167) (hro : F.round = none) (hn : 1 ≤ n) (l Bs n₀ b cap : Nat) (zs : List Int) (hreach : zs.length ≤ 100000) (hb : b < n₀) (J Jx : List (BkA zs) → World → Prop)
    (hY : ∀ pre (x : BkA zs) W, J pre W → pre.length < zs.length → YieldAt F (n - 1) Tryz.prog l #[.int .i64 x.1.1, .int .i64 x.1.2] W fun e W' =>
      (e = .returned (.bool true) ∧ J (pre ++ [x]) W' ∧ Below n₀ W W') ∨ (e = .returned (.bool false) ∧ Jx (pre ++ [x]) W'))
    (W : World) (hBl : Bs < n₀) (hBs : W.cell? ⟨Bs, 0, none⟩ = some (.slice (some ⟨b, 0, none⟩) zs.length cap)) (hc : ∀ j, j < zs.length → W.cell? ⟨b, j, none⟩ = some (.int .i64 (zs[j]?.getD 0))) (h0 : J [] W) :
    CallsIn F n Tryz.prog 167 #[.func (.yield l) #[] #[], .pointer (some ⟨Bs, 0, none⟩)] W fun e W' => (∃ v, e = .returned v) ∧
      ((∃ ys, ys.map Subtype.val = upto (bkF zs) zs.length ∧ J ys W') ∨ (∃ pre, (∃ k, k ≤ zs.length ∧ pre.map Subtype.val = upto (bkF zs) k) ∧ Jx pre W')) := by
  refine callsIn_of_wp Tryz.func167 rfl h8 ?_ hro
  simp only [Tryz.ntmps167, List.size_toArray, List.length_cons, List.length_nil, Nat.reduceAdd, Nat.reduceSub, Array.replicate_succ, Array.replicate_zero, List.push_toArray, List.append_toArray, List.nil_append, List.cons_append]
  gi_wp2
  gi_loopw [3] (fun i wr => ∃ k : Nat, k ≤ zs.length ∧ i = .int .i64 ((zs.length : Int) - 1 - k) ∧ (∃ pre, pre.map Subtype.val = upto (bkF zs) k ∧ J pre wr) ∧ Below n₀ W wr)
    (fun i _ => (intOf i + 1).toNat)
  case atStart => exact ⟨0, Nat.zero_le _, by simp, ⟨[], rfl, h0⟩, Below.refl _ _⟩
  case round =>
    obtain ⟨k, hk, rfl, ⟨pre, hpre, hJs⟩, hnx⟩ := hrel
    have hBs' := (hnx.cell (p := ⟨Bs, 0, none⟩) hBl).trans hBs
    have hpl : pre.length = k := by
      have e := congrArg List.length hpre
      rw [List.length_map, upto_length] at e
      exact e
    by_cases hlt : k < zs.length
    · have hcx' : wr.cell? ⟨b, zs.length - 1 - k, none⟩ = some (.int .i64 (zs[zs.length - 1 - k]?.getD 0)) := (hnx.cell (p := ⟨b, zs.length - 1 - k, none⟩) hb).trans (hc _ (by omega))
      obtain ⟨fn, tmps, assign, body, hy, hR⟩ := hY pre ⟨bkF zs k, k, hlt, rfl⟩ wr hJs (by omega)
      dsimp only [bkF] at hy
      have hi : ((zs.length : Int) - 1 - k).toNat = zs.length - 1 - k := by omega
      have hge : (0 : Int) ≤ (zs.length : Int) - 1 - k := by omega
      have hlt2 : (zs.length : Int) - 1 - k < (zs.length : Int) := by omega
      gi_wp2
      refine hR.mono ?_
      have hmap : (pre ++ [(⟨bkF zs k, k, hlt, rfl⟩ : BkA zs)]).map Subtype.val = upto (bkF zs) (k + 1) := by
        rw [upto_succ, List.map_append, hpre]; rfl
      rintro e W3 (⟨rfl, hJ3, hk3⟩ | ⟨rfl, hJx3⟩)
      · gi_wp2
        go_roundw
        case rel => exact ⟨k + 1, by omega, by simp; omega, ⟨_, hmap, hJ3⟩, hnx.trans hk3⟩
        case measure => simp [intOf]; omega
      · gi_wp2
        refine bodyPost_ret (results_none rfl _ _ _) rfl ?_
        exact ⟨⟨_, rfl⟩, .inr ⟨_, ⟨k + 1, by omega, hmap⟩, hJx3⟩⟩
    · obtain rfl : k = zs.length := by omega
      have hneg : ¬ (0 : Int) ≤ (zs.length : Int) - 1 - zs.length := by omega
      gi_wp2
      go_end0
      exact ⟨⟨_, rfl⟩, .inl ⟨_, hpre, hJs⟩⟩

set_option maxRecDepth 100000 in
set_option maxHeartbeats 1000000 in
theorem back0_in (F : Fence) (n : Nat) (h8 : F.fn 167) (hro : F.round = none) (l Bs : Nat) (a : Option Addr) (cap : Nat) (J : List (BkA []) → World → Prop) (W : World) (hBs : W.cell? ⟨Bs, 0, none⟩ = some (.slice a 0 cap)) (h0 : J [] W) :
    CallsIn F n Tryz.prog 167 #[.func (.yield l) #[] #[], .pointer (some ⟨Bs, 0, none⟩)] W fun e W' => (∃ v, e = .returned v) ∧ J [] W' := by
  refine callsIn_of_wp Tryz.func167 rfl h8 ?_ hro
  simp only [Tryz.ntmps167, List.size_toArray, List.length_cons, List.length_nil, Nat.reduceAdd, Nat.reduceSub, Array.replicate_succ, Array.replicate_zero, List.push_toArray, List.append_toArray, List.nil_append, List.cons_append]
  gi_wp2
  gi_loopw [3] (fun i wr => i = .int .i64 (-1) ∧ J [] wr) (fun _ _ => 0)
  case atStart => exact ⟨rfl, h0⟩
  case round =>
    obtain ⟨rfl, hJs⟩ := hrel
    gi_wp2
    go_end0
    exact ⟨⟨_, rfl⟩, hJs⟩

set_option maxHeartbeats 1000000 in
/-- slices.Backward(s): the slice is boxed, the function value captures the box -/
theorem back_in (F : Fence) (n : Nat) (h5 : F.fn 143) (hro : F.round = none) (a : Option Addr) (len cap : Nat) (w : World) :
    CallsIn F n Tryz.prog 143 #[.slice a len cap] w fun e w' => e = .returned (.func (.func 167) #[] #[.pointer (some ⟨w.heap.size, 0, none⟩)]) ∧ w' = w.alloc (.cells #[.slice a len cap] 48) := by
  refine callsIn_of_wp Tryz.func143 rfl h5 ?_ hro
  simp only [Tryz.ntmps143, List.size_toArray, List.length_cons, List.length_nil, Nat.reduceAdd, Nat.reduceSub, Array.replicate_succ, Array.replicate_zero, List.push_toArray, List.append_toArray, List.nil_append, List.cons_append]
  gi_wp2
  go_ret
  exact ⟨rfl, rfl⟩

/-- whole numbers that lie in a slice below a block -/
def IntsIn (n₀ : Nat) (W : World) (sv : Value) (zs : List Int) : Prop :=
  (zs = [] ∧ ∃ a c, sv = .slice a 0 c) ∨ ∃ b cap, sv = .slice (some ⟨b, 0, none⟩) zs.length cap ∧ b < n₀ ∧ ∀ j, j < zs.length → W.cell? ⟨b, j, none⟩ = some (.int .i64 (zs[j]?.getD 0))
theorem IntsIn.below {n₀ : Nat} {A B : World} (h : Below n₀ A B) {sv : Value} {zs : List Int} : IntsIn n₀ A sv zs → IntsIn n₀ B sv zs
  | .inl e => .inl e
  | .inr ⟨b, cap, e, hb, hc⟩ => .inr ⟨b, cap, e, hb, fun j hj => (h.cell (p := ⟨b, j, none⟩) hb).trans (hc j hj)⟩
theorem back_stops (F : Fence) (n : Nat) (h8 : F.fn 167) (hro : F.round = none) (hn : 1 ≤ n) (Bs n₀ : Nat) (sv : Value) (zs : List Int) (hreach : zs.length ≤ 100000) (w : World) (hBs : Bs < n₀) (hn₀ : n₀ ≤ w.heap.size)
    (hc : w.cell? ⟨Bs, 0, none⟩ = some sv) (hI : IntsIn n₀ w sv zs) :
    SeqStopsK F n Tryz.prog 167 #[.pointer (some ⟨Bs, 0, none⟩)] (fun x : BkA zs => #[Value.int .i64 x.1.1, Value.int .i64 x.1.2]) (Below n₀) (fun ys => ys.map Subtype.val = upto (bkF zs) zs.length)
      (fun pre => ∃ k, k ≤ zs.length ∧ pre.map Subtype.val = upto (bkF zs) k) zs.length w := fun l J Jx W hW _ _ hY h0 => by
  have hc' := (hW.cell (p := ⟨Bs, 0, none⟩) (by show Bs < w.heap.size; omega)).trans hc
  rcases hI.below (hW.mono hn₀) with ⟨rfl, a, c, rfl⟩ | ⟨b, cap, rfl, hb, hcs⟩
  · exact (back0_in F n h8 hro l Bs a c J W hc' h0).mono fun e W' ⟨he, hj⟩ => ⟨he, .inl ⟨_, rfl, hj⟩⟩
  · exact back1_in F n h8 hro hn l Bs n₀ b cap zs hreach hb J Jx hY W hBs hc' hcs h0
end Go.Proofs.YtkaeenafejdkfaaGreatDoor

/- The end of a row is cleared, and cut off. -/
namespace Go.Proofs.YtkaeenafejdkfaaGreatDoor
open Go.RowKit

section
variable {P : Program}
theorem clear_tail (w : World) (M : Nat → Lab) (l : Lab) (t e : TypeId) (z : Value) (size : Nat) (ht : P.underlying t = some (.slice e)) (hv : ∀ w, (zeroValue e).run P w = .ok z w) (hzs : z.cells.size = size) (hz1 : ∀ u ∈ z.cells.toList, u.oneCell' = true) (hsz : 0 < size)
    (g n k cap c : Nat) (xs ys : List Value) (hr : Row w M l e size (.slice (some ⟨g, 0, none⟩) (n + k) cap) (n + k) (xs ++ ys)) (hx : xs.length = n * size) (hk : 0 < k) (hfr : ∀ b, w.heap.size ≤ b → M b = .other) :
    ∃ w', (∀ ty, (Builtin.clear_ #[t] ty #[.slice (some ⟨g, n * size, none⟩) k c]).run P w = .ok (.tuple #[]) w') ∧ Row w' M l e size (.slice (some ⟨g, 0, none⟩) n cap) n xs ∧ Step w M w' M l := by
  obtain ⟨hl, a, cap', hv', h1, h2, h3⟩ := hr
  cases hv'
  rcases h3 with ⟨h3, _⟩ | ⟨g', cur, ha, hM, hg, h4, h5⟩
  · omega
  · cases ha
    have hzl : (Builtin.zeroCells z.cells k).toList.length = k * size := by simp [size_zeroCells, hzs]
    have hfit : n * size + k * size ≤ cur.size := by
      rw [← Nat.add_mul]
      exact Nat.le_trans (Nat.mul_le_mul_right _ h1) h4
    have hone : ∀ u ∈ (Builtin.zeroCells z.cells k).toList, u.oneCell' = true := by
      intro u hu
      simp only [Builtin.zeroCells, Array.toList_map, List.mem_map] at hu
      obtain ⟨j, hj, rfl⟩ := hu
      have hjs : j % z.cells.size < z.cells.size := Nat.mod_lt _ (by omega)
      rw [getElem!_pos z.cells _ hjs]
      exact hz1 _ (by simp)
    have hst := run_storeCells_at P g (n * size) e (Builtin.zeroCells z.cells k).toList 0 cur w hg (by rw [hzl]; simpa using hfit) hone
    rw [Nat.add_zero, hzl] at hst
    refine ⟨w.setRow g (cur.toList.take (n * size) ++ (Builtin.zeroCells z.cells k).toList ++ cur.toList.drop (n * size + k * size)).toArray, fun ty => ?_, ⟨hx, _, cap, rfl, by omega, h2, .inr ⟨g, _, rfl, hM, setRow_heap w g cur _ e _ hg, ?_, ?_⟩⟩, ⟨rfl, rfl, rfl, by simp [World.setRow], fun _ _ => rfl, ?_, ?_⟩⟩
    · obtain ⟨k', rfl⟩ : ∃ k', k = k' + 1 := ⟨k - 1, by omega⟩
      simp [Builtin.clear_, run_underlying ht, hv, hst]
    · simp only [List.size_toArray, List.length_append, List.length_take, List.length_drop, Array.length_toList, hzl]
      omega
    · have := congrArg (List.take (n * size)) h5
      rw [List.take_take, List.take_append_of_le_length (by omega), List.take_of_length_le (l := xs) (by omega), Nat.min_eq_left (Nat.mul_le_mul_right _ (by omega))] at this
      simp only [List.append_assoc]
      rw [List.take_append_of_le_length (by simp; omega), List.take_take, Nat.min_self, this]
    · intro b hb
      exact hfr b (by simpa [World.setRow] using hb)
    · intro b hb hne
      exact setRow_other w g b _ (fun e => hne (by rw [e]; exact hM))

theorem step_clear (w : World) {ops : Array Oper} {o : Oper} {a : Act} {K : Act → World → Prop} {Q : Exit → Act → World → Prop} {E : Prop} (hgd : o.guard = none) (x : Operand) (t : TypeId)
    (ho : o.op = .call { callee := .builtin .clear, args := #[x], argTypes := #[t] }) (v : Value) (hx : a.eval x = v) (w' : World) (hr : ∀ ty, (Builtin.clear_ #[t] ty #[v]).run P w = .ok (.tuple #[]) w')
    (h : K (a.put o.dst (.tuple #[])) w') : if Region.wanted o (yielded ops a.tmps) = true then Oper.wp P o a w K Q else E := by
  have hw : Region.wanted o (yielded ops a.tmps) = true := by simp [Region.wanted, hgd]
  rw [if_pos hw]
  unfold Oper.wp execOp
  simp only [ho, resolve, invoke, builtin, Sem.run_bind, Sem.run_pure, Result.andThen_ok, List.map_toArray, List.map_cons, List.map_nil, hx, hr]
  exact h
end
end Go.Proofs.YtkaeenafejdkfaaGreatDoor

/- slices.Delete of one element: of numbers, and of attributes. -/
namespace Go.Proofs.YtkaeenafejdkfaaGreatDoor
open Go.RowKit

/-- where 's[j:]' begins -/
def cutAt (g size cap j : Nat) : Option Addr := if cap = j then some ⟨g, 0, none⟩ else some ⟨g, j * size, none⟩

section
variable {P : Program}
/-- the elements behind the k-th are moved to the left -/
theorem del_row (w : World) (M : Nat → Lab) (l : Lab) (t e : TypeId) (i : TypeInfo) (size : Nat) (ht : P.underlying t = some (.slice e)) (hi : P.info? e = some i) (hsize : i.size = size)
    (g n cap k : Nat) (xs : List Value) (hr : Row w M l e size (.slice (some ⟨g, 0, none⟩) n cap) n xs) (hk : k < n) (h1 : ∀ u ∈ xs, u.oneCell' = true) (hfr : ∀ b, w.heap.size ≤ b → M b = .other) :
    ∃ w1, (∀ ty, (Builtin.append_ #[t, t] ty #[.slice (some ⟨g, 0, none⟩) k cap, .slice (cutAt g size cap (k + 1)) (n - (k + 1)) (cap - (k + 1))]).run P w = .ok (.slice (some ⟨g, 0, none⟩) (n - 1) cap) w1) ∧
      Row w1 M l e size (.slice (some ⟨g, 0, none⟩) (n - 1 + 1) cap) (n - 1 + 1) ((xs.take (k * size) ++ xs.drop ((k + 1) * size)) ++ xs.drop ((n - 1) * size)) ∧ Step w M w1 M l := by
  subst hsize
  have hcell := fun {j u} (h : xs[j]? = some u) => (hr.cell rfl h).1
  obtain ⟨hl, a, cap', hv, c1, c2, c3⟩ := hr
  cases hv
  rcases c3 with ⟨c3, _⟩ | ⟨g', cur, ha, hM, hg, c4, c5⟩
  · omega
  · cases ha
    have e1 : (k + 1) * i.size ≤ n * i.size := Nat.mul_le_mul_right _ (by omega)
    have e2 : k * i.size + i.size = (k + 1) * i.size := by rw [Nat.add_mul, Nat.one_mul]
    have e3 : n * i.size ≤ cap * i.size := Nat.mul_le_mul_right _ c1
    have e4 : (n - 1) * i.size + i.size = n * i.size := by rw [← Nat.succ_mul]; congr 1; omega
    have e5 : (n - (k + 1)) * i.size = n * i.size - (k + 1) * i.size := Nat.sub_mul _ _ _
    have hln : (xs.drop ((k + 1) * i.size)).length = (n - (k + 1)) * i.size := by rw [List.length_drop, hl, e5]
    have main : ∃ A : Addr, cutAt g i.size cap (k + 1) = some A ∧ ∀ j u, (xs.drop ((k + 1) * i.size))[j]? = some u → w.cell? (A.add j) = some u := by
      unfold cutAt
      split
      · refine ⟨_, rfl, fun j u hu => ?_⟩
        have : (xs.drop ((k + 1) * i.size)).length = 0 := by rw [hln, show n - (k + 1) = 0 by omega, Nat.zero_mul]
        rw [List.length_eq_zero_iff.1 this] at hu
        simp at hu
      · refine ⟨_, rfl, fun j u hu => ?_⟩
        have hadd : (⟨g, (k + 1) * i.size, none⟩ : Addr).add j = ⟨g, (k + 1) * i.size + j, none⟩ := by unfold Addr.add; split <;> simp_all
        rw [hadd]
        rw [List.getElem?_drop] at hu
        exact hcell hu
    obtain ⟨A, hA, hnews⟩ := main
    rw [hA]
    have hfit : k * i.size + (xs.drop ((k + 1) * i.size)).length ≤ cur.size := by rw [hln, e5]; omega
    have hrun := fun ty => run_append_room (P := P) w t ty e i ht hi g k cap cur hg A (n - (k + 1)) (cap - (k + 1)) (xs.drop ((k + 1) * i.size)) hln hnews (fun u hu => h1 u (List.mem_of_mem_drop hu)) (by omega) hfit
    refine ⟨_, fun ty => by rw [hrun ty]; congr 2; omega, ⟨?_, some ⟨g, 0, none⟩, cap, rfl, by omega, c2, .inr ⟨g, _, rfl, hM, setRow_heap w g cur _ e _ hg, ?_, ?_⟩⟩, ⟨rfl, rfl, rfl, by simp [World.setRow], fun _ _ => rfl, ?_, ?_⟩⟩
    · simp only [List.length_append, List.length_take, hln, List.length_drop, hl]
      rw [show n - 1 + 1 = n by omega]
      omega
    · simp only [List.size_toArray, List.length_append, List.length_take, List.length_drop, Array.length_toList, hln]
      omega
    · have hcur : ∀ m, m ≤ n * i.size → cur.toList.take m = xs.take m := by
        intro m hm
        rw [← c5, List.take_take, Nat.min_eq_left hm]
      have hlast : (cur.toList.drop (k * i.size + (xs.drop ((k + 1) * i.size)).length)).take i.size = xs.drop ((n - 1) * i.size) := by
        rw [hln, show k * i.size + (n - (k + 1)) * i.size = (n - 1) * i.size by rw [e5]; omega, ← c5, List.drop_take]
        congr 1
        omega
      rw [hcur _ (by omega)]
      have hA2 : (xs.take (k * i.size) ++ xs.drop ((k + 1) * i.size)).length = (n - 1) * i.size := by
        rw [List.length_append, List.length_take, hln, hl, e5]; omega
      rw [show n - 1 + 1 = n by omega, ← e4, ← hA2, List.take_length_add_append, hlast, hA2]
    · intro b hb
      exact hfr b (by simpa [World.setRow] using hb)
    · intro b hb hne
      exact setRow_other w g b _ (fun e => hne (by rw [e]; exact hM))

theorem step_append_run (w : World) {ops : Array Oper} {o : Oper} {a : Act} {K : Act → World → Prop} {Q : Exit → Act → World → Prop} {E : Prop} (hgd : o.guard = none) (s x : Operand) (t : TypeId)
    (ho : o.op = .call { callee := .builtin .append, args := #[s, x], argTypes := #[t, t] }) (v u : Value) (hs : a.eval s = v) (hx : a.eval x = u) (r : Value) (w' : World) (hr : ∀ ty, (Builtin.append_ #[t, t] ty #[v, u]).run P w = .ok r w')
    (h : K (a.put o.dst r) w') : if Region.wanted o (yielded ops a.tmps) = true then Oper.wp P o a w K Q else E := by
  have hw : Region.wanted o (yielded ops a.tmps) = true := by simp [Region.wanted, hgd]
  rw [if_pos hw]
  unfold Oper.wp execOp
  simp only [ho, resolve, invoke, builtin, Sem.run_bind, Sem.run_pure, Result.andThen_ok, List.map_toArray, List.map_cons, List.map_nil, hs, hx, hr]
  exact h
end

theorem zeroInt (w : World) : (zeroValue 3).run Tryz.prog w = .ok (.int .i64 0) w := by
  obtain ⟨i0, hi, hz0, hz1, hz2⟩ := info_parts Tryz.infoInt
  simp [zeroValue, typeInfo, hi, hz0]

theorem erase_ints (xs : List Int) (k : Nat) : (xs.eraseIdx k).map intV = (xs.map intV).take (k * 1) ++ (xs.map intV).drop ((k + 1) * 1) := by
  rw [Nat.mul_one, Nat.mul_one, List.eraseIdx_eq_take_drop_succ, List.map_append, List.map_take, List.map_drop]

set_option maxHeartbeats 4000000 in
set_option maxRecDepth 100000 in
theorem deleteI_any {w : World} {M : Nat → Lab} {l : Lab} {g m cap : Nat} {xs : List Int} (h : Row w M l 3 1 (.slice (some ⟨g, 0, none⟩) (m + 1) cap) (m + 1) (xs.map intV)) (k : Nat) (hk : k < m + 1) (hf : ∀ b, w.heap.size ≤ b → M b = .other) :
    Calls Tryz.prog 152 #[.slice (some ⟨g, 0, none⟩) (m + 1) cap, .int .i64 k, .int .i64 ((k : Int) + 1)] w fun e w' => e = .returned (.slice (some ⟨g, 0, none⟩) m cap) ∧ Row w' M l 3 1 (.slice (some ⟨g, 0, none⟩) m cap) m ((xs.eraseIdx k).map intV) ∧ Step w M w' M l := by
  obtain ⟨i0, hi, hz0, hz1, hz2⟩ := info_parts Tryz.infoInt
  obtain ⟨a, cap2, hv, hc, hm⟩ := h.shape
  cases hv
  have hd : Row w.drew M l 3 1 (.slice (some ⟨g, 0, none⟩) (m + 1) cap) (m + 1) (xs.map intV) := h
  have hlen : (xs.map intV).length = (m + 1) * 1 := h.1
  obtain ⟨w1, hr1, hrow1, st1⟩ := del_row (P := Tryz.prog) w.drew M l 48 3 i0 1 Tryz.underlying48 hi hz1 g (m + 1) cap k _ hd hk (by
    intro u hu
    obtain ⟨y, _, rfl⟩ := List.mem_map.1 hu
    rfl) hf
  rw [← erase_ints] at hrow1
  have hel : ((xs.eraseIdx k).map intV).length = m * 1 := by
    have hx : xs.length = m + 1 := by simpa using hlen
    rw [List.length_map, List.length_eraseIdx, if_pos (by omega)]
    omega
  obtain ⟨w2, hr2, hrow2, st2⟩ := clear_tail (P := Tryz.prog) w1 M l 48 3 _ 1 Tryz.underlying48 zeroInt rfl (by simp [Value.cells, Value.oneCell']) (by decide) g m 1 cap (cap - m) ((xs.eraseIdx k).map intV) _ hrow1 hel (by decide) st1.fresh
  have HA : Hid (∀ ty, (Builtin.append_ #[48, 48] ty #[.slice (some ⟨g, 0, none⟩) k cap, .slice (cutAt g 1 cap (k + 1)) (m - k) (cap - (k + 1))]).run Tryz.prog w.drew = .ok (.slice (some ⟨g, 0, none⟩) m cap) w1) := by
    intro ty
    have := hr1 ty
    rw [show m + 1 - (k + 1) = m - k by omega, show m + 1 - 1 = m by omega] at this
    exact this
  have hcl : ∀ ty, (Builtin.clear_ #[48] ty #[.slice (some ⟨g, m, none⟩) 1 (cap - m)]).run Tryz.prog w1 = .ok (.tuple #[]) w2 := by
    intro ty
    have := hr2 ty
    rw [Nat.mul_one] at this
    exact this
  have HR : Hid (Row w2 M l 3 1 (.slice (some ⟨g, 0, none⟩) m cap) m ((xs.eraseIdx k).map intV) ∧ Step w M w2 M l) := ⟨hrow2, ⟨st2.os.trans st1.os, st2.tape.trans st1.tape, st2.output.trans st1.output, Nat.le_trans st1.size st2.size, fun b hb => (st2.lab b (Nat.lt_of_lt_of_le hb st1.size)).trans (st1.lab b hb), st2.fresh, fun b hb hne => (st2.far b (Nat.lt_of_lt_of_le hb st1.size) (by rw [st1.lab b hb]; exact hne)).trans (st1.far b hb hne)⟩⟩
  unfold maxLen at hm
  have HC : Hid (cutAt g 1 cap (k + 1) = if cap = k + 1 then some ⟨g, 0, none⟩ else some ⟨g, k + 1, none⟩) := by
    show cutAt _ _ _ _ = _
    simp [cutAt]
  have n1 : ((k : Int) == (k : Int) + 1) = false := by simp; omega
  have n2 : ¬ ((k : Int) = (k : Int) + 1) := by omega
  have n3 : ¬ cap = m := by omega
  have i1 : (k : Int) ≤ (cap : Int) := by omega
  have i2 : (k : Int) + 1 ≤ (m : Int) + 1 := by omega
  have i3 : (m : Int) + 1 ≤ (cap : Int) := by omega
  have i4 : (0 : Int) ≤ (k : Int) := by omega
  have i5 : (0 : Int) ≤ (k : Int) + 1 := by omega
  clear h hf hd hr1 hrow1 st1 hr2 hrow2 st2 hel hlen
  go_enter Tryz.func152, Tryz.ntmps152
  go_wp2_with fail
  go_region_law ((refine step_append_run _ (by rfl) (.tmp 22) (.tmp 25) 48 (by rfl) (.slice (some ⟨g, 0, none⟩) k cap) (.slice (cutAt g 1 cap (k + 1)) (m - k) (cap - (k + 1))) (by simp [Act.eval, Act.put]) (by rw [HC.out]; simp [Act.eval, Act.put]) _ w1 HA.out ?_))
  all_goals go_wp2
  all_goals go_ret
  all_goals go_light
  all_goals first
    | exact ⟨rfl, HR.out.1, HR.out.2⟩
    | (obtain rfl : cap = k + 1 := by assumption
       exact ⟨rfl, HR.out.1, HR.out.2⟩)
end Go.Proofs.YtkaeenafejdkfaaGreatDoor

/- What Set makes of a tree, where it sets. -/
namespace Go.Proofs.YtkaeenafejdkfaaGreatDoor
open Go.RowKit

theorem moved_cell {w w' : World} {M M' : Nat → Lab} (m : Moved w M w' M') {b o : Nat} {v : Value} (hM : M b = .other) (hc : w.cell? ⟨b, o, none⟩ = some v) : w'.cell? ⟨b, o, none⟩ = some v :=
  (World.cell?_of_block (a := ⟨b, o, none⟩) (m.far b (World.block_lt_of_cell? w _ hc) hM)).trans hc

/-- an attribute was set -/
def WasSet (w : World) (M : Nat → Lab) (tb : Nat) (nv : Value) (ps : List Pn) (us : List Value) (i : Nat) (p : Pn) (name value : ByteArray) (e : Ending) (w' : World) : Prop :=
  e = .returned .nilIface ∧ ∃ M' uv' av' f, Lies w' M' tb nv uv' (ps.set i ⟨{ p.n with attrs := setAttr p.n.attrs name value }, av', p.kv⟩) (us ++ [f]) ∧ Moved w M w' M'

set_option maxHeartbeats 4000000 in
set_option maxRecDepth 100000 in
theorem set_new {w : World} {M : Nat → Lab} {tb : Nat} {nv uv : Value} {ps : List Pn} {us : List Value} (h : Lies w M tb nv uv ps us) (hE : Errs w M) {i : Nat} {p : Pn} (hp : ps[i]? = some p) (name value : ByteArray) (hk : p.n.kind = 2) (hn : nameB name = true) (hv : value.size ≤ 20000) (hu : us.length ≤ 1099511627776) (ha : p.n.attrs.length ≤ 1099511627776) (hf : findA p.n.attrs name = none) :
    Calls Tryz.prog 41 #[.pointer (some ⟨tb, 0, none⟩), .int .i64 i, .string name, .string value] w (WasSet w M tb nv ps us i p name value) := by
  obtain ⟨i0, hi, hz0, hz1, hz2⟩ := info_parts Tryz.infoAttr
  have hfi : findI p.n.attrs name = -1 := by simp only [findI, hf]
  have hsa : Hid (setAttr p.n.attrs name value = p.n.attrs ++ [(name, value)]) := by
    show setAttr _ _ _ = _
    simp only [setAttr, hf]
  obtain ⟨nb, nc, rfl, hc, hm, hnM, hnl, hil⟩ := h.form hp
  obtain ⟨aa, ac, hav, hac1, hac2⟩ := (h.node i p hp).1.shape
  have hlt : tb < w.heap.size := lt_of_heap h.head
  have c0 := h.cell0
  have W0 : Hid (∀ w', Below w.heap.size w w' → Lies w' M tb (.slice (some ⟨nb, 0, none⟩) ps.length nc) uv ps us ∧ Errs w' M) := fun w' hb => ⟨h.below hb, hE.below hb⟩
  have HP : Hid (ps[i]? = some p) := hp
  have HF : Hid (∀ b, w.heap.size ≤ b → M b = .other) := h.fresh
  have i1 : (0 : Int) ≤ (i : Int) := by omega
  have i2 : (i : Int) < (ps.length : Int) := by omega
  unfold maxLen at hm hac2
  clear h hE hp hf
  go_enter Tryz.func41, Tryz.ntmps41
  go_wp2_with (first
    | (go_at_call 82; refine (wantElement_any (W0.out _ (((Below.refl _ _).alloc (Nat.le_refl _) _).alloc (by simp) _)).1 (W0.out _ (((Below.refl _ _).alloc (Nat.le_refl _) _).alloc (by simp) _)).2 HP.out).mono ?_; rintro e w' ⟨⟨v, rfl, hv⟩, rfl⟩; rw [if_pos hk] at hv; subst hv)
    | (go_at_call 80; refine (name_any _ _).mono ?_; rintro e w' ⟨rfl, rfl⟩; rw [hn]))
  go_quiet (fail)
  go_wp2_with (first
    | (go_at_call 83; refine (find_any (W0.out _ (below_drewN (((Below.refl _ _).alloc (Nat.le_refl _) _).alloc (by simp) _) _)).1 HP.out name).mono ?_; rintro e w1 ⟨rfl, hB⟩; rw [hfi]
       have b0 : w1.cell? ⟨w.heap.size, 0, none⟩ = some (.pointer (some ⟨tb, 0, none⟩)) := (hB.cell (p := ⟨w.heap.size, 0, none⟩) (by simp; omega)).trans (by simp)
       have b1 : w1.cell? ⟨w.heap.size + 1, 0, none⟩ = some (.int .i64 i) := (hB.cell (p := ⟨w.heap.size + 1, 0, none⟩) (by simp)).trans (by simp)
       have hB1 : Hid (Below w.heap.size w w1) := (below_drewN (((Below.refl _ _).alloc (Nat.le_refl _) _).alloc (by simp) _) _).trans (hB.mono (by simp; omega))
       have c3 := ((W0.out w1 hB1.out).1.cellN rfl (f := 3) HP.out (by omega) rfl)
       rw [hav] at c3
       obtain ⟨c3, c3f⟩ := c3
       have l0 : w.heap.size + 1 < w1.heap.size := World.block_lt_of_cell? w1 _ b1
       have l1 : nb < w1.heap.size := World.block_lt_of_cell? w1 _ c3
       have HB2 : Hid (∀ o1 o2, Below w1.heap.size w1 ((w1.alloc o1).alloc o2)) := fun o1 o2 => ((Below.refl _ _).alloc (Nat.le_refl _) _).alloc (by simp) _
       have HLW : Hid (∀ o1 o2, Lies ((w1.alloc o1).alloc o2) M tb (.slice (some ⟨nb, 0, none⟩) ps.length nc) uv ps us) := fun o1 o2 => ((W0.out w1 hB1.out).1.alloc o1).alloc o2
       have HRW : Hid (∀ o1 o2, Row ((w1.alloc o1).alloc o2) M (.attrs i) 81 2 (.slice aa p.n.attrs.length ac) p.n.attrs.length (attrCells p.n.attrs)) := fun o1 o2 => hav ▸ ((HLW.out o1 o2).node i p HP.out).1
       clear hB)
    | (at_builtin; (refine wpList_app_row _ (by rfl) (.tmp 42) (.tmp 46) 47 (by rfl) M (.attrs i) 81 i0 _ 2 32 Tryz.underlying47 hi hz0 hz1 hz2 rfl (by decide) (.slice aa p.n.attrs.length ac) p.n.attrs.length (attrCells p.n.attrs) (by rfl) (HRW.out _ _) ⟨w1.heap.size + 1, 0, none⟩ 1 1 [.string name, .string value] (by rfl) rfl (news_new (w1.alloc _) #[.string name, .string value] 81 _ (by simp)) (by simp [Value.oneCell']) (by decide) (by unfold maxLen; omega) (by omega) (HLW.out _ _).fresh ?_); intro g cap1 w2 M2 hr st
       (obtain ⟨q1, q2, ⟨u3, q3⟩, q4⟩ := (HLW.out _ _).setAttrs rfl HP.out st (at' := p.n.attrs ++ [(name, value)]) (by rw [List.length_append, attrCells_append]; exact hr))
       (have b0' : (w2.setCell ⟨nb, i * 6 + 3, none⟩ (.slice (some ⟨g, 0, none⟩) (p.n.attrs.length + 1) cap1)).cell? ⟨w.heap.size, 0, none⟩ = some (.pointer (some ⟨tb, 0, none⟩)) := moved_cell q2 (HF.out _ (Nat.le_refl _)) (((HB2.out _ _).cell (p := ⟨w.heap.size, 0, none⟩) (by show w.heap.size < w1.heap.size; omega)).trans b0))
       (have HQ : Hid _ := And.intro q1 (((((Moved.refl w M).below hB1.out).alloc _).alloc _).trans q2))
       clear q1 q2 hr st)
    | (go_at_call 84; refine (keep_any HQ.out.1 _ _ _ hu).mono ?_; rintro e w3 ⟨rfl, M3, uv3, hL3, hm3⟩))
  go_ret
  exact ⟨rfl, M3, uv3, _, _, hsa.out ▸ hL3, HQ.out.2.trans hm3⟩

set_option maxHeartbeats 4000000 in
set_option maxRecDepth 100000 in
theorem set_old {w : World} {M : Nat → Lab} {tb : Nat} {nv uv : Value} {ps : List Pn} {us : List Value} (h : Lies w M tb nv uv ps us) (hE : Errs w M) {i : Nat} {p : Pn} (hp : ps[i]? = some p) (name value : ByteArray) (hk : p.n.kind = 2) (hn : nameB name = true) (hv : value.size ≤ 20000) (hu : us.length ≤ 1099511627776) {k : Nat} (hf : findA p.n.attrs name = some k) :
    Calls Tryz.prog 41 #[.pointer (some ⟨tb, 0, none⟩), .int .i64 i, .string name, .string value] w (WasSet w M tb nv ps us i p name value) := by
  have hfi : findI p.n.attrs name = k := by simp only [findI, hf]
  have hkl : k < p.n.attrs.length := by
    unfold findA at hf
    rw [List.findIdx?_eq_some_iff_getElem] at hf
    exact hf.1
  obtain ⟨x, hx⟩ : ∃ x, p.n.attrs[k]? = some x := ⟨_, List.getElem?_eq_getElem hkl⟩
  have hsa : Hid (setAttr p.n.attrs name value = p.n.attrs.set k (x.1, value)) := by
    show setAttr _ _ _ = _
    simp only [setAttr, hf]
    rw [List.getD_eq_getElem?_getD, hx]
    rfl
  obtain ⟨nb, nc, rfl, hc, hm, hnM, hnl, hil⟩ := h.form hp
  obtain ⟨ag, ac, hav, hac1, hac2, hagM, hagl⟩ := (h.node i p hp).1.form (by omega)
  have hlt : tb < w.heap.size := lt_of_heap h.head
  have c0 := h.cell0
  have W0 : Hid (∀ w', Below w.heap.size w w' → Lies w' M tb (.slice (some ⟨nb, 0, none⟩) ps.length nc) uv ps us ∧ Errs w' M) := fun w' hb => ⟨h.below hb, hE.below hb⟩
  have HP : Hid (ps[i]? = some p) := hp
  have HX : Hid (p.n.attrs[k]? = some x) := hx
  have HF : Hid (∀ b, w.heap.size ≤ b → M b = .other) := h.fresh
  have i1 : (0 : Int) ≤ (i : Int) := by omega
  have i2 : (i : Int) < (ps.length : Int) := by omega
  have i3 : (0 : Int) ≤ (k : Int) := by omega
  have i4 : (k : Int) < (p.n.attrs.length : Int) := by omega
  unfold maxLen at hm hac2
  clear h hE hp hf hx
  go_enter Tryz.func41, Tryz.ntmps41
  go_wp2_with (first
    | (go_at_call 82; refine (wantElement_any (W0.out _ (((Below.refl _ _).alloc (Nat.le_refl _) _).alloc (by simp) _)).1 (W0.out _ (((Below.refl _ _).alloc (Nat.le_refl _) _).alloc (by simp) _)).2 HP.out).mono ?_; rintro e w' ⟨⟨v, rfl, hv⟩, rfl⟩; rw [if_pos hk] at hv; subst hv)
    | (go_at_call 80; refine (name_any _ _).mono ?_; rintro e w' ⟨rfl, rfl⟩; rw [hn]))
  go_quiet (fail)
  go_wp2_with (first
    | (go_at_call 83; refine (find_any (W0.out _ (below_drewN (((Below.refl _ _).alloc (Nat.le_refl _) _).alloc (by simp) _) _)).1 HP.out name).mono ?_; rintro e w1 ⟨rfl, hB⟩; rw [hfi]
       have b0 : w1.cell? ⟨w.heap.size, 0, none⟩ = some (.pointer (some ⟨tb, 0, none⟩)) := (hB.cell (p := ⟨w.heap.size, 0, none⟩) (by simp; omega)).trans (by simp)
       have b1 : w1.cell? ⟨w.heap.size + 1, 0, none⟩ = some (.int .i64 i) := (hB.cell (p := ⟨w.heap.size + 1, 0, none⟩) (by simp)).trans (by simp)
       have hB1 : Hid (Below w.heap.size w w1) := (below_drewN (((Below.refl _ _).alloc (Nat.le_refl _) _).alloc (by simp) _) _).trans (hB.mono (by simp; omega))
       obtain ⟨c3, c3f⟩ := ((W0.out w1 hB1.out).1.cellN rfl (f := 3) HP.out (by omega) rfl)
       rw [hav] at c3
       have cx := ((W0.out w1 hB1.out).1.node i p HP.out).1.cell hav (attrCells_get p.n.attrs k x HX.out).2
       obtain ⟨cx, cxf⟩ := cx
       have l0 : w.heap.size + 1 < w1.heap.size := World.block_lt_of_cell? w1 _ b1
       have l1 : nb < w1.heap.size := World.block_lt_of_cell? w1 _ c3
       have l2 : ag < w1.heap.size := World.block_lt_of_cell? w1 _ cx
       have st : Step w1 M (w1.setCell ⟨ag, k * 2 + 1, none⟩ (.string value)) M (.attrs i) := step_setCell _ hagM (W0.out w1 hB1.out).1.fresh
       have hrs := ((W0.out w1 hB1.out).1.node i p HP.out).1.set hav (k * 2 + 1) (.string value) (by rw [attrCells_length]; omega)
       have HQ : Hid _ := (W0.out w1 hB1.out).1.turnAttrs HP.out st (at' := p.n.attrs.set k (x.1, value)) (by rw [List.length_set, attrCells_set p.n.attrs k x value HX.out]; exact hrs)
       have bx : (w1.setCell ⟨ag, k * 2 + 1, none⟩ (.string value)).cell? ⟨w.heap.size, 0, none⟩ = some (.pointer (some ⟨tb, 0, none⟩)) := moved_cell HQ.out.2 (HF.out _ (Nat.le_refl _)) b0
       have hbx : ∀ o1 o2, (((w1.setCell ⟨ag, k * 2 + 1, none⟩ (.string value)).alloc o1).alloc o2).cell? ⟨w.heap.size, 0, none⟩ = some (.pointer (some ⟨tb, 0, none⟩)) := fun o1 o2 => moved_cell (((Moved.refl _ M).alloc o1).alloc o2) (HF.out _ (Nat.le_refl _)) bx
       have hne1 : ¬ (w.heap.size = ag) := by omega
       have hne2 : ¬ (ag = w.heap.size) := by omega
       clear hB st hrs))
  go_region
  all_goals go_wp2_with fail
  all_goals go_region
  all_goals go_wp2_with (go_at_call 84; refine (keep_any ((HQ.out.1.alloc _).alloc _).drew.drew _ _ _ hu).mono ?_; rintro e w3 ⟨rfl, M3, uv3, hL3, hm3⟩)
  all_goals go_ret
  all_goals exact ⟨rfl, M3, uv3, _, _, hsa.out ▸ hL3, (((((Moved.refl w M).below hB1.out).trans HQ.out.2).alloc _).alloc _).drew.drew.trans hm3⟩
end Go.Proofs.YtkaeenafejdkfaaGreatDoor
