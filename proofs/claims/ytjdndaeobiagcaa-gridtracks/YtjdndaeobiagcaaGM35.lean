/- Widths of blocks, as plain numbers. -/
import Derived.Test.YtjdndaeobiagcaaGM34
import Derived.Deep.QuietTactic
import Derived.BigQuiet
import Derived.Test.YtjdndaeobiagcaaSItem
import Derived.Test.YtjdndaeobiagcaaProg
import Derived.Deep.RegionLaw
import Derived.OwnWalk
import Derived.Maps.AppendAt
namespace Go.Proofs.Ytjdndaeobiagcaa

def bnd1 (n most : Int) : Int := if 0 ≤ most ∧ most < n then most else n
def bndV (n least most : Int) : Int := max (bnd1 n most) (max least 0)
def bndB (n least most : Int) : Bool := decide (0 ≤ most ∧ most < n) || decide (bnd1 n most < max least 0)

/-- margins on both sides, where what is left goes to those that are auto -/
def takeN (l r rest : Int) (aL aR : Bool) : Int × Int :=
  match aL, aR with
  | true, true => (max rest 0 / 2, rest - max rest 0 / 2)
  | true, false => (rest, r)
  | false, true => (l, rest)
  | false, false => (l, r)

def z (a : Bool) (n : Int) : Int := if a then 0 else n

/-- a block's left margin, inner width, right margin -/
def widthN (R L I T A Mn Mx : Int) (aL aI aR : Bool) : Int × Int × Int :=
  let free := R - A - z aL L - z aR T
  let i0 := if aI then max free 0 else I
  let i := bndV i0 Mn Mx
  if aI && !bndB i0 Mn Mx then (z aL L, i, z aR T)
  else
    let p := takeN (z aL L) (z aR T) (free - i) aL aR
    (p.1, i, if !aL && !aR then p.2 + (free - i) else p.2)
end Go.Proofs.Ytjdndaeobiagcaa

/- The document's greatest, least, half. -/
namespace Go.Proofs.Ytjdndaeobiagcaa
open Go.RowKit

theorem ret_int {a b : Int} (h : a = b) : Ending.returned (.int .i64 a) = .returned (.int .i64 b) := by rw [h]
theorem ret_int3 {a b c a' b' c' : Int} (h1 : a = a') (h2 : b = b') (h3 : c = c') : Ending.returned (.tuple #[.int .i64 a, .int .i64 b, .int .i64 c]) = .returned (.tuple #[.int .i64 a', .int .i64 b', .int .i64 c']) := by rw [h1, h2, h3]

set_option maxHeartbeats 400000 in
theorem most_any (a b : Int) (w : World) : Calls Try.prog 47 #[.int .i64 a, .int .i64 b] w fun e w' => e = .returned (.int .i64 (max a b)) ∧ w' = w := by
  go_enter Try.func47, Try.ntmps47
  go_wp2
  all_goals
    go_returns
    exact ⟨ret_int (by omega), rfl⟩

set_option maxHeartbeats 400000 in
theorem least_any (a b : Int) (w : World) : Calls Try.prog 75 #[.int .i64 a, .int .i64 b] w fun e w' => e = .returned (.int .i64 (min a b)) ∧ w' = w := by
  go_enter Try.func75, Try.ntmps75
  go_wp2
  all_goals
    go_returns
    exact ⟨ret_int (by omega), rfl⟩

set_option maxHeartbeats 400000 in
theorem down2_any (a : Int) (h0 : 0 ≤ a) (h1 : a ≤ 1000000000) (w : World) : Calls Try.prog 41 #[.int .i64 a, .int .i64 2] w fun e w' => e = .returned (.int .i64 (a / 2)) ∧ w' = w := by
  have h2 : ¬ a / 2 * 2 > a := by omega
  go_enter Try.func41, Try.ntmps41
  go_wp2
  all_goals
    go_returns
    exact ⟨rfl, rfl⟩

end Go.Proofs.Ytjdndaeobiagcaa

/- The document's factor, hold, size, weight, left. -/
namespace Go.Proofs.Ytjdndaeobiagcaa
open Go.RowKit
set_option linter.unusedVariables false      -- bounds that are for the walk

set_option maxHeartbeats 400000 in
set_option maxRecDepth 100000 in
theorem qfactor_any (n : Int) (w : World) : Calls Try.prog 56 #[.int .i64 n] w fun e w' => e = .returned (.int .i64 (facN n)) ∧ w' = w := by
  have L := hidF (fun W => least_any n 1000000000 W)
  by_cases h : n < 0
  · have e : facN n = 0 := by unfold facN; split <;> omega
    rw [e]
    go_enter Try.func56, Try.ntmps56
    go_wp2_with fail
    go_returns
    exact ⟨rfl, rfl⟩
  · have e : facN n = min n 1000000000 := by unfold facN; split <;> omega
    rw [e]
    go_enter Try.func56, Try.ntmps56
    go_wp2_with fail
    refine (L.out _).mono ?_
    rintro e w1 ⟨rfl, hw1⟩
    rw [hw1]
    go_wp2_with fail
    go_returns
    exact ⟨rfl, rfl⟩

set_option maxHeartbeats 1000000 in
set_option maxRecDepth 100000 in
theorem qhold_any (i : It) (n : Int) (hm : 0 ≤ i.mn) (w : World) :
    Calls Try.prog 32 #[itV i, .int .i64 n] w fun e w' => e = .returned (.int .i64 (bndI i n)) ∧ Below w.heap.size w w' := by
  obtain ⟨b, mn, mx, ar, gr, sh⟩ := i
  unfold itV bndI
  simp only at hm ⊢
  have M := hidF (fun (x : Int) (W : World) => most_any x mn W)
  obtain ⟨cp, hcp⟩ : ∃ c, capN n mx = c := ⟨_, rfl⟩
  have e : max cp (max mn 0) = max cp mn := by omega
  rw [hcp, e]
  clear e
  unfold capN at hcp
  by_cases c1 : 0 ≤ mx
  · by_cases c2 : mx < n
    · have e : cp = mx := by rw [← hcp, if_pos ⟨c1, c2⟩]
      subst e
      clear hcp
      go_enter Try.func32, Try.ntmps32
      go_wp2_with fail
      refine (M.out _ _).mono ?_
      rintro e w1 ⟨rfl, hw1⟩
      rw [hw1]
      go_wp2_with fail
      go_returns
      exact ⟨rfl, by go_grown⟩
    · have e : cp = n := by rw [← hcp, if_neg (by omega)]
      subst e
      clear hcp
      go_enter Try.func32, Try.ntmps32
      go_wp2_with fail
      refine (M.out _ _).mono ?_
      rintro e w1 ⟨rfl, hw1⟩
      rw [hw1]
      go_wp2_with fail
      go_returns
      exact ⟨rfl, by go_grown⟩
  · have e : cp = n := by rw [← hcp, if_neg (by omega)]
    subst e
    clear hcp
    go_enter Try.func32, Try.ntmps32
    go_wp2_with fail
    refine (M.out _ _).mono ?_
    rintro e w1 ⟨rfl, hw1⟩
    rw [hw1]
    go_wp2_with fail
    go_returns
    exact ⟨rfl, by go_grown⟩

set_option maxHeartbeats 400000 in
theorem qsize_any (n : Int) (h1 : -4000000000000000000 ≤ n) (h2 : n ≤ 4000000000000000000) (w : World) : Calls Try.prog 35 #[.int .i64 n] w fun e w' => e = .returned (.int .i64 (n.natAbs : Int)) ∧ w' = w := by
  go_enter Try.func35, Try.ntmps35
  go_wp2
  all_goals
    go_returns
    exact ⟨ret_i (by omega), rfl⟩

set_option maxHeartbeats 400000 in
set_option maxRecDepth 100000 in
theorem qweight_any {i : It} (hi : i.Ok) (grow : Bool) (w : World) :
    Calls Try.prog 34 #[itV i, .int .i64 (facG grow i), .bool grow] w fun e w' => e = .returned (.int .i64 (wtG grow i)) ∧ Below w.heap.size w w' := by
  obtain ⟨z1, z2⟩ := wtG_bd false hi
  obtain ⟨b, mn, mx, ar, gr, sh⟩ := i
  unfold itV facG wtG at *
  simp only [Bool.false_eq_true, if_false] at z1 z2
  have W9 : IntKind.i64.wrap (sh * b) = sh * b := wrapJ (by omega) (by omega)
  cases grow
  all_goals
    simp only
    go_enter Try.func34, Try.ntmps34
    go_wp2_with fail
    go_returns
    exact ⟨by first | rfl | simp [W9], by go_grown⟩
end Go.Proofs.Ytjdndaeobiagcaa

/- append onto one's own at a step of a region that draws its order. -/
namespace Go.Proofs.Ytjdndaeobiagcaa

section
variable {P : Program}
theorem step_own (w : World) {ops : Array Oper} {o : Oper} {a : Act} {K : Act → World → Prop} {Q : Exit → Act → World → Prop} {E : Prop} (hgd : o.guard = none) (s x : Operand) (t : TypeId)
    (ho : o.op = .call { callee := .builtin .append, args := #[s, x], argTypes := #[t, t] })
    (base : Nat) (e : TypeId) (i : TypeInfo) (z : Value) (size bytes : Nat) (ht : P.underlying t = some (.slice e)) (hi : P.info? e = some i) (hz : i.zero = some z)
    (hsize : i.size = size) (hby : i.bytes = bytes) (hzs : z.cells.size = size) (hsz : 0 < size)
    (v : Value) (n : Nat) (xs : List Value) (hs : a.eval s = v) (hown : w.ownsRow base e size v n xs)
    (ad : Addr) (m c : Nat) (news : List Value) (hx : a.eval x = .slice (some ad) m c) (hl : news.length = m * size) (hnews : ∀ j u, news[j]? = some u → w.cell? (ad.add j) = some u) (h1 : ∀ u ∈ news, u.oneCell' = true)
    (h63 : n + m ≤ maxLen) (hbytes : (n + m) * bytes ≤ 140737488355328) (hbase : base ≤ w.heap.size)
    (h : ∀ v' w', w'.ownsRow base e size v' (n + m) (xs ++ news) → w.grownBy w' v.ownBlock → (v'.ownBlock = v.ownBlock ∨ v'.ownBlock = some w.heap.size) → K (a.put o.dst v') w') :
    if Region.wanted o (yielded ops a.tmps) = true then Oper.wp P o a w K Q else E := by
  have hw : Region.wanted o (yielded ops a.tmps) = true := by simp [Region.wanted, hgd]
  rw [if_pos hw]
  obtain ⟨v', w', hr, h2, h3, h4, h5⟩ := run_append_own_at (P := P) w base t o.type e i z size bytes ht hi hz hsize hby hzs hsz v n xs hown ad m c news hl hnews h1 h63 hbytes hbase
  unfold Oper.wp execOp
  simp only [ho, resolve, invoke, builtin, Sem.run_bind, Sem.run_pure, Result.andThen_ok, List.map_toArray, List.map_cons, List.map_nil, hs, hx, hr]
  exact h v' w' h2 h3 h5

/-- a call of a function that has a body -/
theorem run_enterS {f : FuncId} {fn : Func} {c : Code} (hf : P.funcs[f]? = some fn) (hname : (fn.name == "runtime.NumGoroutine") = false) (hb : fn.body = some c) (args : Array Value) (w : World) :
    (callFunc f args).run P w = .ok (.enter f args) w := by
  have h1 : fn.name ≠ "runtime.NumGoroutine" := by simpa using hname
  simp [callFunc, Sem.run_bind, hf, h1, hb]
/-- a call, perhaps guarded, at a step of a region that draws its order -/
theorem step_callG (w : World) {ops : Array Oper} {o : Oper} {a : Act} {K : Act → World → Prop} {Q : Exit → Act → World → Prop} {E : Prop} (hw : Region.wanted o (yielded ops a.tmps) = true) (f : FuncId) (xs : List Operand) (ts : Array TypeId)
    (ho : o.op = .call { callee := .value (.func f), args := xs.toArray, argTypes := ts }) {fn : Func} {c : Code} (hf : P.funcs[f]? = some fn) (hname : (fn.name == "runtime.NumGoroutine") = false) (hb : fn.body = some c)
    (xv : List Value) (hx : xs.map a.eval = xv) {R : Ending → World → Prop} (h : Calls P f xv.toArray w R)
    (hR : ∀ e w', R e w' → ∃ v, e = .returned v ∧ K (a.put o.dst v) w') :
    if Region.wanted o (yielded ops a.tmps) = true then Oper.wp P o a w K Q else E := by
  rw [if_pos hw]
  unfold Oper.wp execOp
  have hr : ∀ w, (Deferred.ofValue (a.eval (Operand.func f)) xv.toArray).run P w = .ok ⟨.fn (.func f) #[], xv.toArray⟩ w := fun w => by
    simp [go_sem, Deferred.ofValue, Act.eval]
  simp only [ho, resolve, invoke, Sem.run_bind, List.map_toArray, hx, hr, Result.andThen_ok, run_enterS hf hname hb, Array.append_empty]
  rw [Oper.upon_enter]
  refine h.mono fun e w' hRe => ?_
  obtain ⟨v, rfl, hv⟩ := hR e w' hRe
  exact hv
end
end Go.Proofs.Ytjdndaeobiagcaa
