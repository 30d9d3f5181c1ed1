/- Package events: the way of a node, one parent behind the other; collected into a list. -/
import Derived.Test.YtlfepdecgfcifaaGreatDoorM21
import Derived.Test.YtlfepdecgfcifaaGreatDoorM22
import Derived.Test.YtlfepdecgfcifaaGreatDoorM18
import Derived.Test.YtlfepdecgfcifaaGreatDoorM10
import Derived.OneCell
import Derived.OwnWalk
import Derived.Shelf.RegionOpen
import Derived.Shelf.Abstract
import Derived.OwnWalkIn
import Derived.TacticsInMore
import Derived.LoopNIn
import Derived.LoopIn
import Derived.BigRegionIn
import Derived.Sort.BigQuietIn
import Derived.Orders
import Derived.OrdersIn
import Derived.TacticsIn
namespace Go.Proofs.YtlfepdecgfcifaaGreatDoor
open Go.RowKit Go.BigFrame
set_option linter.unusedVariables false
attribute [local go_sem] Oper.semAt_some

/-- a tree, or none -/
def TrR (W : World) (tv : Value) (ns : List Nd) : Prop :=
  (tv = .pointer none ∧ ns = []) ∨ ∃ (tb : Nat) (M : Nat → Lab) (nv uv : Value) (ps : List Pn) (us : List Value), tv = .pointer (some ⟨tb, 0, none⟩) ∧ Lies W M tb nv uv ps us ∧ nodesOf ps = ns
theorem TrR.below {W W' : World} {tv : Value} {ns : List Nd} (h : TrR W tv ns) (hb : Below W.heap.size W W') : TrR W' tv ns := by
  rcases h with h | ⟨tb, M, nv, uv, ps, us, h1, h2, h3⟩
  · exact .inl h
  · exact .inr ⟨tb, M, nv, uv, ps, us, h1, h2.below hb, h3⟩
def kindI (ns : List Nd) (z : Int) : Int := if hasB ns.length z then (match ns[z.toNat]? with | some n => n.kind | none => 0) else 0
theorem nodes_len {ps : List Pn} {ns : List Nd} (h : nodesOf ps = ns) : ps.length = ns.length := by rw [← h]; simp [nodesOf]

set_option maxHeartbeats 1000000 in
theorem hasNil_any (z : Int) (w : World) : Calls Tryz.prog 54 #[.pointer none, .int .i64 z] w fun e w' => e = .returned (.bool false) ∧ w' = w := by
  go_enter Tryz.func54, Tryz.ntmps54
  go_wp2
  all_goals go_ret
  all_goals exact ⟨rfl, rfl⟩
set_option maxHeartbeats 2000000 in
set_option maxRecDepth 100000 in
theorem kindT_any {W : World} {tv : Value} {ns : List Nd} (h : TrR W tv ns) (z : Int) :
    Calls Tryz.prog 40 #[tv, .int .i64 z] W fun e w' => e = .returned (.int .i64 (kindI ns z)) ∧ w' = W := by
  rcases h with ⟨rfl, rfl⟩ | ⟨tb, M, nv, uv, ps, us, rfl, h2, h3⟩
  · have e : kindI [] z = 0 := by unfold kindI; split <;> simp
    rw [e]
    go_enter Tryz.func40, Tryz.ntmps40
    go_wp2_with (go_at_call 54; refine (hasNil_any z W).mono ?_; rintro e w' ⟨rfl, rfl⟩)
    all_goals go_ret
    all_goals exact ⟨rfl, rfl⟩
  · have hl := nodes_len h3
    cases hb : hasB ns.length z
    · have e : kindI ns z = 0 := by unfold kindI; rw [hb]; simp
      rw [e]
      rw [← hl] at hb
      go_enter Tryz.func40, Tryz.ntmps40
      go_wp2_with (go_at_call 54; refine (has_any h2 z).mono ?_; rintro e w' ⟨rfl, rfl⟩; rw [hb])
      all_goals go_ret
      all_goals exact ⟨rfl, rfl⟩
    · have hz : 0 ≤ z ∧ z < (ns.length : Int) := by unfold hasB at hb; simpa using hb
      obtain ⟨i, rfl⟩ : ∃ i : Nat, z = i := ⟨z.toNat, by omega⟩
      obtain ⟨p, hp⟩ : ∃ p, ps[i]? = some p := ⟨_, List.getElem?_eq_getElem (by omega)⟩
      have e : kindI ns i = p.n.kind := by
        unfold kindI
        rw [hb, ← h3, Int.toNat_natCast]
        simp only [if_true]
        rw [show (nodesOf ps)[i]? = some p.n by unfold nodesOf; rw [List.getElem?_map, hp]; rfl]
      rw [e]
      exact kind_any h2 hp
theorem parT_any {W : World} {tv : Value} {ns : List Nd} (h : TrR W tv ns) (i : Nat) (hi : i < ns.length) :
    Calls Tryz.prog 22 #[tv, .int .i64 i] W fun e w' => e = .returned (.int .i64 (parOf ns i)) ∧ w' = W := by
  rcases h with ⟨rfl, rfl⟩ | ⟨tb, M, nv, uv, ps, us, rfl, h2, h3⟩
  · simp at hi
  · have hl := nodes_len h3
    obtain ⟨p, hp⟩ : ∃ p, ps[i]? = some p := ⟨_, List.getElem?_eq_getElem (by omega)⟩
    have e : parOf ns i = p.n.parent := by
      unfold parOf
      rw [← h3, Int.toNat_natCast, show (nodesOf ps)[i]? = some p.n by unfold nodesOf; rw [List.getElem?_map, hp]; rfl]
    rw [e]
    exact parent_any h2 hp

/-- the way of what is a node; else nothing -/
def wayI (ns : List Nd) (z : Int) : List Int := if kindI ns z = 0 then [] else upA ns z
structure WyQ (ns : List Nd) (tv : Value) (z : Int) (B : Nat) (W : World) : Prop where
  tr : TrR W tv ns
  b0 : W.cell? ⟨B, 0, none⟩ = some tv
  b1 : W.cell? ⟨B + 1, 0, none⟩ = some (.int .i64 z)

set_option maxHeartbeats 8000000 in
set_option maxRecDepth 100000 in
theorem way_stops (n : Nat) (hn : 1 ≤ n) (ns : List Nd) (hA : ns ≠ [] → Asc ns) (tv : Value) (htv : tv = .pointer none ∨ ∃ tb, tv = .pointer (some ⟨tb, 0, none⟩)) (z : Int) (B Bs : Nat) (hlen : ns.length ≤ 100000) :
    SeqQ Fence.wide n Tryz.prog 72 #[.pointer (some ⟨B, 0, none⟩), .pointer (some ⟨B + 1, 0, none⟩)] (fun x : Int => #[.int .i64 x]) (fun _ W => WyQ ns tv z B W)
      (fun pre x => ∃ rest, wayI ns z = pre ++ x :: rest) (fun xs => xs = wayI ns z) (fun _ => True) Bs := fun l J Jx W _ hQ hD hDx hY h0 => by
  have HQ := hid hQ
  have HY := hid hY
  have hq := hQ _ _ h0
  have c0 := hq.b0
  have c1 := hq.b1
  have HT := hid hq.tr
  have HA := hid hA
  clear hQ hY hq hD hDx
  refine callsIn_of_wp Tryz.func72 rfl trivial ?_ rfl
  simp only [Tryz.ntmps72, List.size_toArray, List.length_cons, List.length_nil, Nat.reduceAdd, Nat.reduceSub, Array.replicate_succ, Array.replicate_zero, List.push_toArray, List.append_toArray, List.nil_append, List.cons_append]
  by_cases hk : kindI ns z = 0
  · have e : wayI ns z = [] := by unfold wayI; rw [if_pos hk]
    rcases htv with rfl | ⟨tb, rfl⟩
    all_goals gi_wp2_with (refine ⟨trivial, ?_⟩; gi_at_call 40; refine (callsIn_wide.2 (kindT_any HT.out z)).mono ?_; rintro e w' ⟨rfl, rfl⟩; rw [hk])
    all_goals refine bodyPost_ret (results_none rfl _ _ _) rfl ?_
    all_goals exact ⟨⟨_, rfl⟩, .inl ⟨[], e.symm, h0⟩⟩
  · have ez : wayI ns z = upA ns z := by unfold wayI; rw [if_neg hk]
    have hz : 0 ≤ z ∧ z < (ns.length : Int) := by
      unfold kindI at hk
      cases hb : hasB ns.length z
      · rw [hb] at hk; simp at hk
      · unfold hasB at hb; simpa using hb
    have HZ : Hid (kindI ns z ≠ 0) := hk
    obtain ⟨kd, hkd⟩ : ∃ kd, kd = kindI ns z := ⟨_, rfl⟩
    have HKD : Hid (kindI ns z = kd) := hkd.symm
    have hkn : ¬ kd = 0 := by rw [hkd]; exact hk
    have hkb : (kd == 0) = false := by simpa using hkn
    have HEZ := hid ez
    clear hk hkd ez
    rcases htv with rfl | ⟨tb, rfl⟩
    · exfalso
      rcases HT.out with ⟨_, e⟩ | ⟨tb, _, _, _, _, _, e, _⟩
      · rw [e] at hz; simp at hz; omega
      · cases e
    · gi_wp2_with (refine ⟨trivial, ?_⟩; gi_at_call 40; refine (callsIn_wide.2 (kindT_any HT.out z)).mono ?_; rintro e w' ⟨rfl, rfl⟩; rw [HKD.out])
      gi_loopw [4] (fun i wr => ∃ q : Int, -1 ≤ q ∧ q < (ns.length : Int) ∧ i = .int .i64 q ∧ Hid (∃ pre, wayI ns z = pre ++ upA ns q ∧ J pre wr)) (fun i _ => rkI ns (intOf i))
      case atStart => exact ⟨z, by omega, hz.2, rfl, [], by rw [HEZ.out]; rfl, h0⟩
      case round =>
        obtain ⟨q, hq1, hq2, rfl, HP⟩ := hrel
        obtain ⟨pre, hpre, hJ⟩ := HP.out
        clear HP
        by_cases hn0 : 0 ≤ q
        · obtain ⟨i, rfl⟩ : ∃ i : Nat, q = i := ⟨q.toNat, by omega⟩
          obtain ⟨r1, r2, r3, _⟩ := (HA.out (by rintro rfl; simp at hq2; omega)).parI hn0 hq2
          have HR := hid r1
          rw [upA_cons (HA.out (by rintro rfl; simp at hq2; omega)) hn0 hq2] at hpre
          obtain ⟨fn, tmps, assign, body, hy, hR⟩ := HY.out pre i wr hJ ⟨_, hpre⟩
          have HPRE := hid hpre
          clear r1 hpre hJ
          gi_wp2
          refine hR.mono ?_
          rintro e W3 (⟨rfl, hJ3⟩ | ⟨rfl, hJx3⟩)
          · have q3 := HQ.out _ _ hJ3
            have d0 := q3.b0
            have HT3 := hid q3.tr
            have HJ3 := hid hJ3
            clear q3 hJ3 hy hR
            gi_wp2_with (refine ⟨trivial, ?_⟩; gi_at_call 22; refine (callsIn_wide.2 (parT_any HT3.out i (by omega))).mono ?_; rintro e w' ⟨rfl, rfl⟩)
            go_roundw
            case rel => exact ⟨parOf ns i, by omega, by omega, rfl, pre ++ [(i : Int)], by rw [HPRE.out]; simp, HJ3.out⟩
            case measure => simpa [intOf] using HR.out
          · gi_wp2
            go_end0
            exact ⟨⟨_, rfl⟩, .inr ⟨_, trivial, hJx3⟩⟩
        · have HJ := hid hJ
          have HPR : Hid (pre = wayI ns z) := by
            show _ = _
            rw [hpre, upA_neg (by omega), List.append_nil]
          clear hpre hJ
          gi_wp2
          all_goals refine ⟨(fun f h => by first | (cases h; done) | trivial), ?_⟩
          all_goals gi_wp2
          all_goals go_end0
          all_goals exact ⟨⟨_, rfl⟩, .inl ⟨pre, HPR.out, HJ.out⟩⟩
end Go.Proofs.YtlfepdecgfcifaaGreatDoor
