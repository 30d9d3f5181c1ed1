/- Package events: the ears at a node, one behind the other. -/
import Derived.Test.YtlfepdecgfcifaaDoorEvHear
import Derived.Test.YtlfepdecgfcifaaDoorEvReg
import Derived.Shelf.RegionOpen
import Derived.Shelf.Abstract
import Derived.OwnWalkIn
import Derived.TacticsInMore
import Derived.LoopNIn
import Derived.LoopIn
import Derived.BigRegionIn
import Derived.Sort.BigQuietIn
import Derived.Lib.Strings
namespace Go.Proofs.YtlfepdecgfcifaaDoor
open Go.RowKit Go.BigFrame
set_option linter.unusedVariables false
attribute [local go_sem] Oper.semAt_some

theorem toList_injE {a b : ByteArray} (h : a.toList = b.toList) : a = b := by
  rw [Lib.toList_data, Lib.toList_data] at h
  exact ByteArray.ext (Array.toList_inj.mp h)
abbrev EvA : Type := Nat × EvE
/-- what stands behind some that have heard -/
def evS (st0 : EvT) (node ph : Int) (pre : List EvA) : EvT := pre.foldl (fun st x => hearT st x.1 node ph x.2) st0
theorem evS_snoc (st0 : EvT) (node ph : Int) (pre : List EvA) (x : EvA) : evS st0 node ph (pre ++ [x]) = hearT (evS st0 node ph pre) x.1 node ph x.2 := by simp [evS]
theorem evS_len (st0 : EvT) (node ph : Int) : ∀ pre : List EvA, (evS st0 node ph pre).E.length = st0.E.length := fun pre => by
  unfold evS
  induction pre generalizing st0 with
  | nil => rfl
  | cons x l ih => exact (ih (hearT st0 x.1 node ph x.2)).trans (hearT_len ..)
def evPos (node ph : Int) (name : ByteArray) (down : Bool) (st0 : EvT) (pre : List EvA) (i : Nat) : Prop :=
  i ≤ st0.E.length ∧ visF node ph name down (st0.E.length - i) i (evS st0 node ph pre) = visF node ph name down st0.E.length 0 st0
/-- the next that hears -/
def evNx (node ph : Int) (name : ByteArray) (down : Bool) (st0 : EvT) (pre : List EvA) (x : EvA) : Prop :=
  evPos node ph name down st0 pre x.1 ∧ x.1 < st0.E.length ∧ (evS st0 node ph pre).E[x.1]? = some ⟨x.2, false⟩ ∧ hitE ⟨x.2, false⟩ node name down = true
/-- what the iterator reads -/
structure evQ (node ph : Int) (name : ByteArray) (down : Bool) (eb : Nat) (v : Value) (xb : List Nat) (B : Nat) (st0 : EvT) (pre : List EvA) (W : World) : Prop where
  pe : PEs W eb v xb (evS st0 node ph pre).E
  now : ∀ y ∈ pre, y.2.now = false
  b0 : W.cell? ⟨B, 0, none⟩ = some (.pointer (some ⟨eb, 0, none⟩))
  b1 : W.cell? ⟨B + 1, 0, none⟩ = some (.int .i64 node)
  b2 : W.cell? ⟨B + 1 + 1, 0, none⟩ = some (.string name)
  b3 : W.cell? ⟨B + 1 + 1 + 1, 0, none⟩ = some (.bool down)
theorem hitF_calls (node ph : Int) (name : ByteArray) (down : Bool) : ∀ (f k : Nat) (st : EvT), st.calls.length ≤ (visF node ph name down f k st).1.calls.length
  | 0, _, _ => Nat.le_refl _
  | f + 1, k, st => by
    rw [visF]
    split
    · exact Nat.le_refl _
    · have h1 : ∀ x : EvE, st.calls.length ≤ (hearT st k node ph x).calls.length := fun x => by simp [hearT]
      split
      · split
        · exact h1 _
        · exact Nat.le_trans (h1 _) (hitF_calls node ph name down f (k + 1) _)
      · exact hitF_calls node ph name down f (k + 1) st
theorem evS_calls (st0 : EvT) (node ph : Int) {name : ByteArray} {down : Bool} {pre : List EvA} {i : Nat} (h : evPos node ph name down st0 pre i) : (evS st0 node ph pre).calls.length ≤ st0.calls.length + st0.E.length := by
  have h1 := hitF_calls node ph name down (st0.E.length - i) i (evS st0 node ph pre)
  rw [h.2] at h1
  exact Nat.le_trans h1 (visF_calls node ph name down st0.E.length 0 st0)
theorem evPos.skip {node ph : Int} {name : ByteArray} {down : Bool} {st0 : EvT} {pre : List EvA} {i : Nat} (h : evPos node ph name down st0 pre i) {x : EvS} (hx : (evS st0 node ph pre).E[i]? = some x) (hh : hitE x node name down = false) : evPos node ph name down st0 pre (i + 1) := by
  have hl : i < st0.E.length := by rw [← evS_len st0 node ph pre]; exact (List.getElem?_eq_some_iff.1 hx).1
  refine ⟨hl, ?_⟩
  rw [← h.2]
  obtain ⟨m, hm⟩ : ∃ m, st0.E.length - i = m + 1 := ⟨st0.E.length - i - 1, by omega⟩
  rw [hm, show st0.E.length - (i + 1) = m by omega, visF, hx]
  simp only [hh, Bool.false_eq_true, if_false]
theorem evPos.hear {node ph : Int} {name : ByteArray} {down : Bool} {st0 : EvT} {pre : List EvA} {x : EvA} (h : evNx node ph name down st0 pre x) : visF node ph name down st0.E.length 0 st0 = if x.2.now then (evS st0 node ph (pre ++ [x]), true) else visF node ph name down (st0.E.length - (x.1 + 1)) (x.1 + 1) (evS st0 node ph (pre ++ [x])) := by
  obtain ⟨h1, h2, h3, h4⟩ := h
  rw [← h1.2, evS_snoc]
  obtain ⟨m, hm⟩ : ∃ m, st0.E.length - x.1 = m + 1 := ⟨st0.E.length - x.1 - 1, by omega⟩
  rw [hm, show st0.E.length - (x.1 + 1) = m by omega, visF, h3]
  simp only [h4, if_true]
theorem evPos.next {node ph : Int} {name : ByteArray} {down : Bool} {st0 : EvT} {pre : List EvA} {x : EvA} (h : evNx node ph name down st0 pre x) (hn : x.2.now = false) : evPos node ph name down st0 (pre ++ [x]) (x.1 + 1) := by
  refine ⟨h.2.1, ?_⟩
  rw [evPos.hear h, if_neg (by rw [hn]; simp)]
theorem evPos.done {node ph : Int} {name : ByteArray} {down : Bool} {st0 : EvT} {pre : List EvA} (h : evPos node ph name down st0 pre st0.E.length) : visF node ph name down st0.E.length 0 st0 = (evS st0 node ph pre, false) := by
  rw [← h.2, Nat.sub_self]
  rfl

set_option maxHeartbeats 8000000 in
set_option maxRecDepth 100000 in
theorem at_stops (n : Nat) (hn : 1 ≤ n) (node ph : Int) (name : ByteArray) (down : Bool) (eb : Nat) (v : Value) (xb : List Nat) (B Bs : Nat) (st0 : EvT) (h200 : st0.E.length ≤ 100000) :
    SeqQ Fence.wide n Tryd.prog 75 #[.pointer (some ⟨B, 0, none⟩), .pointer (some ⟨B + 1, 0, none⟩), .pointer (some ⟨B + 1 + 1, 0, none⟩), .pointer (some ⟨B + 1 + 1 + 1, 0, none⟩)] (fun x : EvA => #[.int .i64 x.1, .agg ⟨earC x.2⟩])
      (evQ node ph name down eb v xb B st0) (evNx node ph name down st0) (fun xs => visF node ph name down st0.E.length 0 st0 = (evS st0 node ph xs, false)) (fun _ => True) Bs := fun l J Jx W _ hQ hD hDx hY h0 => by
  have HQ := hid hQ
  have HY := hid hY
  have HDJ := hid hD
  have HDX := hid hDx
  have HQ0 := hQ _ _ h0
  obtain ⟨ad, cp, rfl, hc1, hc2, had⟩ := HQ0.pe.shape
  rw [evS_len] at hc1 had
  rw [show (evS st0 node ph []).E.length = st0.E.length from evS_len ..] at *
  have q0 := HQ0.b0
  have q1 : W.cell? ⟨eb, 0, none⟩ = some (.slice ad st0.E.length cp) := by rw [cell_of_row _ _ _ _ _ _ HQ0.pe.head]; rfl
  have hmx : Tryd.prog.follows Departure.mixedOrders = true := by kernel_rfl
  clear hQ hY HQ0 hD hDx
  refine callsIn_of_wp Tryd.func75 rfl trivial ?_ rfl
  simp only [Tryd.ntmps75, List.size_toArray, List.length_cons, List.length_nil, Nat.reduceAdd, Nat.reduceSub, Array.replicate_succ, Array.replicate_zero, List.push_toArray, List.append_toArray, List.nil_append, List.cons_append]
  gi_wp2
  gi_loopw [13] (fun i wr => ∃ k : Nat, k ≤ st0.E.length ∧ i = .int .i64 k ∧ Hid (∃ pre, evPos node ph name down st0 pre k ∧ J pre wr)) (fun i _ => st0.E.length - (intOf i).toNat)
  case atStart => exact ⟨0, Nat.zero_le _, rfl, [], ⟨Nat.zero_le _, rfl⟩, h0⟩
  case round =>
    obtain ⟨k, hk, rfl, HP⟩ := hrel
    obtain ⟨pre, hpos, hJ⟩ := HP.out
    clear HP
    have hq := HQ.out _ _ hJ
    by_cases hlt : k < st0.E.length
    · obtain ⟨g, rfl⟩ := had (by omega)
      obtain ⟨x, hx⟩ : ∃ x, (evS st0 node ph pre).E[k]? = some x := ⟨_, List.getElem?_eq_getElem (by rw [evS_len]; exact hlt)⟩
      obtain ⟨b, hb⟩ : ∃ b, xb[k]? = some b := ⟨_, List.getElem?_eq_getElem (by rw [hq.pe.len, evS_len]; exact hlt)⟩
      have p0 := hq.pe.at (by rw [evS_len]) hx hb
      obtain ⟨e0, e1, e2, e3, e4, e5, e6, e7⟩ := ear_cells (hq.pe.ear k x b hx hb).1
      obtain ⟨b0, b1, b2, b3⟩ := And.intro hq.b0 (And.intro hq.b1 (And.intro hq.b2 hq.b3))
      unfold ptrV at p0
      have hz : (k : Int) < (st0.E.length : Int) := by omega
      cases hg : x.gone
      · rw [hg] at p0
        simp only [Bool.false_eq_true, if_false] at p0
        by_cases q1 : x.e.node = node
        · have r1 : decide (x.e.node = node) = true := by simpa using q1
          have r1b : (x.e.node == node) = true := by simpa using q1
          by_cases q2 : x.e.name = name
          · have r2 : decide (x.e.name = name) = true := by simpa using q2
            have r2b : (x.e.name.toList == name.toList) = true := by rw [q2]; simp
            by_cases q3 : x.e.down = down
            · have r3 : decide (x.e.down = down) = true := by simpa using q3
              have r3b : (x.e.down == down) = true := by simpa using q3
              have hnx : evNx node ph name down st0 pre (k, x.e) := ⟨hpos, hlt, by rw [hx]; cases x; simp only at hg; rw [hg], by unfold hitE; simp [q1, q2, q3]⟩
              have HN := hid hnx
              have HJ := hid hJ
              clear hpos hJ hq hx hnx q1 q2 q3
              gi_wp2
              refine wpIn_region_pre2 32 rfl hmx (by kernel_rfl) (by kernel_rfl) (by kernel_rfl) (by kernel_rfl) ?_
              simp only [List.take_succ_cons, List.take_zero, List.drop_succ_cons, List.drop_zero]
              repeat (gi_big_quiet_step (fail))
              refine wpQuietIn_nil ?_
              rintro _ ⟨nq, rfl⟩
              obtain ⟨fn, tmps, assign, body, hy, hR⟩ := HY.out pre (k, x.e) (wr.drewN nq) (HDJ.out _ _ _ HJ.out) HN.out
              replace hy : (Instr.yield l #[.int .i64 (k : Int), .agg #[.int .i64 x.e.node, .string x.e.name, .bool x.e.down, .bool x.e.once, .bool x.e.calm, .bool x.e.stop, .bool x.e.now, .bool x.e.bar]]).run Tryd.prog (wr.drewN nq) = .ok (.round l fn tmps assign body) (wr.drewN nq) := hy
              gi_wp2
              refine hR.mono ?_
              rintro e W3 (⟨rfl, hJ3⟩ | ⟨rfl, hJx3⟩)
              · have hnow : x.e.now = false := (HQ.out _ _ hJ3).now (k, x.e) (by simp)
                have HPN := hid (evPos.next HN.out hnow)
                have HJ3 := hid hJ3
                clear hJ3 hnow hy hR
                gi_wp2
                go_roundw
                case rel => exact ⟨k + 1, by omega, by go_num, pre ++ [(k, x.e)], HPN.out, HJ3.out⟩
                case measure => simp [intOf]; omega
              · gi_wp2
                refine bodyPost_ret (results_none rfl _ _ _) rfl ?_
                exact ⟨⟨_, rfl⟩, .inr ⟨_, trivial, hJx3⟩⟩
            · have r3 : decide (x.e.down = down) = false := by simpa using q3
              have r3b : (x.e.down == down) = false := by simpa using q3
              have HPO := hid (hpos.skip hx (by unfold hitE; rw [r3b]; simp))
              have HJ := hid hJ
              clear hpos hJ hq hx
              gi_wp2
              refine wpIn_region_quiet_lit rfl (by kernel_rfl) (by kernel_rfl) ?_
              repeat (gi_big_quiet_step (fail))
              refine wpQuietIn_skip (fun _ _ _ _ => trivial) rfl ?_
              simp only [Act.put, List.setIfInBounds_toArray, List.set_cons_succ, List.set_cons_zero]
              repeat (gi_big_quiet_step (fail))
              refine wpQuietIn_nil ?_
              rintro _ ⟨nq, rfl⟩
              gi_wp2
              go_roundw
              case rel => exact ⟨k + 1, by omega, by go_num, pre, HPO.out, HDJ.out _ _ _ HJ.out⟩
              case measure => simp [intOf]; omega
          · have r2 : decide (x.e.name = name) = false := by simpa using q2
            have r2b : (x.e.name.toList == name.toList) = false := by rw [beq_eq_false_iff_ne]; exact fun e => q2 (toList_injE e)
            have HPO := hid (hpos.skip hx (by unfold hitE; rw [r2]; simp))
            have HJ := hid hJ
            clear hpos hJ hq hx
            gi_wp2
            refine wpIn_region_quiet_lit rfl (by kernel_rfl) (by kernel_rfl) ?_
            repeat (gi_big_quiet_step (fail))
            refine wpQuietIn_skip (fun _ _ _ _ => trivial) rfl ?_
            simp only [Act.put, List.setIfInBounds_toArray, List.set_cons_succ, List.set_cons_zero]
            repeat (gi_big_quiet_step (fail))
            refine wpQuietIn_nil ?_
            rintro _ ⟨nq, rfl⟩
            gi_wp2
            go_roundw
            case rel => exact ⟨k + 1, by omega, by go_num, pre, HPO.out, HDJ.out _ _ _ HJ.out⟩
            case measure => simp [intOf]; omega
        · have r1 : decide (x.e.node = node) = false := by simpa using q1
          have r1b : (x.e.node == node) = false := by simpa using q1
          have HPO := hid (hpos.skip hx (by unfold hitE; rw [r1]; simp))
          have HJ := hid hJ
          clear hpos hJ hq hx
          gi_wp2
          refine wpIn_region_quiet_lit rfl (by kernel_rfl) (by kernel_rfl) ?_
          repeat (gi_big_quiet_step (fail))
          refine wpQuietIn_skip (fun _ _ _ _ => trivial) rfl ?_
          simp only [Act.put, List.setIfInBounds_toArray, List.set_cons_succ, List.set_cons_zero]
          repeat (gi_big_quiet_step (fail))
          refine wpQuietIn_nil ?_
          rintro _ ⟨nq, rfl⟩
          gi_wp2
          go_roundw
          case rel => exact ⟨k + 1, by omega, by go_num, pre, HPO.out, HDJ.out _ _ _ HJ.out⟩
          case measure => simp [intOf]; omega
      · rw [hg] at p0
        simp only [if_true] at p0
        have HPO := hid (hpos.skip hx (by unfold hitE; rw [hg]; rfl))
        have HJ := hid hJ
        clear hpos hJ hq hx
        gi_wp2
        refine wpIn_region_quiet_lit rfl (by kernel_rfl) (by kernel_rfl) ?_
        repeat (gi_big_quiet_step (fail))
        refine wpQuietIn_skip (fun _ _ _ _ => trivial) rfl ?_
        simp only [Act.put, List.setIfInBounds_toArray, List.set_cons_succ, List.set_cons_zero]
        repeat (gi_big_quiet_step (fail))
        refine wpQuietIn_nil ?_
        rintro _ ⟨nq, rfl⟩
        gi_wp2
        go_roundw
        case rel => exact ⟨k + 1, by omega, by go_num, pre, HPO.out, HDJ.out _ _ _ HJ.out⟩
        case measure => simp [intOf]; omega
    · obtain rfl : k = st0.E.length := by omega
      have HPO := hid hpos.done
      have HJ := hid hJ
      clear hpos hJ hq
      gi_wp2
      go_end0
      exact ⟨⟨_, rfl⟩, .inl ⟨pre, HPO.out, HJ.out⟩⟩
end Go.Proofs.YtlfepdecgfcifaaDoor
