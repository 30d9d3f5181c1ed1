/- Package events: Hover, walked. -/
import Derived.Test.YtlfepdecgfcifaaGreatDoorM25
import Derived.Test.YtlfepdecgfcifaaGreatDoorM27
namespace Go.Proofs.YtlfepdecgfcifaaGreatDoor
open Go.RowKit Go.Sort
set_option linter.unusedVariables false
attribute [local go_sem] Oper.semAt_some

theorem belSW {B g off n : Nat} {w wX : World} {os : Array Obj} {dk : Array Int} (h : Below B w wX) (hB : B ≤ w.heap.size) (hg : B ≤ g) : Below B w (sortWorld (Value.int .i64) wX g off n dk os) := by
  refine ⟨h.os, h.tape, h.output, ?_, fun b hb => ?_⟩
  · have := h.size
    show _ ≤ ((wX.heap.modify g _) ++ os).size
    simp; omega
  · rw [← h.block b hb]
    have hs := h.size
    show ((wX.heap.modify g _) ++ os)[b]? = _
    rw [Array.getElem?_append_left (by simp; omega), Array.getElem?_modify, if_neg (by omega)]
theorem belPR {B g off n : Nat} {w wX : World} {dk : Array Int} (h : Below B w wX) (hg : B ≤ g) : Below B w (putRow (Value.int .i64) (Sort.ahead wX n) g off dk) := by
  refine ⟨h.os, h.tape, h.output, ?_, fun b hb => ?_⟩
  · have := h.size
    show _ ≤ (wX.heap.modify g _).size
    simp; omega
  · rw [← h.block b hb]
    show (wX.heap.modify g _)[b]? = _
    rw [Array.getElem?_modify, if_neg (by omega)]

set_option maxHeartbeats 2000000 in
set_option maxRecDepth 100000 in
theorem hov1_any {W : World} {tb B0 : Nat} {ns : List Nd} (h : TrR W (.pointer (some ⟨tb, 0, none⟩)) ns) (hc : W.cell? ⟨B0, 0, none⟩ = some (.pointer (some ⟨tb, 0, none⟩))) (x : Int) : FnGives Tryz.prog 44 #[.pointer (some ⟨B0, 0, none⟩)] #[.int .i64 x] (.bool (!elemB ns x)) W := by
  show Calls Tryz.prog 44 #[.int .i64 x, .pointer (some ⟨B0, 0, none⟩)] W _
  have KT := hidF (kindT_any h x)
  have e : (!elemB ns x) = !(kindI ns x == 2) := rfl
  rw [e]
  obtain ⟨kd, hkd⟩ : ∃ k, kindI ns x = k := ⟨_, rfl⟩
  rw [hkd] at KT ⊢
  clear h e hkd
  go_enter Tryz.func44, Tryz.ntmps44
  go_wp2_with fail
  refine KT.out.mono ?_
  rintro e w' ⟨rfl, hw'⟩
  rw [hw']
  go_wp2_with fail
  go_returns
  exact ⟨by first | rfl | simp, 0, by first | rfl | exact hw'⟩

/-- a row that DeleteFunc has left -/
theorem own_del {w0 wX : World} {g cap q : Nat} {cur : Array Value} {l F : List Int} (hB : w0.heap.size ≤ g) (h1 : wX.heap[g]? = some (.cells cur 3 (0, 0))) (h2 : l.length ≤ cap) (h3 : cap ≤ maxLen) (h4 : cur.size = cap) (hF : F.length ≤ l.length) :
    ∃ cur', (putRow (Value.int .i64) (Sort.ahead wX q) g 0 (F ++ List.replicate (l.length - F.length) 0).toArray).heap[g]? = some (.cells cur' 3 (0, 0)) ∧ cur'.size = cap ∧ cur'.toList.take (F.length * 1) = F.map intV := by
  refine ⟨putCells (Value.int .i64) 0 (F ++ List.replicate (l.length - F.length) 0).toArray cur, ?_, by simp [putCells, h4], ?_⟩
  · show (wX.heap.modify g _)[g]? = _
    rw [Array.getElem?_modify, if_pos rfl, h1]
    rfl
  · apply List.ext_getElem?
    intro i
    rw [List.getElem?_take]
    by_cases hi : i < F.length
    · rw [if_pos (by omega), Array.getElem?_toList]
      unfold putCells
      rw [Array.getElem?_mapIdx, Array.getElem?_eq_getElem (by omega)]
      simp only [Option.map_some, List.getElem?_map, List.getElem?_eq_getElem hi]
      rw [if_pos (by simp; omega)]
      simp [intV]
      rw [List.getElem?_append_left hi, List.getElem?_eq_getElem hi]
      rfl
    · rw [if_neg (by omega), List.getElem?_eq_none (by simp; omega)]

set_option maxHeartbeats 8000000 in
set_option maxRecDepth 100000 in
theorem hover_any {w : World} {M : Nat → Lab} {tb : Nat} {nv uv : Value} {ps : List Pn} {us : List Value} (h : Lies w M tb nv uv ps us) (hA : Asc (nodesOf ps)) (hl : ps.length ≤ 1000) (z : Int) :
    Calls Tryz.prog 13 #[.pointer (some ⟨tb, 0, none⟩), .int .i64 z] w (UndPost w (hovP (nodesOf ps) z)) := by
  obtain ⟨ns, hns⟩ : ∃ ns, nodesOf ps = ns := ⟨_, rfl⟩
  have hlns : ns.length ≤ 1000 := by rw [← hns]; simp [nodesOf]; exact hl
  have hT : TrR w (.pointer (some ⟨tb, 0, none⟩)) ns := .inr ⟨tb, M, nv, uv, ps, us, rfl, h, hns⟩
  rw [hns] at hA ⊢
  have hb1 : Below w.heap.size w (w.alloc (.cells #[.pointer (some ⟨tb, 0, none⟩)] 24)) := (Below.refl _ w).alloc (Nat.le_refl _) _
  have hbox : (w.alloc (.cells #[.pointer (some ⟨tb, 0, none⟩)] 24)).cell? ⟨w.heap.size, 0, none⟩ = some (.pointer (some ⟨tb, 0, none⟩)) := by rw [cell_of_row _ _ _ _ _ _ (heap_alloc_new _ _)]; rfl
  have HT := hidF hT
  have HB1 := hidF hb1
  have KT := hidF (kindT_any (hT.below hb1) z)
  obtain ⟨kd, hkd⟩ : ∃ k, kindI ns z = k := ⟨_, rfl⟩
  have HKD := hidF hkd
  rw [hkd] at KT
  clear h hT hb1 hns hl
  by_cases hk : kd = 2 ∨ kd = 3
  · have ek : kindI ns z ≠ 0 := by rw [hkd]; omega
    have ew : wayI ns z = upA ns z := by unfold wayI; rw [if_neg ek]
    have e0 : hovP ns z = (wayI ns z).filter (elemB ns) := by unfold hovP; rw [if_pos (by rw [hkd]; exact hk), ew]
    have hzb : 0 ≤ z ∧ z < (ns.length : Int) := by
      unfold kindI at ek
      cases hb : hasB ns.length z
      · rw [hb] at ek; simp at ek
      · unfold hasB at hb; simpa using hb
    have hup := upA_cons hA hzb.1 hzb.2
    have hul := upA_len ns z
    rw [← ew] at hup hul
    obtain ⟨L, hL⟩ : ∃ L, wayI ns z = L := ⟨_, rfl⟩
    have hLl : 0 < L.length := by rw [← hL, hup]; simp
    rw [hL] at hul
    rw [e0, hL]
    have HL := hidF hL
    have HA := hidF hA
    have BX := hidF hbox
    have EW := hidF (evWay_any (.pointer (some ⟨tb, 0, none⟩)) (.inr ⟨tb, rfl⟩) z (w.alloc (.cells #[.pointer (some ⟨tb, 0, none⟩)] 24)))
    clear e0 ek ew hzb hup hL hkd hA
    rcases hk with rfl | rfl
    all_goals
      go_enter Tryz.func13, Tryz.ntmps13
      go_wp2_with fail
      refine KT.out.mono ?_
      rintro e w' ⟨rfl, hw'⟩
      rw [hw']
      clear hw'
      go_wp2_with fail
      refine EW.out.mono ?_
      rintro e w2 ⟨rfl, hw2⟩
      have hS1 : (w.alloc (.cells #[.pointer (some ⟨tb, 0, none⟩)] 24)).heap.size = w.heap.size + 1 := by simp
      have hB2 : Below (w.alloc (.cells #[.pointer (some ⟨tb, 0, none⟩)] 24)).heap.size (w.alloc (.cells #[.pointer (some ⟨tb, 0, none⟩)] 24)) w2 := by
        rw [hw2]
        exact ((Below.refl _ _).alloc (Nat.le_refl _) _).alloc (by simp) _
      have CO := hidF (collect_any (w0 := w2) (ns := ns) (tv := .pointer (some ⟨tb, 0, none⟩)) (z := z) (B := (w.alloc (.cells #[.pointer (some ⟨tb, 0, none⟩)] 24)).heap.size) (fun _ => HA.out) (.inr ⟨tb, rfl⟩) (by omega) ⟨(HT.out.below HB1.out).below hB2, by
          rw [hw2, World.cell?_of_block (Below.heap_alloc _ _ _ (by simp)), cell_of_row _ _ _ _ _ _ (heap_alloc_new _ _)]; rfl, by
          rw [hw2]
          have := heap_alloc_new ((w.alloc (.cells #[.pointer (some ⟨tb, 0, none⟩)] 24)).alloc (.cells #[.pointer (some ⟨tb, 0, none⟩)] 24)) (.cells #[.int .i64 z] 3)
          rw [show ((w.alloc (.cells #[.pointer (some ⟨tb, 0, none⟩)] 24)).alloc (.cells #[.pointer (some ⟨tb, 0, none⟩)] 24)).heap.size = (w.alloc (.cells #[.pointer (some ⟨tb, 0, none⟩)] 24)).heap.size + 1 by simp] at this
          rw [cell_of_row _ _ _ _ _ _ this]; rfl⟩)
      rw [HL.out, hS1] at CO
      have HB2 := hidF hB2
      have HS1 := hidF hS1
      clear hw2 hB2 hS1
      go_wp2_with fail
      refine CO.out.mono ?_
      rintro e w3 ⟨sv, rfl, hr, hb3⟩
      have hs2 := HB2.out.size
      have hB3 : Below (w.alloc (.cells #[.pointer (some ⟨tb, 0, none⟩)] 24)).heap.size (w.alloc (.cells #[.pointer (some ⟨tb, 0, none⟩)] 24)) w3 := HB2.out.trans (hb3.mono hs2)
      obtain ⟨hlen, ⟨_, h0⟩ | ⟨g, cap, cur, rfl, h1, h2, h3, h4, h5, h6⟩⟩ := hr
      · omega
      have hgl : (w.alloc (.cells #[.pointer (some ⟨tb, 0, none⟩)] 24)).heap.size ≤ g := Nat.le_trans hs2 h1
      have hcl : ∀ j, j < L.length → w3.cell? ⟨g, j, none⟩ = some (.int .i64 (L.getD j 0)) := fun j hj => by
        rw [cell_of_row _ _ _ _ _ _ h2]
        have e : (cur.toList.take (L.length * 1))[j]? = (L.map (Value.int .i64))[j]? := by rw [h6]
        rw [List.getElem?_take, if_pos (by omega), List.getElem?_map, List.getElem?_eq_getElem hj] at e
        rw [← Array.getElem?_toList, e, List.getD_eq_getElem?_getD, List.getElem?_eq_getElem hj]
        rfl
      have eg : ∀ args w, (callFunc 44 args).run Tryz.prog w = .ok (.enter 44 args) w := enters_of Tryz.func44 (by kernel_rfl) rfl
      have hcell : ∀ W, Below (w.alloc (.cells #[.pointer (some ⟨tb, 0, none⟩)] 24)).heap.size (w.alloc (.cells #[.pointer (some ⟨tb, 0, none⟩)] 24)) W → ∀ x, FnGives Tryz.prog 44 #[.pointer (some ⟨w.heap.size, 0, none⟩)] #[.int .i64 x] (.bool (!elemB ns x)) W := fun W hb x =>
        hov1_any ((HT.out.below HB1.out).below hb) ((hb.cell (p := ⟨w.heap.size, 0, none⟩) (by simp)).trans BX.out) x
      have DF := AnyE.slices_DeleteFunc Tryz.lDel (Value.int .i64) (fun _ => rfl) (fun x => !elemB ns x) 44 #[.pointer (some ⟨w.heap.size, 0, none⟩)] eg 0 Tryz.zeroValue3 g 0 cap L.toArray w3
        (fun W x hb => hcell W (hB3.trans (hb.mono hB3.size)) x) (fun n os dk x _ => hcell _ (belSW hB3 (Nat.le_refl _) hgl) x)
        (fun j hj => by
          have hj' : j < L.length := by simpa using hj
          refine ⟨?_, by simp [World.frozen?, h2]⟩
          rw [Nat.zero_add, hcl j hj', getElem!_pos _ j hj]
          simp [hj']) (by simp; unfold maxLen at h4; omega) (by simp; exact h3)
      change Calls Tryz.prog 41 _ _ _ at DF
      simp only [List.size_toArray, Bool.not_not] at DF
      have hfl : (L.filter (elemB ns)).length ≤ L.length := List.length_filter_le _ _
      have HFIN : Hid (∀ q : Nat, (putRow (Value.int .i64) (Sort.ahead w3 q) g 0 ((L.filter (elemB ns)) ++ List.replicate (L.length - (L.filter (elemB ns)).length) 0).toArray).ownsRow w.heap.size 3 1 (.slice (some ⟨g, 0, none⟩) (L.filter (elemB ns)).length cap) (L.filter (elemB ns)).length ((L.filter (elemB ns)).map intV) ∧ Below w.heap.size w (putRow (Value.int .i64) (Sort.ahead w3 q) g 0 ((L.filter (elemB ns)) ++ List.replicate (L.length - (L.filter (elemB ns)).length) 0).toArray)) := fun q => by
        have hwg : w.heap.size ≤ g := Nat.le_trans (by simp) hgl
        obtain ⟨cur', a1, a2, a3⟩ := own_del (w0 := w) (q := q) hwg h2 h3 h4 (by omega) hfl
        exact ⟨⟨by simp, .inr ⟨g, cap, cur', rfl, hwg, a1, by omega, h4, by omega, a3⟩⟩, HB1.out.trans (belPR (hB3.mono (by simp)) hwg)⟩
      have HDF := hidF DF
      clear DF hcell eg hcl hgl hB3 hs2 h1 h2 h3 h4 h5 h6 hlen hb3 CO EW KT HB2 HS1
      go_wp2_with fail
      refine HDF.out.mono ?_
      rintro e w4 ⟨rfl, q, hw4⟩
      have HR4 := HFIN.out q
      rw [← hw4] at HR4
      have HP := hidF HR4
      clear HR4 hw4 HFIN HDF
      go_wp2_with fail
      go_returns
      exact ⟨_, rfl, HP.out.1, HP.out.2⟩
  · have e0 : hovP ns z = [] := by unfold hovP; rw [if_neg (by rw [hkd]; exact hk)]
    have k2 : ¬ kd = 2 := fun e => hk (.inl e)
    have k3 : ¬ kd = 3 := fun e => hk (.inr e)
    have k2b : (kd != 2) = true := by simp [k2]
    have k3b : (kd != 3) = true := by simp [k3]
    rw [e0]
    clear e0 hk hkd
    go_enter Tryz.func13, Tryz.ntmps13
    go_wp2_with fail
    refine KT.out.mono ?_
    rintro e w' ⟨rfl, hw'⟩
    rw [hw']
    go_wp2_with fail
    go_returns
    exact ⟨_, rfl, World.ownsRow_nil _ _ _ _, HB1.out⟩
end Go.Proofs.YtlfepdecgfcifaaGreatDoor
