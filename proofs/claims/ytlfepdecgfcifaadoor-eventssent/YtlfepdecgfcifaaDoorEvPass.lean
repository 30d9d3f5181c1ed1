/- Package events: an event passes down a way and up again. -/
import Derived.Test.YtlfepdecgfcifaaDoorM23
import Derived.Test.YtlfepdecgfcifaaDoorEvVisit2
import Derived.Sort.CutIn
namespace Go.Proofs.YtlfepdecgfcifaaDoor
open Go.RowKit Go.BigFrame
set_option linter.unusedVariables false
attribute [local go_sem] Oper.semAt_some

theorem foldP_calls (name : ByteArray) (ph : Int) (ds : List Bool) (l : List Int) : ∀ st : EvT, (l.foldl (fun st z => visP z ph name ds st) st).calls.length ≤ st.calls.length + l.length * (ds.length * st.E.length) := by
  induction l with
  | nil => intro st; simp
  | cons z l ih =>
    intro st
    have h1 := ih (visP z ph name ds st)
    have h2 := visP_calls z ph name ds st
    rw [visP_len] at h1
    simp only [List.foldl_cons, List.length_cons, Nat.succ_mul]
    omega
theorem downT_snoc (name : ByteArray) (l : List Int) (z : Int) (st : EvT) : downT name (l ++ [z]) st = visP z 1 name [true] (downT name l st) := by simp [downT]
theorem upT_succ {l : List Int} {k : Nat} {z : Int} (h : l[k]? = some z) (name : ByteArray) (st : EvT) : upT name (l.take (k + 1)) st = visP z 3 name [false] (upT name (l.take k) st) := by
  obtain ⟨hk, rfl⟩ := List.getElem?_eq_some_iff.1 h
  unfold upT
  rw [List.take_succ_eq_append_getElem hk, List.foldl_append]
  rfl
theorem bkE_all (zs : List Int) : (uptoE (bkE zs) zs.length).map Prod.snd = zs.reverse := by
  apply List.ext_getElem
  · simp [uptoE]
  · intro j h1 h2
    simp [uptoE] at h1
    simp only [uptoE, List.map_map, List.getElem_map, List.getElem_range, Function.comp, bkE, List.getElem_reverse]
    rw [List.getElem?_eq_getElem (by omega)]
    rfl
theorem bkE_len (zs : List Int) (k : Nat) : (uptoE (bkE zs) k).length = k := by simp [uptoE]

def onlyN (K : Act → World → Prop) : Exit → Act → World → Prop
  | .normal, a, w => K a w
  | _, _, _ => False
theorem wpIn_onlyN {F : Fence} {n : Nat} {P : Program} {c : Code} {K : Act → World → Prop} {Q' : Exit → Act → World → Prop} {a : Act} {w : World} (h : c.wpIn F n P (onlyN K) a w) : c.wpIn F n P (Exit.then K Q') a w :=
  wpIn_mono h fun e a w h => by cases e <;> first | exact h | exact h.elim
theorem two_newE (w : World) (a b : Value) (r s : TypeId) : ((w.alloc (.cells #[a] r)).alloc (.cells #[b] s)).cell? ⟨w.heap.size, 0, none⟩ = some a ∧ ((w.alloc (.cells #[a] r)).alloc (.cells #[b] s)).cell? ⟨w.heap.size + 1, 0, none⟩ = some b := by
  have e1 : (w.alloc (.cells #[a] r)).heap.size = w.heap.size + 1 := by simp
  refine ⟨?_, ?_⟩
  · rw [cell_of_row _ w.heap.size 0 #[a] r (0, 0) (by rw [Below.heap_alloc _ _ _ (by omega)]; exact heap_alloc_new w _)]; rfl
  · rw [cell_of_row _ (w.heap.size + 1) 0 #[b] s (0, 0) (by rw [← e1]; exact heap_alloc_new _ _)]; rfl
/-- what a visit keeps: seen from where it all began -/
def PsI (n : Nat) (W1 : World) (sb eb : Nat) (v : Value) (xb : List Nat) (name : ByteArray) (st : EvT) (W : World) : Prop := ∃ cv', SdAt n W sb eb v xb name st cv' ∧ Tn sb v W1 (.slice none 0 0) W cv'
theorem PsI.grown {n : Nat} {W1 W W' : World} {sb eb : Nat} {v : Value} {xb : List Nat} {name : ByteArray} {st : EvT} (h : PsI n W1 sb eb v xb name st W) {row : Option Nat} (hg : W.grownBy W' row) (hr : ∀ r, row = some r → W1.heap.size ≤ r ∧ ∃ o : Obj, W.heap[r]? = some o ∧ o.isCells = false) : PsI n W1 sb eb v xb name st W' := by
  obtain ⟨cv', h1, h2⟩ := h
  exact ⟨cv', h1.grown hg (fun r e => (hr r e).2), h2.grown hg (fun r e => (hr r e).1)⟩
theorem PsI.below {n : Nat} {W1 W W' : World} {sb eb : Nat} {v : Value} {xb : List Nat} {name : ByteArray} {st : EvT} (h : PsI n W1 sb eb v xb name st W) (hb : Below W.heap.size W W') : PsI n W1 sb eb v xb name st W' := by
  obtain ⟨cv', h1, h2⟩ := h
  exact ⟨cv', h1.below hb, h2.trans (Tn.of_below sb v cv' hb)⟩
theorem PsI.cell {n : Nat} {W1 W : World} {sb eb : Nat} {v : Value} {xb : List Nat} {name : ByteArray} {st : EvT} (h : PsI n W1 sb eb v xb name st W) {b o : Nat} {u : Value} (hn : n ≤ b) (hc : W1.cell? ⟨b, o, none⟩ = some u) : W.cell? ⟨b, o, none⟩ = some u := by
  obtain ⟨cv', h1, h2⟩ := h
  have hl : b < W1.heap.size := World.block_lt_of_cell? W1 ⟨b, o, none⟩ hc
  exact (h2.cell hl (by have := h1.lts; omega) (fun e => by have := h1.ltv b e; omega) (by simp [Value.ownBlock])).trans hc
theorem PsI.size {n : Nat} {W1 W : World} {sb eb : Nat} {v : Value} {xb : List Nat} {name : ByteArray} {st : EvT} (h : PsI n W1 sb eb v xb name st W) : W1.heap.size ≤ W.heap.size := by
  obtain ⟨_, _, h2⟩ := h
  exact h2.kept.size
theorem PsI.visit1 {n : Nat} {W1 W : World} {sb eb : Nat} {v : Value} {xb : List Nat} {name : ByteArray} {st : EvT} (h : PsI n W1 sb eb v xb name st W) (node ph : Int) (d : Bool) (hc : st.calls.length + st.E.length ≤ 900000) (hE : st.E.length ≤ 1000) :
    Calls Tryd.prog 53 #[.pointer (some ⟨sb, 0, none⟩), .int .i64 node, .int .i64 ph, .slice (some ⟨W.heap.size, 0, none⟩) 1 1] (W.alloc (.cells #[.bool d] 4)) fun e w' => e = .returned (.tuple #[]) ∧ PsI n W1 sb eb v xb name (visP node ph name [d] st) w' ∧ KeepsOthers W w' := by
  obtain ⟨cv', h1, h2⟩ := h
  have hb := (Below.refl W.heap.size W).alloc (Nat.le_refl _) (.cells #[.bool d] 4)
  refine (visit1_any (h1.below hb) node ph d (db := W.heap.size) (cap := 1) (by simp) (by rw [cell_of_row _ _ _ _ _ _ (heap_alloc_new W _)]; rfl) ⟨by omega, by omega⟩ hc hE).mono ?_
  rintro e w' ⟨rfl, cv2, g1, g2⟩
  exact ⟨rfl, ⟨cv2, g1, (h2.trans (Tn.of_below sb v cv' hb)).trans g2⟩, (KeepsOthers.alloc _ _).trans g2.kept⟩
theorem PsI.visit2 {n : Nat} {W1 W : World} {sb eb : Nat} {v : Value} {xb : List Nat} {name : ByteArray} {st : EvT} (h : PsI n W1 sb eb v xb name st W) (node ph : Int) (hc : st.calls.length + 2 * st.E.length ≤ 900000) (hE : st.E.length ≤ 1000) :
    Calls Tryd.prog 53 #[.pointer (some ⟨sb, 0, none⟩), .int .i64 node, .int .i64 ph, .slice (some ⟨W.heap.size, 0, none⟩) 2 2] (W.alloc (.cells #[.bool true, .bool false] 4)) fun e w' => e = .returned (.tuple #[]) ∧ PsI n W1 sb eb v xb name (visP node ph name [true, false] st) w' ∧ KeepsOthers W w' := by
  obtain ⟨cv', h1, h2⟩ := h
  have hb := (Below.refl W.heap.size W).alloc (Nat.le_refl _) (.cells #[.bool true, .bool false] 4)
  refine (visit2_any (h1.below hb) node ph (db := W.heap.size) (cap := 2) (by simp) h1.nle (fun e => by have := (h1.own.lt _ e).2; omega) (by rw [cell_of_row _ _ _ _ _ _ (heap_alloc_new W _)]; rfl) (by rw [cell_of_row _ _ _ _ _ _ (heap_alloc_new W _)]; rfl) ⟨by omega, by omega⟩ hc hE).mono ?_
  rintro e w' ⟨rfl, cv2, g1, g2⟩
  exact ⟨rfl, ⟨cv2, g1, (h2.trans (Tn.of_below sb v cv' hb)).trans g2⟩, (KeepsOthers.alloc _ _).trans g2.kept⟩

set_option maxHeartbeats 16000000 in
set_option maxRecDepth 100000 in
theorem pass_any {n : Nat} {w : World} {sb eb : Nat} {v : Value} {xb : List Nat} {name : ByteArray} {st : EvT} (h : SdAt n w sb eb v xb name st (.slice none 0 0)) {a : Option Addr} {cap : Nat} {zs : List Int} (hw : w.ownsRow n 3 1 (.slice a zs.length cap) zs.length (zs.map (Value.int .i64))) (hz : zs.length ≤ 100) (hE : st.E.length ≤ 1000) (hc0 : st.calls = []) (rises : Bool) :
    Calls Tryd.prog 31 #[.pointer (some ⟨sb, 0, none⟩), .slice a zs.length cap, .bool rises] w fun e w' => e = .returned (.tuple #[]) ∧ PostS n w (.slice none 0 0) sb eb v xb name (sendT name rises zs st) w' := by
  refine (callsIn_wide (n := 9)).1 ?_
  refine callsIn_of_wp_marks Tryd.func31 rfl trivial ?_ rfl
  simp only [Tryd.ntmps31, List.size_toArray, List.length_cons, List.length_nil, Nat.reduceAdd, Nat.reduceSub, Array.replicate_succ, Array.replicate_zero, List.push_toArray, List.append_toArray, List.nil_append, List.cons_append]
  have hmx : Tryd.prog.follows Departure.mixedOrders = true := by kernel_rfl
  have hnle := h.nle
  have hb1 := (Below.refl w.heap.size w).alloc (Nat.le_refl _) (.cells #[.pointer (some ⟨sb, 0, none⟩)] 86)
  have HP0 := hid (show PsI n w sb eb v xb name st _ from ⟨_, h.below hb1, Tn.of_below sb v _ hb1⟩)
  cases zs with
  | nil =>
    gi_wp2
    refine ⟨_, results_none rfl _ _ _, rfl, ?_⟩
    obtain ⟨cv', q1, q2⟩ := HP0.out
    exact ⟨cv', q1, q2⟩
  | cons z0 up =>
    obtain ⟨g, hg0, hgn, rfl, hcap, hcm, hcl⟩ : ∃ g, g < w.heap.size ∧ n ≤ g ∧ a = some ⟨g, 0, none⟩ ∧ up.length + 1 ≤ cap ∧ cap ≤ 9223372036854775807 ∧ ∀ (j : Nat) (x : Int), (z0 :: up)[j]? = some x → w.cell? ⟨g, j, none⟩ = some (.int .i64 x) := by
      obtain ⟨hl, ⟨h1, hn⟩ | ⟨g, cap', cur, h1, hg, hh, h2, h3, h4, h5⟩⟩ := id hw
      · simp at hn
      · cases h1
        unfold maxLen at h3
        refine ⟨g, ltH hh, hg, rfl, by simpa using h2, by omega, fun j x hj => ?_⟩
        have := hw.cellAt j (by have := (List.getElem?_eq_some_iff.1 hj).1; omega)
        rw [this, List.getElem?_map, hj]
        rfl
    have hd0 := hcl 0 z0 rfl
    have HCL := hid hcl
    have hul : up.length ≤ 99 := by simp at hz; omega
    have hsl : (z0 :: up).length = up.length + 1 := rfl
    rw [hsl]
    have i1 : (1 : Int) ≤ ((up.length + 1 : Nat) : Int) := by omega
    have i2 : ((up.length + 1 : Nat) : Int) ≤ (cap : Int) := by omega
    have i3 : ¬ ((up.length + 1 : Nat) : Int) = 0 := by omega
    have i3b : (((up.length + 1 : Nat) : Int) == 0) = false := by simpa using i3
    have HW := hid hw
    clear hcl hw
    by_cases hcap1 : cap = 1
    · have hup : up.length < 1 := by omega
      have hc1 : ¬ 1 < cap := by omega
      have hc1i : ¬ (1 : Int) < (cap : Int) := by omega
      clear hcap1
      gi_wp2_with (refine ⟨trivial, ?_⟩; gi_at_call 52; refine (callsIn_wide.2 (evBackward_any _ _ _ _)).mono ?_; rintro e w' ⟨rfl, rfl⟩)
      obtain ⟨W2, hW2⟩ : ∃ W2, W2 = ((w.alloc (.cells #[.pointer (some ⟨sb, 0, none⟩)] 86)).alloc (.cells #[.slice (some ⟨g, 0, none⟩) up.length (cap - 1)] 63)) := ⟨_, rfl⟩
      have hb2 : Below w.heap.size w W2 := by
        rw [hW2]
        exact ((Below.refl w.heap.size w).alloc (Nat.le_refl _) _).alloc (by simp) _
      obtain ⟨k0, k1⟩ := two_newE w (.pointer (some ⟨sb, 0, none⟩)) (.slice (some ⟨g, 0, none⟩) up.length (cap - 1)) 86 63
      have s2 : W2.heap.size = w.heap.size + 1 + 1 := by rw [hW2]; simp
      rw [← hW2] at k0 k1 ⊢
      clear hW2
      have HPW : Hid (∀ st', ∀ W, PsI n W2 sb eb v xb name st' W → PsI n w sb eb v xb name st' W) := fun st' W hp => by
        obtain ⟨cv', q1, q2⟩ := hp
        exact ⟨cv', q1, (Tn.of_below sb v _ hb2).trans q2⟩
      have HP2 : Hid (PsI n W2 sb eb v xb name st W2) := ⟨_, h.below hb2, Tn.refl _ _ _ _⟩
      have HRD : Hid (∀ W, PsI n W2 sb eb v xb name st W → True) := fun _ _ => trivial
      have hwc : ∀ (j : Nat) (x : Int), (z0 :: up)[j]? = some x → W2.cell? ⟨g, j, none⟩ = some (.int .i64 x) := fun j x hj => (hb2.cell (p := ⟨g, j, none⟩) hg0).trans (HCL.out j x hj)
      have HWC := hid hwc
      have hclen : ∀ l : List Int, l.length ≤ up.length → (downT name l st).calls.length + (downT name l st).E.length ≤ 300000 := fun l hl => by
        have h1 := foldP_calls name 1 [true] l st
        have h2 : (downT name l st).E.length = st.E.length := foldP_len name 1 [true] l st
        unfold downT at h2 ⊢
        rw [h2]
        rw [hc0] at h1
        simp only [List.length_nil, List.length_singleton, Nat.one_mul] at h1
        have h3 : l.length * st.E.length ≤ 99 * 1000 := Nat.mul_le_mul (by omega) hE
        omega
      have HCLEN := hid hclen
      have hdE : ∀ l : List Int, (downT name l st).E.length = st.E.length := fun l => foldP_len name 1 [true] l st
      have HDE := hid hdE
      clear hwc hclen hdE HP0 HRD hd0
      refine wpIn_range_q rfl (by omega) (gf := 68) (lb := #[.pointer (some ⟨w.heap.size + 1, 0, none⟩)]) rfl trivial (enters_of Tryd.func68 (by kernel_rfl) rfl)
        (evBack_stops _ (by omega) up (by omega) (some ⟨g, 0, none⟩) (cap - 1) (w.heap.size + 1) _) (fun _ => rfl)
        (fun pre W => PsI n W2 sb eb v xb name (downT name (pre.map Prod.snd) st) W) (fun _ _ _ => False)
        (fun pre W hI => ⟨hI.cell (by omega) k1, fun j x hj => ⟨g, 0, rfl, by exfalso; have := (List.getElem?_eq_some_iff.1 hj).1; omega⟩⟩)
        (fun pre X Y row hs hg hr => PsI.grown hs hg (fun r e => hr r e)) (fun _ _ _ _ h => h.elim) HP2.out
        (fun x a' W => a' = { tmps := #[.pointer (some ⟨sb, 0, none⟩), .slice (some ⟨g, 0, none⟩) (up.length + 1) cap, .bool rises, .pointer (some ⟨w.heap.size, 0, none⟩), undef, undef, undef, .int .i64 x.2, undef, undef, .slice (some ⟨g, 0, none⟩) (up.length + 1) cap, .int .i64 ((up.length : Int) + 1), .bool false, .slice (some ⟨g, 0, none⟩) (up.length + 1) cap, .slice (some ⟨g, 0, none⟩) up.length (cap - 1), .func (.func 68) #[] #[.pointer (some ⟨w.heap.size + 1, 0, none⟩)], .int .i64 x.1, .int .i64 x.2, undef, undef, undef, undef, undef, undef, undef, undef, undef, undef, undef, undef, undef, undef, undef, undef, undef, undef, undef, undef, undef, undef, undef, undef], defers := [] })
        ?hAx ?assign ?body ?done ?stop
      case hAx => exact fun x a' _ X Y row h _ _ => h
      case assign =>
        intro l pre x W K hI hK
        gi_wp2
        exact hK _ _ (KeepsFrom.refl _ _) hI rfl
      case stop => exact fun _ _ _ _ _ h => h.elim
      case body =>
        rintro l pre ⟨xi, xz⟩ a' W hl hI rfl ⟨k, hk, rfl, hx⟩
        exfalso
        omega
      case done =>
        rintro D xs W hD rfl hI hK
        rw [bkE_all] at hI
        have c0 := hI.cell (by omega) k0
        have cz := hI.cell hgn (HWC.out 0 z0 rfl)
        obtain ⟨st1, hst1⟩ : ∃ s, s = downT name up.reverse st := ⟨_, rfl⟩
        have HS1 := hid hst1
        have hl1 : st1.calls.length + 2 * st1.E.length ≤ 310000 := by
          have h1 := HCLEN.out up.reverse (by simp)
          have h2 := HDE.out up.reverse
          rw [hst1]
          omega
        have hE1 : st1.E.length = st.E.length := by rw [hst1]; exact HDE.out _
        rw [← hst1] at hI
        have HI := hid hI
        have HV := hid (fun m => (hI.below (W' := W.drewN m) ⟨rfl, rfl, rfl, Nat.le_refl _, fun _ _ => rfl⟩).visit2 z0 2 (by omega) (by omega))
        have i0 : (0 : Int) < ((up.length + 1 : Nat) : Int) := by omega
        have hsW := hI.size
        have hgW : g < W.heap.size := by omega
        have hwW : w.heap.size < W.heap.size := by omega
        clear hI hst1
        gi_upto_region 5 with fail
        gi_cut [] from 22 (fun wx => Hid (PsI n W2 sb eb v xb name (visP z0 2 name [true, false] st1) wx ∧ KeepsOthers W wx))
        case first =>
          rename_i J0 K0 hJ0 hK0
          refine wpIn_onlyN ?_
          gi_region_with_o (refine ⟨trivial, ?_⟩; gi_at_call 53; refine (callsIn_wide.2 (HV.out 1)).mono ?_; clear HV; rintro e W5 ⟨rfl, t1, t2⟩; have HT := hid (And.intro t1 t2); clear t1 t2)
          all_goals unfold onlyN
          all_goals refine hK0 _ _ (Met.intro (hJ0 _ _ ?_))
          all_goals (repeat apply Exists.intro)
          all_goals exact ⟨hid ⟨HT.out.1, ⟨HT.out.2.size, HT.out.2.same⟩⟩, rfl⟩
        case rest =>
        have HC := hcut
        clear hcut
        have hK2 := HC.out.2.same D _ hK rfl
        obtain ⟨st2, hst2⟩ : ∃ s, s = visP z0 2 name [true, false] st1 := ⟨_, rfl⟩
        rw [← hst2] at HC
        have HS2 := hid hst2
        have hE2 : st2.E.length = st.E.length := by rw [hst2, visP_len]; exact hE1
        have hl2 : st2.calls.length ≤ 310000 := by
          have := visP_calls z0 2 name [true, false] st1
          rw [hst2]
          simp only [List.length_cons, List.length_nil] at this
          omega
        have e0 := HC.out.1.cell (by omega) k0
        obtain ⟨wz, hwz⟩ : ∃ wz, wz = wc := ⟨_, rfl⟩
        subst hwz
        clear hst2 HV c0 cz hK hgW hwW HI
        cases rises
        · gi_wp2
          have hE9 : sendT name false (z0 :: up) st = st2 := by
            unfold sendT
            rw [HS2.out, HS1.out]
            rfl
          have hq : PsI n w sb eb v xb name (sendT name false (z0 :: up) st) (wz.putObj D (.deferred none)) := by
            rw [hE9]
            exact (HPW.out _ _ HC.out.1).grown (grownBy_putObj' wz D (.deferred none)) (fun r e => by cases e; exact ⟨by omega, _, hK2, rfl⟩)
          refine ⟨by simp, .inl ⟨_, _, rfl, run_takeDeferred hK2, ?_⟩⟩
          exact ⟨_, results_none rfl _ _ _, rfl, hq⟩
        · gi_wp2
          gi_loopw [33] (fun i wr => ∃ k : Nat, k ≤ up.length ∧ i = .int .i64 k ∧ Hid (PsI n W2 sb eb v xb name (upT name (up.take k) st2) wr ∧ wr.heap[D]? = some (.deferred (some [])))) (fun i _ => up.length - (intOf i).toNat)
          case atStart => exact ⟨0, Nat.zero_le _, rfl, HC.out.1, hK2⟩
          case round =>
            obtain ⟨k, hk, rfl, HR⟩ := hrel
            obtain ⟨wq, hwq⟩ : ∃ wq, wq = wr := ⟨_, rfl⟩
            subst hwq
            have f0 := HR.out.1.cell (by omega) k0
            have hlk : (upT name (up.take k) st2).calls.length + (upT name (up.take k) st2).E.length ≤ 900000 := by
              have h1 := foldP_calls name 3 [false] (up.take k) st2
              have h2 : (upT name (up.take k) st2).E.length = st2.E.length := foldP_len name 3 [false] (up.take k) st2
              have h3 : (up.take k).length * (1 * st2.E.length) ≤ 99 * (1 * 1000) := Nat.mul_le_mul (by rw [List.length_take]; omega) (by omega)
              unfold upT at h2 ⊢
              simp only [List.length_singleton] at h1
              omega
            have hek : (upT name (up.take k) st2).E.length ≤ 1000 := by
              have h2 : (upT name (up.take k) st2).E.length = st2.E.length := foldP_len name 3 [false] (up.take k) st2
              omega
            by_cases hlt : k < up.length
            · exfalso
              omega
            · obtain rfl : k = up.length := by omega
              have hKq := HR.out.2
              have hE9 : sendT name true (z0 :: up) st = upT name up st2 := by
                unfold sendT
                rw [HS2.out, HS1.out]
                rfl
              have hq : Hid (PsI n w sb eb v xb name (sendT name true (z0 :: up) st) (wq.putObj D (.deferred none))) := by
                have h1 := HR.out.1
                rw [List.take_length] at h1
                show PsI _ _ _ _ _ _ _ _ _
                rw [hE9]
                exact (HPW.out _ _ h1).grown (grownBy_putObj' wq D (.deferred none)) (fun r e => by cases e; exact ⟨by omega, _, hKq, rfl⟩)
              clear HC hK2 hlk hek hE9
              gi_wp2
              refine ⟨by simp, .inl ⟨_, _, rfl, run_takeDeferred hKq, ?_⟩⟩
              exact ⟨_, results_none rfl _ _ _, rfl, hq.out⟩
    · have hc1 : 1 < cap := by omega
      have hc1i : (1 : Int) < (cap : Int) := by omega
      gi_wp2_with (refine ⟨trivial, ?_⟩; gi_at_call 52; refine (callsIn_wide.2 (evBackward_any _ _ _ _)).mono ?_; rintro e w' ⟨rfl, rfl⟩)
      obtain ⟨W2, hW2⟩ : ∃ W2, W2 = ((w.alloc (.cells #[.pointer (some ⟨sb, 0, none⟩)] 86)).alloc (.cells #[.slice (some ⟨g, 1, none⟩) up.length (cap - 1)] 63)) := ⟨_, rfl⟩
      have hb2 : Below w.heap.size w W2 := by
        rw [hW2]
        exact ((Below.refl w.heap.size w).alloc (Nat.le_refl _) _).alloc (by simp) _
      obtain ⟨k0, k1⟩ := two_newE w (.pointer (some ⟨sb, 0, none⟩)) (.slice (some ⟨g, 1, none⟩) up.length (cap - 1)) 86 63
      have s2 : W2.heap.size = w.heap.size + 1 + 1 := by rw [hW2]; simp
      rw [← hW2] at k0 k1 ⊢
      clear hW2
      have HPW : Hid (∀ st', ∀ W, PsI n W2 sb eb v xb name st' W → PsI n w sb eb v xb name st' W) := fun st' W hp => by
        obtain ⟨cv', q1, q2⟩ := hp
        exact ⟨cv', q1, (Tn.of_below sb v _ hb2).trans q2⟩
      have HP2 : Hid (PsI n W2 sb eb v xb name st W2) := ⟨_, h.below hb2, Tn.refl _ _ _ _⟩
      have HRD : Hid (∀ W, PsI n W2 sb eb v xb name st W → True) := fun _ _ => trivial
      have hwc : ∀ (j : Nat) (x : Int), (z0 :: up)[j]? = some x → W2.cell? ⟨g, j, none⟩ = some (.int .i64 x) := fun j x hj => (hb2.cell (p := ⟨g, j, none⟩) hg0).trans (HCL.out j x hj)
      have HWC := hid hwc
      have hclen : ∀ l : List Int, l.length ≤ up.length → (downT name l st).calls.length + (downT name l st).E.length ≤ 300000 := fun l hl => by
        have h1 := foldP_calls name 1 [true] l st
        have h2 : (downT name l st).E.length = st.E.length := foldP_len name 1 [true] l st
        unfold downT at h2 ⊢
        rw [h2]
        rw [hc0] at h1
        simp only [List.length_nil, List.length_singleton, Nat.one_mul] at h1
        have h3 : l.length * st.E.length ≤ 99 * 1000 := Nat.mul_le_mul (by omega) hE
        omega
      have HCLEN := hid hclen
      have hdE : ∀ l : List Int, (downT name l st).E.length = st.E.length := fun l => foldP_len name 1 [true] l st
      have HDE := hid hdE
      clear hwc hclen hdE HP0 HRD hd0
      refine wpIn_range_q rfl (by omega) (gf := 68) (lb := #[.pointer (some ⟨w.heap.size + 1, 0, none⟩)]) rfl trivial (enters_of Tryd.func68 (by kernel_rfl) rfl)
        (evBack_stops _ (by omega) up (by omega) (some ⟨g, 1, none⟩) (cap - 1) (w.heap.size + 1) _) (fun _ => rfl)
        (fun pre W => PsI n W2 sb eb v xb name (downT name (pre.map Prod.snd) st) W) (fun _ _ _ => False)
        (fun pre W hI => ⟨hI.cell (by omega) k1, fun j x hj => ⟨g, 1, rfl, by rw [Nat.add_comm]; exact hI.cell (by omega) (HWC.out (j + 1) x (by simpa using hj))⟩⟩)
        (fun pre X Y row hs hg hr => PsI.grown hs hg (fun r e => hr r e)) (fun _ _ _ _ h => h.elim) HP2.out
        (fun x a' W => a' = { tmps := #[.pointer (some ⟨sb, 0, none⟩), .slice (some ⟨g, 0, none⟩) (up.length + 1) cap, .bool rises, .pointer (some ⟨w.heap.size, 0, none⟩), undef, undef, undef, .int .i64 x.2, undef, undef, .slice (some ⟨g, 0, none⟩) (up.length + 1) cap, .int .i64 ((up.length : Int) + 1), .bool false, .slice (some ⟨g, 0, none⟩) (up.length + 1) cap, .slice (some ⟨g, 1, none⟩) up.length (cap - 1), .func (.func 68) #[] #[.pointer (some ⟨w.heap.size + 1, 0, none⟩)], .int .i64 x.1, .int .i64 x.2, undef, undef, undef, undef, undef, undef, undef, undef, undef, undef, undef, undef, undef, undef, undef, undef, undef, undef, undef, undef, undef, undef, undef, undef], defers := [] })
        ?hAx ?assign ?body ?done ?stop
      case hAx => exact fun x a' _ X Y row h _ _ => h
      case assign =>
        intro l pre x W K hI hK
        gi_wp2
        exact hK _ _ (KeepsFrom.refl _ _) hI rfl
      case stop => exact fun _ _ _ _ _ h => h.elim
      case body =>
        rintro l pre ⟨xi, xz⟩ a' W hl hI rfl ⟨k, hk, rfl, hx⟩
        have c0 := hI.cell (by omega) k0
        have HV := hid (hI.visit1 xz 1 true (by have := HCLEN.out ((uptoE (bkE up) k).map Prod.snd) (by rw [List.length_map, bkE_len]; omega); omega) (by rw [HDE.out]; exact hE))
        clear hI hx
        gi_wp2_with (refine ⟨trivial, ?_⟩; gi_at_call 53; refine (CallsIn.inRound l (callsIn_wide.2 HV.out)).mono ?_; clear HV; rintro e W5 ⟨rfl, t1, t2⟩; have HT := hid (And.intro t1 t2); clear t1 t2)
        refine ⟨HT.out.2.from _, ?_⟩
        show PsI n W2 sb eb v xb name (downT name ((uptoE (bkE up) k ++ [(xi, xz)]).map Prod.snd) st) W5
        rw [List.map_append]
        simp only [List.map_cons, List.map_nil]
        rw [downT_snoc]
        exact HT.out.1
      case done =>
        rintro D xs W hD rfl hI hK
        rw [bkE_all] at hI
        have c0 := hI.cell (by omega) k0
        have cz := hI.cell hgn (HWC.out 0 z0 rfl)
        obtain ⟨st1, hst1⟩ : ∃ s, s = downT name up.reverse st := ⟨_, rfl⟩
        have HS1 := hid hst1
        have hl1 : st1.calls.length + 2 * st1.E.length ≤ 310000 := by
          have h1 := HCLEN.out up.reverse (by simp)
          have h2 := HDE.out up.reverse
          rw [hst1]
          omega
        have hE1 : st1.E.length = st.E.length := by rw [hst1]; exact HDE.out _
        rw [← hst1] at hI
        have HI := hid hI
        have HV := hid (fun m => (hI.below (W' := W.drewN m) ⟨rfl, rfl, rfl, Nat.le_refl _, fun _ _ => rfl⟩).visit2 z0 2 (by omega) (by omega))
        have i0 : (0 : Int) < ((up.length + 1 : Nat) : Int) := by omega
        have hsW := hI.size
        have hgW : g < W.heap.size := by omega
        have hwW : w.heap.size < W.heap.size := by omega
        clear hI hst1
        gi_upto_region 5 with fail
        gi_cut [] from 22 (fun wx => Hid (PsI n W2 sb eb v xb name (visP z0 2 name [true, false] st1) wx ∧ KeepsOthers W wx))
        case first =>
          rename_i J0 K0 hJ0 hK0
          refine wpIn_onlyN ?_
          gi_region_with_o (refine ⟨trivial, ?_⟩; gi_at_call 53; refine (callsIn_wide.2 (HV.out 1)).mono ?_; clear HV; rintro e W5 ⟨rfl, t1, t2⟩; have HT := hid (And.intro t1 t2); clear t1 t2)
          all_goals unfold onlyN
          all_goals refine hK0 _ _ (Met.intro (hJ0 _ _ ?_))
          all_goals (repeat apply Exists.intro)
          all_goals exact ⟨hid ⟨HT.out.1, ⟨HT.out.2.size, HT.out.2.same⟩⟩, rfl⟩
        case rest =>
        have HC := hcut
        clear hcut
        have hK2 := HC.out.2.same D _ hK rfl
        obtain ⟨st2, hst2⟩ : ∃ s, s = visP z0 2 name [true, false] st1 := ⟨_, rfl⟩
        rw [← hst2] at HC
        have HS2 := hid hst2
        have hE2 : st2.E.length = st.E.length := by rw [hst2, visP_len]; exact hE1
        have hl2 : st2.calls.length ≤ 310000 := by
          have := visP_calls z0 2 name [true, false] st1
          rw [hst2]
          simp only [List.length_cons, List.length_nil] at this
          omega
        have e0 := HC.out.1.cell (by omega) k0
        obtain ⟨wz, hwz⟩ : ∃ wz, wz = wc := ⟨_, rfl⟩
        subst hwz
        clear hst2 HV c0 cz hK hgW hwW HI
        cases rises
        · gi_wp2
          have hE9 : sendT name false (z0 :: up) st = st2 := by
            unfold sendT
            rw [HS2.out, HS1.out]
            rfl
          have hq : PsI n w sb eb v xb name (sendT name false (z0 :: up) st) (wz.putObj D (.deferred none)) := by
            rw [hE9]
            exact (HPW.out _ _ HC.out.1).grown (grownBy_putObj' wz D (.deferred none)) (fun r e => by cases e; exact ⟨by omega, _, hK2, rfl⟩)
          refine ⟨by simp, .inl ⟨_, _, rfl, run_takeDeferred hK2, ?_⟩⟩
          exact ⟨_, results_none rfl _ _ _, rfl, hq⟩
        · gi_wp2
          gi_loopw [33] (fun i wr => ∃ k : Nat, k ≤ up.length ∧ i = .int .i64 k ∧ Hid (PsI n W2 sb eb v xb name (upT name (up.take k) st2) wr ∧ wr.heap[D]? = some (.deferred (some [])))) (fun i _ => up.length - (intOf i).toNat)
          case atStart => exact ⟨0, Nat.zero_le _, rfl, HC.out.1, hK2⟩
          case round =>
            obtain ⟨k, hk, rfl, HR⟩ := hrel
            obtain ⟨wq, hwq⟩ : ∃ wq, wq = wr := ⟨_, rfl⟩
            subst hwq
            have f0 := HR.out.1.cell (by omega) k0
            have hlk : (upT name (up.take k) st2).calls.length + (upT name (up.take k) st2).E.length ≤ 900000 := by
              have h1 := foldP_calls name 3 [false] (up.take k) st2
              have h2 : (upT name (up.take k) st2).E.length = st2.E.length := foldP_len name 3 [false] (up.take k) st2
              have h3 : (up.take k).length * (1 * st2.E.length) ≤ 99 * (1 * 1000) := Nat.mul_le_mul (by rw [List.length_take]; omega) (by omega)
              unfold upT at h2 ⊢
              simp only [List.length_singleton] at h1
              omega
            have hek : (upT name (up.take k) st2).E.length ≤ 1000 := by
              have h2 : (upT name (up.take k) st2).E.length = st2.E.length := foldP_len name 3 [false] (up.take k) st2
              omega
            by_cases hlt : k < up.length
            · obtain ⟨z, hz9⟩ : ∃ z, up[k]? = some z := ⟨_, List.getElem?_eq_getElem hlt⟩
              have HZ := hid hz9
              have f1 : wq.cell? ⟨g, 1 + k, none⟩ = some (.int .i64 z) := by first | exact HR.out.1.cell hgn (HWC.out (k + 1) z (by simpa using hz9)) | (rw [Nat.add_comm]; exact HR.out.1.cell hgn (HWC.out (k + 1) z (by simpa using hz9))) | (exfalso; omega)
              have j1 : (k : Int) < (up.length : Int) := by omega
              have HV := hid (HR.out.1.visit1 z 3 false hlk hek)
              have hKq := HR.out.2
              clear hz9 HC hK2
              gi_wp2_with (refine ⟨trivial, ?_⟩; gi_at_call 53; refine (callsIn_wide.2 HV.out).mono ?_; clear HV; rintro e W5 ⟨rfl, t1, t2⟩; have HT := hid (And.intro t1 t2); clear t1 t2)
              go_roundw
              case rel => exact ⟨k + 1, by omega, by go_num, by rw [upT_succ HZ.out]; exact HT.out.1, HT.out.2.same D _ hKq rfl⟩
              case measure => simp [intOf]; omega
            · obtain rfl : k = up.length := by omega
              have hKq := HR.out.2
              have hE9 : sendT name true (z0 :: up) st = upT name up st2 := by
                unfold sendT
                rw [HS2.out, HS1.out]
                rfl
              have hq : Hid (PsI n w sb eb v xb name (sendT name true (z0 :: up) st) (wq.putObj D (.deferred none))) := by
                have h1 := HR.out.1
                rw [List.take_length] at h1
                show PsI _ _ _ _ _ _ _ _ _
                rw [hE9]
                exact (HPW.out _ _ h1).grown (grownBy_putObj' wq D (.deferred none)) (fun r e => by cases e; exact ⟨by omega, _, hKq, rfl⟩)
              clear HC hK2 hlk hek hE9
              gi_wp2
              refine ⟨by simp, .inl ⟨_, _, rfl, run_takeDeferred hKq, ?_⟩⟩
              exact ⟨_, results_none rfl _ _ _, rfl, hq.out⟩
end Go.Proofs.YtlfepdecgfcifaaDoor
