/- Package events: Send and Add, whole. -/
import Derived.Test.YtlfepdecgfcifaaDoorEvPass
import Derived.Test.YtlfepdecgfcifaaDoorM11
import Derived.Lib.Strings
namespace Go.Proofs.YtlfepdecgfcifaaDoor
open Go.RowKit
set_option linter.unusedVariables false
theorem Tryd.infoPearE : (Tryd.prog.info? 85).map (fun i => (i.zero, i.size, i.bytes)) = some (some (.pointer none), 1, 8) := by kernel_rfl

def st0E (E : List EvS) : EvT := { E := E, calls := [], barred := false, ended := false }
theorem wayI_len (ns : List Nd) (z : Int) : (wayI ns z).length ≤ ns.length + 1 := by
  unfold wayI
  split
  · simp
  · exact upA_len ns z
def SendPost (w : World) (eb : Nat) (v : Value) (xb : List Nat) (st : EvT) (e : Ending) (w' : World) : Prop :=
  ∃ cv, e = .returned (.tuple #[cv, .bool (!st.barred)]) ∧ PEs w' eb v xb st.E ∧ w'.ownsRow w.heap.size 99 3 cv st.calls.length (callsC st.calls) ∧ Chg (fun b => v.ownBlock = some b) w w'

theorem SendPost.drewN {w w' : World} {eb : Nat} {v : Value} {xb : List Nat} {st : EvT} {e : Ending} (h : SendPost w eb v xb st e w') (m : Nat) : SendPost w eb v xb st e (w'.drewN m) := by
  obtain ⟨cv, h1, h2, h3, h4⟩ := h
  exact ⟨cv, h1, h2.below ⟨rfl, rfl, rfl, Nat.le_refl _, fun _ _ => rfl⟩, h3, ⟨h4.os, h4.tape, h4.output, h4.size, h4.block, ⟨h4.kept.size, h4.kept.same⟩⟩⟩
theorem own_shapeE {w : World} {B n size : Nat} {e : TypeId} {v : Value} {xs : List Value} (h : w.ownsRow B e size v n xs) : ∃ a c, v = .slice a n c := by
  obtain ⟨hl, ⟨rfl, h0⟩ | ⟨g', cap, cur, rfl, _⟩⟩ := h
  · exact ⟨none, 0, by rw [h0]⟩
  · exact ⟨_, cap, rfl⟩
theorem own_monoE {w : World} {B C n size : Nat} {e : TypeId} {v : Value} {xs : List Value} (h : w.ownsRow B e size v n xs) (hC : C ≤ B) : w.ownsRow C e size v n xs := by
  obtain ⟨hl, h0 | ⟨g', cap, cur, h1, h2, h3⟩⟩ := h
  · exact ⟨hl, .inl h0⟩
  · exact ⟨hl, .inr ⟨g', cap, cur, h1, Nat.le_trans hC h2, h3⟩⟩
set_option maxHeartbeats 8000000 in
set_option maxRecDepth 100000 in
theorem send_any {w : World} {eb : Nat} {v : Value} {xb : List Nat} {E : List EvS} (h : PEs w eb v xb E) (hE : E.length ≤ 1000) {ns : List Nd} {tv : Value} (ht : TrR w tv ns) (hA : ns ≠ [] → Asc ns) (hn : ns.length ≤ 90) (htv : tv = .pointer none ∨ ∃ tb, tv = .pointer (some ⟨tb, 0, none⟩)) (z : Int) (name : ByteArray) (rises : Bool) :
    Calls Tryd.prog 12 #[.pointer (some ⟨eb, 0, none⟩), tv, .int .i64 z, .string name, .bool rises] w (SendPost w eb v xb (sendT name rises (wayI ns z) (st0E E))) := by
  have hb1 := (Below.refl w.heap.size w).alloc (Nat.le_refl _) (.cells (sendC eb name (.slice none 0 0) false false) 88)
  have hlt := h.lt
  have H1 : Hid (SdAt (w.heap.size + 1) (w.alloc (.cells (sendC eb name (.slice none 0 0) false false) 88)) w.heap.size eb v xb name (st0E E) (.slice none 0 0)) :=
    ⟨h.below hb1, heap_alloc_new w _, World.ownsRow_nil _ _ _ _, by simp, by omega, by omega, fun b hb => by have := hlt.2.1 b hb; omega, fun b hb => by have := hlt.2.2 b hb; omega, by omega, fun e => by have := hlt.2.1 _ e; omega, fun b hb => by have := hlt.2.2 b hb; omega⟩
  have HT : Hid (TrR (w.alloc (.cells (sendC eb name (.slice none 0 0) false false) 88)) tv ns) := ht.below hb1
  obtain ⟨W1, hW1⟩ : ∃ W1, W1 = w.alloc (.cells (sendC eb name (.slice none 0 0) false false) 88) := ⟨_, rfl⟩
  rw [← hW1] at H1 HT hb1
  have s1 : W1.heap.size = w.heap.size + 1 := by rw [hW1]; simp
  have HW1 := hid hW1
  have HA := hid hA
  have HTV := hid htv
  have HX := hid (And.intro h ht)
  clear h ht hW1 hA
  have main : ∀ tv', tv' = tv → Calls Tryd.prog 12 #[.pointer (some ⟨eb, 0, none⟩), tv', .int .i64 z, .string name, .bool rises] w (SendPost w eb v xb (sendT name rises (wayI ns z) (st0E E))) := by
    rcases htv with rfl | ⟨tb, rfl⟩
    all_goals rintro _ rfl
    all_goals go_enter Tryd.func12, Tryd.ntmps12
    all_goals go_wp2_with fail
    all_goals have hw1 : W1 = w.alloc (.cells #[.pointer (some ⟨eb, 0, none⟩), .string name, .slice none 0 0, .bool false, .bool false] 88) := HW1.out
    all_goals rw [← hw1]
    all_goals refine (evWay_any _ (by first | exact .inl rfl | exact .inr ⟨_, rfl⟩) z W1).mono ?_
    all_goals rintro e W2 ⟨rfl, hW2⟩
    all_goals obtain ⟨k0, k1⟩ := two_newE W1 _ (.int .i64 z) 27 3
    all_goals rw [← hW2] at k0 k1
    all_goals have hb2 : Below W1.heap.size W1 W2 := by rw [hW2]; exact ((Below.refl _ W1).alloc (Nat.le_refl _) _).alloc (by simp) _
    all_goals have s2 : W2.heap.size = W1.heap.size + 1 + 1 := by rw [hW2]; simp
    all_goals have HC := hid (collect_any (B := W1.heap.size) HA.out (by first | exact .inl rfl | exact .inr ⟨_, rfl⟩) (by omega) ⟨HT.out.below hb2, k0, k1⟩)
    all_goals rw [s1] at HC
    all_goals clear hw1 hW2 k0 k1
    all_goals go_wp2_with fail
    all_goals refine HC.out.mono ?_
    all_goals rintro e W3 ⟨sv, rfl, g1, g2⟩
    all_goals obtain ⟨sa, sc, rfl⟩ := own_shapeE g1
    all_goals have HP := hid (pass_any (H1.out.below (hb2.trans (g2.mono hb2.size))) (own_monoE g1 (by omega)) (by have := wayI_len ns z; omega) hE rfl rises)
    all_goals have HB3 := hid (hb1.trans ((hb2.trans (g2.mono hb2.size)).mono hb1.size))
    all_goals have hs3 : W2.heap.size ≤ W3.heap.size := g2.size
    all_goals clear HC g1 g2
    all_goals go_wp2_with fail
    all_goals refine HP.out.mono ?_
    all_goals rintro e W4 ⟨rfl, cv, p1, p2⟩
    all_goals obtain ⟨c0, c1, c2, c3, c4, fz⟩ := p1.cells
    all_goals obtain ⟨ca, cc, rfl⟩ := own_shapeE p1.own
    all_goals have HF : Hid (PEs W4 eb v xb (sendT name rises (wayI ns z) (st0E E)).E ∧ W4.ownsRow w.heap.size 99 3 (.slice ca (sendT name rises (wayI ns z) (st0E E)).calls.length cc) (sendT name rises (wayI ns z) (st0E E)).calls.length (callsC (sendT name rises (wayI ns z) (st0E E)).calls) ∧ Chg (fun b => v.ownBlock = some b) w W4) :=
      ⟨p1.pe, own_monoE p1.own (by omega), ⟨p2.os.trans HB3.out.os, p2.tape.trans HB3.out.tape, p2.output.trans HB3.out.output, Nat.le_trans HB3.out.size p2.kept.size, fun k hk hx => (p2.block k (by omega) (by omega) hx (by simp [Value.ownBlock])).trans (HB3.out.block k hk), KeepsOthers.trans ⟨HB3.out.size, fun k o hk _ => (HB3.out.block k (ltH hk)).trans hk⟩ p2.kept⟩⟩
    all_goals obtain ⟨st, hst⟩ : ∃ s, s = sendT name rises (wayI ns z) (st0E E) := ⟨_, rfl⟩
    all_goals rw [← hst] at c2 c3 c4 HF ⊢
    all_goals have HST := hid hst
    all_goals clear hst HP p1 p2 c0 c1 c4
    all_goals go_wp2_with fail
    all_goals go_quiet (fail)
    all_goals go_wp2
    all_goals refine bodyPost_ret (v := .tuple #[.slice ca st.calls.length cc, .bool (!st.barred)]) ?_ rfl (by rw [← HST.out]; exact SendPost.drewN ⟨_, rfl, HF.out⟩ _)
    all_goals simp [results, Tryd.results12, go_sem]
  exact main tv rfl
end Go.Proofs.YtlfepdecgfcifaaDoor

/- Package events: Add, New. -/
namespace Go.Proofs.YtlfepdecgfcifaaDoor
open Go.RowKit
set_option linter.unusedVariables false
theorem Tryd.infoPearA : (Tryd.prog.info? 85).map (fun i => (i.zero, i.size, i.bytes)) = some (some (.pointer none), 1, 8) := by kernel_rfl

/-- what Add does -/
def addR (E : List EvS) (x : EvE) : List EvS × Int := if 200 ≤ E.length ∨ x.name.size = 0 ∨ 40 < x.name.size then (E, -1) else (E ++ [⟨x, false⟩], (E.length : Int))
theorem zip_snoc {E : List EvS} {xb : List Nat} (h : xb.length = E.length) (x : EvS) (b : Nat) : List.zipWith ptrV (E ++ [x]) (xb ++ [b]) = List.zipWith ptrV E xb ++ [ptrV x b] := by
  rw [List.zipWith_append h.symm]
  rfl
theorem size_pos_toList {s : ByteArray} : (s.toList == []) = decide (s.size = 0) := by
  rw [Lib.toList_data]
  have hl : s.data.toList.length = s.size := rfl
  cases h : s.data.toList with
  | nil =>
    rw [h] at hl
    have : s.size = 0 := hl.symm
    simp [this]
  | cons a l =>
    rw [h] at hl
    have : ¬ s.size = 0 := by rw [← hl]; simp
    simp [this]
def AddPost (w : World) (eb : Nat) (v : Value) (xb : List Nat) (E : List EvS) (x : EvE) (e : Ending) (w' : World) : Prop :=
  ∃ v' xb', e = .returned (.int .i64 (addR E x).2) ∧ PEs w' eb v' xb' (addR E x).1 ∧ Chg (fun b => b = eb ∨ v.ownBlock = some b) w w' ∧
    (v'.ownBlock = v.ownBlock ∨ ∃ b, v'.ownBlock = some b ∧ w.heap.size ≤ b) ∧ ∀ b ∈ xb', b ∈ xb ∨ w.heap.size ≤ b

theorem own_succE {w : World} {B m size : Nat} {e : TypeId} {v : Value} {xs : List Value} (h : w.ownsRow B e size v (m + 1) xs) : ∃ g cap, v = .slice (some ⟨g, 0, none⟩) (m + 1) cap := by
  obtain ⟨_, ⟨_, r2⟩ | ⟨g, cap, cur, r1, _⟩⟩ := h
  · exact absurd r2 (by omega)
  · exact ⟨g, cap, r1⟩
theorem add_end {w W6 : World} {eb : Nat} {v : Value} {xb : List Nat} {E : List EvS} (h : PEs w eb v xb E) {x : EvE} {v6 : Value} {o2 : Obj} (hv6 : W6.ownsRow 0 85 1 v6 (E.length + 1) (List.zipWith ptrV E xb ++ [.pointer (some ⟨w.heap.size, 0, none⟩)])) (hg : ((w.alloc (.cells ⟨earC x⟩ 44)).alloc o2).grownBy W6 v.ownBlock) (hx : v6.ownBlock = v.ownBlock ∨ v6.ownBlock = some ((w.alloc (.cells ⟨earC x⟩ 44)).alloc o2).heap.size) :
    PEs (W6.setCell ⟨eb, 0, none⟩ v6) eb v6 (xb ++ [w.heap.size]) (E ++ [⟨x, false⟩]) ∧ Chg (fun b => b = eb ∨ v.ownBlock = some b) w (W6.setCell ⟨eb, 0, none⟩ v6) ∧ (v6.ownBlock = v.ownBlock ∨ ∃ b, v6.ownBlock = some b ∧ w.heap.size ≤ b) := by
  have hlt := h.lt
  have s2 : ((w.alloc (.cells ⟨earC x⟩ 44)).alloc o2).heap.size = w.heap.size + 1 + 1 := by simp
  rw [s2] at hx
  have low : ∀ b, b < w.heap.size → v.ownBlock ≠ some b → W6.heap[b]? = w.heap[b]? := fun b hb hn => (hg.block b (by omega) (fun e => hn e.symm)).trans ((Below.heap_alloc _ _ _ (by simp; omega)).trans (Below.heap_alloc _ _ _ hb))
  have hnew : W6.heap[w.heap.size]? = some (.cells ⟨earC x⟩ 44 (0, 0)) := (hg.block _ (by omega) (fun e => by have := hlt.2.1 _ e.symm; omega)).trans ((Below.heap_alloc _ _ _ (by simp)).trans (heap_alloc_new w _))
  have hne : v6.ownBlock ≠ some eb := fun e => by
    rcases hx with q | q
    · exact h.ne (q.symm.trans e)
    · rw [q] at e; cases e; omega
  have oth : ∀ b, b ≠ eb → (W6.setCell ⟨eb, 0, none⟩ v6).heap[b]? = W6.heap[b]? := fun b hb => Below.heap_setCell _ _ _ _ hb
  have hhead : W6.heap[eb]? = some (.cells #[v] 57 (0, 0)) := (low eb hlt.1 h.ne).trans h.head
  refine ⟨⟨?_, ?_, by simp [h.len], fun k y b hk hb => ?_, hne⟩, ?_, ?_⟩
  · rw [setCell_heap _ _ _ _ _ _ _ hhead]
    rfl
  · rw [zip_snoc h.len, List.length_append]
    exact own_same hv6 (fun b hb => oth b (fun e => hne (by rw [← e]; exact hb)))
  · by_cases hkl : k < E.length
    · rw [List.getElem?_append_left hkl] at hk
      rw [List.getElem?_append_left (by rw [h.len]; exact hkl)] at hb
      obtain ⟨q1, q2, q3⟩ := h.ear k y b hk hb
      have hbl := ltH q1
      refine ⟨(oth b q2).trans ((low b hbl q3).trans q1), q2, fun e => ?_⟩
      rcases hx with q | q
      · exact q3 (q.symm.trans e)
      · rw [q] at e; injection e with e; omega
    · have hk1 : k = E.length := by have := (List.getElem?_eq_some_iff.1 hk).1; simp at this; omega
      subst hk1
      rw [List.getElem?_append_right (Nat.le_refl _), Nat.sub_self] at hk
      rw [List.getElem?_append_right (by rw [h.len]; exact Nat.le_refl _), h.len, Nat.sub_self] at hb
      cases hk
      obtain rfl : w.heap.size = b := by simpa using hb
      refine ⟨(oth _ (by omega)).trans hnew, by omega, fun e => ?_⟩
      rcases hx with q | q
      · have := hlt.2.1 _ (q.symm.trans e); omega
      · rw [q] at e; injection e with e; omega
  · have hk : KeepsOthers ((w.alloc (.cells ⟨earC x⟩ 44)).alloc o2) W6 := KeepsOthers.of_grownBy hg (fun j o e ho => ?_)
    have hc : Chg (fun b => b = eb ∨ v.ownBlock = some b) w W6 := ⟨hg.os, hg.tape, hg.output, by have := hg.size; omega, fun b hb hn => low b hb (fun e => hn (.inr e)), ((KeepsOthers.alloc _ _).trans (KeepsOthers.alloc _ _)).trans hk⟩
    exact hc.set eb 0 v6 (fun _ => .inl rfl)
    obtain ⟨_, ⟨e1, _⟩ | ⟨g, cap, cur, e1, _, e2, _⟩⟩ := h.row
    · rw [e1] at e; cases e
    · rw [e1] at e
      cases e
      rw [Below.heap_alloc _ _ _ (by simp; have := ltH e2; omega), Below.heap_alloc _ _ _ (ltH e2), e2] at ho
      cases ho
      rfl
  · rcases hx with q | q
    · exact .inl q
    · exact .inr ⟨_, q, by omega⟩
set_option maxHeartbeats 8000000 in
set_option maxRecDepth 100000 in
theorem evAdd_any {w : World} {eb : Nat} {v : Value} {xb : List Nat} {E : List EvS} (h : PEs w eb v xb E) (hE : E.length ≤ 1000) (x : EvE) (hx : x.name.size ≤ 9223372036854775807) :
    Calls Tryd.prog 8 #[.pointer (some ⟨eb, 0, none⟩), .agg #[.int .i64 x.node, .string x.name, .bool x.down, .bool x.once, .bool x.calm, .bool x.stop, .bool x.now, .bool x.bar]] w (AddPost w eb v xb E x) := by
  obtain ⟨i0, hi, hz0, hz1, hz2⟩ := info_parts Tryd.infoPearA
  obtain ⟨a, c, rfl, hc1, hc2, ha⟩ := h.shape
  have h0 : w.cell? ⟨eb, 0, none⟩ = some (.slice a E.length c) := by rw [cell_of_row _ _ _ _ _ _ h.head]; rfl
  have hf0 : ∀ j, w.frozen? ⟨eb, j, none⟩ = false := fun j => by simp [World.frozen?, h.head]
  have hlt := h.lt
  have heb := hlt.1
  have H := hid h
  have hb1 := hid ((Below.refl w.heap.size w).alloc (Nat.le_refl _) (.cells ⟨earC x⟩ 44))
  have bad : (200 ≤ E.length ∨ x.name.size = 0 ∨ 40 < x.name.size) → Hid (AddPost w eb (.slice a E.length c) xb E x (.returned (.int .i64 (-1))) (w.alloc (.cells ⟨earC x⟩ 44))) := fun hb => by
    have e : addR E x = (E, -1) := by unfold addR; rw [if_pos hb]
    refine ⟨.slice a E.length c, xb, by rw [e], by rw [e]; exact H.out.below hb1.out, (Chg.refl _ w).alloc _, .inl rfl, fun b hb => .inl hb⟩
  clear h hlt
  by_cases q1 : 200 ≤ E.length
  · have HB := bad (.inl q1)
    have q1' : (200 : Int) ≤ (E.length : Int) := by omega
    clear bad
    go_enter Tryd.func8, Tryd.ntmps8
    go_wp2
    go_ret
    exact HB.out
  · have q1' : ¬ (200 : Int) ≤ (E.length : Int) := by omega
    by_cases q2 : x.name.size = 0
    · have HB := bad (.inr (.inl q2))
      have q2' : (x.name.toList == []) = true := by rw [size_pos_toList]; simpa using q2
      clear bad
      go_enter Tryd.func8, Tryd.ntmps8
      go_wp2
      go_ret
      exact HB.out
    · have q2' : (x.name.toList == []) = false := by rw [size_pos_toList]; simpa using q2
      by_cases q3 : 40 < x.name.size
      · have HB := bad (.inr (.inr q3))
        have q3' : (40 : Int) < (x.name.size : Int) := by omega
        clear bad
        go_enter Tryd.func8, Tryd.ntmps8
        go_wp2
        go_ret
        exact HB.out
      · have q3' : ¬ (40 : Int) < (x.name.size : Int) := by omega
        have HAE : Hid (addR E x = (E ++ [⟨x, false⟩], (E.length : Int))) := by
          show _ = _
          unfold addR
          rw [if_neg (by omega)]
        have HOW : Hid (∀ o o2 : Obj, ((w.alloc o).alloc o2).ownsRow 0 85 1 (.slice a E.length c) E.length (List.zipWith ptrV E xb)) := fun o o2 => (H.out.row.alloc o).alloc o2
        clear bad
        go_enter Tryd.func8, Tryd.ntmps8
        go_wp2_with (at_builtin; refine wpList_append_own_at _ rfl (.tmp 26) (.tmp 27) 55 rfl 0 85 i0 _ 1 8 Tryd.underlying55 hi hz0 hz1 hz2 rfl (by decide) _ E.length (List.zipWith ptrV E xb) rfl (HOW.out _ _) ⟨w.heap.size + 1, 0, none⟩ 1 1 [.pointer (some ⟨w.heap.size, 0, none⟩)] rfl rfl (news_new _ #[.pointer (some ⟨w.heap.size, 0, none⟩)] 85 _ (by simp)) (by simp [Value.oneCell']) (by unfold maxLen; omega) (by omega) (Nat.zero_le _) ?_; intro v6 w6 hv6 hg6 _ hx6; obtain ⟨g6, cap6, rfl⟩ : ∃ g cap, v6 = .slice (some ⟨g, 0, none⟩) (E.length + 1) cap := (own_succE hv6); have HE6 := hid (add_end H.out (x := x) hv6 hg6 hx6); have hh6 := (hg6.block eb (by simp; omega) (fun e => H.out.ne e.symm)).trans ((Below.heap_alloc _ _ _ (by simp; omega)).trans ((Below.heap_alloc _ _ _ heb).trans H.out.head)); have y0 : w6.cell? ⟨eb, 0, none⟩ = some (.slice a E.length c) := ((cell_of_row _ _ _ _ _ _ hh6).trans rfl); have yf : ∀ j, w6.frozen? ⟨eb, j, none⟩ = false := (fun j => by simp [World.frozen?, hh6]); clear hv6 hg6 hx6 hh6)
        go_ret
        obtain ⟨t1, t2, t3⟩ := HE6.out
        refine ⟨_, xb ++ [w.heap.size], ?_, by rw [HAE.out]; exact t1, t2, t3, fun b hb => ?_⟩
        · rw [HAE.out]
          rfl
        · rcases List.mem_append.1 hb with q | q
          · exact .inl q
          · rw [List.mem_singleton] at q
            exact .inr (by omega)
set_option maxHeartbeats 1000000 in
theorem evNew_any (w : World) : Calls Tryd.prog 4 #[] w fun e w' => e = .returned (.pointer (some ⟨w.heap.size, 0, none⟩)) ∧ w' = w.alloc (.cells #[.slice none 0 0] 57) := by
  go_enter Tryd.func4, Tryd.ntmps4
  go_wp2
  go_ret
  exact ⟨rfl, rfl⟩
theorem pes_new (w : World) : PEs (w.alloc (.cells #[.slice none 0 0] 57)) w.heap.size (.slice none 0 0) [] [] :=
  ⟨heap_alloc_new w _, World.ownsRow_nil _ _ _ _, rfl, fun k x b hk _ => by simp at hk, by simp [Value.ownBlock]⟩
end Go.Proofs.YtlfepdecgfcifaaDoor
