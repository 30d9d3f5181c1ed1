/- The document's answer: whether a node lies in another one; a node's root. -/
import Derived.Test.YtkaeenafejdkfaaGreatDoorM38
import Derived.Test.YtkaeenafejdkfaaGreatDoorM11
import Derived.Test.YtkaeenafejdkfaaGreatDoorM40
import Derived.Test.YtkaeenafejdkfaaGreatDoorM12
import Derived.Test.YtkaeenafejdkfaaGreatDoorM28
namespace Go.Proofs.YtkaeenafejdkfaaGreatDoor
open Go.RowKit

set_option maxHeartbeats 4000000 in
set_option maxRecDepth 100000 in
theorem in_any {EX : Ext} {w : World} {M : Nat → Lab} {tb : Nat} {nv uv : Value} {ps : List Pn} {us : List Value} (h : RLies (EX := EX) w M tb nv uv ps us) {i : Nat} {l : List Nat} (hu : Up (nodesOf ps) i l) (j : Nat) :
    Calls Tryz.prog 94 #[.pointer (some ⟨tb, 0, none⟩), .int .i64 i, .int .i64 j] w fun e w' => e = .returned (.bool (decide (j ∈ l))) ∧ w' = w := by
  have H : Hid (RLies (EX := EX) w M tb nv uv ps us) := h
  have HU : Hid (Up (nodesOf ps) i l) := hu
  clear h hu
  go_enter Tryz.func94, Tryz.ntmps94
  go_wp2
  go_loopg [1] (l.length + 1) (fun k id wr => wr = w ∧ ((∃ (x : Nat) (l' : List Nat), id = .int .i64 x ∧ l'.length + 1 = k ∧ Hid (Up (nodesOf ps) x l') ∧ Hid (j ∈ l' ↔ j ∈ l)) ∨ (id = .int .i64 (-1) ∧ k = 0 ∧ Hid (¬ j ∈ l))))
  case atStart => exact ⟨rfl, .inl ⟨i, l, rfl, rfl, HU, (Iff.rfl : j ∈ l ↔ j ∈ l)⟩⟩
  case round =>
    obtain ⟨rfl, hrel⟩ := hrel
    rcases hrel with ⟨x, l', rfl, hk, hup, hiff⟩ | ⟨rfl, hk, hno⟩
    · by_cases hxj : x = j
      · subst hxj
        have HD : Hid (decide (x ∈ l) = true) := by
          show decide _ = true
          rw [decide_eq_true_eq]
          refine hiff.out.1 ?_
          have := hup.out
          cases this <;> simp
        go_wp2
        go_ret
        exact ⟨ret_bool HD.out.symm, rfl⟩
      · have hne : ¬ ((x : Int) = (j : Int)) := by omega
        have hb1 : ((x : Int) != (j : Int)) = true := by simp [hne]
        have hneb : ((x : Int) == (j : Int)) = false := by simpa using hne
        have hupo := hup.out
        cases hupo with
        | root hn hp =>
          obtain ⟨p, hp1, rfl⟩ := nodesOf_get hn
          obtain ⟨nb, cap, hnv, hc, hm, _, _, hxl⟩ := H.out.form hp1
          have hL := H.out
          rw [hnv] at hL
          have c0 := hL.cell0
          have c4 := (hL.cellN rfl (f := 4) hp1 (by omega) rfl).1
          rw [hp] at c4
          unfold maxLen at hm
          have HN : Hid (¬ j ∈ l) := by
            intro hj
            have := hiff.out.2 hj
            simp at this
            omega
          clear hL hn hp hp1 hnv
          go_wp2
          go_roundg 0
          case measure => omega
          case rel => exact ⟨rfl, .inr ⟨rfl, rfl, HN⟩⟩
        | @up _ q l2 n hn hp hu2 =>
          obtain ⟨p, hp1, rfl⟩ := nodesOf_get hn
          obtain ⟨nb, cap, hnv, hc, hm, _, _, hxl⟩ := H.out.form hp1
          have hL := H.out
          rw [hnv] at hL
          have c0 := hL.cell0
          have c4 := (hL.cellN rfl (f := 4) hp1 (by omega) rfl).1
          rw [hp] at c4
          unfold maxLen at hm
          have HN : Hid (j ∈ l2 ↔ j ∈ l) := by
            show _ ↔ _
            rw [← hiff.out, List.mem_cons]
            constructor
            · exact .inr
            · rintro (h | h)
              · omega
              · exact h
          have HU2 : Hid (Up (nodesOf ps) q l2) := hu2
          clear hL hn hp hp1 hnv hu2
          go_wp2
          go_roundg (l2.length + 1)
          case measure => simp at hk; omega
          case rel => exact ⟨rfl, .inl ⟨q, l2, rfl, rfl, HU2, HN⟩⟩
    · have hn2 : ¬ ((-1 : Int) = (j : Int)) := by omega
      have hn2b : ((-1 : Int) == (j : Int)) = false := by simp
      have HD : Hid (decide (j ∈ l) = false) := by
        show decide _ = false
        rw [decide_eq_false_iff_not]
        exact hno.out
      go_wp2
      go_ret
      exact ⟨ret_bool HD.out.symm, rfl⟩

end Go.Proofs.YtkaeenafejdkfaaGreatDoor

/- The document's answer: what Put makes of any tree. -/
namespace Go.Proofs.YtkaeenafejdkfaaGreatDoor
open Go.RowKit

/-- a number is put into a list -/
def insK (O : List Int) (c : Nat) (i : Int) : List Int := O.take c ++ i :: O.drop c
theorem insK_length (O : List Int) (c : Nat) (i : Int) (hc : c ≤ O.length) : (insK O c i).length = c + 1 + (O.length - c) := by
  unfold insK
  simp
  omega
theorem srcOf_zero' (w : World) (size : Nat) (a : Option Addr) (c : Nat) : SrcOf w size (.slice a 0 c) 0 [] := by
  refine ⟨by simp, by simp, a, c, rfl, ?_⟩
  cases a with
  | none => exact .inl ⟨rfl, rfl⟩
  | some ad => exact .inr ⟨ad, rfl, by simp⟩
theorem srcOf_take {w : World} {g n cap c cap' : Nat} {O : List Int} (h : SrcOf w 1 (.slice (some ⟨g, 0, none⟩) n cap) n (O.map intV)) (hc : c ≤ n) : SrcOf w 1 (.slice (some ⟨g, 0, none⟩) c cap') c ((O.take c).map intV) := by
  obtain ⟨h1, h2, a, c', h3, h4⟩ := h
  cases h3
  refine ⟨by simp at h1 ⊢; omega, fun u hu => h2 u ?_, _, _, rfl, .inr ⟨_, rfl, ?_⟩⟩
  · rw [List.map_take] at hu; exact List.mem_of_mem_take hu
  · rcases h4 with ⟨h4, _⟩ | ⟨ad, h4, h5⟩
    · cases h4
    · cases h4
      intro j u hu
      refine h5 j u ?_
      rw [List.map_take, List.getElem?_take] at hu
      split at hu
      · exact hu
      · cases hu
theorem srcOf_drop {w : World} {g n cap c cap' : Nat} {O : List Int} (h : SrcOf w 1 (.slice (some ⟨g, 0, none⟩) n cap) n (O.map intV)) (hc : c ≤ n) : SrcOf w 1 (.slice (some ⟨g, c, none⟩) (n - c) cap') (n - c) ((O.drop c).map intV) := by
  obtain ⟨h1, h2, a, c', h3, h4⟩ := h
  cases h3
  refine ⟨by simp at h1 ⊢; omega, fun u hu => h2 u ?_, _, _, rfl, .inr ⟨_, rfl, ?_⟩⟩
  · rw [List.map_drop] at hu; exact List.mem_of_mem_drop hu
  · rcases h4 with ⟨h4, _⟩ | ⟨ad, h4, h5⟩
    · cases h4
    · cases h4
      intro j u hu
      rw [List.map_drop, List.getElem?_drop] at hu
      have := h5 (c + j) u hu
      rw [add0] at this
      rw [← this]
      congr 1
      unfold Addr.add
      simp
theorem srcOf_dropI {w : World} {g n cap c cap' : Nat} {O : List Int} (h : SrcOf w 1 (.slice (some ⟨g, 0, none⟩) n cap) n (O.map intV)) (hc : c ≤ n) (hcap : n ≤ cap) : SrcOf w 1 (.slice (if cap = c then some ⟨g, 0, none⟩ else some ⟨g, c, none⟩) (n - c) cap') (n - c) (List.drop c (List.map intV O)) := by
  have hl : O.length = n := by have := h.1; simpa using this
  by_cases e : cap = c
  · rw [if_pos e]
    have e1 : n - c = 0 := by omega
    have e2 : List.drop c (List.map intV O) = [] := List.drop_eq_nil_of_le (by simp; omega)
    rw [e1, e2]
    exact srcOf_zero' _ _ _ _
  · rw [if_neg e, ← List.map_drop]
    exact srcOf_drop h hc

set_option maxHeartbeats 16000000 in
set_option maxRecDepth 100000 in
theorem rput_root {EX : Ext} {w : World} {M : Nat → Lab} {tb : Nat} {nv uv : Value} {ps : List Pn} {us : List Value} (h : RLies (EX := EX) w M tb nv uv ps us) (hs : Small ps) (hn : ps.length ≤ 1000000) (hu : us.length ≤ 1000000000) {a i c : Nat} {p m : Pn} (hp : ps[i]? = some p) (hm : ps[a]? = some m) (h0 : i ≠ 0) (h3 : m.n.kind ≠ 3) (h4 : m.n.kind ≠ 4) {la : List Nat} (hup : Up (nodesOf ps) a la) (hno : i ∉ la) (hc : c ≤ (outOf m.n.kids i).length) (hk : m.n.kids.length ≤ 1000000000) (hr : p.n.parent = -1) :
    Calls Tryz.prog 48 #[.pointer (some ⟨tb, 0, none⟩), .int .i64 a, .int .i64 i, .int .i64 c] w fun e w' => e = .returned (.int .i64 0) ∧ RDone (EX := EX) w M tb us (nodesOf ps) (((nodesOf ps).set a { m.n with kids := insK (outOf m.n.kids i) c i }).set i { p.n with parent := a }) w' := by
  have hai : a ≠ i := fun e => hno (e ▸ hup.head)
  obtain ⟨i0, hi, hz0, hz1, hz2⟩ := info_parts Tryz.infoInt
  have hha : hasB ps.length a = true := hasB_of hm
  have hhb : hasB ps.length i = true := hasB_of hp
  obtain ⟨nb, nc, rfl, hcp, hmx, hnM, hnl, hal⟩ := h.form hm
  have hil : i < ps.length := (List.getElem?_eq_some_iff.1 hp).1
  have c0 := h.cell0
  have k0 := (h.cellN rfl (f := 0) hm (by omega) rfl).1
  rw [Nat.add_zero] at k0
  have k5 := (h.cellN rfl (f := 5) hm (by omega) rfl).1
  obtain ⟨ka, kc, hkv, _, _⟩ := (h.node a m hm).2.shape
  rw [hkv] at k5
  have HRow : Hid (Row w M (.kids a) 3 1 (.slice ka m.n.kids.length kc) m.n.kids.length (m.n.kids.map intV)) := hkv ▸ (h.node a m hm).2
  have hlt : tb < w.heap.size := lt_of_heap h.head
  have H : Hid (RLies (EX := EX) w M tb (.slice (some ⟨nb, 0, none⟩) ps.length nc) uv ps us) := h
  have HS : Hid (Small ps) := hs
  have HA : Hid (ps[a]? = some m) := hm
  have HB : Hid (ps[i]? = some p) := hp
  have HU : Hid (Up (nodesOf ps) a la) := hup
  have i1 : (0 : Int) ≤ (a : Int) := by omega
  have i2 : (a : Int) < (ps.length : Int) := by omega
  have i3 : (0 : Int) ≤ (i : Int) := by omega
  have i4 : (i : Int) < (ps.length : Int) := by omega
  have i5 : (0 : Int) ≤ (c : Int) := by omega
  have b0 : ((i : Int) == 0) = false := by rw [beq_eq_false_iff_ne]; omega
  have b0' : ¬ ((i : Int) = 0) := by omega
  have n3 : (m.n.kind == 3) = false := by rw [beq_eq_false_iff_ne]; exact h3
  have n4 : (m.n.kind == 4) = false := by rw [beq_eq_false_iff_ne]; exact h4
  have hwi : decide (i ∈ la) = false := by simpa using hno
  have hol : (outOf m.n.kids i).length ≤ m.n.kids.length := List.length_filter_le _ _
  obtain ⟨O, hO⟩ : ∃ O, outOf m.n.kids i = O := ⟨_, rfl⟩
  rw [hO] at hol hc
  have HO : Hid (outOf m.n.kids i = O) := hO
  obtain ⟨nO, hnO⟩ : ∃ nO, O.length = nO := ⟨_, rfl⟩
  rw [hnO] at hol hc
  have HnO : Hid (O.length = nO) := hnO
  have i6 : (c : Int) ≤ (nO : Int) := by omega
  unfold maxLen at hmx
  rw [hO]
  clear h hs hm hp hup hO hnO h3 h4 hno
  go_enter Tryz.func48, Tryz.ntmps48
  go_wp2_with (first
    | (go_at_call 15; refine (rhas_any H.out _).mono ?_; rintro e w' ⟨rfl, hw'⟩; subst hw'; first | rw [hha] | rw [hhb])
    | (go_at_call 94; refine (in_any H.out HU.out i).mono ?_; rintro e w' ⟨rfl, hw'⟩; subst hw'; rw [hwi]))
  refine (without_any HRow.out i (by omega)).mono ?_
  rintro e w2 ⟨v13, rfl, ho, hBq⟩
  rw [HO.out, HnO.out] at ho
  obtain ⟨a13, c13, hv13⟩ := own_shape ho
  subst hv13
  have HO2 : Hid (w2.ownsRow w'.heap.size 3 1 (.slice a13 nO c13) nO (O.map intV)) := ho
  have HL2 : Hid (RLies (EX := EX) w2 M tb (.slice (some ⟨nb, 0, none⟩) ps.length nc) uv ps us ∧ Below w'.heap.size w' w2) := ⟨H.out.below hBq, hBq⟩
  have hc13 : nO ≤ c13 ∧ c13 ≤ 9223372036854775807 ∧ (a13 = none → nO = 0 ∧ c13 = 0) ∧ (∀ ad, a13 = some ad → ∃ g, ad = ⟨g, 0, none⟩ ∧ w'.heap.size ≤ g) := by
    rcases ho.2 with ⟨e, e0⟩ | ⟨g, cap, cur, e, hbg, _, e1, e2, _⟩
    · injection e with f1 f2 f3
      subst f1
      subst f3
      exact ⟨by omega, by omega, fun _ => ⟨e0, rfl⟩, fun ad h => by cases h⟩
    · injection e with f1 f2 f3
      subst f1
      subst f3
      exact ⟨e1, by unfold maxLen at e2; omega, fun h => (by cases h), fun ad h => ⟨g, by cases h; rfl, hbg⟩⟩
  obtain ⟨t1, t2, t3, t4⟩ := hc13
  clear ho hBq
  go_wp2_with fail
  refine (rkeepE_any HL2.out.1 HS.out hn hu).mono ?_
  rintro e w3 ⟨rfl, M3, uv3, v3, l3, m3, kk⟩
  have ho3 : w3.ownsRow w'.heap.size 3 1 (.slice a13 nO c13) nO (O.map intV) := own_moved' HO2.out m3 (fun k hk => H.out.fresh k (HO2.out.lt k hk).1)
  have hM3 : ∀ k, (Value.slice a13 nO c13).ownBlock = some k → M3 k = .other := fun k hk => (m3.lab k (HO2.out.lt k hk).2).trans (H.out.fresh k (HO2.out.lt k hk).1)
  have hw2 : w'.heap.size ≤ w2.heap.size := HL2.out.2.size
  have hw3 : w2.heap.size ≤ w3.heap.size := m3.size
  have kk' : CopyOf w' w3 M3 v3 (nodesOf ps) := (by
    obtain ⟨L, x1, x2⟩ := kk
    exact ⟨L, x1, fun b hb => ⟨Nat.le_trans hw2 (x2 b hb).1, (x2 b hb).2⟩⟩)
  have H3 : Hid (RLies (EX := EX) w3 M3 tb (.slice (some ⟨nb, 0, none⟩) ps.length nc) uv3 ps (us ++ [v3]) ∧ Moved w' M w3 M3 ∧ CopyOf w' w3 M3 v3 (nodesOf ps) ∧ w3.ownsRow w'.heap.size 3 1 (.slice a13 nO c13) nO (O.map intV) ∧ (∀ k, (Value.slice a13 nO c13).ownBlock = some k → M3 k = .other)) := ⟨l3, ((Moved.refl w' M).below HL2.out.2).trans m3, kk', ho3, hM3⟩
  have d0 := l3.cell0
  have d4 := (l3.cellN rfl (f := 4) HB.out (by omega) rfl).1
  rw [hr] at d4
  obtain ⟨w5, hw5⟩ : ∃ w5, w5 = w3 := ⟨_, rfl⟩
  subst hw5
  obtain ⟨M4, hM4⟩ : ∃ M4, M4 = M3 := ⟨_, rfl⟩
  subst hM4
  have H5 : Hid (RLies (EX := EX) w5 M4 tb (.slice (some ⟨nb, 0, none⟩) ps.length nc) uv3 ps (us ++ [v3]) ∧ Moved w' M w5 M4 ∧ CopyOf w' w5 M4 v3 (nodesOf ps)) := ⟨H3.out.1, H3.out.2.1, H3.out.2.2.1⟩
  have z0 := d0
  have HSrc : Hid (SrcOf w5 1 (.slice a13 nO c13) nO (O.map intV)) := own_src ho3 (one_int _)
  clear l3 m3 kk kk' ho3 hM3
  have fin : ∀ (v6 : Value) (w6 : World), w6.ownsRow w5.heap.size 3 1 v6 (c + 1 + (nO - c)) ((O.take c).map intV ++ [.int .i64 i] ++ (O.drop c).map intV) → Below w5.heap.size w5 w6 → ∃ a6 c6, v6 = .slice a6 (c + 1 + (nO - c)) c6 ∧ w6.cell? ⟨tb, 0, none⟩ = some (.slice (some ⟨nb, 0, none⟩) ps.length nc) ∧ w6.cell? ⟨nb, a * 6 + 5, none⟩ = some m.kv ∧ w6.frozen? ⟨nb, a * 6 + 5, none⟩ = false ∧
      ∃ M6, RLies (EX := EX) (w6.setCell ⟨nb, a * 6 + 5, none⟩ (.slice a6 (c + 1 + (nO - c)) c6)) M6 tb (.slice (some ⟨nb, 0, none⟩) ps.length nc) uv3 (ps.set a ⟨{ m.n with kids := insK O c i }, m.av, .slice a6 (c + 1 + (nO - c)) c6⟩) (us ++ [v3]) ∧ Moved w5 M4 (w6.setCell ⟨nb, a * 6 + 5, none⟩ (.slice a6 (c + 1 + (nO - c)) c6)) M6 := by
    intro v6 w6 hv6 hb6
    have l6 := H5.out.1.below hb6
    obtain ⟨f1, f2⟩ := l6.cellN rfl (f := 5) HA.out (by omega) rfl
    have eK : (insK O c i).length = c + 1 + (nO - c) := by rw [insK_length O c i (by rw [HnO.out]; exact hc), HnO.out]
    have hv6' : w6.ownsRow w5.heap.size 3 1 v6 (insK O c i).length ((insK O c i).map intV) := by
      rw [eK]
      have : (insK O c i).map intV = (O.take c).map intV ++ [.int .i64 i] ++ (O.drop c).map intV := by simp [insK, intV]
      rw [this]
      exact hv6
    obtain ⟨M6, r1, r2, _⟩ := l6.ownKids0 ((Moved.refl w5 M4).below hb6) rfl HA.out hv6' (Nat.le_refl _) (fun g hg => H5.out.1.fresh g (hv6.lt g hg).1)
    obtain ⟨a6, c6, rfl⟩ := own_shape hv6
    exact ⟨a6, c6, rfl, l6.cell0, f1, f2, M6, r1, r2⟩
  have FIN : Hid _ := fin
  clear fin
  cases a13 with
  | none =>
    obtain ⟨z1, z2⟩ := t3 rfl
    subst z2
    subst z1
    obtain rfl : c = 0 := by omega
    obtain rfl : O = [] := List.length_eq_zero_iff.1 HnO.out
    have fin := FIN.out
    simp only [List.take_nil, List.drop_nil, List.map_nil, List.nil_append, List.append_nil, Nat.zero_add, Nat.sub_self, Nat.add_zero] at fin
    have FIN2 : Hid _ := fin
    clear fin FIN t1 t2 t3 t4
    go_wp2_with (first
      | (at_builtin; refine wpList_app_own _ (by rfl) _ _ 48 (by rfl) w5.heap.size 3 i0 (.int .i64 0) 1 8 Tryz.underlying48 hi hz0 hz1 hz2 rfl (by decide) (.slice none 0 0) 0 [] (by rfl) (World.ownsRow_nil _ _ _ _) (.slice none 0 0) 0 [] (by rfl) (srcOf_zero' _ _ _ _) (by unfold maxLen; omega) (by omega) (Nat.le_refl _) ?_
         intro u4 x4 hu4 hg4 _
         rw [Nat.zero_add, List.nil_append] at hu4
         have HV4 : Hid (x4.ownsRow w5.heap.size 3 1 u4 0 [] ∧ Below w5.heap.size w5 x4) := ⟨hu4, below_grown hg4⟩
         have hx4 : w5.heap.size ≤ x4.heap.size := hg4.size
         clear hu4 hg4)
      | (at_builtin; refine wpList_app_own _ (by rfl) _ _ 48 (by rfl) w5.heap.size 3 i0 (.int .i64 0) 1 8 Tryz.underlying48 hi hz0 hz1 hz2 rfl (by decide) u4 0 [] (by rfl) (HV4.out.1.alloc _) _ 1 [.int .i64 i] (by rfl) ⟨rfl, by simp [Value.oneCell'], _, _, rfl, .inr ⟨_, rfl, cell_one_new _ _ _⟩⟩ (by unfold maxLen; omega) (by omega) (by simp; omega) ?_
         intro u5 x5 hu5 hg5 _
         have HV5 : Hid (x5.ownsRow w5.heap.size 3 1 u5 1 [.int .i64 i] ∧ Below w5.heap.size w5 x5) := ⟨hu5, (HV4.out.2.alloc hx4 _).grown hg5 (by simp; omega) (fun k hk => (HV4.out.1.lt k hk).1)⟩
         have hx5 : w5.heap.size ≤ x5.heap.size := HV5.out.2.size
         clear hu5 hg5)
      | (at_builtin; refine wpList_app_own _ (by rfl) _ _ 48 (by rfl) w5.heap.size 3 i0 (.int .i64 0) 1 8 Tryz.underlying48 hi hz0 hz1 hz2 rfl (by decide) u5 1 [.int .i64 i] (by rfl) HV5.out.1 _ 0 [] (by rfl) (srcOf_zero' _ _ _ _) (by unfold maxLen; omega) (by omega) hx5 ?_
         intro u6 x6 hu6 hg6 _
         obtain ⟨a6, c6, hu6', f0, f1, f2, M6, r1, r2⟩ := FIN2.out u6 x6 hu6 (HV5.out.2.grown hg6 hx5 (fun k hk => (HV5.out.1.lt k hk).1))
         subst hu6'
         have hb2 : (ps.set a ⟨{ m.n with kids := insK [] 0 i }, m.av, .slice a6 1 c6⟩)[i]? = some p := (by rw [List.getElem?_set_ne hai]; exact HB.out)
         have y0 := r1.cell0
         obtain ⟨y4, y4f⟩ := r1.cellN rfl (f := 4) hb2 (by omega) rfl
         have HQ : Hid _ := And.intro (r1.setNode rfl (f := 4) (c := .int .i64 a) hb2 (by omega) (p' := ⟨{ p.n with parent := a }, p.av, p.kv⟩) rfl (r1.node i p hb2).1 (r1.node i p hb2).2) r2
         clear hu6 hg6 r1 r2 hb2))
    go_ret
    have mv := HQ.out.2.trans (HQ.out.1.2.moved (by intro e; cases e))
    exact ⟨rfl, M6, _, uv3, _, v3, HQ.out.1.1, (by simp [nodesOf, List.map_set]), H5.out.2.1.trans mv, CopyOf.moved H5.out.2.2 mv⟩
  | some ad =>
    obtain ⟨g13, rfl, hg13⟩ := t4 ad rfl
    clear t3 t4
    go_wp2_with (first
      | (at_builtin; refine wpList_app_own _ (by rfl) _ _ 48 (by rfl) w5.heap.size 3 i0 (.int .i64 0) 1 8 Tryz.underlying48 hi hz0 hz1 hz2 rfl (by decide) (.slice none 0 0) 0 [] (by rfl) (World.ownsRow_nil _ _ _ _) _ c ((O.take c).map intV) (by rfl) (by simp [Act.eval]; simpa using srcOf_take (cap' := c13) HSrc.out hc) (by unfold maxLen; omega) (by omega) (Nat.le_refl _) ?_
         intro u4 x4 hu4 hg4 _
         rw [Nat.zero_add, List.nil_append] at hu4
         have HV4 : Hid (x4.ownsRow w5.heap.size 3 1 u4 c ((O.take c).map intV) ∧ Below w5.heap.size w5 x4) := ⟨hu4, below_grown hg4⟩
         have hx4 : w5.heap.size ≤ x4.heap.size := hg4.size
         clear hu4 hg4)
      | (at_builtin; refine wpList_app_own _ (by rfl) _ _ 48 (by rfl) w5.heap.size 3 i0 (.int .i64 0) 1 8 Tryz.underlying48 hi hz0 hz1 hz2 rfl (by decide) u4 c ((O.take c).map intV) (by rfl) (HV4.out.1.alloc _) _ 1 [.int .i64 i] (by rfl) ⟨rfl, by simp [Value.oneCell'], _, _, rfl, .inr ⟨_, rfl, cell_one_new _ _ _⟩⟩ (by unfold maxLen; omega) (by omega) (by simp; omega) ?_
         intro u5 x5 hu5 hg5 _
         have HV5 : Hid (x5.ownsRow w5.heap.size 3 1 u5 (c + 1) ((O.take c).map intV ++ [.int .i64 i]) ∧ Below w5.heap.size w5 x5) := ⟨hu5, (HV4.out.2.alloc hx4 _).grown hg5 (by simp; omega) (fun k hk => (HV4.out.1.lt k hk).1)⟩
         have hx5 : w5.heap.size ≤ x5.heap.size := HV5.out.2.size
         clear hu5 hg5)
      | (at_builtin; refine wpList_app_own _ (by rfl) _ _ 48 (by rfl) w5.heap.size 3 i0 (.int .i64 0) 1 8 Tryz.underlying48 hi hz0 hz1 hz2 rfl (by decide) u5 (c + 1) ((O.take c).map intV ++ [.int .i64 i]) (by rfl) HV5.out.1 _ (nO - c) ((O.drop c).map intV) (by rfl) (by simp [Act.eval]; exact srcOf_dropI (HSrc.out.below HV5.out.2) hc t1) (by unfold maxLen; omega) (by omega) hx5 ?_
         intro u6 x6 hu6 hg6 _
         obtain ⟨a6, c6, hu6', f0, f1, f2, M6, r1, r2⟩ := FIN.out u6 x6 hu6 (HV5.out.2.grown hg6 hx5 (fun k hk => (HV5.out.1.lt k hk).1))
         subst hu6'
         have hb2 : (ps.set a ⟨{ m.n with kids := insK O c i }, m.av, .slice a6 (c + 1 + (nO - c)) c6⟩)[i]? = some p := (by rw [List.getElem?_set_ne hai]; exact HB.out)
         have y0 := r1.cell0
         obtain ⟨y4, y4f⟩ := r1.cellN rfl (f := 4) hb2 (by omega) rfl
         have HQ : Hid _ := And.intro (r1.setNode rfl (f := 4) (c := .int .i64 a) hb2 (by omega) (p' := ⟨{ p.n with parent := a }, p.av, p.kv⟩) rfl (r1.node i p hb2).1 (r1.node i p hb2).2) r2
         clear hu6 hg6 r1 r2 hb2))
    all_goals go_ret
    all_goals
      have mv := HQ.out.2.trans (HQ.out.1.2.moved (by intro e; cases e))
      exact ⟨rfl, M6, _, uv3, _, v3, HQ.out.1.1, (by simp [nodesOf, List.map_set]), H5.out.2.1.trans mv, CopyOf.moved H5.out.2.2 mv⟩
end Go.Proofs.YtkaeenafejdkfaaGreatDoor

/- The document's answer: which error, where a node cannot be made. -/
namespace Go.Proofs.YtkaeenafejdkfaaGreatDoor
open Go.RowKit

set_option maxHeartbeats 4000000 in
set_option maxRecDepth 100000 in
theorem rmake_bound {EX : Ext} {w : World} {M : Nat → Lab} {tb : Nat} {nv uv : Value} {ps : List Pn} {us : List Value} (h : RLies (EX := EX) w M tb nv uv ps us) (s : ByteArray) (hs : s.size ≤ 9223372036854775807) {kind : Int} (hk : kind ≠ 2) (hl : ps.length ≤ 400) (hf : ps.length = 400 ∨ 20000 < s.size) :
    Calls Tryz.prog 46 #[.pointer (some ⟨tb, 0, none⟩), .int .i64 kind, .string s] w fun e w' => e = .returned (.tuple #[.int .i64 0, .int .i64 2]) ∧ w' = w := by
  obtain ⟨a, cap, rfl, hc, hm⟩ := h.nodes.shape
  have c0 := h.cell0
  have hkb : (kind == 2) = false := by rw [beq_eq_false_iff_ne]; exact hk
  have hkn : (kind != 2) = true := by simp [bne, hkb]
  unfold maxLen at hm
  clear h
  by_cases h4 : ps.length = 400
  · rw [h4] at c0
    clear hf
    go_enter Tryz.func46, Tryz.ntmps46
    go_wp2_with (go_at_call 26; refine (isName_any _ _).mono ?_; rintro e w' ⟨rfl, rfl⟩; cases hq : nameB s)
    all_goals go_ret2
    all_goals exact ⟨rfl, rfl⟩
  · have h5 : ps.length < 400 := by omega
    have h6 : 20000 < s.size := by omega
    have h7 : (20000 : Int) < (s.size : Int) := by omega
    have h8 : ¬ ((400 : Int) ≤ (ps.length : Int)) := by omega
    clear hf
    go_enter Tryz.func46, Tryz.ntmps46
    go_wp2_with (go_at_call 26; refine (isName_any _ _).mono ?_; rintro e w' ⟨rfl, rfl⟩; cases hq : nameB s)
    all_goals go_ret2
    all_goals exact ⟨rfl, rfl⟩
end Go.Proofs.YtkaeenafejdkfaaGreatDoor

/- The document's builder: how it lies in memory. -/
namespace Go.Proofs.YtkaeenafejdkfaaGreatDoor
open Go.RowKit

/-- a builder's block behind its tree: the innermost open one, what is bad -/
abbrev bExt (p : Nat) (c a : Int) : Ext := ⟨[.int .i64 p, .int .i64 c, .int .i64 a], 60⟩
theorem BL.head {p : Nat} {c a : Int} {w : World} {M : Nat → Lab} {bb : Nat} {nv uv : Value} {ps : List Pn} {us : List Value} (h : RLies (EX := bExt p c a) w M bb nv uv ps us) : w.heap[bb]? = some (.cells #[nv, uv, .int .i64 p, .int .i64 c, .int .i64 a] 60 (0, 0)) := RLies.head (EX := bExt p c a) h
theorem BL.set {p q : Nat} {c a c' a' : Int} {w : World} {M : Nat → Lab} {bb : Nat} {nv uv : Value} {ps : List Pn} {us : List Value} (h : RLies (EX := bExt p c a) w M bb nv uv ps us) {o : Nat} {v : Value} (he : (#[nv, uv, .int .i64 p, .int .i64 c, .int .i64 a] : Array Value).setIfInBounds o v = #[nv, uv, .int .i64 q, .int .i64 c', .int .i64 a']) :
    RLies (EX := bExt q c' a') (w.setCell ⟨bb, o, none⟩ v) M bb nv uv ps us ∧ Moved w M (w.setCell ⟨bb, o, none⟩ v) M := by
  have st : Step w M (w.setCell ⟨bb, o, none⟩ v) M .tree := step_setCell v (RLies.tree (EX := bExt p c a) h) (RLies.fresh (EX := bExt p c a) h)
  have hn := RLies.node (EX := bExt p c a) h
  refine ⟨RLies.mk (EX := bExt q c' a') st.fresh (RLies.tree (EX := bExt p c a) h) ?_ ((RLies.nodes (EX := bExt p c a) h).step st (by intro e; cases e)) ((RLies.undos (EX := bExt p c a) h).step st (by intro e; cases e)) (fun i p hp => ⟨(hn i p hp).1.step st (by intro e; cases e), (hn i p hp).2.step st (by intro e; cases e)⟩), st.moved (by intro e; cases e)⟩
  rw [setCell_heap w bb o v _ _ _ (BL.head h), he]
/-- a builder of these nodes lies there, and not too much was done -/
def BAt (B : World) (bb : Nat) (ns : List Nd) (p : Nat) (c a : Int) (U : Nat) (w : World) (M : Nat → Lab) : Prop :=
  ∃ nv uv ps us, RLies (EX := bExt p c a) w M bb nv uv ps us ∧ nodesOf ps = ns ∧ us.length ≤ U ∧ Moved B (fun _ => .other) w M
theorem BAt.below {B w w' : World} {bb p U : Nat} {ns : List Nd} {c a : Int} {M : Nat → Lab} (h : BAt B bb ns p c a U w M) (hb : Below w.heap.size w w') : BAt B bb ns p c a U w' M := by
  obtain ⟨nv, uv, ps, us, h1, h2, h3, h4⟩ := h
  exact ⟨nv, uv, ps, us, RLies.below (EX := bExt p c a) h1 hb, h2, h3, h4.below hb⟩
theorem BAt.fresh {B w : World} {bb p U : Nat} {ns : List Nd} {c a : Int} {M : Nat → Lab} (h : BAt B bb ns p c a U w M) : ∀ b, w.heap.size ≤ b → M b = .other := by
  obtain ⟨nv, uv, ps, us, h1, _⟩ := h
  exact RLies.fresh (EX := bExt p c a) h1
theorem BAt.mono {B w : World} {bb p U V : Nat} {ns : List Nd} {c a : Int} {M : Nat → Lab} (h : BAt B bb ns p c a U w M) (hU : U ≤ V) : BAt B bb ns p c a V w M := by
  obtain ⟨nv, uv, ps, us, h1, h2, h3, h4⟩ := h
  exact ⟨nv, uv, ps, us, h1, h2, Nat.le_trans h3 hU, h4⟩
/-- what can be read of a builder -/
structure BSee (w : World) (bb nb cap : Nat) (ns : List Nd) (p : Nat) (c a : Int) : Prop where
  lt : bb < w.heap.size
  nlt : nb < w.heap.size
  c0 : w.cell? ⟨bb, 0, none⟩ = some (.slice (some ⟨nb, 0, none⟩) ns.length cap)
  c2 : w.cell? ⟨bb, 2, none⟩ = some (.int .i64 p)
  c3 : w.cell? ⟨bb, 3, none⟩ = some (.int .i64 c)
  c4 : w.cell? ⟨bb, 4, none⟩ = some (.int .i64 a)
  fr : ∀ o, w.frozen? ⟨bb, o, none⟩ = false
  le : ns.length ≤ cap
  mx : cap ≤ 9223372036854775807
  nd : ∀ (x : Nat) (n : Nd), ns[x]? = some n → w.cell? ⟨nb, x * 6, none⟩ = some (.int .i64 n.kind) ∧ w.cell? ⟨nb, x * 6 + 1, none⟩ = some (.string n.tag) ∧ w.cell? ⟨nb, x * 6 + 2, none⟩ = some (.string n.words) ∧ w.cell? ⟨nb, x * 6 + 4, none⟩ = some (.int .i64 n.parent)
  nf : ∀ (x : Nat) (n : Nd) (f : Nat), ns[x]? = some n → f < 6 → w.frozen? ⟨nb, x * 6 + f, none⟩ = false
  ks : ∀ (x : Nat) (n : Nd), ns[x]? = some n → ∃ ka kc, w.cell? ⟨nb, x * 6 + 5, none⟩ = some (.slice ka n.kids.length kc) ∧ n.kids.length ≤ kc ∧ kc ≤ 9223372036854775807 ∧ ∀ (j : Nat) (z : Int), n.kids[j]? = some z → ∃ g, ka = some ⟨g, 0, none⟩ ∧ g < w.heap.size ∧ w.cell? ⟨g, j, none⟩ = some (.int .i64 z)
theorem BAt.see {B w : World} {bb p U : Nat} {ns : List Nd} {c a : Int} {M : Nat → Lab} (h : BAt B bb ns p c a U w M) (hW : WF ns) : ∃ nb cap, BSee w bb nb cap ns p c a := by
  obtain ⟨nv, uv, ps, us, h1, rfl, h3, h4⟩ := h
  obtain ⟨n0, hn0, _⟩ := hW.root
  obtain ⟨p0, hp0, _⟩ := nodesOf_get hn0
  have hh := BL.head h1
  obtain ⟨nb, cap, rfl, hc, hm, hM, hl, _⟩ := RLies.form (EX := bExt p c a) h1 hp0
  have hlen : (nodesOf ps).length = ps.length := by simp [nodesOf]
  refine ⟨nb, cap, ⟨lt_of_heap hh, hl, ?_, ?_, ?_, ?_, ?_, by rw [hlen]; exact hc, by unfold maxLen at hm; exact hm, ?_, ?_, ?_⟩⟩
  · rw [hlen, cell_of_row w bb 0 _ _ _ hh]; rfl
  · rw [cell_of_row w bb 2 _ _ _ hh]; rfl
  · rw [cell_of_row w bb 3 _ _ _ hh]; rfl
  · rw [cell_of_row w bb 4 _ _ _ hh]; rfl
  · intro o; simp [World.frozen?, hh]
  · intro x n hx
    obtain ⟨q, hq, rfl⟩ := nodesOf_get hx
    have k0 := (RLies.cellN (EX := bExt p c a) h1 rfl (f := 0) hq (by omega) rfl).1
    rw [Nat.add_zero] at k0
    exact ⟨k0, (RLies.cellN (EX := bExt p c a) h1 rfl (f := 1) hq (by omega) rfl).1, (RLies.cellN (EX := bExt p c a) h1 rfl (f := 2) hq (by omega) rfl).1, (RLies.cellN (EX := bExt p c a) h1 rfl (f := 4) hq (by omega) rfl).1⟩
  · intro x n f hx hf
    obtain ⟨q, hq, rfl⟩ := nodesOf_get hx
    have hlt : f < q.cells.length := by simpa [Pn.cells] using hf
    exact (RLies.cellN (EX := bExt p c a) h1 rfl (f := f) hq hf (List.getElem?_eq_getElem hlt)).2
  · intro x n hx
    obtain ⟨q, hq, rfl⟩ := nodesOf_get hx
    have k5 := (RLies.cellN (EX := bExt p c a) h1 rfl (f := 5) hq (by omega) rfl).1
    have hrow := (RLies.node (EX := bExt p c a) h1 x q hq).2
    obtain ⟨ka, kc, hkv, e1, e2⟩ := hrow.shape
    rw [hkv] at k5
    refine ⟨ka, kc, k5, e1, by unfold maxLen at e2; exact e2, fun j z hz => ?_⟩
    have hjl : j < q.n.kids.length := (List.getElem?_eq_some_iff.1 hz).1
    obtain ⟨g, cap2, f1, _, _, _, f5⟩ := hrow.form (by omega)
    rw [hkv] at f1
    injection f1 with f1 _ _
    subst f1
    refine ⟨g, rfl, f5, (hrow.cell hkv ?_).1⟩
    rw [List.getElem?_map, hz]
    rfl
theorem chain_pos {ns : List Nd} (hW : WF ns) {k : Nat} {l : List Nat} (h : Chain ns (k :: l)) : 0 < k := by
  cases h with
  | cons hk h2 _ _ _ _ =>
    rcases Nat.eq_zero_or_pos k with e | e
    · subst e
      obtain ⟨n, r1, r2, _⟩ := hW.root
      obtain rfl := Option.some.inj (hk.symm.trans r1)
      omega
    · exact e
end Go.Proofs.YtkaeenafejdkfaaGreatDoor
