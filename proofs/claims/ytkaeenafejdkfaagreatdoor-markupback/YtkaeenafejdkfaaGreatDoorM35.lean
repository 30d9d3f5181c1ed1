/- The program: what lies in a node is spelt. -/
import Derived.Test.YtkaeenafejdkfaaGreatDoorM34
namespace Go.Proofs.YtkaeenafejdkfaaGreatDoor
open Go.RowKit

def oneK (ns : List Nd) (f d : Nat) (x : Int) : List UInt8 := match ns[x.toNat]? with
  | none => []
  | some n => nodeL ns f d n
theorem spellK_one (ns : List Nd) (f d : Nat) (ks : List Int) : spellK ns (f + 1) d ks = ks.flatMap (oneK ns f d) := rfl
theorem oneK_at {ns : List Nd} {f d j : Nat} {n : Nd} (h : ns[j]? = some n) : oneK ns f d (j : Int) = nodeL ns f d n := by
  unfold oneK
  rw [Int.toNat_natCast, h]
theorem Cover.mem {ns : List Nd} {ks : List Int} {a b : Nat} (h : Cover ns ks a b) : ∀ x ∈ ks, ∃ (j m : Nat) (n : Nd), x = j ∧ ns[j]? = some n ∧ Cover ns n.kids (j + 1) m ∧ a ≤ j ∧ m ≤ b := by
  induction h with
  | nil => intro x hx; cases hx
  | cons hk h1 h2 i1 i2 =>
    intro x hx
    rcases List.mem_cons.1 hx with rfl | hx
    · exact ⟨_, _, _, rfl, hk, h1, Nat.le_refl _, h2.le⟩
    · obtain ⟨j, m, n, e1, e2, e3, e4, e5⟩ := i2 x hx
      have := h1.le
      exact ⟨j, m, n, e1, e2, e3, by omega, e5⟩
theorem one_take {ns : List Nd} {f d k : Nat} {ks : List Int} {j : Nat} {n : Nd} (hx : ks[k]? = some (j : Int)) (hn : ns[j]? = some n) : (ks.take (k + 1)).flatMap (oneK ns f d) = (ks.take k).flatMap (oneK ns f d) ++ nodeL ns f d n := by
  rw [List.take_add_one, hx]
  simp [List.flatMap_append, oneK_at hn]

def KidsC (w0 : World) (M : Nat → Lab) (tb : Nat) (nv uv : Value) (ps : List Pn) (us : List Value) (b f : Nat) : Prop :=
  ∀ (d i : Nat) (p : Pn) (l : List UInt8) (w : World) (a e : Nat), WAt w0 M tb nv uv ps us b l d w → ps[i]? = some p → Cover (nodesOf ps) p.n.kids a e → e - a < f → d ≤ 40 → l.length + (spellK (nodesOf ps) f d p.n.kids).length ≤ 20000 →
    Calls Tryz.prog 75 #[.pointer (some ⟨b, 0, none⟩), .int .i64 i] w fun e w' => e = .returned (.tuple #[]) ∧ WAt w0 M tb nv uv ps us b (l ++ spellK (nodesOf ps) f d p.n.kids) d w' ∧ Spk w0.heap.size w w'

set_option maxHeartbeats 4000000 in
set_option maxRecDepth 100000 in
theorem kids_step {w0 : World} {M : Nat → Lab} {tb : Nat} {nv uv : Value} {ps : List Pn} {us : List Value} {b f : Nat} (hF : ∀ (j : Nat) (q : Pn), ps[j]? = some q → q.n.kids.length ≤ 100000 ∧ q.n.attrs.length ≤ 100000) (IH : KidsC w0 M tb nv uv ps us b f) : KidsC w0 M tb nv uv ps us b (f + 1) := by
    intro d i p l w a e h hp hcov hf hd hlen
    rw [spellK_one] at hlen ⊢
    have hkl := (hF i p hp).1
    obtain ⟨c2, -, -⟩ := h.cells
    have HC := hid hcov
    have H := hid h
    have HF := hid hF
    have HLEN := hid hlen
    have HIH := hid IH
    clear h hcov hF hlen IH
    go_enter Tryz.func75, Tryz.ntmps75
    go_wp2_with fail
    refine (kids_any H.out.lies hp (by omega)).mono ?_
    rintro e1 w1 ⟨v1, rfl, ho, hb1⟩
    have hr1 := IntRow.of ho
    obtain ⟨a1, k1, rfl, _⟩ := id hr1
    have H1 := hid (H.out.below hb1)
    have HK1 := hid (Spk.of H.out.kept.below.size hb1)
    have HR1 := hid hr1
    clear ho hb1 hr1
    go_wp2_with fail
    go_loopw [13] (fun v wr => ∃ k : Nat, k ≤ p.n.kids.length ∧ v = .int .i64 k ∧ Hid (WAt w0 M tb nv uv ps us b (l ++ (p.n.kids.take k).flatMap (oneK (nodesOf ps) f d)) d wr ∧ Spk w0.heap.size w1 wr)) (fun v _ => p.n.kids.length - (intOf v).toNat)
    case atStart => exact ⟨0, by omega, rfl, hid ⟨by simpa using H1.out, Spk.refl _ _⟩⟩
    case round =>
      obtain ⟨k, hk, rfl, HR⟩ := hrel
      by_cases hlt : k < p.n.kids.length
      · obtain ⟨x, hx⟩ : ∃ x, p.n.kids[k]? = some x := ⟨_, List.getElem?_eq_getElem hlt⟩
        obtain ⟨j, m, n, rfl, hn, hcv, hj1, hj2⟩ := HC.out.mem x (List.mem_of_getElem? hx)
        obtain ⟨q, hq, rfl⟩ := nodesOf_get hn
        have HW := hid (one_take (f := f) (d := d) hx hn)
        have hpre := flat_pre (oneK (nodesOf ps) f d) p.n.kids (k + 1)
        rw [HW.out, List.length_append] at hpre
        have hle : (l ++ (p.n.kids.take k).flatMap (oneK (nodesOf ps) f d)).length + (nodeL (nodesOf ps) f d q.n).length ≤ 20000 := by
          have := HLEN.out
          rw [List.length_append]; omega
        have HLE := hid hle
        have HCV := hid hcv
        obtain ⟨g, rfl, hcell⟩ := (HR1.out.keep HR.out.2).cell hx
        obtain ⟨d2, -, -⟩ := HR.out.1.cells
        have H5 : Hid (∀ w', WAt w0 M tb nv uv ps us b (l ++ (p.n.kids.take k).flatMap (oneK (nodesOf ps) f d) ++ nodeL (nodesOf ps) f d q.n) d w' → WAt w0 M tb nv uv ps us b (l ++ (p.n.kids.take (k + 1)).flatMap (oneK (nodesOf ps) f d)) d w') := by
          intro w' hw'
          rw [HW.out, ← List.append_assoc]
          exact hw'
        generalize hl2 : l ++ (p.n.kids.take k).flatMap (oneK (nodesOf ps) f d) = l2 at *
        clear hx hn hpre hle hcv c2 hl2
        go_wp2_with fail
        refine (kind_any HR.out.1.lies hq).mono ?_
        rintro e2 w2 ⟨rfl, rfl⟩
        by_cases k2 : q.n.kind = 2
        · have HN : Hid (nodeL (nodesOf ps) f d q.n = elL (nodesOf ps) f d q.n) := by
            show _ = _
            unfold nodeL elL
            rw [if_pos k2]
          have HE : Hid (Calls Tryz.prog 115 #[.pointer (some ⟨b, 0, none⟩), .int .i64 j] w2 fun e w' => e = .returned (.tuple #[]) ∧ WAt w0 M tb nv uv ps us b (l2 ++ elL (nodesOf ps) f d q.n) d w' ∧ Spk w0.heap.size w2 w') := by
            refine element_any HR.out.1 hq (by omega) (HF.out j q hq).1 (HF.out j q hq).2 (fun x hx => ?_) (by rw [← HN.out]; exact HLE.out) (fun _ hst l' w' hW hl => ?_)
            · obtain ⟨j', _, n', e1, e2, _⟩ := HCV.out.mem x hx
              obtain ⟨q', e3, _⟩ := nodesOf_get e2
              exact ⟨j', q', e1, e3⟩
            · have hd' : d < 40 := by
                simp only [Bool.and_eq_true, decide_eq_true_eq] at hst
                exact hst.2
              have hle' := HCV.out.le
              exact HIH.out (d + 1) j q l' w' (j + 1) m hW hq HCV.out (by omega) (by omega) hl
          have g2 : (q.n.kind == 2) = true := by rw [beq_iff_eq]; exact k2
          clear k2
          go_wp2_with fail
          refine HE.out.mono ?_
          rintro e3 w3 ⟨rfl, h3, hk3⟩
          have H6 : Hid (WAt w0 M tb nv uv ps us b (l ++ (p.n.kids.take (k + 1)).flatMap (oneK (nodesOf ps) f d)) d w3 ∧ Spk w0.heap.size w1 w3) := ⟨H5.out w3 (by rw [HN.out]; exact h3), HR.out.2.trans hk3⟩
          clear h3 hk3 HR HE hcell d2 H5
          go_wp2_with fail
          refine ⟨⟨k + 1, by omega, by go_num, H6⟩, ?_⟩
          simp [intOf]; omega
        · have g2 : (q.n.kind == 2) = false := by rw [beq_eq_false_iff_ne]; exact k2
          by_cases k3 : q.n.kind = 3
          · have HN : Hid (nodeL (nodesOf ps) f d q.n = quoteL (60 : Nat).toUInt8 q.n.words.data.toList) := by
              show _ = _
              unfold nodeL
              rw [if_neg k2, if_pos k3]
              rfl
            have g3 : (q.n.kind == 3) = true := by rw [beq_iff_eq]; exact k3
            clear k2 k3
            go_wp2_with fail
            refine (words_any HR.out.1.lies hq).mono ?_
            rintro e3 w3 ⟨rfl, rfl⟩
            go_wp2_with fail
            refine (HR.out.1.quote q.n.words 60 (by decide) (by rw [← HN.out]; exact HLE.out)).mono ?_
            rintro e3 w4 ⟨rfl, H4⟩
            have H6 : Hid (WAt w0 M tb nv uv ps us b (l ++ (p.n.kids.take (k + 1)).flatMap (oneK (nodesOf ps) f d)) d w4 ∧ Spk w0.heap.size w1 w4) := ⟨H5.out w4 (by rw [HN.out]; exact H4.out.1), HR.out.2.trans H4.out.2⟩
            clear H4 HR hcell d2 H5
            go_wp2_with fail
            refine ⟨⟨k + 1, by omega, by go_num, H6⟩, ?_⟩
            simp [intOf]; omega
          · have g3 : (q.n.kind == 3) = false := by rw [beq_eq_false_iff_ne]; exact k3
            by_cases k4 : q.n.kind = 4
            · have HN : Hid (nodeL (nodesOf ps) f d q.n = catB [⟨#[60, 33, 45, 45]⟩, q.n.words, ⟨#[45, 45, 62]⟩]) := by
                show _ = _
                unfold nodeL
                rw [if_neg k2, if_neg k3, if_pos k4]
                simp [comL, catB]
              have g4 : (q.n.kind == 4) = true := by rw [beq_iff_eq]; exact k4
              clear k2 k3 k4
              go_wp2_with fail
              refine (words_any HR.out.1.lies hq).mono ?_
              rintro e3 w3 ⟨rfl, rfl⟩
              go_wp2_with fail
              refine (HR.out.1.put [⟨#[60, 33, 45, 45]⟩, q.n.words, ⟨#[45, 45, 62]⟩] (by rw [← HN.out]; exact HLE.out) (by simp) (.inl rfl)).mono ?_
              rintro e3 w4 ⟨rfl, H4⟩
              have H6 : Hid (WAt w0 M tb nv uv ps us b (l ++ (p.n.kids.take (k + 1)).flatMap (oneK (nodesOf ps) f d)) d w4 ∧ Spk w0.heap.size w1 w4) := ⟨H5.out w4 (by rw [HN.out]; exact H4.out.1), HR.out.2.trans H4.out.2⟩
              clear H4 HR hcell d2 H5
              go_wp2_with fail
              refine ⟨⟨k + 1, by omega, by go_num, H6⟩, ?_⟩
              simp [intOf]; omega
            · have HN : Hid (nodeL (nodesOf ps) f d q.n = []) := by
                show _ = _
                unfold nodeL
                rw [if_neg k2, if_neg k3, if_neg k4]
              have g4 : (q.n.kind == 4) = false := by rw [beq_eq_false_iff_ne]; exact k4
              clear k2 k3 k4
              have H6 : Hid (WAt w0 M tb nv uv ps us b (l ++ (p.n.kids.take (k + 1)).flatMap (oneK (nodesOf ps) f d)) d w2 ∧ Spk w0.heap.size w1 w2) := ⟨H5.out w2 (by rw [HN.out, List.append_nil]; exact HR.out.1), HR.out.2⟩
              clear HR hcell d2 H5
              go_wp2_with fail
              refine ⟨⟨k + 1, by omega, by go_num, H6⟩, ?_⟩
              simp [intOf]; omega
      · have hkk : k = p.n.kids.length := by omega
        subst hkk
        go_wp2_with fail
        go_end0
        have := HR.out
        rw [List.take_length] at this
        exact ⟨rfl, this.1, HK1.out.trans this.2⟩

theorem kidsW {w0 : World} {M : Nat → Lab} {tb : Nat} {nv uv : Value} {ps : List Pn} {us : List Value} {b : Nat} (hF : ∀ (j : Nat) (q : Pn), ps[j]? = some q → q.n.kids.length ≤ 100000 ∧ q.n.attrs.length ≤ 100000) : ∀ f, KidsC w0 M tb nv uv ps us b f
  | 0 => fun _ _ _ _ _ _ _ _ _ _ hf => absurd hf (Nat.not_lt_zero _)
  | f + 1 => kids_step hF (kidsW hF f)
end Go.Proofs.YtkaeenafejdkfaaGreatDoor

/- The program: two lists that are the same are found so. -/
namespace Go.Proofs.YtkaeenafejdkfaaGreatDoor
open Go.RowKit

/-- a row of numbers, and what it keeps -/
theorem IntRow.below {w w' : World} {v : Value} {ks : List Int} (h : IntRow w v ks) (hb : Below w.heap.size w w') : IntRow w' v ks := by
  obtain ⟨a, c, rfl, h⟩ := h
  refine ⟨a, c, rfl, fun j x hj => ?_⟩
  obtain ⟨g, cur, fr, h1, h2, h3⟩ := h j x hj
  exact ⟨g, cur, fr, h1, (hb.block g (size_of h2)).trans h2, h3⟩

set_option maxHeartbeats 4000000 in
set_option maxRecDepth 100000 in
theorem equalFunc_same {w : World} {v1 v2 : Value} {ks : List Int} (h1 : IntRow w v1 ks) (h2 : IntRow w v2 ks) (hl : ks.length ≤ 100000) (p q : Value)
    (hc : ∀ x ∈ ks, ∀ W, Below w.heap.size w W → Calls Tryz.prog 78 #[.int .i64 x, .int .i64 x, p, q] W fun e w' => e = .returned (.bool true) ∧ Below W.heap.size W w') :
    Calls Tryz.prog 77 #[v1, v2, .func (.func 78) #[] #[p, q]] w fun e w' => e = .returned (.bool true) ∧ Below w.heap.size w w' := by
  have H1 := hid h1
  have H2 := hid h2
  have HC := hid hc
  obtain ⟨a1, c1, rfl, _⟩ := h1
  obtain ⟨a2, c2, rfl, _⟩ := h2
  clear hc
  go_enter Tryz.func77, Tryz.ntmps77
  go_wp2_with fail
  go_loopw [17] (fun v wr => ∃ k : Nat, k ≤ ks.length ∧ v = .int .i64 k ∧ Hid (Below w.heap.size w wr)) (fun v _ => ks.length - (intOf v).toNat)
  case atStart => exact ⟨0, by omega, rfl, hid (Below.refl _ _)⟩
  case round =>
    obtain ⟨k, hk, rfl, HR⟩ := hrel
    by_cases hlt : k < ks.length
    · obtain ⟨x, hx⟩ : ∃ x, ks[k]? = some x := ⟨_, List.getElem?_eq_getElem hlt⟩
      obtain ⟨g1, rfl, e1⟩ := (H1.out.below HR.out).cell hx
      obtain ⟨g2, rfl, e2⟩ := (H2.out.below HR.out).cell hx
      have HX := hid (HC.out x (List.mem_of_getElem? hx) wr HR.out)
      clear hx
      go_wp2_with fail
      refine HX.out.mono ?_
      rintro e w1 ⟨rfl, hB⟩
      have H3 := hid (HR.out.trans (hB.mono HR.out.size))
      clear hB HR e1 e2 HX
      go_wp2_with fail
      refine ⟨⟨k + 1, by omega, by go_num, H3⟩, ?_⟩
      simp [intOf]; omega
    · have hkk : k = ks.length := by omega
      subst hkk
      go_wp2_with fail
      go_ret
      exact ⟨rfl, HR.out⟩

theorem AttrsAt.belowW {w w' : World} {v : Value} {l : List (ByteArray × ByteArray)} (h : AttrsAt w v l) (hb : Below w.heap.size w w') : AttrsAt w' v l := by
  obtain ⟨a, c, rfl, h⟩ := h
  refine ⟨a, c, rfl, fun k x hx => ?_⟩
  obtain ⟨g, h1, h2, h3⟩ := h k x hx
  have hg := World.block_lt_of_cell? w _ h2
  exact ⟨g, h1, (hb.cell (p := ⟨g, k * 2, none⟩) hg).trans h2, (hb.cell (p := ⟨g, k * 2 + 1, none⟩) hg).trans h3⟩

set_option maxHeartbeats 4000000 in
set_option maxRecDepth 100000 in
theorem equalA_same {w : World} {v1 v2 : Value} {l : List (ByteArray × ByteArray)} (h1 : AttrsAt w v1 l) (h2 : AttrsAt w v2 l) (hl : l.length ≤ 100000) :
    Calls Tryz.prog 79 #[v1, v2] w fun e w' => e = .returned (.bool true) ∧ Below w.heap.size w w' := by
  have H1 := hid h1
  have H2 := hid h2
  obtain ⟨a1, c1, rfl, _⟩ := h1
  obtain ⟨a2, c2, rfl, _⟩ := h2
  go_enter Tryz.func79, Tryz.ntmps79
  go_wp2_with fail
  go_loopw [13] (fun v wr => ∃ k : Nat, k ≤ l.length ∧ v = .int .i64 k ∧ Hid (Below w.heap.size w wr)) (fun v _ => l.length - (intOf v).toNat)
  case atStart => exact ⟨0, by omega, rfl, hid (Below.refl _ _)⟩
  case round =>
    obtain ⟨k, hk, rfl, HR⟩ := hrel
    by_cases hlt : k < l.length
    · obtain ⟨x, hx⟩ : ∃ x, l[k]? = some x := ⟨_, List.getElem?_eq_getElem hlt⟩
      obtain ⟨b1, d1, q1, f1⟩ := H1.out.belowW HR.out
      obtain ⟨b2, d2, q2, f2⟩ := H2.out.belowW HR.out
      cases q1
      cases q2
      obtain ⟨g1, rfl, e1, e1'⟩ := f1 k x hx
      obtain ⟨g2, rfl, e2, e2'⟩ := f2 k x hx
      clear hx f1 f2
      have H3 := hid HR.out.drew
      go_wp2_with fail
      go_region
      all_goals go_wp2_with fail
      all_goals (refine ⟨⟨k + 1, by omega, by go_num, H3⟩, ?_⟩; simp [intOf]; omega)
    · have hkk : k = l.length := by omega
      subst hkk
      go_wp2_with fail
      go_ret
      exact ⟨rfl, HR.out⟩
end Go.Proofs.YtkaeenafejdkfaaGreatDoor
