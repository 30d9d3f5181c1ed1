/- The law: whatever was done behind some moment, undone as often as it can be, is as at that moment. -/
import Derived.Test.YtiikjflaonhfdaaDoorSameT
namespace Go.Proofs.YtiikjflaonhfdaaDoor
open Go.RowKit

def docN : Nd := ⟨1, ⟨#[]⟩, ⟨#[]⟩, [], -1, []⟩
theorem WF.doc : WF [docN] := by
  have one : ∀ (j : Nat) n, [docN][j]? = some n → j = 0 ∧ n = docN := by
    intro j n h
    rcases Nat.eq_zero_or_pos j with e | e
    · subst e; cases h; exact ⟨rfl, rfl⟩
    · rw [List.getElem?_eq_none (by simp; omega)] at h; cases h
  refine ⟨⟨docN, rfl, rfl, rfl⟩, by simp, ?_, ?_, ?_, ?_⟩
  · intro j n h; obtain ⟨_, rfl⟩ := one j n h; exact List.nodup_nil
  · intro j n h x hx; obtain ⟨_, rfl⟩ := one j n h; cases hx
  · intro j n h; obtain ⟨_, rfl⟩ := one j n h; exact .inl rfl
  · intro j n h; obtain ⟨rfl, rfl⟩ := one j n h; exact ⟨_, .root h rfl⟩

abbrev noLab : Nat → Lab := fun _ => .other

theorem new_at (W : World) : Calls Tryd.prog 6 #[] W fun e w' => ∃ tb, e = .returned (.pointer (some ⟨tb, 0, none⟩)) ∧ UAt W noLab tb 0 [docN] [docN] 0 w' := by
  refine (new_any W).mono ?_
  rintro e w' ⟨tb, nv, uv, M', rfl, h1, h2⟩
  refine ⟨tb, rfl, M', nv, uv, [docP], [], h1, h2, rfl, WF.doc, ?_, rfl, Nat.le_refl _, rfl⟩
  intro j n hn
  rcases Nat.eq_zero_or_pos j with e | e
  · subst e; cases hn; exact Nat.le_refl _
  · rw [List.getElem?_eq_none (by simp; omega)] at hn; cases hn

section
variable {w0 : World} {M0 : Nat → Lab} {tb K U : Nat} {base ns : List Nd} {w : World}

theorem UAt.first (h : UAt w0 M0 tb 0 [docN] [docN] 0 w) (s : ByteArray) (hs : nameB s = true) : Calls Tryd.prog 7 #[.pointer (some ⟨tb, 0, none⟩), .string s] w fun e w' => e = .returned (.tuple #[.int .i64 1, .nilIface]) ∧ ∃ ns', ns'.length = 2 ∧ UAt w0 M0 tb 1 [docN] ns' 1 w' := by
  obtain ⟨M, nv, uv, ps, us, h1, h2, h3, h4, h5, h6, h7, h8⟩ := h
  have hl : ps.length = 1 := by have := congrArg List.length h3; simpa [nodesOf] using this
  refine (element_good h1 (by omega) (by omega) s hs).mono fun e w' hm => ?_
  have hm' := hm
  obtain ⟨rfl, M', nv', uv', f, g1, g2, g3⟩ := hm'
  rw [← h3] at h4 h5 h8
  obtain ⟨M'', nv'', uv'', ps'', f'', r, k1, k2, k3, k4, k5, k6⟩ := hm.done h4 (by omega) h5 rfl rfl rfl
  refine ⟨by rw [hl]; rfl, _, ?_, M', nv', uv', ps ++ [newP 2 s ⟨#[]⟩], us ++ [f], g1, h2.trans g3, rfl, ?_, ?_, by simp [h6], by omega, ?_⟩
  · simp [nodesOf, hl]
  · have e : nodesOf (ps ++ [newP 2 s ⟨#[]⟩]) = nodesOf ps ++ [(newP 2 s ⟨#[]⟩).n] := by simp [nodesOf]
    rw [e]
    exact h4.snoc (by simp [nodesOf]; omega) _ rfl rfl
  · intro j n hn
    have e : nodesOf (ps ++ [newP 2 s ⟨#[]⟩]) = nodesOf ps ++ [(newP 2 s ⟨#[]⟩).n] := by simp [nodesOf]
    rw [e] at hn
    by_cases hj : j < (nodesOf ps).length
    · rw [List.getElem?_append_left hj] at hn; exact Nat.le_succ_of_le (h5 j n hn)
    · rw [List.getElem?_append_right (by omega)] at hn
      rcases Nat.eq_zero_or_pos (j - (nodesOf ps).length) with e | e
      · rw [e] at hn; cases hn; exact Nat.zero_le _
      · rw [List.getElem?_eq_none (by simp; omega)] at hn; cases hn
  · rw [List.reverse_append]
    refine ⟨.forget ps.length, nodesOf ps, g2, ⟨by simp [nodesOf], ?_⟩, h4, h5.mono (Nat.le_succ _), ?_⟩
    · simp [nodesOf]
    · rw [← h3]
      exact (h8.moved g3).mono (Nat.le_succ _)

theorem UAt.size (h : UAt w0 M0 tb K base ns U w) : Calls Tryd.prog 8 #[.pointer (some ⟨tb, 0, none⟩)] w fun e w' => e = .returned (.int .i64 ns.length) ∧ w' = w := by
  obtain ⟨M, nv, uv, ps, us, h1, h2, rfl, _⟩ := h
  refine (size_any h1).mono ?_
  rintro e w' ⟨rfl, rfl⟩
  exact ⟨by simp [nodesOf], rfl⟩

/-- all is told, and from here on what was told stands apart -/
def Looked (w0 : World) (M0 : Nat → Lab) (tb K : Nat) (base ns : List Nd) (U : Nat) (w : World) (e : Ending) (w' : World) : Prop :=
  ∃ v M, e = .returned v ∧ Told w ns ns.length v w' ∧ UAt w' M tb K base ns U w' ∧ (∀ b, w.heap.size ≤ b → M b = .other) ∧ Moved w0 M0 w' M

theorem UAt.look (h : UAt w0 M0 tb K base ns U w) (hK : K ≤ 1000) : Calls Tryd.prog 10 #[.pointer (some ⟨tb, 0, none⟩)] w (Looked w0 M0 tb K base ns U w) := by
  obtain ⟨M, nv, uv, ps, us, h1, h2, rfl, h4, h5, h6, h7, h8⟩ := h
  refine (look_any h1 h4 h5 hK).mono ?_
  rintro e w' ⟨v, rfl, hT⟩
  have hT' := hT
  obtain ⟨l, _, _, _, hB⟩ := hT'
  refine ⟨v, M, rfl, by simpa [nodesOf] using hT, ⟨M, nv, uv, ps, us, h1.below hB, Moved.refl _ _, rfl, h4, h5, h6, h7, h8.moved ((Moved.refl w M).below hB)⟩, h1.fresh, h2.below hB⟩
end

theorem Told.kept {w w1 w2 : World} {M M2 : Nat → Lab} {ns : List Nd} {v : Value} (h : Told w ns ns.length v w1) (m : Moved w1 M w2 M2) (hM : ∀ b, w.heap.size ≤ b → M b = .other) : ∃ l : List Tld, l.map Prod.fst = ns ∧ TldAt w2 v l := by
  obtain ⟨l, h1, h2, h3, h4⟩ := h
  rw [List.take_length] at h1
  have hl : l.length = ns.length := by rw [← h1]; simp
  refine ⟨l, h1, ?_⟩
  obtain ⟨a, c, hv⟩ := own_shape h2
  refine ⟨a, c, by rw [hv, hl], fun i x hx => ?_⟩
  have hil : i < l.length := (List.getElem?_eq_some_iff.1 hx).1
  have t : ∀ {g o : Nat} {u : Value}, w.heap.size ≤ g → w1.cell? ⟨g, o, none⟩ = some u → w2.cell? ⟨g, o, none⟩ = some u := fun {g o u} hg hu => moved_cell m (hM g hg) hu
  refine ⟨?_, ?_, ?_⟩
  · obtain ⟨q0, q1, q2, q3, q4⟩ := tldCells_get l i x hx
    rcases h2.2 with ⟨_, e⟩ | ⟨g, cap, cur, hv', hb, _⟩
    · omega
    · rw [hv] at hv'
      cases hv'
      have hc := h2.cells (g := g) (by rw [hv]; rfl)
      refine ⟨g, rfl, t hb ?_, t hb ?_, t hb ?_, t hb ?_, t hb ?_⟩
      · have := hc _ _ q0; rwa [add0] at this
      · have := hc _ _ q1; rwa [add0] at this
      · have := hc _ _ q2; rwa [add0] at this
      · have := hc _ _ q3; rwa [add0] at this
      · have := hc _ _ q4; rwa [add0] at this
  · obtain ⟨a', c', e1, e2⟩ := (h3 x (List.mem_of_getElem? hx)).1
    refine ⟨a', c', e1, fun k y hy => ?_⟩
    obtain ⟨g, f1, f2, _, f4, f5⟩ := e2 k y hy
    exact ⟨g, f1, t f2 f4, t f2 f5⟩
  · obtain ⟨a', c', e1, e2⟩ := (h3 x (List.mem_of_getElem? hx)).2
    refine ⟨a', c', e1, fun k y hy => ?_⟩
    obtain ⟨g, f1, f2, _, f4⟩ := e2 k y hy
    exact ⟨g, f1, t f2 f4⟩

/-- the changes that were handed over, as they lie in memory -/
def OpsAt (W : World) (v : Value) (os : List OpD) : Prop := ∃ a c, v = .slice a os.length c ∧ os.length ≤ c ∧ c ≤ maxLen ∧ ∀ (i : Nat) (o : OpD), os[i]? = some o → (o.s.size ≤ 9223372036854775807 ∧ o.t.size ≤ 9223372036854775807) ∧ ∃ b off, a = some ⟨b, off, none⟩ ∧ b < W.heap.size ∧
  W.cell? ⟨b, off + i * 6, none⟩ = some (.int .i64 o.kind) ∧ W.cell? ⟨b, off + i * 6 + 1, none⟩ = some (.int .i64 o.a) ∧ W.cell? ⟨b, off + i * 6 + 2, none⟩ = some (.int .i64 o.b) ∧ W.cell? ⟨b, off + i * 6 + 3, none⟩ = some (.int .i64 o.c) ∧ W.cell? ⟨b, off + i * 6 + 4, none⟩ = some (.string o.s) ∧ W.cell? ⟨b, off + i * 6 + 5, none⟩ = some (.string o.t)

theorem UAt.moved0 {w0 : World} {M0 : Nat → Lab} {tb K U : Nat} {base ns : List Nd} {w : World} (h : UAt w0 M0 tb K base ns U w) : ∃ M, Moved w0 M0 w M := by
  obtain ⟨M, _, _, _, _, _, h2, _⟩ := h
  exact ⟨M, h2⟩

theorem Moved.belowAll {W w : World} {M : Nat → Lab} (m : Moved W noLab w M) : Below W.heap.size W w :=
  ⟨m.os, m.tape, m.output, m.size, fun b hb => m.far b hb rfl⟩

set_option maxHeartbeats 8000000 in
set_option maxRecDepth 100000 in
theorem law_any {W : World} (hE : Errs W noLab) {v : Value} {os : List OpD} (hv : OpsAt W v os) (k : Int) :
    Calls Tryd.prog 4 #[v, .int .i64 k] W fun e w' => e = .returned (.bool true) ∧ Below W.heap.size W w' := by
  obtain ⟨la, lc, rfl, hc1, hc2, hcell⟩ := hv
  have HE : Hid (Errs W noLab) := hE
  have HC : Hid _ := hcell
  unfold maxLen at hc2
  have hna : nameB ⟨#[97]⟩ = true := by decide
  clear hE hcell
  go_enter Tryd.func4, Tryd.ntmps4
  go_wp2_with (first
    | (go_at_call 6; refine (new_at W).mono ?_; rintro e w1 ⟨tb, rfl, hU1⟩; have H1 : Hid (UAt W noLab tb 0 [docN] [docN] 0 w1) := hU1; clear hU1)
    | (go_at_call 7; refine (H1.out.first _ hna).mono ?_; rintro e w2 ⟨rfl, ns2, hl2, hU2⟩; have H2 : Hid (UAt W noLab tb 1 [docN] ns2 1 w2) := hU2; clear hU2)
    | (go_at_call 8; refine (H2.out.size).mono ?_; rintro e w' ⟨rfl, hw⟩; obtain rfl : w2 = w' := hw.symm; rw [hl2]))
  go_loopw [8] (fun iv wr => ∃ n : Nat, n ≤ os.length ∧ n ≤ 60 ∧ iv = .int .i64 n ∧ Hid (∃ base ns U, UAt W noLab tb (n + 1) base ns U wr)) (fun iv _ => 60 - (intOf iv).toNat)
  case atStart => exact ⟨0, by omega, by omega, rfl, ⟨_, _, _, H2.out⟩⟩
  case round =>
    obtain ⟨n, hn1, hn2, rfl, hU⟩ := hrel
    by_cases hin : n < os.length ∧ n < 60
    · obtain ⟨hi1, hi2⟩ := hin
      by_cases hik : (n : Int) = k
      · subst hik
        obtain ⟨base, ns, U, hUA⟩ := hU.out
        have HUA : Hid (UAt W noLab tb (n + 1) base ns U wr) := hUA
        clear hU hUA
        go_wp2_with (first
          | (go_at_call 9; refine (HUA.out.settle).mono ?_; rintro e w3 ⟨rfl, hU3⟩; have HU3 : Hid (UAt W noLab tb (n + 1) ns ns 0 w3) := hU3; clear hU3)
          | (go_at_call 10; refine (HU3.out.look (by omega)).mono ?_; rintro e w4 ⟨v4, M4, rfl, hT4, hU4, hf4, hm4⟩
             obtain ⟨a4, c4, hv4⟩ : ∃ a c, v4 = .slice a ns.length c := by
               obtain ⟨l, _, ho, _⟩ := hT4
               exact own_shape ho
             subst hv4
             have H4 : Hid (Told w3 ns ns.length (.slice a4 ns.length c4) w4 ∧ UAt w4 M4 tb (n + 1) ns ns 0 w4 ∧ (∀ b, w3.heap.size ≤ b → M4 b = .other) ∧ Moved W noLab w4 M4) := ⟨hT4, hU4, hf4, hm4⟩
             clear hT4 hU4 hf4 hm4))
        have HE4 : Hid (Errs w4 M4) := HE.out.moved H4.out.2.2.2
        go_loopw [10] (fun jv wx => ∃ m : Nat, n ≤ m ∧ m ≤ os.length ∧ m ≤ 60 ∧ jv = .int .i64 m ∧ Hid (∃ ns' U, U ≤ m - n ∧ UAt w4 M4 tb (m + 1) ns ns' U wx)) (fun jv _ => 60 - (intOf jv).toNat)
        case atStart => exact ⟨n, by omega, by omega, by omega, rfl, ⟨ns, 0, Nat.zero_le _, H4.out.2.1⟩⟩
        case round =>
          obtain ⟨w5, hw5⟩ : ∃ x, x = wr := ⟨_, rfl⟩
          subst hw5
          obtain ⟨m, hm0, hm1, hm2, rfl, hU5⟩ := hrel
          obtain ⟨ns5, U5, hle5, hUA5⟩ := hU5.out
          have HUA5 : Hid (UAt w4 M4 tb (m + 1) ns ns5 U5 w5) := hUA5
          by_cases hmn : m < os.length ∧ m < 60
          · obtain ⟨hj1, hj2⟩ := hmn
            obtain ⟨M5, hM5⟩ := hUA5.moved0
            have hMW : Moved W noLab w5 M5 := H4.out.2.2.2.trans hM5
            obtain ⟨o, ho⟩ : ∃ o, os[m]? = some o := ⟨_, List.getElem?_eq_getElem hj1⟩
            obtain ⟨⟨hs1, hs2⟩, b, off, rfl, hbl, r0, r1, r2, r3, r4, r5⟩ := HC.out m o ho
            have t0 := moved_cell hMW rfl r0
            have t1 := moved_cell hMW rfl r1
            have t2 := moved_cell hMW rfl r2
            have t3 := moved_cell hMW rfl r3
            have t4 := moved_cell hMW rfl r4
            have t5 := moved_cell hMW rfl r5
            have i1 : (0 : Int) ≤ (m : Int) := by omega
            have i2 : (m : Int) < (os.length : Int) := by omega
            clear ho hUA5 hU5 hM5 hMW r0 r1 r2 r3 r4 r5
            by_cases h10 : o.kind = 10
            · have HP : Hid (UAt w4 M4 tb (m + 1 + 1) ns ns5 U5 w5) := HUA5.out.mono (Nat.le_succ _)
              rw [h10] at t0
              clear h10
              go_wp2
              go_roundw
              case rel => exact ⟨m + 1, by omega, by omega, by omega, by go_num, ⟨ns5, U5, by omega, HP.out⟩⟩
              case measure => simp [intOf]; omega
            · have h10b : (o.kind != 10) = true := by simpa using h10
              have h10c : (o.kind == 10) = false := by simpa using h10
              go_wp2_with (go_at_call 11; refine (play_any HUA5.out HE4.out (by omega) o hs1 hs2).mono ?_; rintro e w6 ⟨rfl, base', ns', U', hU', hb', hU3⟩; have hb2 := hb' h10; subst hb2; have HU3 : Hid (UAt w4 M4 tb (m + 1 + 1) base' ns' U' w6) := hU3; clear hU3 hb')
              go_roundw
              case rel => exact ⟨m + 1, by omega, by omega, by omega, by go_num, ⟨ns', U', by omega, HU3.out⟩⟩
              case measure => simp [intOf]; omega
          · have hor : ¬ ((m : Int) < (os.length : Int)) ∨ ¬ ((m : Int) < 60) := by omega
            clear hUA5 hU5
            rcases hor with hor | hor
            all_goals go_wp2
            all_goals go_loopg [11] U5 (fun q cv wx => ∃ cnt : Nat, cv = .int .i64 cnt ∧ cnt + q ≤ 60 ∧ Hid (∃ ns', UAt w4 M4 tb (m + 1) ns ns' q wx))
            all_goals first
              | (case atStart => exact ⟨0, rfl, by omega, ⟨ns5, HUA5.out⟩⟩)
              | skip
            all_goals
              obtain ⟨w7, hw7⟩ : ∃ x, x = wr := ⟨_, rfl⟩
              subst hw7
              obtain ⟨cnt, rfl, hcg, hU7⟩ := hrel
              obtain ⟨ns7, hUA7⟩ := hU7.out
              cases gk with
              | zero =>
                obtain ⟨hns, hcall⟩ := hUA7.undo0
                subst hns
                have HUA7 : Hid (UAt w4 M4 tb (m + 1) ns7 ns7 0 w7) := hUA7
                have HCall : Hid (Calls Tryd.prog 12 #[.pointer (some ⟨tb, 0, none⟩)] w7 fun e w' => e = .returned (.bool false) ∧ w' = w7) := hcall
                clear hUA7 hU7 hcall
                go_wp2_with (first
                  | (go_at_call 12; refine HCall.out.mono ?_; rintro e w' ⟨rfl, hw⟩; obtain rfl : w7 = w' := hw.symm)
                  | (go_at_call 10; refine (HUA7.out.look (by omega)).mono ?_; rintro e w8 ⟨v8, M8, rfl, hT8, hU8, hf8, hm8⟩
                     obtain ⟨a8, c8, hv8⟩ : ∃ a c, v8 = .slice a ns7.length c := by
                       obtain ⟨l, _, ho, _⟩ := hT8
                       exact own_shape ho
                     subst hv8
                     have H8 : Hid (Told w7 ns7 ns7.length (.slice a8 ns7.length c8) w8 ∧ UAt w8 M8 tb (m + 1) ns7 ns7 0 w8 ∧ (∀ b, w7.heap.size ≤ b → M8 b = .other) ∧ Moved w4 M4 w8 M8) := ⟨hT8, hU8, hf8, hm8⟩
                     clear hT8 hU8 hf8 hm8)
                  | (go_at_call 13
                     obtain ⟨l1, e1, e2⟩ := H8.out.1.kept (Moved.refl _ M8) H8.out.2.2.1
                     obtain ⟨l2, f1, f2⟩ := H4.out.1.kept H8.out.2.2.2 H4.out.2.2.1
                     obtain ⟨_, _, _, _, _, _, _, _, hWF, hFw, _⟩ := H8.out.2.1
                     refine (sameTwigs_any e2 f2 e1 f1 hWF.len hFw (by omega) (fun j n hn => hWF.few hn)).mono ?_
                     rintro e w9 ⟨rfl, hB9⟩
                     have H9 : Hid (Below w8.heap.size w8 w9) := hB9
                     clear e1 e2 f1 f2 hWF hFw hB9))
                go_ret
                exact ⟨rfl, (H4.out.2.2.2.trans H8.out.2.2.2).belowAll.trans (H9.out.mono (H4.out.2.2.2.trans H8.out.2.2.2).size)⟩
              | succ q =>
                have HUA7 : Hid (UAt w4 M4 tb (m + 1) ns ns7 (q + 1) w7) := hUA7
                clear hUA7 hU7
                go_wp2_with (go_at_call 12; refine (HUA7.out.undo1 (by omega)).mono ?_; rintro e w8 ⟨rfl, ns8, hU8⟩; have HU8 : Hid (UAt w4 M4 tb (m + 1) ns ns8 q w8) := hU8; clear hU8)
                go_roundg q
                case measure => omega
                case rel => exact ⟨cnt + 1, by go_num, by omega, ⟨ns8, HU8.out⟩⟩
      · have hikb : ((n : Int) == k) = false := by simpa using hik
        obtain ⟨base, ns, U, hUA⟩ := hU.out
        obtain ⟨M, hM⟩ := hUA.moved0
        obtain ⟨o, ho⟩ : ∃ o, os[n]? = some o := ⟨_, List.getElem?_eq_getElem hi1⟩
        obtain ⟨⟨hs1, hs2⟩, b, off, rfl, hbl, r0, r1, r2, r3, r4, r5⟩ := HC.out n o ho
        have t0 := moved_cell hM rfl r0
        have t1 := moved_cell hM rfl r1
        have t2 := moved_cell hM rfl r2
        have t3 := moved_cell hM rfl r3
        have t4 := moved_cell hM rfl r4
        have t5 := moved_cell hM rfl r5
        have HUA : Hid (UAt W noLab tb (n + 1) base ns U wr) := hUA
        have i1 : (0 : Int) ≤ (n : Int) := by omega
        have i2 : (n : Int) < (os.length : Int) := by omega
        clear ho hUA hM r0 r1 r2 r3 r4 r5 hU
        go_wp2_with (go_at_call 11; refine (play_any HUA.out HE.out (by omega) o hs1 hs2).mono ?_; rintro e w3 ⟨rfl, base', ns', U', _, _, hU3⟩; have HU3 : Hid (UAt W noLab tb (n + 1 + 1) base' ns' U' w3) := hU3; clear hU3)
        go_roundw
        case rel => exact ⟨n + 1, by omega, by omega, by go_num, ⟨_, _, _, HU3.out⟩⟩
        case measure => simp [intOf]; omega
    · obtain ⟨base, ns, U, hUA⟩ := hU.out
      obtain ⟨M, hM⟩ := hUA.moved0
      have HM : Hid (Moved W noLab wr M) := hM
      clear hU hUA hM
      have hor : ¬ ((n : Int) < (os.length : Int)) ∨ ¬ ((n : Int) < 60) := by omega
      rcases hor with hor | hor
      all_goals go_wp2
      all_goals go_ret
      all_goals exact ⟨rfl, HM.out.belowAll⟩
end Go.Proofs.YtiikjflaonhfdaaDoor
