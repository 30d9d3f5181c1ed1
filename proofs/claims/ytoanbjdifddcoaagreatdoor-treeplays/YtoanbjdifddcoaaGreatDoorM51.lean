/- TreePlays: along any changes both trees are alike. -/
import Derived.Test.YtoanbjdifddcoaaGreatDoorM46
import Derived.Test.YtoanbjdifddcoaaGreatDoorAlikeU
import Derived.Test.YtoanbjdifddcoaaGreatDoorM50
import Derived.Deep.SlicePairs
import Derived.ChangeSlices
namespace Go.Proofs.YtoanbjdifddcoaaGreatDoor
open Go.RowKit

def docN : Nd := ⟨1, ⟨#[]⟩, ⟨#[]⟩, [], -1, []⟩
theorem WF.doc : WF [docN] := by
  have one : ∀ (j : Nat) n, [docN][j]? = some n → j = 0 ∧ n = docN := by
    intro j n h
    rcases Nat.eq_zero_or_pos j with e | e
    · subst e; cases h; exact ⟨rfl, rfl⟩
    · rw [List.getElem?_eq_none (by simp; omega)] at h; cases h
  refine ⟨⟨docN, rfl, rfl, rfl⟩, by simp, ?_, ?_, ?_, ?_⟩
  · intro j n h; obtain ⟨_, rfl⟩ := one j n h; exact List.nodup_nil
  · intro j n h x hx; obtain ⟨_, rfl⟩ := one j n h; cases hx
  · intro j n h; obtain ⟨_, rfl⟩ := one j n h; exact .inl rfl
  · intro j n h; obtain ⟨rfl, rfl⟩ := one j n h; exact ⟨_, .root h rfl⟩

def docCells : Array Value := #[.int .i64 1, .string ⟨#[]⟩, .string ⟨#[]⟩, .slice none 0 0, .int .i64 (-1), .slice none 0 0]

theorem rlies_doc {w0 w : World} {tb nb : Nat} (hb : Below w0.heap.size w0 w) (ht : w.heap[tb]? = some (.cells #[.slice (some ⟨nb, 0, none⟩) 1 1, .slice none 0 0] 28 (0, 0))) (hn : w.heap[nb]? = some (.cells docCells 46 (0, 0))) (hne : tb ≠ nb) (h1 : w0.heap.size ≤ tb) (h2 : w0.heap.size ≤ nb) :
    ∃ M, RLies w M tb (.slice (some ⟨nb, 0, none⟩) 1 1) (.slice none 0 0) [docP] [] ∧ Moved w0 (fun _ => .other) w M := by
  have lt := lt_of_heap ht
  have ln := lt_of_heap hn
  refine ⟨fun b => if b = nb then .nodes else if b = tb then .tree else .other, ⟨?_, ?_, ht, ?_, Row.nil _ _ _ _ _, ?_⟩, ⟨hb.os, hb.tape, hb.output, hb.size, ?_, fun b hb' _ => hb.block b hb'⟩⟩
  · intro b hb'
    simp [show b ≠ nb by omega, show b ≠ tb by omega]
  · simp [hne]
  · exact ⟨rfl, some ⟨nb, 0, none⟩, 1, rfl, by decide, by unfold maxLen; omega, .inr ⟨nb, docCells, rfl, by simp, hn, by decide, rfl⟩⟩
  · intro i p hp
    have : i = 0 := by
      rcases Nat.eq_zero_or_pos i with e | e
      · exact e
      · rw [List.getElem?_eq_none (by simp; omega)] at hp; cases hp
    subst this
    cases hp
    exact ⟨Row.nil _ _ _ _ _, Row.nil _ _ _ _ _⟩
  · intro b hb'
    simp [show b ≠ nb by omega, show b ≠ tb by omega]

set_option maxHeartbeats 1000000 in
theorem newTree_any (w : World) : Calls Tryz.prog 5 #[] w fun e w' => ∃ nb, e = .returned (.agg #[.slice (some ⟨nb, 0, none⟩) 1 1, .slice none 0 0]) ∧ w'.heap[nb]? = some (.cells docCells 46 (0, 0)) ∧ w.heap.size ≤ nb ∧ nb < w'.heap.size ∧ Below w.heap.size w w' := by
  go_enter Tryz.func5, Tryz.ntmps5
  go_wp2
  refine bodyPost_ret (v := .agg #[.slice (some ⟨w.heap.size + 1, 0, none⟩) 1 1, .slice none 0 0]) ?_ rfl ⟨w.heap.size + 1, rfl, ?_, by omega, by simp, ((Below.refl _ _).alloc (Nat.le_refl _) _).alloc (by simp) _⟩
  · simp [results, Tryz.results5, go_sem]
  · have := heap_alloc_new (w.alloc (.cells #[.slice (some ⟨w.heap.size + 1, 0, none⟩) 1 1, .slice none 0 0] 28)) (.cells docCells 46)
    simpa [docCells] using this

/-- the changes that were handed over, as they lie in memory -/
def OpsAt (W : World) (v : Value) (os : List OpD) : Prop := ∃ a c, v = .slice a os.length c ∧ os.length ≤ c ∧ c ≤ maxLen ∧ ∀ (i : Nat) (o : OpD), os[i]? = some o → (o.s.size ≤ 9223372036854775807 ∧ o.t.size ≤ 9223372036854775807) ∧ ∃ b off, a = some ⟨b, off, none⟩ ∧ b < W.heap.size ∧
  W.cell? ⟨b, off + i * 6, none⟩ = some (.int .i64 o.kind) ∧ W.cell? ⟨b, off + i * 6 + 1, none⟩ = some (.int .i64 o.a) ∧ W.cell? ⟨b, off + i * 6 + 2, none⟩ = some (.int .i64 o.b) ∧ W.cell? ⟨b, off + i * 6 + 3, none⟩ = some (.int .i64 o.c) ∧ W.cell? ⟨b, off + i * 6 + 4, none⟩ = some (.string o.s) ∧ W.cell? ⟨b, off + i * 6 + 5, none⟩ = some (.string o.t)


theorem few_doc : Few [docN] 0 := by
  intro j n hn
  rcases Nat.eq_zero_or_pos j with e | e
  · subst e; cases hn; exact Nat.le_refl _
  · rw [List.getElem?_eq_none (by simp; omega)] at hn; cases hn
theorem kinds_doc : Kinds [docN] := by
  intro j n hn
  rcases Nat.eq_zero_or_pos j with e | e
  · subst e; cases hn; exact .inl rfl
  · rw [List.getElem?_eq_none (by simp; omega)] at hn; cases hn
theorem both_start {W w1 w : World} {M1 : Nat → Lab} {tb rb nb : Nat} {nv uv : Value} (h1 : Lies w1 M1 tb nv uv [docP] []) (h2 : Moved W (fun _ => .other) w1 M1) (hb : Below w1.heap.size w1 w) (ht : w.heap[rb]? = some (.cells #[.slice (some ⟨nb, 0, none⟩) 1 1, .slice none 0 0] 28 (0, 0))) (hn : w.heap[nb]? = some (.cells docCells 46 (0, 0))) (hne : rb ≠ nb) (g1 : w1.heap.size ≤ rb) (g2 : w1.heap.size ≤ nb) : Both W [] tb rb 1 [docN] [] [docN] [] w := by
  obtain ⟨N, q1, q2⟩ := rlies_doc hb ht hn hne g1 g2
  have hW : Below W.heap.size W w1 := ⟨h2.os, h2.tape, h2.output, h2.size, fun b hb => h2.far b hb rfl⟩
  exact ⟨M1, N, nv, uv, _, _, [docP], [docP], [], [], h1.below hb, q1, hW.trans (hb.mono h2.size), fun b hb => h2.lab b hb, fun b hb' => q2.lab b (Nat.lt_of_lt_of_le hb' h2.size), fun b hne => by
    rcases Nat.lt_or_ge b w1.heap.size with e | e
    · exact absurd (q2.lab b e) hne
    · exact h1.fresh b e, (fun x hx => by cases hx), rfl, rfl, WF.doc, kinds_doc, WF.doc, few_doc.mono (by omega), few_doc.mono (by omega), Nat.zero_le _, Nat.zero_le _, trivial, trivial⟩

theorem alike_both {W : World} {X : List (Nat × Obj)} {tb rb K : Nat} {ns : List Nd} {past : List (List Nd)} {w : World} (h : Both W X tb rb K ns past ns past w) (hK : K ≤ 1000) :
    Calls Tryz.prog 6 #[.pointer (some ⟨tb, 0, none⟩), .pointer (some ⟨rb, 0, none⟩)] w fun e w' => e = .returned (.bool true) ∧ Below w.heap.size w w' := by
  obtain ⟨M, N, nv, uv, nv2, uv2, ps, qs, us, vs, hs⟩ := h
  exact alikeU_any hs.lies hs.rlies (hs.eqp.trans hs.eqr.symm) (hs.eqp ▸ hs.wf) (hs.eqp ▸ hs.few) hK
theorem looked_both {W : World} {X : List (Nat × Obj)} {tb rb K : Nat} {ns : List Nd} {past : List (List Nd)} {w : World} (h : Both W X tb rb K ns past ns past w) (hK : K ≤ 1000) (a b : Int) (name : ByteArray) :
    Calls Tryz.prog 8 #[.pointer (some ⟨tb, 0, none⟩), .pointer (some ⟨rb, 0, none⟩), .int .i64 a, .int .i64 b, .string name] w fun e w' => e = .returned (.bool true) ∧ Below w.heap.size w w' := by
  obtain ⟨M, N, nv, uv, nv2, uv2, ps, qs, us, vs, hs⟩ := h
  exact looked_any hs hK a b name

set_option maxHeartbeats 8000000 in
set_option maxRecDepth 100000 in
theorem plays_any {W : World} {A : Nat → Addr} (hE : Errs7 W A) {v : Value} {os : List OpD} (hv : OpsAt W v os) :
    Calls Tryz.prog 3 #[v] W fun e w' => e = .returned (.bool true) ∧ Below W.heap.size W w' := by
  obtain ⟨la, lc, rfl, hc1, hc2, hcell⟩ := hv
  have HE : Hid (Errs7 W A) := hE
  have HC : Hid _ := hcell
  unfold maxLen at hc2
  clear hE hcell
  go_enter Tryz.func3, Tryz.ntmps3
  go_wp2_with (first
    | (go_at_call 4; refine (new_any W).mono ?_; rintro e w1 ⟨tb, nv, uv, M1, rfl, l1, m1⟩; have H1 : Hid (Lies w1 M1 tb nv uv [docP] [] ∧ Moved W (fun _ => .other) w1 M1) := ⟨l1, m1⟩; clear l1 m1)
    | (go_at_call 5; refine (newTree_any _).mono ?_; rintro e w2 ⟨nb, rfl, hn1, hn2, hn3, hB2⟩
       have H2 : Hid (w2.heap[nb]? = some (.cells docCells 46 (0, 0)) ∧ w1.heap.size ≤ nb ∧ nb < w2.heap.size ∧ Below w1.heap.size w1 w2) := ⟨hn1, hn2, hn3, hB2⟩
       have hs12 := hB2.size
       clear hn1 hn2 hn3 hB2)
    | (go_at_call 6
       have hB0 : Both W [] tb w2.heap.size 1 [docN] [] [docN] [] (w2.alloc (.cells #[.slice (some ⟨nb, 0, none⟩) 1 1, .slice none 0 0] 28)) := both_start H1.out.1 H1.out.2 (H2.out.2.2.2.alloc hs12 _) (heap_alloc_new w2 _) ((Below.heap_alloc _ _ _ H2.out.2.2.1).trans H2.out.1) (by have := H2.out.2.2.1; omega) hs12 H2.out.2.1
       refine (alike_both hB0 (by omega)).mono ?_
       rintro e w3 ⟨rfl, hB3⟩
       have H3 : Hid (Both W [] tb w2.heap.size 1 [docN] [] [docN] [] w3) := hB0.below hB3
       clear hB0 hB3))
  obtain ⟨rb, hrb⟩ : ∃ rb, rb = w2.heap.size := ⟨_, rfl⟩
  rw [← hrb] at H3 ⊢
  clear hrb
  go_loopw [6] (fun iv wr => ∃ n : Nat, n ≤ os.length ∧ n ≤ 60 ∧ iv = .int .i64 n ∧ Hid (∃ ns past, Both W [] tb rb (2 * n + 1) ns past ns past wr)) (fun iv _ => 60 - (intOf iv).toNat)
  case atStart => exact ⟨0, by omega, by omega, rfl, ⟨_, _, H3.out⟩⟩
  case round =>
    obtain ⟨n, hn1, hn2, rfl, hU⟩ := hrel
    obtain ⟨ns, past, hB⟩ := hU.out
    have HB : Hid (Both W [] tb rb (2 * n + 1) ns past ns past wr) := hB
    have hbel := hB.toW
    by_cases hin : n < os.length ∧ n < 60
    · obtain ⟨hi1, hi2⟩ := hin
      obtain ⟨o, ho⟩ : ∃ o, os[n]? = some o := ⟨_, List.getElem?_eq_getElem hi1⟩
      obtain ⟨⟨hs1, hs2⟩, b, off, rfl, hbl, r0, r1, r2, r3, r4, r5⟩ := HC.out n o ho
      have t0 := (hbel.cell (p := ⟨b, off + n * 6, none⟩) hbl).trans r0
      have t1 := (hbel.cell (p := ⟨b, off + n * 6 + 1, none⟩) hbl).trans r1
      have t2 := (hbel.cell (p := ⟨b, off + n * 6 + 2, none⟩) hbl).trans r2
      have t3 := (hbel.cell (p := ⟨b, off + n * 6 + 3, none⟩) hbl).trans r3
      have t4 := (hbel.cell (p := ⟨b, off + n * 6 + 4, none⟩) hbl).trans r4
      have t5 := (hbel.cell (p := ⟨b, off + n * 6 + 5, none⟩) hbl).trans r5
      have HBl : Hid (Below W.heap.size W wr) := hbel
      have HR : Hid (W.cell? ⟨b, off + n * 6 + 1, none⟩ = some (.int .i64 o.a) ∧ W.cell? ⟨b, off + n * 6 + 2, none⟩ = some (.int .i64 o.b) ∧ W.cell? ⟨b, off + n * 6 + 4, none⟩ = some (.string o.s)) := ⟨r1, r2, r4⟩
      have i1 : (0 : Int) ≤ (n : Int) := by omega
      have i2 : (n : Int) < (os.length : Int) := by omega
      clear ho hB hbel r0 r1 r2 r3 r4 r5 hU
      by_cases hsz : o.s.size ≤ 30000 ∧ o.t.size ≤ 30000
      · obtain ⟨z1, z2⟩ := hsz
        have y1 : decide ((30000 : Int) < (o.s.size : Int)) = false := by simp; omega
        have y2 : decide ((30000 : Int) < (o.t.size : Int)) = false := by simp; omega
        go_wp2_with (first
          | (go_at_call 7; refine (step_any HB.out HE.out (by omega) o hs1 hs2).mono ?_; rintro e w4 ⟨rfl, ns4, past4, hB4⟩
             have HB4 : Hid (Both W [] tb rb (2 * n + 1 + 2) ns4 past4 ns4 past4 w4) := hB4
             clear hB4)
          | (go_at_call 6; refine (alike_both HB4.out (by omega)).mono ?_; rintro e w5 ⟨rfl, hb5⟩
             have HB5 : Hid (Both W [] tb rb (2 * n + 1 + 2) ns4 past4 ns4 past4 w5) := HB4.out.below hb5
             have u1 := ((Both.toW HB5.out).cell (p := ⟨b, off + n * 6 + 1, none⟩) hbl).trans HR.out.1
             have u2 := ((Both.toW HB5.out).cell (p := ⟨b, off + n * 6 + 2, none⟩) hbl).trans HR.out.2.1
             have u4 := ((Both.toW HB5.out).cell (p := ⟨b, off + n * 6 + 4, none⟩) hbl).trans HR.out.2.2
             clear hb5))
        go_region_law ((refine step_call _ (by rfl) 8 [.tmp 54, .tmp 4, .tmp 59, .tmp 64, .tmp 69] #[23, 31, 3, 3, 9] (by rfl) Tryz.func8 (by kernel_rfl) (by rfl) [.pointer (some ⟨tb, 0, none⟩), .pointer (some ⟨rb, 0, none⟩), .int .i64 o.a, .int .i64 o.b, .string o.s] (by simp [Act.eval]) (looked_both (Both.below HB5.out (Below.refl _ _).drew) (by omega) o.a o.b o.s) ?_
                        rintro e w6 ⟨rfl, hb6⟩
                        refine ⟨_, rfl, ?_⟩
                        have HB6 : Hid (Both W [] tb rb (2 * n + 1 + 2) ns4 past4 ns4 past4 w6) := Both.below (Both.below HB5.out (Below.refl _ _).drew) hb6
                        clear hb6))
        all_goals
          go_wp2
          go_roundw
          case rel => go_light; exact ⟨n + 1, by omega, by omega, by go_num, ⟨_, _, HB6.out⟩⟩
          case measure => go_light; simp [intOf]; omega
      · have hor : (30000 < o.s.size) ∨ (o.s.size ≤ 30000 ∧ 30000 < o.t.size) := by omega
        rcases hor with z1 | ⟨z1, z2⟩
        · have y1 : decide ((30000 : Int) < (o.s.size : Int)) = true := by simp; omega
          go_wp2
          all_goals go_ret
          all_goals exact ⟨rfl, HBl.out⟩
        · have y1 : decide ((30000 : Int) < (o.s.size : Int)) = false := by simp; omega
          have y2 : decide ((30000 : Int) < (o.t.size : Int)) = true := by simp; omega
          go_wp2
          all_goals go_ret
          all_goals exact ⟨rfl, HBl.out⟩
    · have hor : ¬ ((n : Int) < (os.length : Int)) ∨ ¬ ((n : Int) < 60) := by omega
      have HBl : Hid (Below W.heap.size W wr) := hbel
      clear hU hB hbel
      rcases hor with hor | hor
      all_goals go_wp2
      all_goals go_ret
      all_goals exact ⟨rfl, HBl.out⟩
end Go.Proofs.YtoanbjdifddcoaaGreatDoor

/- A list of changes that came in, laid open. -/
namespace Go.Proofs.YtoanbjdifddcoaaGreatDoor
open Go.RowKit Go.Deep Go.ChangeShapes

/-- an address at which something lies is that of a cell -/
theorem addr_of {w : World} {a : Addr} {v : Value} (h : w.cell? (a.add 0) = some v) : a = ⟨a.block, a.off, none⟩ := by
  obtain ⟨b, o, s⟩ := a
  cases s with
  | none => rfl
  | some x =>
    exfalso
    simp only [Addr.add, if_true, World.cell?] at h
    split at h
    · simp at h
    · cases h
theorem addr_add {a : Addr} (h : a = ⟨a.block, a.off, none⟩) (j : Nat) : a.add j = ⟨a.block, a.off + j, none⟩ := by
  generalize a.block = b at h
  generalize a.off = o at h
  subst h
  unfold Addr.add
  split
  · simp_all
  · rfl
theorem blk_lt {w : World} {b o : Nat} {v : Value} (h : w.cell? ⟨b, o, none⟩ = some v) : b < w.heap.size := World.block_lt_of_cell? w ⟨b, o, none⟩ h
theorem six_list {α : Type} {l : List α} (h : l.length = 6) : ∃ a b c d e f, l = [a, b, c, d, e, f] := by
  match l, h with
  | [a, b, c, d, e, f], _ => exact ⟨a, b, c, d, e, f, rfl⟩

theorem Tryz.cellsStr : Tryz.prog.cellsOf 9 = 1 := by kernel_rfl
theorem Tryz.cellsInt : Tryz.prog.cellsOf 3 = 1 := by kernel_rfl
theorem Tryz.cellsOp : Tryz.prog.cellsOf 33 = 6 := by kernel_rfl

set_option maxRecDepth 100000 in
theorem open_ops {H : Type} {enc : TypeId × Value → H} {W : World} {fuel : Nat} {v : Value} {x : DataW H × List MemPlace} (h : DataW.trod enc Tryz.prog W 0 (fun _ => true) true fuel 22 [v] = some x) :
    ∃ os : List OpD, OpsAt W v os := by
  rcases open_slice Tryz.underlying22 h with ⟨h0, _⟩ | ⟨a, len, cap, m, n, D, Pl, h0, _, hl, hm, hmm, _, hx⟩
  · refine ⟨[], none, 0, by simpa using h0, Nat.le_refl _, by unfold maxLen; omega, fun j x hj => by simp at hj⟩
  · have hlm : len ≤ m := by rw [hmm]; simp; exact hl
    have h00 : 0 < len → a = ⟨a.block, a.off, none⟩ := by
      intro hp
      obtain ⟨cs', h1, h2⟩ := hx 0 (by omega)
      rw [Tryz.cellsOp] at h1
      obtain ⟨_, hlen, hcell⟩ := World.cells?_some h1
      have e0 := hcell 0 (by omega)
      rw [add_add, List.getElem?_eq_getElem (by omega)] at e0
      simp only [Nat.zero_mul, Nat.add_zero] at e0
      exact addr_of e0
    have each : ∀ i, i < len → ∃ o : OpD, (o.s.size ≤ 9223372036854775807 ∧ o.t.size ≤ 9223372036854775807) ∧ a.block < W.heap.size ∧
        W.cell? ⟨a.block, a.off + i * 6, none⟩ = some (.int .i64 o.kind) ∧ W.cell? ⟨a.block, a.off + i * 6 + 1, none⟩ = some (.int .i64 o.a) ∧ W.cell? ⟨a.block, a.off + i * 6 + 2, none⟩ = some (.int .i64 o.b) ∧ W.cell? ⟨a.block, a.off + i * 6 + 3, none⟩ = some (.int .i64 o.c) ∧ W.cell? ⟨a.block, a.off + i * 6 + 4, none⟩ = some (.string o.s) ∧ W.cell? ⟨a.block, a.off + i * 6 + 5, none⟩ = some (.string o.t) := by
      intro i hi
      have ea := h00 (by omega)
      obtain ⟨cs', h1, h2⟩ := hx i (by omega)
      rw [Tryz.cellsOp] at h1
      obtain ⟨_, hlen, hcell⟩ := World.cells?_some h1
      obtain ⟨xs, k, hk, _, _, hxl, hf⟩ := DataW.trod_struct Tryz.underlying33 h2
      obtain ⟨v0, v1, v2, v3, v4, v5, rfl⟩ := six_list hlen
      obtain ⟨y0, y1, y2, y3, y4, y5, rfl⟩ := six_list hxl
      have g0 : DataW.trod enc Tryz.prog W 0 (fun _ => true) true k 3 [v0] = some y0 := by
        have := hf 0 _ rfl
        simpa [Tryz.cellsInt] using this
      have g1 : DataW.trod enc Tryz.prog W 0 (fun _ => true) true k 3 [v1] = some y1 := by
        have := hf 1 _ rfl
        simpa [Tryz.cellsInt] using this
      have g2 : DataW.trod enc Tryz.prog W 0 (fun _ => true) true k 3 [v2] = some y2 := by
        have := hf 2 _ rfl
        simpa [Tryz.cellsInt] using this
      have g3 : DataW.trod enc Tryz.prog W 0 (fun _ => true) true k 3 [v3] = some y3 := by
        have := hf 3 _ rfl
        simpa [Tryz.cellsInt] using this
      have g4 : DataW.trod enc Tryz.prog W 0 (fun _ => true) true k 9 [v4] = some y4 := by
        have := hf 4 _ rfl
        simpa [Tryz.cellsStr] using this
      have g5 : DataW.trod enc Tryz.prog W 0 (fun _ => true) true k 9 [v5] = some y5 := by
        have := hf 5 _ rfl
        simpa [Tryz.cellsStr] using this
      obtain ⟨k0, e0, _, _⟩ := DataW.trod_int Tryz.underlying3 g0
      obtain ⟨k1, e1, _, _⟩ := DataW.trod_int Tryz.underlying3 g1
      obtain ⟨k2, e2, _, _⟩ := DataW.trod_int Tryz.underlying3 g2
      obtain ⟨k3, e3, _, _⟩ := DataW.trod_int Tryz.underlying3 g3
      obtain ⟨s4, e4, _, z4⟩ := DataW.trod_string Tryz.underlying9 g4
      obtain ⟨s5, e5, _, z5⟩ := DataW.trod_string Tryz.underlying9 g5
      simp only [List.cons.injEq, and_true] at e0 e1 e2 e3 e4 e5
      subst e0 e1 e2 e3 e4 e5
      have q : ∀ f, f < 6 → W.cell? ⟨a.block, a.off + i * 6 + f, none⟩ = [Value.int .i64 k0, .int .i64 k1, .int .i64 k2, .int .i64 k3, .string s4, .string s5][f]? := by
        intro f hf6
        have := hcell f hf6
        rw [add_add, addr_add ea] at this
        rw [show a.off + i * 6 + f = a.off + (i * 6 + f) by omega]
        exact this
      unfold maxLen at z4 z5
      have q0 := q 0 (by omega)
      exact ⟨⟨k0, k1, k2, k3, s4, s5⟩, ⟨by simpa using z4, by simpa using z5⟩, blk_lt q0, q0, q 1 (by omega), q 2 (by omega), q 3 (by omega), q 4 (by omega), q 5 (by omega)⟩
    have : Inhabited OpD := ⟨⟨0, 0, 0, 0, ⟨#[]⟩, ⟨#[]⟩⟩⟩
    obtain ⟨q, hq⟩ := choose_lt each
    refine ⟨(List.range len).map q, some a, cap, by simpa using h0, by simpa using hl, hm, fun j x hj => ?_⟩
    have hjl : j < len := by simpa using (List.getElem?_eq_some_iff.1 hj).1
    have hxq : x = q j := by simpa [List.getElem?_range hjl] using hj.symm
    subst hxq
    obtain ⟨hs, hb, c0, c1, c2, c3, c4, c5⟩ := hq j hjl
    exact ⟨hs, a.block, a.off, congrArg some (h00 (by omega)), hb, c0, c1, c2, c3, c4, c5⟩
end Go.Proofs.YtoanbjdifddcoaaGreatDoor
