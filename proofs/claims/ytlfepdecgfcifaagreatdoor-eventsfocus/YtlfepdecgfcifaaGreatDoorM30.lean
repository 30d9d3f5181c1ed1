/- The document's FocusNext, walked: the program's Next. -/
import Derived.Test.YtlfepdecgfcifaaGreatDoorM19
import Derived.Test.YtlfepdecgfcifaaGreatDoorM05
import Derived.Test.YtlfepdecgfcifaaGreatDoorM12
import Derived.Test.YtlfepdecgfcifaaGreatDoorM10
import Derived.Deep.DeepCutAuto
import Derived.Test.YtlfepdecgfcifaaGreatDoorM00
namespace Go.Proofs.YtlfepdecgfcifaaGreatDoor
open Go.RowKit
set_option linter.unusedVariables false
attribute [local go_sem] Oper.semAt_some

theorem next_startB {l : List Int} (hl : 0 < l.length) {x : Int} (h : x ∉ l) : nextP l x true = l.getD (l.length - 1) 0 := by
  unfold nextP
  rw [if_neg (by omega), if_pos rfl, idxOf_none (by rw [List.mem_reverse]; exact h)]
  show l.reverse.getD (0 % l.length) 0 = _
  rw [Nat.zero_mod, rev_getD l hl]
  rfl
theorem next_backB {l : List Int} (h : l.Nodup) {i : Nat} (hi : i < l.length) : nextP l (l.getD i 0) true = l.getD ((i + l.length - 1) % l.length) 0 := by
  have hn : 0 < l.length := by omega
  have hm : (i + l.length - 1) % l.length < l.length := Nat.mod_lt _ hn
  have := next_back h hm
  have e : ((i + l.length - 1) % l.length + 1) % l.length = i := by
    by_cases h0 : i = 0
    · subst h0
      rw [Nat.zero_add, Nat.mod_eq_of_lt (by omega : l.length - 1 < l.length), Nat.sub_add_cancel hn, Nat.mod_self]
    · rw [show i + l.length - 1 = (i - 1) + l.length by omega, Nat.add_mod_right, Nat.mod_eq_of_lt (by omega : i - 1 < l.length), Nat.sub_add_cancel (by omega), Nat.mod_eq_of_lt hi]
  rw [e] at this
  exact this
theorem notin {l : List Int} {z : Int} (h : ∀ j, j < l.length → l.getD j 0 ≠ z) : z ∉ l := fun hz => by
  obtain ⟨j, hj, e⟩ := List.mem_iff_getElem.1 hz
  refine h j hj ?_
  rw [List.getD_eq_getElem?_getD, List.getElem?_eq_getElem hj]
  exact e

set_option maxHeartbeats 8000000 in
set_option maxRecDepth 100000 in
theorem focusN_any {w : World} {na ta : Option Addr} {nn nc tn tc : Nat} {l : List Int} {root : Int} (hlen : l.length ≤ 1000) (hnd : l.Nodup) (FO : ∀ W, Below w.heap.size w W → Calls Tryz.prog 10 #[.agg #[.slice na nn nc, .slice ta tn tc], .int .i64 root] W (UndPost W l)) (z : Int) (back : Bool) :
    Calls Tryz.prog 12 #[.agg #[.slice na nn nc, .slice ta tn tc], .int .i64 root, .int .i64 z, .bool back] w fun e w' => e = .returned (.int .i64 (nextP l z back)) ∧ Below w.heap.size w w' := by
  have HO := hidF (FO (w.alloc (.cells #[.slice na nn nc, .slice ta tn tc] 29)) ((Below.refl _ w).alloc (Nat.le_refl _) _))
  have HB0 := hidF ((Below.refl _ w).alloc (Nat.le_refl _) (.cells #[.slice na nn nc, .slice ta tn tc] 29))
  have HND := hidF hnd
  clear FO hnd
  by_cases hl0 : l.length = 0
  · have e0 : nextP l z back = -1 := by unfold nextP; rw [if_pos hl0]
    rw [e0]
    go_enter Tryz.func12, Tryz.ntmps12
    go_wp2_with fail
    refine HO.out.mono ?_
    rintro e w1 ⟨v, rfl, h1, h2⟩
    have HB := hidF (HB0.out.trans (h2.mono (by simp)))
    obtain ⟨a, c, rfl, _, _, _⟩ := own_shapeG h1
    rw [hl0]
    clear h1 h2
    go_wp2_with fail
    go_returns
    exact ⟨rfl, HB.out⟩
  · have hl1 : 0 < l.length := by omega
    have hz' : ((l.length : Int) == 0) = false := by rw [beq_eq_false_iff_ne]; omega
    have hz2 : ¬ (l.length : Int) = 0 := by omega
    go_enter Tryz.func12, Tryz.ntmps12
    go_wp2_with fail
    refine HO.out.mono ?_
    rintro e w1 ⟨v, rfl, h1, h2⟩
    have HB := hidF (HB0.out.trans (h2.mono (by simp)))
    obtain ⟨g, c, rfl, _, _, _, hc⟩ := own_cells h1 hl1
    have HC := hidF hc
    have HSH := own_shapeG h1
    clear h1 h2 hc HO
    go_wp2_with fail
    go_loopw [11] (fun iv wr => ∃ i : Nat, i ≤ l.length ∧ iv = .int .i64 i ∧ wr = w1 ∧ Hid (∀ j, j < i → l.getD j 0 ≠ z)) (fun iv _ => l.length - (intOf iv).toNat)
    case atStart => exact ⟨0, by omega, rfl, rfl, fun j hj => by omega⟩
    case round =>
      obtain ⟨i, hi, rfl, rfl, HI⟩ := hrel
      by_cases hlt : i < l.length
      · have c0 := HC.out i hlt
        rw [Nat.zero_add] at c0
        have HI2 : Hid (l.getD i 0 ≠ z → ∀ j, j < i + 1 → l.getD j 0 ≠ z) := fun hne j hj => by
          by_cases e : j = i
          · subst e; exact hne
          · exact HI.out j (by omega)
        have hlt' : (i : Int) < (l.length : Int) := by omega
        by_cases hz : l.getD i 0 = z
        · rw [hz] at c0
          have ez : (z == z) = true := by simp
          cases back
          · have e1 : nextP l z false = l.getD ((i + 1) % l.length) 0 := by rw [← hz]; exact next_fwd HND.out hlt
            obtain ⟨q, hq⟩ : ∃ q, (i + 1) % l.length = q := ⟨_, rfl⟩
            have hql : q < l.length := by rw [← hq]; exact Nat.mod_lt _ hl1
            have hql' : (q : Int) < (l.length : Int) := by omega
            have R2 : ((i : Int) + 1) % (l.length : Int) = (q : Int) := by rw [← hq, show ((i : Int) + 1) = (((i + 1) : Nat) : Int) by omega, Int.natCast_emod]
            have cq := HC.out q hql
            rw [Nat.zero_add] at cq
            rw [hq] at e1
            obtain ⟨y, hy⟩ : ∃ y, l.getD q 0 = y := ⟨_, rfl⟩
            rw [hy] at e1 cq
            have E1 := hidF e1
            clear e1 hz hy hq
            go_wp2_with fail
            go_returns
            exact ⟨by rw [E1.out]; rfl, HB.out⟩
          · have e1 : nextP l z true = l.getD ((i + l.length - 1) % l.length) 0 := by rw [← hz]; exact next_backB HND.out hlt
            obtain ⟨q, hq⟩ : ∃ q, (i + l.length - 1) % l.length = q := ⟨_, rfl⟩
            have hql : q < l.length := by rw [← hq]; exact Nat.mod_lt _ hl1
            have hql' : (q : Int) < (l.length : Int) := by omega
            have R2 : ((i : Int) + (l.length : Int) - 1) % (l.length : Int) = (q : Int) := by rw [← hq, show ((i : Int) + (l.length : Int) - 1) = (((i + l.length - 1) : Nat) : Int) by omega, Int.natCast_emod]
            have cq := HC.out q hql
            rw [Nat.zero_add] at cq
            rw [hq] at e1
            obtain ⟨y, hy⟩ : ∃ y, l.getD q 0 = y := ⟨_, rfl⟩
            rw [hy] at e1 cq
            have E1 := hidF e1
            clear e1 hz hy hq
            go_wp2_with fail
            go_returns
            exact ⟨by rw [E1.out]; rfl, HB.out⟩
        · obtain ⟨y, hy⟩ : ∃ y, l.getD i 0 = y := ⟨_, rfl⟩
          rw [hy] at c0 hz
          have HI3 := hidF (HI2.out (by rw [hy]; exact hz))
          have ez : (y == z) = false := by rw [beq_eq_false_iff_ne]; exact hz
          clear HI2 hy
          go_wp2_with fail
          go_roundw
          case rel => exact ⟨i + 1, by omega, by go_num, by first | rfl | trivial, HI3.out⟩
          case measure => simp [intOf]; omega
      · obtain rfl : i = l.length := by omega
        have HN := hidF (notin HI.out)
        cases back
        · have e1 : nextP l z false = l.getD 0 0 := next_start hl1 HN.out
          have c0 := HC.out 0 hl1
          rw [Nat.zero_add] at c0
          obtain ⟨y, hy⟩ : ∃ y, l.getD 0 0 = y := ⟨_, rfl⟩
          rw [hy] at e1 c0
          have E1 := hidF e1
          clear e1 hy
          go_wp2_with fail
          go_returns
          exact ⟨by rw [E1.out]; rfl, HB.out⟩
        · have e1 : nextP l z true = l.getD (l.length - 1) 0 := next_startB hl1 HN.out
          have c0 := HC.out (l.length - 1) (by omega)
          rw [Nat.zero_add] at c0
          have W1 : IntKind.i64.wrap ((l.length : Int) - 1) = ((l.length - 1 : Nat) : Int) := by rw [IntKind.wrap_i64] <;> omega
          have hq1 : ((l.length - 1 : Nat) : Int) < (l.length : Int) := by omega
          obtain ⟨y, hy⟩ : ∃ y, l.getD (l.length - 1) 0 = y := ⟨_, rfl⟩
          rw [hy] at e1 c0
          have E1 := hidF e1
          clear e1 hy
          go_wp2_with fail
          go_returns
          exact ⟨by rw [E1.out]; rfl, HB.out⟩
end Go.Proofs.YtlfepdecgfcifaaGreatDoor

/- A small page: what 'few' bounds. -/
namespace Go.Proofs.YtlfepdecgfcifaaGreatDoor
open Go.RowKit
set_option linter.unusedVariables false
attribute [local go_sem] Oper.semAt_some

def pageA (a : Option Addr) (n cap : Nat) : Array Value := #[.slice a n cap, .string ⟨#[]⟩, .slice none 0 0, .int .i64 0, .int .i64 0]
structure FwI (w : World) (a : Option Addr) (cap : Nat) (ts : List Tw) (k : Nat) (wr : World) : Prop where
  below : Below w.heap.size w wr
  lt : w.heap.size < wr.heap.size
  page : wr.cell? ⟨w.heap.size, 0, none⟩ = some (.slice a ts.length cap)
  few : ∀ j, j < k → ∀ t, ts[j]? = some t → FewOne t
theorem FwI.step {w : World} {a : Option Addr} {cap : Nat} {ts : List Tw} {k : Nat} {wr : World} (h : FwI w a cap ts k wr) (o : Obj) {t : Tw} (ht : ts[k]? = some t) (hf : FewOne t) : FwI w a cap ts (k + 1) (wr.alloc o) where
  below := h.below.alloc (by have := h.lt; omega) _
  lt := by have := h.lt; simp; omega
  page := by rw [World.cell?_of_block (a := ⟨w.heap.size, 0, none⟩) (Below.heap_alloc wr o _ h.lt)]; exact h.page
  few := fun j hj t' ht' => by
    by_cases hjk : j = k
    · subst hjk
      obtain rfl := Option.some.inj (ht'.symm.trans ht)
      exact hf
    · exact h.few j (by omega) t' ht'

set_option maxHeartbeats 8000000 in
set_option maxRecDepth 100000 in
theorem pageFew_any {w : World} {S cap : Nat} {a : Option Addr} {ts : List Tw} (h : TwigsIn w S a ts) (hS : S ≤ w.heap.size) :
    Calls Tryz.prog 15 #[.agg #[.slice a ts.length cap, .string ⟨#[]⟩, .slice none 0 0, .int .i64 0, .int .i64 0]] w fun e w' => (FewPost ts e ∧ (e = .returned (.bool true) → ts.length ≤ 24)) ∧ Below w.heap.size w w' := by
  have hb1 := hidF ((Below.refl w.heap.size w).alloc (Nat.le_refl _) (.cells #[.slice a ts.length cap, .string ⟨#[]⟩, .slice none 0 0, .int .i64 0, .int .i64 0] 40))
  have H0 : Hid (FwI w a cap ts 0 (w.alloc (.cells #[.slice a ts.length cap, .string ⟨#[]⟩, .slice none 0 0, .int .i64 0, .int .i64 0] 40))) :=
    ⟨hb1.out, by simp, by rw [cell_of_row _ _ _ _ _ _ (heap_alloc_new w _)]; rfl, fun j hj => absurd hj (by omega)⟩
  have H : Hid (TwigsIn w S a ts) := h
  clear h
  have hmx : Tryz.prog.follows Departure.mixedOrders = true := by kernel_rfl
  by_cases h24 : 24 < ts.length
  · have h24' : (24 : Int) < (ts.length : Int) := by omega
    go_enter Tryz.func15, Tryz.ntmps15
    go_wp2_with fail
    go_loopw [4, 3] (fun i n wr => i = .int .i64 0 ∧ n = .int .i64 0 ∧ wr = w.alloc (.cells #[.slice a ts.length cap, .string ⟨#[]⟩, .slice none 0 0, .int .i64 0, .int .i64 0] 40)) (fun _ _ _ => 0)
    case atStart => exact ⟨rfl, rfl, rfl⟩
    case round =>
      obtain ⟨rfl, rfl, rfl⟩ := hrel
      go_wp2_with fail
      all_goals go_ret
      all_goals exact ⟨⟨FewPost.no ts, fun h => by cases h⟩, hb1.out⟩
  · have h24' : ¬ (24 : Int) < (ts.length : Int) := by omega
    go_enter Tryz.func15, Tryz.ntmps15
    go_wp2_with fail
    go_loopw [4, 3] (fun i n wr => i = .int .i64 0 ∧ n = .int .i64 0 ∧ wr = w.alloc (.cells #[.slice a ts.length cap, .string ⟨#[]⟩, .slice none 0 0, .int .i64 0, .int .i64 0] 40)) (fun _ _ _ => 0)
    case atStart => exact ⟨rfl, rfl, rfl⟩
    case round =>
      obtain ⟨rfl, rfl, rfl⟩ := hrel
      go_wp2_with fail
      go_loopw [5] (fun i wr => ∃ k : Nat, k ≤ ts.length ∧ i = .int .i64 k ∧ Hid (FwI w a cap ts k wr)) (fun i _ => ts.length - (intOf i).toNat)
      case atStart => exact ⟨0, by omega, rfl, H0⟩
      case round =>
        obtain ⟨k, hk, rfl, HI⟩ := hrel
        have c0 := HI.out.page
        by_cases hlt : k < ts.length
        · have hlt' : (k : Int) < (ts.length : Int) := by omega
          obtain ⟨t, ht⟩ : ∃ t, ts[k]? = some t := ⟨_, List.getElem?_eq_getElem hlt⟩
          obtain ⟨b, o, rfl, hT⟩ := (H.out.same (w' := wr) (fun b hb => HI.out.below.block b (by omega))) k t ht
          have e0 := hT.kind
          have e1 := hT.tag
          have e2 := hT.text
          have e3 := hT.attrs
          have e4 := hT.kids
          obtain ⟨m1, m2⟩ := hT.al
          obtain ⟨m3, m4⟩ := hT.kl
          have m5 := hT.tl
          have m6 := hT.xl
          have HA : Hid (∀ o : Obj, ∀ j x, t.attrs[j]? = some x → ∃ b' o', t.aa = some ⟨b', o', none⟩ ∧ (wr.alloc o).cell? ⟨b', o' + j * 2, none⟩ = some (.string x.1) ∧ (wr.alloc o).cell? ⟨b', o' + j * 2 + 1, none⟩ = some (.string x.2) ∧ x.1.size ≤ 9223372036854775807 ∧ x.2.size ≤ 9223372036854775807) := fun o j x hx => by
            obtain ⟨b', o', q1, q2, q3, q4, q5, q6⟩ := hT.att j x hx
            have hb' : b' < wr.heap.size := by have := HI.out.lt; omega
            exact ⟨b', o', q1, by rw [World.cell?_of_block (a := ⟨b', _, none⟩) (Below.heap_alloc wr o _ hb')]; exact q3, by rw [World.cell?_of_block (a := ⟨b', _, none⟩) (Below.heap_alloc wr o _ hb')]; exact q4, q5, q6⟩
          have HT : Hid (ts[k]? = some t) := ht
          have hbN : Hid (∀ o : Obj, Below w.heap.size w (wr.alloc o)) := fun o => HI.out.below.alloc (by have := HI.out.lt; omega) _
          clear hT ht
          by_cases q1 : 120 < t.text.size
          · have q1' : (120 : Int) < (t.text.size : Int) := by omega
            go_wp2_with fail
            all_goals go_ret
            all_goals exact ⟨⟨FewPost.no ts, fun h => by cases h⟩, hbN.out _⟩
          by_cases q2 : 60 < t.tag.size
          · have q2' : (60 : Int) < (t.tag.size : Int) := by omega
            go_wp2_with fail
            all_goals go_ret
            all_goals exact ⟨⟨FewPost.no ts, fun h => by cases h⟩, hbN.out _⟩
          by_cases q3 : 6 < t.attrs.length
          · have q3' : (6 : Int) < (t.attrs.length : Int) := by omega
            go_wp2_with fail
            all_goals go_ret
            all_goals exact ⟨⟨FewPost.no ts, fun h => by cases h⟩, hbN.out _⟩
          by_cases q4 : 40 < t.kids.length
          · have q4' : (40 : Int) < (t.kids.length : Int) := by omega
            go_wp2_with fail
            all_goals go_ret
            all_goals exact ⟨⟨FewPost.no ts, fun h => by cases h⟩, hbN.out _⟩
          have q1' : ¬ (120 : Int) < (t.text.size : Int) := by omega
          have q2' : ¬ (60 : Int) < (t.tag.size : Int) := by omega
          have q3' : ¬ (6 : Int) < (t.attrs.length : Int) := by omega
          have q4' : ¬ (40 : Int) < (t.kids.length : Int) := by omega
          go_wp2_with fail
          go_loop [7] (fun i => ∃ n : Nat, n ≤ t.attrs.length ∧ i = .int .i64 n) (fun i => t.attrs.length - (intOf i).toNat)
          case atStart => exact ⟨0, by omega, rfl⟩
          case round =>
            obtain ⟨n, hn, rfl⟩ := hrel
            by_cases hnl : n < t.attrs.length
            · have hnl' : (n : Int) < (t.attrs.length : Int) := by omega
              obtain ⟨x, hx⟩ : ∃ x, t.attrs[n]? = some x := ⟨_, List.getElem?_eq_getElem hnl⟩
              obtain ⟨b', o', hA, d1, d2, d3, d4⟩ := HA.out (.cells #[.int .i64 t.kind, .string t.tag, .string t.text, .slice t.aa t.attrs.length t.ac, .slice t.ka t.kids.length t.kc] 45) n x hx
              rw [hA] at d1 d2 e3
              rw [hA]
              clear hx
              by_cases p1 : 300 < x.2.size
              · have p1' : (300 : Int) < (x.2.size : Int) := by omega
                go_wp2_with fail
                all_goals go_ret
                all_goals exact ⟨⟨FewPost.no ts, fun h => by cases h⟩, hbN.out _⟩
              by_cases p2 : 60 < x.1.size
              · have p2' : (60 : Int) < (x.1.size : Int) := by omega
                go_wp2_with fail
                all_goals go_ret
                all_goals exact ⟨⟨FewPost.no ts, fun h => by cases h⟩, hbN.out _⟩
              have p1' : ¬ (300 : Int) < (x.2.size : Int) := by omega
              have p2' : ¬ (60 : Int) < (x.1.size : Int) := by omega
              go_wp2_with fail
              all_goals go_round
              case rel => exact ⟨n + 1, by omega, by go_num⟩
              case measure => simp [intOf]; omega
            · obtain rfl : n = t.attrs.length := by omega
              go_wp2_with fail
              go_roundw
              case rel => exact ⟨k + 1, by omega, by go_num, HI.out.step _ HT.out ⟨by omega, by omega, by omega, by omega⟩⟩
              case measure => simp [intOf]; omega
        · obtain rfl : k = ts.length := by omega
          go_wp2_with fail
          go_ret
          exact ⟨⟨⟨true, rfl, fun _ => ⟨by omega, fun j t ht => HI.out.few j (List.getElem?_eq_some_iff.1 ht).1 t ht⟩⟩, fun _ => by omega⟩, HI.out.below⟩
set_option maxHeartbeats 4000000 in
set_option maxRecDepth 100000 in
theorem fewTwigsE_any {w : World} {S cap : Nat} {a : Option Addr} {ts : List Tw} (h : TwigsIn w S a ts) (hS : S ≤ w.heap.size) :
    Calls Tryz.prog 5 #[.slice a ts.length cap] w fun e w' => (FewPost ts e ∧ (e = .returned (.bool true) → ts.length ≤ 24)) ∧ Below w.heap.size w w' := by
  have hb1 := hidF ((Below.refl w.heap.size w).alloc (Nat.le_refl _) (.cells #[.slice a ts.length cap, .string ⟨#[]⟩, .slice none 0 0, .int .i64 0, .int .i64 0] 40))
  have HT : Hid (TwigsIn (w.alloc (.cells #[.slice a ts.length cap, .string ⟨#[]⟩, .slice none 0 0, .int .i64 0, .int .i64 0] 40)) S a ts) := h.same (fun b hb => hb1.out.block b (by omega))
  clear h
  go_enter Tryz.func5, Tryz.ntmps5
  go_wp2_with fail
  refine (pageFew_any HT.out (by simp; omega)).mono ?_
  rintro e w' ⟨⟨⟨r, rfl, hr⟩, h24⟩, hb⟩
  have HB : Hid (Below w.heap.size w w' ∧ (r = true → Few ts) ∧ (r = true → ts.length ≤ 24)) := ⟨hb1.out.trans (hb.mono (by simp)), hr, fun h => h24 (by rw [h])⟩
  clear hb hr h24
  go_wp2_with fail
  go_ret
  exact ⟨⟨⟨r, rfl, HB.out.2.1⟩, fun h => HB.out.2.2 (by cases h; rfl)⟩, HB.out.1⟩
end Go.Proofs.YtlfepdecgfcifaaGreatDoor

/- The end of a row is cleared, and cut off. -/
namespace Go.Proofs.YtlfepdecgfcifaaGreatDoor
open Go.RowKit

section
variable {P : Program}
theorem clear_tail (w : World) (M : Nat → Lab) (l : Lab) (t e : TypeId) (z : Value) (size : Nat) (ht : P.underlying t = some (.slice e)) (hv : ∀ w, (zeroValue e).run P w = .ok z w) (hzs : z.cells.size = size) (hz1 : ∀ u ∈ z.cells.toList, u.oneCell' = true) (hsz : 0 < size)
    (g n k cap c : Nat) (xs ys : List Value) (hr : Row w M l e size (.slice (some ⟨g, 0, none⟩) (n + k) cap) (n + k) (xs ++ ys)) (hx : xs.length = n * size) (hk : 0 < k) (hfr : ∀ b, w.heap.size ≤ b → M b = .other) :
    ∃ w', (∀ ty, (Builtin.clear_ #[t] ty #[.slice (some ⟨g, n * size, none⟩) k c]).run P w = .ok (.tuple #[]) w') ∧ Row w' M l e size (.slice (some ⟨g, 0, none⟩) n cap) n xs ∧ Step w M w' M l := by
  obtain ⟨hl, a, cap', hv', h1, h2, h3⟩ := hr
  cases hv'
  rcases h3 with ⟨h3, _⟩ | ⟨g', cur, ha, hM, hg, h4, h5⟩
  · omega
  · cases ha
    have hzl : (Builtin.zeroCells z.cells k).toList.length = k * size := by simp [size_zeroCells, hzs]
    have hfit : n * size + k * size ≤ cur.size := by
      rw [← Nat.add_mul]
      exact Nat.le_trans (Nat.mul_le_mul_right _ h1) h4
    have hone : ∀ u ∈ (Builtin.zeroCells z.cells k).toList, u.oneCell' = true := by
      intro u hu
      simp only [Builtin.zeroCells, Array.toList_map, List.mem_map] at hu
      obtain ⟨j, hj, rfl⟩ := hu
      have hjs : j % z.cells.size < z.cells.size := Nat.mod_lt _ (by omega)
      rw [getElem!_pos z.cells _ hjs]
      exact hz1 _ (by simp)
    have hst := run_storeCells_at P g (n * size) e (Builtin.zeroCells z.cells k).toList 0 cur w hg (by rw [hzl]; simpa using hfit) hone
    rw [Nat.add_zero, hzl] at hst
    refine ⟨w.setRow g (cur.toList.take (n * size) ++ (Builtin.zeroCells z.cells k).toList ++ cur.toList.drop (n * size + k * size)).toArray, fun ty => ?_, ⟨hx, _, cap, rfl, by omega, h2, .inr ⟨g, _, rfl, hM, setRow_heap w g cur _ e _ hg, ?_, ?_⟩⟩, ⟨rfl, rfl, rfl, by simp [World.setRow], fun _ _ => rfl, ?_, ?_⟩⟩
    · obtain ⟨k', rfl⟩ : ∃ k', k = k' + 1 := ⟨k - 1, by omega⟩
      simp [Builtin.clear_, run_underlying ht, hv, hst]
    · simp only [List.size_toArray, List.length_append, List.length_take, List.length_drop, Array.length_toList, hzl]
      omega
    · have := congrArg (List.take (n * size)) h5
      rw [List.take_take, List.take_append_of_le_length (by omega), List.take_of_length_le (l := xs) (by omega), Nat.min_eq_left (Nat.mul_le_mul_right _ (by omega))] at this
      simp only [List.append_assoc]
      rw [List.take_append_of_le_length (by simp; omega), List.take_take, Nat.min_self, this]
    · intro b hb
      exact hfr b (by simpa [World.setRow] using hb)
    · intro b hb hne
      exact setRow_other w g b _ (fun e => hne (by rw [e]; exact hM))

theorem step_clear (w : World) {ops : Array Oper} {o : Oper} {a : Act} {K : Act → World → Prop} {Q : Exit → Act → World → Prop} {E : Prop} (hgd : o.guard = none) (x : Operand) (t : TypeId)
    (ho : o.op = .call { callee := .builtin .clear, args := #[x], argTypes := #[t] }) (v : Value) (hx : a.eval x = v) (w' : World) (hr : ∀ ty, (Builtin.clear_ #[t] ty #[v]).run P w = .ok (.tuple #[]) w')
    (h : K (a.put o.dst (.tuple #[])) w') : if Region.wanted o (yielded ops a.tmps) = true then Oper.wp P o a w K Q else E := by
  have hw : Region.wanted o (yielded ops a.tmps) = true := by simp [Region.wanted, hgd]
  rw [if_pos hw]
  unfold Oper.wp execOp
  simp only [ho, resolve, invoke, builtin, Sem.run_bind, Sem.run_pure, Result.andThen_ok, List.map_toArray, List.map_cons, List.map_nil, hx, hr]
  exact h
end
end Go.Proofs.YtlfepdecgfcifaaGreatDoor
