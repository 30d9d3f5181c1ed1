/- A small page: what 'few' bounds. -/
import Derived.Test.YtlfepdecgfcifaaGreatDoorM17
import Derived.Test.YtlfepdecgfcifaaGreatDoorM15
import Derived.Deep.DeepCutAuto
namespace Go.Proofs.YtlfepdecgfcifaaGreatDoor
open Go.RowKit
set_option linter.unusedVariables false
attribute [local go_sem] Oper.semAt_some

def pageA (a : Option Addr) (n cap : Nat) : Array Value := #[.slice a n cap, .string ⟨#[]⟩, .slice none 0 0, .int .i64 0, .int .i64 0]
structure FwI (w : World) (a : Option Addr) (cap : Nat) (ts : List Tw) (k : Nat) (wr : World) : Prop where
  below : Below w.heap.size w wr
  lt : w.heap.size < wr.heap.size
  page : wr.cell? ⟨w.heap.size, 0, none⟩ = some (.slice a ts.length cap)
  few : ∀ j, j < k → ∀ t, ts[j]? = some t → FewOne t
theorem FwI.step {w : World} {a : Option Addr} {cap : Nat} {ts : List Tw} {k : Nat} {wr : World} (h : FwI w a cap ts k wr) (o : Obj) {t : Tw} (ht : ts[k]? = some t) (hf : FewOne t) : FwI w a cap ts (k + 1) (wr.alloc o) where
  below := h.below.alloc (by have := h.lt; omega) _
  lt := by have := h.lt; simp; omega
  page := by rw [World.cell?_of_block (a := ⟨w.heap.size, 0, none⟩) (Below.heap_alloc wr o _ h.lt)]; exact h.page
  few := fun j hj t' ht' => by
    by_cases hjk : j = k
    · subst hjk
      obtain rfl := Option.some.inj (ht'.symm.trans ht)
      exact hf
    · exact h.few j (by omega) t' ht'

set_option maxHeartbeats 8000000 in
set_option maxRecDepth 100000 in
theorem pageFew_any {w : World} {S cap : Nat} {a : Option Addr} {ts : List Tw} (h : TwigsIn w S a ts) (hS : S ≤ w.heap.size) :
    Calls Tryz.prog 15 #[.agg #[.slice a ts.length cap, .string ⟨#[]⟩, .slice none 0 0, .int .i64 0, .int .i64 0]] w fun e w' => (FewPost ts e ∧ (e = .returned (.bool true) → ts.length ≤ 24)) ∧ Below w.heap.size w w' := by
  have hb1 := hidF ((Below.refl w.heap.size w).alloc (Nat.le_refl _) (.cells #[.slice a ts.length cap, .string ⟨#[]⟩, .slice none 0 0, .int .i64 0, .int .i64 0] 40))
  have H0 : Hid (FwI w a cap ts 0 (w.alloc (.cells #[.slice a ts.length cap, .string ⟨#[]⟩, .slice none 0 0, .int .i64 0, .int .i64 0] 40))) :=
    ⟨hb1.out, by simp, by rw [cell_of_row _ _ _ _ _ _ (heap_alloc_new w _)]; rfl, fun j hj => absurd hj (by omega)⟩
  have H : Hid (TwigsIn w S a ts) := h
  clear h
  have hmx : Tryz.prog.follows Departure.mixedOrders = true := by kernel_rfl
  by_cases h24 : 24 < ts.length
  · have h24' : (24 : Int) < (ts.length : Int) := by omega
    go_enter Tryz.func15, Tryz.ntmps15
    go_wp2_with fail
    go_loopw [4, 3] (fun i n wr => i = .int .i64 0 ∧ n = .int .i64 0 ∧ wr = w.alloc (.cells #[.slice a ts.length cap, .string ⟨#[]⟩, .slice none 0 0, .int .i64 0, .int .i64 0] 40)) (fun _ _ _ => 0)
    case atStart => exact ⟨rfl, rfl, rfl⟩
    case round =>
      obtain ⟨rfl, rfl, rfl⟩ := hrel
      go_wp2_with fail
      all_goals go_ret
      all_goals exact ⟨⟨FewPost.no ts, fun h => by cases h⟩, hb1.out⟩
  · have h24' : ¬ (24 : Int) < (ts.length : Int) := by omega
    go_enter Tryz.func15, Tryz.ntmps15
    go_wp2_with fail
    go_loopw [4, 3] (fun i n wr => i = .int .i64 0 ∧ n = .int .i64 0 ∧ wr = w.alloc (.cells #[.slice a ts.length cap, .string ⟨#[]⟩, .slice none 0 0, .int .i64 0, .int .i64 0] 40)) (fun _ _ _ => 0)
    case atStart => exact ⟨rfl, rfl, rfl⟩
    case round =>
      obtain ⟨rfl, rfl, rfl⟩ := hrel
      go_wp2_with fail
      go_loopw [5] (fun i wr => ∃ k : Nat, k ≤ ts.length ∧ i = .int .i64 k ∧ Hid (FwI w a cap ts k wr)) (fun i _ => ts.length - (intOf i).toNat)
      case atStart => exact ⟨0, by omega, rfl, H0⟩
      case round =>
        obtain ⟨k, hk, rfl, HI⟩ := hrel
        have c0 := HI.out.page
        by_cases hlt : k < ts.length
        · have hlt' : (k : Int) < (ts.length : Int) := by omega
          obtain ⟨t, ht⟩ : ∃ t, ts[k]? = some t := ⟨_, List.getElem?_eq_getElem hlt⟩
          obtain ⟨b, o, rfl, hT⟩ := (H.out.same (w' := wr) (fun b hb => HI.out.below.block b (by omega))) k t ht
          have e0 := hT.kind
          have e1 := hT.tag
          have e2 := hT.text
          have e3 := hT.attrs
          have e4 := hT.kids
          obtain ⟨m1, m2⟩ := hT.al
          obtain ⟨m3, m4⟩ := hT.kl
          have m5 := hT.tl
          have m6 := hT.xl
          have HA : Hid (∀ o : Obj, ∀ j x, t.attrs[j]? = some x → ∃ b' o', t.aa = some ⟨b', o', none⟩ ∧ (wr.alloc o).cell? ⟨b', o' + j * 2, none⟩ = some (.string x.1) ∧ (wr.alloc o).cell? ⟨b', o' + j * 2 + 1, none⟩ = some (.string x.2) ∧ x.1.size ≤ 9223372036854775807 ∧ x.2.size ≤ 9223372036854775807) := fun o j x hx => by
            obtain ⟨b', o', q1, q2, q3, q4, q5, q6⟩ := hT.att j x hx
            have hb' : b' < wr.heap.size := by have := HI.out.lt; omega
            exact ⟨b', o', q1, by rw [World.cell?_of_block (a := ⟨b', _, none⟩) (Below.heap_alloc wr o _ hb')]; exact q3, by rw [World.cell?_of_block (a := ⟨b', _, none⟩) (Below.heap_alloc wr o _ hb')]; exact q4, q5, q6⟩
          have HT : Hid (ts[k]? = some t) := ht
          have hbN : Hid (∀ o : Obj, Below w.heap.size w (wr.alloc o)) := fun o => HI.out.below.alloc (by have := HI.out.lt; omega) _
          clear hT ht
          by_cases q1 : 120 < t.text.size
          · have q1' : (120 : Int) < (t.text.size : Int) := by omega
            go_wp2_with fail
            all_goals go_ret
            all_goals exact ⟨⟨FewPost.no ts, fun h => by cases h⟩, hbN.out _⟩
          by_cases q2 : 60 < t.tag.size
          · have q2' : (60 : Int) < (t.tag.size : Int) := by omega
            go_wp2_with fail
            all_goals go_ret
            all_goals exact ⟨⟨FewPost.no ts, fun h => by cases h⟩, hbN.out _⟩
          by_cases q3 : 6 < t.attrs.length
          · have q3' : (6 : Int) < (t.attrs.length : Int) := by omega
            go_wp2_with fail
            all_goals go_ret
            all_goals exact ⟨⟨FewPost.no ts, fun h => by cases h⟩, hbN.out _⟩
          by_cases q4 : 40 < t.kids.length
          · have q4' : (40 : Int) < (t.kids.length : Int) := by omega
            go_wp2_with fail
            all_goals go_ret
            all_goals exact ⟨⟨FewPost.no ts, fun h => by cases h⟩, hbN.out _⟩
          have q1' : ¬ (120 : Int) < (t.text.size : Int) := by omega
          have q2' : ¬ (60 : Int) < (t.tag.size : Int) := by omega
          have q3' : ¬ (6 : Int) < (t.attrs.length : Int) := by omega
          have q4' : ¬ (40 : Int) < (t.kids.length : Int) := by omega
          go_wp2_with fail
          go_loop [7] (fun i => ∃ n : Nat, n ≤ t.attrs.length ∧ i = .int .i64 n) (fun i => t.attrs.length - (intOf i).toNat)
          case atStart => exact ⟨0, by omega, rfl⟩
          case round =>
            obtain ⟨n, hn, rfl⟩ := hrel
            by_cases hnl : n < t.attrs.length
            · have hnl' : (n : Int) < (t.attrs.length : Int) := by omega
              obtain ⟨x, hx⟩ : ∃ x, t.attrs[n]? = some x := ⟨_, List.getElem?_eq_getElem hnl⟩
              obtain ⟨b', o', hA, d1, d2, d3, d4⟩ := HA.out (.cells #[.int .i64 t.kind, .string t.tag, .string t.text, .slice t.aa t.attrs.length t.ac, .slice t.ka t.kids.length t.kc] 45) n x hx
              rw [hA] at d1 d2 e3
              rw [hA]
              clear hx
              by_cases p1 : 300 < x.2.size
              · have p1' : (300 : Int) < (x.2.size : Int) := by omega
                go_wp2_with fail
                all_goals go_ret
                all_goals exact ⟨⟨FewPost.no ts, fun h => by cases h⟩, hbN.out _⟩
              by_cases p2 : 60 < x.1.size
              · have p2' : (60 : Int) < (x.1.size : Int) := by omega
                go_wp2_with fail
                all_goals go_ret
                all_goals exact ⟨⟨FewPost.no ts, fun h => by cases h⟩, hbN.out _⟩
              have p1' : ¬ (300 : Int) < (x.2.size : Int) := by omega
              have p2' : ¬ (60 : Int) < (x.1.size : Int) := by omega
              go_wp2_with fail
              all_goals go_round
              case rel => exact ⟨n + 1, by omega, by go_num⟩
              case measure => simp [intOf]; omega
            · obtain rfl : n = t.attrs.length := by omega
              go_wp2_with fail
              go_roundw
              case rel => exact ⟨k + 1, by omega, by go_num, HI.out.step _ HT.out ⟨by omega, by omega, by omega, by omega⟩⟩
              case measure => simp [intOf]; omega
        · obtain rfl : k = ts.length := by omega
          go_wp2_with fail
          go_ret
          exact ⟨⟨⟨true, rfl, fun _ => ⟨by omega, fun j t ht => HI.out.few j (List.getElem?_eq_some_iff.1 ht).1 t ht⟩⟩, fun _ => by omega⟩, HI.out.below⟩
set_option maxHeartbeats 4000000 in
set_option maxRecDepth 100000 in
theorem fewTwigsE_any {w : World} {S cap : Nat} {a : Option Addr} {ts : List Tw} (h : TwigsIn w S a ts) (hS : S ≤ w.heap.size) :
    Calls Tryz.prog 5 #[.slice a ts.length cap] w fun e w' => (FewPost ts e ∧ (e = .returned (.bool true) → ts.length ≤ 24)) ∧ Below w.heap.size w w' := by
  have hb1 := hidF ((Below.refl w.heap.size w).alloc (Nat.le_refl _) (.cells #[.slice a ts.length cap, .string ⟨#[]⟩, .slice none 0 0, .int .i64 0, .int .i64 0] 40))
  have HT : Hid (TwigsIn (w.alloc (.cells #[.slice a ts.length cap, .string ⟨#[]⟩, .slice none 0 0, .int .i64 0, .int .i64 0] 40)) S a ts) := h.same (fun b hb => hb1.out.block b (by omega))
  clear h
  go_enter Tryz.func5, Tryz.ntmps5
  go_wp2_with fail
  refine (pageFew_any HT.out (by simp; omega)).mono ?_
  rintro e w' ⟨⟨⟨r, rfl, hr⟩, h24⟩, hb⟩
  have HB : Hid (Below w.heap.size w w' ∧ (r = true → Few ts) ∧ (r = true → ts.length ≤ 24)) := ⟨hb1.out.trans (hb.mono (by simp)), hr, fun h => h24 (by rw [h])⟩
  clear hb hr h24
  go_wp2_with fail
  go_ret
  exact ⟨⟨⟨r, rfl, HB.out.2.1⟩, fun h => HB.out.2.2 (by cases h; rfl)⟩, HB.out.1⟩
end Go.Proofs.YtlfepdecgfcifaaGreatDoor
