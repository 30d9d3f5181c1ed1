/- The document's answer: what a reference's body stands for. -/
import Derived.Test.YtkaeenafejdkfaaGreatDoorM04
namespace Go.Proofs.YtkaeenafejdkfaaGreatDoor
open Go.RowKit

def nmA : Array ByteArray := #[⟨ampL.toArray⟩, ⟨ltL.toArray⟩, ⟨gtL.toArray⟩, ⟨quotL.toArray⟩, ⟨aposL.toArray⟩, ⟨nbspL.toArray⟩, ⟨shyL.toArray⟩, ⟨zwspL.toArray⟩]
def rnA : Array Int := #[38, 60, 62, 34, 39, 160, 173, 8203]

theorem drop_size (s : ByteArray) : s.data.toList.drop s.size = [] := List.drop_of_length_le (by simp)
theorem two_ret {i : Int} {n : Nat} (h : i = n) : Ending.returned (Value.tuple #[.int .i64 i, .bool true]) = .returned (.tuple #[.int .i64 ((some n).getD 0 : Nat), .bool (some n).isSome]) := by rw [h]; rfl
theorem ne_list {s : ByteArray} {l : List UInt8} (h : (⟨l.toArray⟩ : ByteArray) ≠ s) : s.data.toList ≠ l := fun e => h (by
  apply ByteArray.ext
  simp [← e])
theorem bodyR_rest {s : ByteArray} (h : ∀ j, j < 8 → nmA.getD j ⟨#[]⟩ ≠ s) : bodyR s.data.toList = bodyT s.data.toList := by
  unfold bodyR
  rw [if_neg (ne_list (h 0 (by omega))), if_neg (ne_list (h 1 (by omega))), if_neg (ne_list (h 2 (by omega))), if_neg (ne_list (h 3 (by omega))), if_neg (ne_list (h 4 (by omega))), if_neg (ne_list (h 5 (by omega))), if_neg (ne_list (h 6 (by omega))), if_neg (ne_list (h 7 (by omega)))]
theorem data_cons {s : ByteArray} (h : 1 < s.size) : s.data.toList = s[0] :: s[1] :: s.data.toList.drop 2 := by
  have h0 : 0 < s.data.toList.length := by simp; omega
  have h1 : 1 < s.data.toList.length := by simpa using h
  conv => lhs; rw [← List.drop_zero (l := s.data.toList), List.drop_eq_getElem_cons h0, List.drop_eq_getElem_cons h1]
  rfl
theorem bodyT_short {s : ByteArray} (h : s.size < 2) : bodyT s.data.toList = none := by
  have hl : s.data.toList.length < 2 := by simpa using h
  match hd : s.data.toList, hl with
  | [], _ => rfl
  | [a], _ => simp [bodyT]
theorem bodyT_no {s : ByteArray} (h : 1 < s.size) (h0 : s[0].toNat ≠ 35) : bodyT s.data.toList = none := by
  rw [data_cons h]
  have : s[0] ≠ 35 := fun e => h0 (by rw [e]; rfl)
  unfold bodyT
  split
  · rename_i heq
    simp at heq
    exact absurd heq.1 this
  · rfl
theorem bodyT_hex {s : ByteArray} (h : 1 < s.size) (h0 : s[0].toNat = 35) (h1 : s[1].toNat = 120 ∨ s[1].toNat = 88) : bodyT s.data.toList = numRef 16 (s.data.toList.drop 2) := by
  rw [data_cons h]
  have e0 : s[0] = 35 := UInt8.toNat_inj.mp h0
  have e1 : s[1] = 120 ∨ s[1] = 88 := by rcases h1 with h1 | h1; exact .inl (UInt8.toNat_inj.mp h1); exact .inr (UInt8.toNat_inj.mp h1)
  rw [e0]
  unfold bodyT
  simp [e1]
theorem bodyT_dec {s : ByteArray} (h : 1 < s.size) (h0 : s[0].toNat = 35) (h1 : s[1].toNat ≠ 120) (h2 : s[1].toNat ≠ 88) : bodyT s.data.toList = numRef 10 (s.data.toList.drop 1) := by
  have e0 : s[0] = 35 := UInt8.toNat_inj.mp h0
  have e1 : ¬ (s[1] = 120 ∨ s[1] = 88) := by rintro (e | e); exact h1 (by rw [e]; rfl); exact h2 (by rw [e]; rfl)
  have e2 : s.data.toList.drop 1 = s[1] :: s.data.toList.drop 2 := by rw [data_cons h]; rfl
  rw [e2, data_cons h, e0]
  unfold bodyT
  simp [e1]
/-- the document's answer stops reckoning at 2^24 -/
def CapR (x : Int) (m : Nat) : Prop := (m < 16777216 ∧ x = m) ∨ (16777216 ≤ m ∧ 16777216 ≤ x)
theorem capR_rune {x : Int} {m : Nat} (h : CapR x m) : (runeN m : Int) = if x = 0 ∨ 1114111 < x ∨ (55296 ≤ x ∧ x ≤ 57343) then 65533 else x := by
  unfold runeN
  rcases h with ⟨_, rfl⟩ | ⟨h1, h2⟩
  · split <;> rename_i g <;> (first | rw [if_pos (by omega)] | rw [if_neg (by omega)])
    rfl
  · rw [if_pos (by omega), if_pos (by omega)]
    rfl
theorem numL_step {base : Nat} {l : List UInt8} {k : Nat} {m : Nat} {d : Int} (h : k < l.length) (hd : digI l[k].toNat = d) (h0 : 0 ≤ d) (hb : d < base) : numL base (l.drop k) m = numL base (l.drop (k + 1)) (m * base + d.toNat) := by
  rw [List.drop_eq_getElem_cons h]
  conv => lhs; unfold numL
  rw [hd, if_neg (by omega)]
theorem numL_bad {base : Nat} {l : List UInt8} {k : Nat} {m : Nat} {d : Int} (h : k < l.length) (hd : digI l[k].toNat = d) (hb : d < 0 ∨ (base : Int) ≤ d) : numL base (l.drop k) m = none := by
  rw [List.drop_eq_getElem_cons h]
  unfold numL
  rw [hd, if_pos hb]
theorem numRef_some {base : Nat} {l : List UInt8} {m : Nat} (hl : l ≠ []) (h : numL base l 0 = some m) : numRef base l = some (runeN m) := by
  unfold numRef; rw [if_neg hl, h]; rfl
theorem numRef_none {base : Nat} {l : List UInt8} (hl : l ≠ []) (h : numL base l 0 = none) : numRef base l = none := by
  unfold numRef; rw [if_neg hl, h]; rfl
theorem rdigit_at (c : Nat) (d : Int) (hd : digI c = d) (w : World) : Calls Tryz.prog 131 #[.int .u8 c] w fun e w' => e = .returned (.int .i64 d) ∧ w' = w := by
  rw [← hd]; exact rdigit_any c w
theorem capR_grow {x : Int} {m base : Nat} {d : Int} (h : CapR x m) (hx : x < 16777216) (h0 : 0 ≤ d) : CapR (x * base + d) (m * base + d.toNat) := by
  rcases h with ⟨a, rfl⟩ | ⟨_, b⟩
  · unfold CapR
    have e : ((m : Int) * base + d) = ((m * base + d.toNat : Nat) : Int) := by rw [Int.natCast_add, Int.natCast_mul]; omega
    rw [e]
    omega
  · omega
theorem capR_stay {x : Int} {m base : Nat} {d : Int} (h : CapR x m) (hx : ¬ x < 16777216) (hb : 1 ≤ base) : CapR x (m * base + d.toNat) := by
  have h2 : m ≤ m * base := Nat.le_mul_of_pos_right m hb
  rcases h with ⟨a, rfl⟩ | ⟨a, b⟩
  · omega
  · exact .inr ⟨by omega, b⟩

set_option maxHeartbeats 8000000 in
set_option maxRecDepth 100000 in
theorem stands_any (s : ByteArray) (hs : s.size ≤ 100000) (w : World) :
    Calls Tryz.prog 105 #[.string s] w fun e w' => e = .returned (.tuple #[.int .i64 ((bodyR s.data.toList).getD 0 : Nat), .bool (bodyR s.data.toList).isSome]) ∧ Below w.heap.size w w' := by
  obtain ⟨r, hr⟩ : ∃ r, r = bodyR s.data.toList := ⟨_, rfl⟩
  rw [← hr]
  have HR := hid hr
  clear hr
  go_enter Tryz.func105, Tryz.ntmps105
  go_wp2
  generalize hw2 : (w.alloc _).alloc _ = w2
  have cn : ∀ k : Nat, k < 8 → w2.cell? ⟨w.heap.size, k, none⟩ = some (.string (nmA.getD k ⟨#[]⟩)) := by
    intro k hk
    subst hw2
    rw [World.cell?_alloc_lt _ _ ⟨w.heap.size, k, none⟩ (by simp), World.cell?_alloc_mark]
    match k, hk with
    | 0, _ | 1, _ | 2, _ | 3, _ | 4, _ | 5, _ | 6, _ | 7, _ => rfl
  have cr : ∀ k : Nat, k < 8 → w2.cell? ⟨w.heap.size + 1, k, none⟩ = some (.int .i64 (rnA.getD k 0)) := by
    intro k hk
    subst hw2
    have e : w.heap.size + 1 = (w.alloc (.cells #[.string ⟨#[97, 109, 112]⟩, .string ⟨#[108, 116]⟩, .string ⟨#[103, 116]⟩, .string ⟨#[113, 117, 111, 116]⟩, .string ⟨#[97, 112, 111, 115]⟩, .string ⟨#[110, 98, 115, 112]⟩, .string ⟨#[115, 104, 121]⟩, .string ⟨#[122, 119, 115, 112]⟩] 9)).heap.size := by simp
    rw [e, World.cell?_alloc_mark]
    match k, hk with
    | 0, _ | 1, _ | 2, _ | 3, _ | 4, _ | 5, _ | 6, _ | 7, _ => rfl
  have HB : Hid (Below w.heap.size w w2) := by
    subst hw2
    exact ((Below.refl _ _).alloc (Nat.le_refl _) _).alloc (by simp) _
  clear hw2
  go_loop [6] (fun iv => ∃ k : Nat, k ≤ 8 ∧ iv = .int .i64 k ∧ Hid (∀ j, j < k → nmA.getD j ⟨#[]⟩ ≠ s)) (fun iv => 8 - (intOf iv).toNat)
  case atStart => exact ⟨0, by omega, rfl, hid (fun j hj => absurd hj (by omega))⟩
  case round =>
    obtain ⟨k, hk, rfl, ha⟩ := hrel
    by_cases hlt : k < 8
    · have ck := cn k hlt
      have dk := cr k hlt
      by_cases he : nmA.getD k ⟨#[]⟩ = s
      · have H : Hid (r = some (rnA.getD k 0).toNat ∧ 0 ≤ rnA.getD k 0) := by
          rw [HR.out, ← he]
          match k, hlt with
          | 0, _ | 1, _ | 2, _ | 3, _ | 4, _ | 5, _ | 6, _ | 7, _ => exact ⟨by decide, by decide⟩
        rw [he] at ck
        obtain ⟨y, hy⟩ : ∃ y, rnA.getD k 0 = y := ⟨_, rfl⟩
        rw [hy] at dk H
        clear cn cr he
        go_wp2
        all_goals go_light
        go_ret2
        obtain ⟨h3, h4⟩ := H.out
        refine ⟨?_, HB.out⟩
        rw [h3]
        show Ending.returned (Value.tuple #[.int .i64 y, .bool true]) = Ending.returned (Value.tuple #[.int .i64 ((y.toNat : Nat) : Int), .bool true])
        rw [Int.toNat_of_nonneg h4]
      · have H : Hid (∀ j, j < k + 1 → nmA.getD j ⟨#[]⟩ ≠ s) := fun j hj => by
          by_cases hjk : j = k
          · subst hjk; exact he
          · exact ha.out j (by omega)
        obtain ⟨z, hz⟩ : ∃ z, nmA.getD k ⟨#[]⟩ = z := ⟨_, rfl⟩
        rw [hz] at ck he
        clear cn cr
        go_wp2
        all_goals go_light
        · rename_i h0 _
          exact absurd (toList_inj' (eq_of_beq h0)) he
        · refine ⟨⟨k + 1, by omega, by go_num, H⟩, ?_⟩
          simp [intOf]
          omega
    · have hke : k = 8 := by omega
      subst hke
      have HR1 := hid (HR.out.trans (bodyR_rest ha.out))
      clear cn cr HR ha
      by_cases h2 : s.size < 2
      · have H := hid (HR1.out.trans (bodyT_short h2))
        go_wp2
        go_ret2
        exact ⟨by rw [H.out]; rfl, HB.out⟩
      obtain ⟨c0, hc0⟩ : ∃ c, s[0].toNat = c := ⟨_, rfl⟩
      by_cases h35 : c0 = 35
      rotate_left
      · have H := hid (HR1.out.trans (bodyT_no (by omega) (by rw [hc0]; exact h35)))
        have h35' := cast_ne h35
        go_wp2
        all_goals go_light
        all_goals first
          | (go_ret2; exact ⟨by rw [H.out]; rfl, HB.out⟩)
          | (exfalso; rename_i hh _; simp at hh; omega)
          | (exfalso; rename_i hh; simp at hh; omega)
          | (exfalso; simp_all; done)
      subst h35
      obtain ⟨c1, hc1⟩ : ∃ c, s[1].toNat = c := ⟨_, rfl⟩
      by_cases hx : c1 = 120 ∨ c1 = 88
      · have HR2 := hid (HR1.out.trans (bodyT_hex (by omega) hc0 (by rw [hc1]; exact hx)))
        clear HR1
        by_cases h3 : s.size = 2
        · have H : Hid (r = none) := by
            show r = none
            rw [HR2.out, List.drop_of_length_le (by simp; omega)]
            rfl
          rcases hx with rfl | rfl
          all_goals go_wp2
          all_goals go_light
          all_goals first
            | (go_ret2; exact ⟨by rw [H.out]; rfl, HB.out⟩)
            | (exfalso; simp_all; done)
            | trace_state
        · have hne : s.data.toList.drop 2 ≠ [] := fun e => by
            have := congrArg List.length e
            simp at this
            omega
          rcases hx with rfl | rfl
          · go_wp2
            go_loop [9, 10] (fun nv iv => ∃ (k : Nat) (x : Int), 2 ≤ k ∧ k ≤ s.size ∧ iv = .int .i64 k ∧ nv = .int .i64 x ∧ 0 ≤ x ∧ x ≤ 268435471 ∧ Hid (∃ m, numL 16 (s.data.toList.drop 2) 0 = numL 16 (s.data.toList.drop k) m ∧ CapR x m)) (fun _ iv => s.size - (intOf iv).toNat)
            case atStart => exact ⟨2, 0, by omega, by omega, rfl, rfl, by omega, by omega, hid ⟨0, rfl, .inl ⟨by omega, rfl⟩⟩⟩
            case round =>
              obtain ⟨k, x, hak, hk, rfl, rfl, hx0, hx1, hm⟩ := hrel
              by_cases hlt : k < s.size
              · obtain ⟨c, hc⟩ : ∃ c, s[k].toNat = c := ⟨_, rfl⟩
                obtain ⟨d, hd⟩ : ∃ d, digI c = d := ⟨_, rfl⟩
                have hd1 : d < 16 := by rw [← hd]; exact digI_lt c
                have hll : k < s.data.toList.length := by simpa using hlt
                have hdl : digI s.data.toList[k].toNat = d := by rw [← hd, ← hc]; rfl
                by_cases hbad : d < 0 ∨ 16 ≤ d
                · have H : Hid (r = none) := by
                    obtain ⟨m, hm1, _⟩ := hm.out
                    show r = none
                    rw [HR2.out]
                    exact numRef_none hne (hm1.trans (numL_bad hll hdl hbad))
                  clear hdl hll
                  go_wp2_with (go_at_call 131; refine (rdigit_at c d hd _).mono ?_; rintro e w' ⟨rfl, rfl⟩)
                  all_goals go_light
                  all_goals first
                    | (go_ret2; exact ⟨by rw [H.out]; rfl, HB.out⟩)
                    | (exfalso; omega)
                · have hd0 : 0 ≤ d := by omega
                  have hdb : d < 16 := by omega
                  by_cases hcap : x < 16777216
                  · have H : Hid (∃ m, numL 16 (s.data.toList.drop 2) 0 = numL 16 (s.data.toList.drop (k + 1)) m ∧ CapR (x * 16 + d) m) := by
                      obtain ⟨m, hm1, hm2⟩ := hm.out
                      exact ⟨_, hm1.trans (numL_step hll hdl hd0 hdb), capR_grow hm2 hcap hd0⟩
                    clear hdl hll
                    go_wp2_with (go_at_call 131; refine (rdigit_at c d hd _).mono ?_; rintro e w' ⟨rfl, rfl⟩)
                    all_goals go_light
                    all_goals first
                      | (refine ⟨⟨k + 1, x * 16 + d, by omega, by omega, by go_num, rfl, by omega, by omega, H⟩, ?_⟩; simp [intOf]; omega)
                      | (exfalso; omega)
                  · have H : Hid (∃ m, numL 16 (s.data.toList.drop 2) 0 = numL 16 (s.data.toList.drop (k + 1)) m ∧ CapR x m) := by
                      obtain ⟨m, hm1, hm2⟩ := hm.out
                      exact ⟨_, hm1.trans (numL_step hll hdl hd0 hdb), capR_stay hm2 hcap (by omega)⟩
                    clear hdl hll
                    go_wp2_with (go_at_call 131; refine (rdigit_at c d hd _).mono ?_; rintro e w' ⟨rfl, rfl⟩)
                    all_goals go_light
                    all_goals first
                      | (refine ⟨⟨k + 1, x, by omega, by omega, by go_num, rfl, by omega, by omega, H⟩, ?_⟩; simp [intOf]; omega)
                      | (exfalso; omega)
              · have hke : k = s.size := by omega
                subst hke
                have H : Hid (∃ n : Nat, r = some n ∧ (n : Int) = if x = 0 ∨ 1114111 < x ∨ (55296 ≤ x ∧ x ≤ 57343) then 65533 else x) := by
                  obtain ⟨m, hm1, hm2⟩ := hm.out
                  rw [drop_size] at hm1
                  exact ⟨runeN m, by rw [HR2.out]; exact numRef_some hne hm1, capR_rune hm2⟩
                go_wp2
                all_goals go_light
                all_goals (obtain ⟨n, h1, h2⟩ := H.out)
                all_goals go_ret2
                all_goals (refine ⟨?_, HB.out⟩; rw [h1])
                all_goals refine two_ret ?_
                all_goals rw [h2]
                all_goals (clear h1 h2; split <;> (first | rfl | (exfalso; simp only [beq_iff_eq, beq_eq_false_iff_ne, ne_eq] at *; omega)))
          · go_wp2
            go_loop [9, 10] (fun nv iv => ∃ (k : Nat) (x : Int), 2 ≤ k ∧ k ≤ s.size ∧ iv = .int .i64 k ∧ nv = .int .i64 x ∧ 0 ≤ x ∧ x ≤ 268435471 ∧ Hid (∃ m, numL 16 (s.data.toList.drop 2) 0 = numL 16 (s.data.toList.drop k) m ∧ CapR x m)) (fun _ iv => s.size - (intOf iv).toNat)
            case atStart => exact ⟨2, 0, by omega, by omega, rfl, rfl, by omega, by omega, hid ⟨0, rfl, .inl ⟨by omega, rfl⟩⟩⟩
            case round =>
              obtain ⟨k, x, hak, hk, rfl, rfl, hx0, hx1, hm⟩ := hrel
              by_cases hlt : k < s.size
              · obtain ⟨c, hc⟩ : ∃ c, s[k].toNat = c := ⟨_, rfl⟩
                obtain ⟨d, hd⟩ : ∃ d, digI c = d := ⟨_, rfl⟩
                have hd1 : d < 16 := by rw [← hd]; exact digI_lt c
                have hll : k < s.data.toList.length := by simpa using hlt
                have hdl : digI s.data.toList[k].toNat = d := by rw [← hd, ← hc]; rfl
                by_cases hbad : d < 0 ∨ 16 ≤ d
                · have H : Hid (r = none) := by
                    obtain ⟨m, hm1, _⟩ := hm.out
                    show r = none
                    rw [HR2.out]
                    exact numRef_none hne (hm1.trans (numL_bad hll hdl hbad))
                  clear hdl hll
                  go_wp2_with (go_at_call 131; refine (rdigit_at c d hd _).mono ?_; rintro e w' ⟨rfl, rfl⟩)
                  all_goals go_light
                  all_goals first
                    | (go_ret2; exact ⟨by rw [H.out]; rfl, HB.out⟩)
                    | (exfalso; omega)
                · have hd0 : 0 ≤ d := by omega
                  have hdb : d < 16 := by omega
                  by_cases hcap : x < 16777216
                  · have H : Hid (∃ m, numL 16 (s.data.toList.drop 2) 0 = numL 16 (s.data.toList.drop (k + 1)) m ∧ CapR (x * 16 + d) m) := by
                      obtain ⟨m, hm1, hm2⟩ := hm.out
                      exact ⟨_, hm1.trans (numL_step hll hdl hd0 hdb), capR_grow hm2 hcap hd0⟩
                    clear hdl hll
                    go_wp2_with (go_at_call 131; refine (rdigit_at c d hd _).mono ?_; rintro e w' ⟨rfl, rfl⟩)
                    all_goals go_light
                    all_goals first
                      | (refine ⟨⟨k + 1, x * 16 + d, by omega, by omega, by go_num, rfl, by omega, by omega, H⟩, ?_⟩; simp [intOf]; omega)
                      | (exfalso; omega)
                  · have H : Hid (∃ m, numL 16 (s.data.toList.drop 2) 0 = numL 16 (s.data.toList.drop (k + 1)) m ∧ CapR x m) := by
                      obtain ⟨m, hm1, hm2⟩ := hm.out
                      exact ⟨_, hm1.trans (numL_step hll hdl hd0 hdb), capR_stay hm2 hcap (by omega)⟩
                    clear hdl hll
                    go_wp2_with (go_at_call 131; refine (rdigit_at c d hd _).mono ?_; rintro e w' ⟨rfl, rfl⟩)
                    all_goals go_light
                    all_goals first
                      | (refine ⟨⟨k + 1, x, by omega, by omega, by go_num, rfl, by omega, by omega, H⟩, ?_⟩; simp [intOf]; omega)
                      | (exfalso; omega)
              · have hke : k = s.size := by omega
                subst hke
                have H : Hid (∃ n : Nat, r = some n ∧ (n : Int) = if x = 0 ∨ 1114111 < x ∨ (55296 ≤ x ∧ x ≤ 57343) then 65533 else x) := by
                  obtain ⟨m, hm1, hm2⟩ := hm.out
                  rw [drop_size] at hm1
                  exact ⟨runeN m, by rw [HR2.out]; exact numRef_some hne hm1, capR_rune hm2⟩
                go_wp2
                all_goals go_light
                all_goals (obtain ⟨n, h1, h2⟩ := H.out)
                all_goals go_ret2
                all_goals (refine ⟨?_, HB.out⟩; rw [h1])
                all_goals refine two_ret ?_
                all_goals rw [h2]
                all_goals (clear h1 h2; split <;> (first | rfl | (exfalso; simp only [beq_iff_eq, beq_eq_false_iff_ne, ne_eq] at *; omega)))
      · have HR2 := hid (HR1.out.trans (bodyT_dec (by omega) hc0 (by rw [hc1]; omega) (by rw [hc1]; omega)))
        have hne : s.data.toList.drop 1 ≠ [] := fun e => by
            have := congrArg List.length e
            simp at this
            omega
        clear HR1
        have g1 := cast_ne (show c1 ≠ 120 by omega)
        have g2 := cast_ne (show c1 ≠ 88 by omega)
        have b1 : ((c1 : Int) == 120) = false := by rw [beq_eq_false_iff_ne]; omega
        have b2 : ((c1 : Int) == 88) = false := by rw [beq_eq_false_iff_ne]; omega
        go_wp2
        go_loop [9, 10] (fun nv iv => ∃ (k : Nat) (x : Int), 1 ≤ k ∧ k ≤ s.size ∧ iv = .int .i64 k ∧ nv = .int .i64 x ∧ 0 ≤ x ∧ x ≤ 268435471 ∧ Hid (∃ m, numL 10 (s.data.toList.drop 1) 0 = numL 10 (s.data.toList.drop k) m ∧ CapR x m)) (fun _ iv => s.size - (intOf iv).toNat)
        case atStart => exact ⟨1, 0, by omega, by omega, rfl, rfl, by omega, by omega, hid ⟨0, rfl, .inl ⟨by omega, rfl⟩⟩⟩
        case round =>
          obtain ⟨k, x, hak, hk, rfl, rfl, hx0, hx1, hm⟩ := hrel
          by_cases hlt : k < s.size
          · obtain ⟨c, hc⟩ : ∃ c, s[k].toNat = c := ⟨_, rfl⟩
            obtain ⟨d, hd⟩ : ∃ d, digI c = d := ⟨_, rfl⟩
            have hd1 : d < 16 := by rw [← hd]; exact digI_lt c
            have hll : k < s.data.toList.length := by simpa using hlt
            have hdl : digI s.data.toList[k].toNat = d := by rw [← hd, ← hc]; rfl
            by_cases hbad : d < 0 ∨ 10 ≤ d
            · have H : Hid (r = none) := by
                obtain ⟨m, hm1, _⟩ := hm.out
                show r = none
                rw [HR2.out]
                exact numRef_none hne (hm1.trans (numL_bad hll hdl hbad))
              clear hdl hll
              go_wp2_with (go_at_call 131; refine (rdigit_at c d hd _).mono ?_; rintro e w' ⟨rfl, rfl⟩)
              all_goals go_light
              all_goals first
                | (go_ret2; exact ⟨by rw [H.out]; rfl, HB.out⟩)
                | (exfalso; omega)
            · have hd0 : 0 ≤ d := by omega
              have hdb : d < 10 := by omega
              by_cases hcap : x < 16777216
              · have H : Hid (∃ m, numL 10 (s.data.toList.drop 1) 0 = numL 10 (s.data.toList.drop (k + 1)) m ∧ CapR (x * 10 + d) m) := by
                  obtain ⟨m, hm1, hm2⟩ := hm.out
                  exact ⟨_, hm1.trans (numL_step hll hdl hd0 hdb), capR_grow hm2 hcap hd0⟩
                clear hdl hll
                go_wp2_with (go_at_call 131; refine (rdigit_at c d hd _).mono ?_; rintro e w' ⟨rfl, rfl⟩)
                all_goals go_light
                all_goals first
                  | (refine ⟨⟨k + 1, x * 10 + d, by omega, by omega, by go_num, rfl, by omega, by omega, H⟩, ?_⟩; simp [intOf]; omega)
                  | (exfalso; omega)
              · have H : Hid (∃ m, numL 10 (s.data.toList.drop 1) 0 = numL 10 (s.data.toList.drop (k + 1)) m ∧ CapR x m) := by
                  obtain ⟨m, hm1, hm2⟩ := hm.out
                  exact ⟨_, hm1.trans (numL_step hll hdl hd0 hdb), capR_stay hm2 hcap (by omega)⟩
                clear hdl hll
                go_wp2_with (go_at_call 131; refine (rdigit_at c d hd _).mono ?_; rintro e w' ⟨rfl, rfl⟩)
                all_goals go_light
                all_goals first
                  | (refine ⟨⟨k + 1, x, by omega, by omega, by go_num, rfl, by omega, by omega, H⟩, ?_⟩; simp [intOf]; omega)
                  | (exfalso; omega)
          · have hke : k = s.size := by omega
            subst hke
            have H : Hid (∃ n : Nat, r = some n ∧ (n : Int) = if x = 0 ∨ 1114111 < x ∨ (55296 ≤ x ∧ x ≤ 57343) then 65533 else x) := by
              obtain ⟨m, hm1, hm2⟩ := hm.out
              rw [drop_size] at hm1
              exact ⟨runeN m, by rw [HR2.out]; exact numRef_some hne hm1, capR_rune hm2⟩
            go_wp2
            all_goals go_light
            all_goals (obtain ⟨n, h1, h2⟩ := H.out)
            all_goals go_ret2
            all_goals (refine ⟨?_, HB.out⟩; rw [h1])
            all_goals refine two_ret ?_
            all_goals rw [h2]
            all_goals (clear h1 h2; split <;> (first | rfl | (exfalso; simp only [beq_iff_eq, beq_eq_false_iff_ne, ne_eq] at *; omega)))
end Go.Proofs.YtkaeenafejdkfaaGreatDoor

/- A text with what its references stand for: step by step; what the document's answer looks for is what the program looks for. -/
namespace Go.Proofs.YtkaeenafejdkfaaGreatDoor

theorem refAt_pos {l : List UInt8} {r n : Nat} (h : refAt l = some (r, n)) : 1 ≤ n := by
  unfold refAt at h
  simp only at h
  split at h
  · cases hb : bodyR (l.takeWhile bodyB) with
    | none => rw [hb] at h; cases h
    | some x => rw [hb] at h; simp at h; omega
  · cases h
theorem meantL_fuel : ∀ (f g : Nat) (l : List UInt8), l.length ≤ f → l.length ≤ g → meantL f l = meantL g l
  | 0, g, l, h, _ => by
    obtain rfl : l = [] := List.eq_nil_of_length_eq_zero (by omega)
    cases g <;> rfl
  | f + 1, 0, l, _, h => by
    obtain rfl : l = [] := List.eq_nil_of_length_eq_zero (by omega)
    rfl
  | f + 1, g + 1, [], _, _ => rfl
  | f + 1, g + 1, c :: l, hf, hg => by
    simp only [List.length_cons] at hf hg
    unfold meantL
    split
    · split
      · rename_i r n hr
        rw [meantL_fuel f g (l.drop n) (by simp; omega) (by simp; omega)]
      · rw [meantL_fuel f g l (by omega) (by omega)]
    · rw [meantL_fuel f g l (by omega) (by omega)]
def meant (l : List UInt8) : List UInt8 := meantL l.length l
theorem meant_nil : meant [] = [] := rfl
theorem meant_plain {c : UInt8} {l : List UInt8} (h : c ≠ 38) : meant (c :: l) = c :: meant l := by
  show meantL (l.length + 1) (c :: l) = _
  unfold meantL
  rw [if_neg h]
  rfl
theorem meant_no {l : List UInt8} (h : refAt l = none) : meant (38 :: l) = 38 :: meant l := by
  show meantL (l.length + 1) (38 :: l) = _
  unfold meantL
  rw [if_pos rfl, h]
  rfl
theorem meant_ref {l : List UInt8} {r n : Nat} (h : refAt l = some (r, n)) : meant (38 :: l) = runeL r ++ meant (l.drop n) := by
  show meantL (l.length + 1) (38 :: l) = _
  unfold meantL
  rw [if_pos rfl, h]
  show runeL r ++ meantL l.length (l.drop n) = _
  rw [meantL_fuel l.length (l.drop n).length (l.drop n) (by simp) (Nat.le_refl _)]
  rfl

theorem dig_body {c : UInt8} (h : 0 ≤ digI c.toNat) : bodyB c = true := by
  unfold digI at h
  unfold bodyB alphaB
  simp only [Bool.or_eq_true, decide_eq_true_eq, beq_iff_eq]
  split at h
  · exact .inr (by omega)
  · split at h
    · exact .inl (.inl (by omega))
    · split at h
      · exact .inl (.inl (by omega))
      · omega
theorem numL_body (base : Nat) : ∀ (l : List UInt8) (n m : Nat), numL base l n = some m → l.all bodyB = true
  | [], _, _, _ => rfl
  | c :: l, n, m, h => by
    unfold numL at h
    split at h
    · cases h
    · rename_i hg
      rw [List.all_cons, dig_body (by omega), numL_body base l _ m h]
      rfl
theorem bodyT_body {l : List UInt8} {r : Nat} (h : bodyT l = some r) : l.all bodyB = true := by
  unfold bodyT at h
  split at h
  · rename_i c t
    split at h
    · rename_i hx
      unfold numRef at h
      split at h
      · cases h
      · cases hn : numL 16 t 0 with
        | none => rw [hn] at h; cases h
        | some m =>
          rw [List.all_cons, List.all_cons, numL_body 16 t 0 m hn]
          rcases hx with rfl | rfl <;> decide
    · unfold numRef at h
      rw [if_neg (by simp)] at h
      cases hn : numL 10 (c :: t) 0 with
      | none => rw [hn] at h; cases h
      | some m =>
        rw [List.all_cons, numL_body 10 (c :: t) 0 m hn]
        decide
  · cases h
theorem bodyR_body {l : List UInt8} {r : Nat} (h : bodyR l = some r) : l.all bodyB = true := by
  unfold bodyR at h
  iterate 8 (split at h; · rename_i e; subst e; decide)
  exact bodyT_body h
theorem takeWhile_take {l : List UInt8} {p : UInt8 → Bool} {j : Nat} (h1 : (l.take j).all p = true) (h2 : ∀ c, l[j]? = some c → p c = false) : l.takeWhile p = l.take j := by
  induction l generalizing j with
  | nil => simp
  | cons c l ih =>
    cases j with
    | zero =>
      have := h2 c (by simp)
      simp [this]
    | succ j =>
      simp only [List.take_succ_cons, List.all_cons, Bool.and_eq_true] at h1
      rw [List.takeWhile_cons, if_pos h1.1, List.take_succ_cons, ih h1.2 (fun d hd => h2 d (by simpa using hd))]
theorem mem_takeWhile_p {p : UInt8 → Bool} : ∀ {l : List UInt8} {x : UInt8}, x ∈ l.takeWhile p → p x = true
  | c :: l, x, h => by
    rw [List.takeWhile_cons] at h
    split at h
    · rename_i hc
      rcases List.mem_cons.1 h with rfl | h
      · exact hc
      · exact mem_takeWhile_p h
    · cases h
theorem semi_body : bodyB 59 = false := by decide
/-- the first `;` -/
theorem refAt_semi {l : List UInt8} {j : Nat} (hj : l[j]? = some 59) (hn : ∀ i, i < j → l[i]? ≠ some 59) : refAt l = (bodyR (l.take j)).map fun r => (r, j + 1) := by
  have hlt : j < l.length := (List.getElem?_eq_some_iff.1 hj).1
  have htl : (l.take j).length = j := by simp; omega
  cases hb : bodyR (l.take j) with
  | some r =>
    have e : l.takeWhile bodyB = l.take j := takeWhile_take (bodyR_body hb) (fun c hc => by rw [hj] at hc; obtain rfl := (Option.some.inj hc); exact semi_body)
    unfold refAt
    simp only [e, htl, hj, hb, if_true]
  | none =>
    unfold refAt
    simp only
    split
    · rename_i h59
      have hlen : (l.takeWhile bodyB).length = j := by
        rcases Nat.lt_trichotomy (l.takeWhile bodyB).length j with hlt2 | heq | hgt
        · exact absurd h59 (hn _ hlt2)
        · exact heq
        · exfalso
          have hp := List.takeWhile_prefix (p := bodyB) (l := l)
          obtain ⟨t, ht⟩ := hp
          have hmem : (l.takeWhile bodyB)[j]? = some 59 := by
            rw [← ht] at hj
            rw [List.getElem?_append_left hgt] at hj
            exact hj
          have hm2 : (59 : UInt8) ∈ l.takeWhile bodyB := List.mem_of_getElem? hmem
          have := mem_takeWhile_p hm2
          rw [semi_body] at this
          cases this
      have e : l.takeWhile bodyB = l.take j := by
        obtain ⟨t, ht⟩ := List.takeWhile_prefix (p := bodyB) (l := l)
        have : (l.takeWhile bodyB ++ t).take j = l.takeWhile bodyB := by rw [← hlen]; simp
        rw [ht] at this
        exact this.symm
      rw [e, hb]
      rfl
    · rfl
theorem refAt_none {l : List UInt8} (hn : ∀ i : Nat, l[i]? ≠ some 59) : refAt l = none := by
  unfold refAt
  simp only
  rw [if_neg (hn _)]
end Go.Proofs.YtkaeenafejdkfaaGreatDoor

/- The pieces of a markup as plain mathematics. -/
namespace Go.Proofs.YtkaeenafejdkfaaGreatDoor

def meantS (s : ByteArray) : ByteArray := ⟨(meant s.data.toList).toArray⟩
/-- a value at a place: with its strokes, or bare; and where it ends (beyond the text: nowhere) -/
def valP (s nm : ByteArray) (k : Nat) : ByteArray × ByteArray × Nat :=
  if bt s k = 34 ∨ bt s k = 39 then
    match findE (s.extract k (k + 1)) s (k + 1) with
    | some e => (nm, meantS (s.extract (k + 1) e), e + 1)
    | none => (nm, ⟨#[]⟩, s.size + 1)
  else (nm, meantS (s.extract k (spanE inValB s k)), spanE inValB s k)
theorem valP_hit {s nm : ByteArray} {k e : Nat} (h : bt s k = 34 ∨ bt s k = 39) (hf : findE (s.extract k (k + 1)) s (k + 1) = some e) : valP s nm k = (nm, meantS (s.extract (k + 1) e), e + 1) := by
  unfold valP; rw [if_pos h, hf]
theorem valP_miss {s nm : ByteArray} {k : Nat} (h : bt s k = 34 ∨ bt s k = 39) (hf : findE (s.extract k (k + 1)) s (k + 1) = none) : valP s nm k = (nm, ⟨#[]⟩, s.size + 1) := by
  unfold valP; rw [if_pos h, hf]
theorem valP_bare {s nm : ByteArray} {k : Nat} (h : ¬ (bt s k = 34 ∨ bt s k = 39)) : valP s nm k = (nm, meantS (s.extract k (spanE inValB s k)), spanE inValB s k) := by
  unfold valP; rw [if_neg h]
/-- an attribute at a place: its name, its value, where it ends (beyond the text: its value has no end) -/
def attrP (s : ByteArray) (i : Nat) : ByteArray × ByteArray × Nat :=
  let to := spanE inAttrB s (i + 1)
  let name := smallS (s.extract i to)
  let k := spanE blankB s to
  if bt s k = 61 then valP s name (spanE blankB s (k + 1)) else (name, ⟨#[]⟩, to)
/-- an end tag: where it ends, and its name; none: it has no end -/
def endP (s : ByteArray) (i : Nat) : Option (Nat × ByteArray) :=
  let to := spanE inTagB s (i + 2)
  match findE ⟨#[62]⟩ s to with
  | some k => some (k + 1, smallS (s.extract (i + 2) to))
  | none => none
end Go.Proofs.YtkaeenafejdkfaaGreatDoor

/- How far bytes of a sort go: each byte on the way; where it stops. -/
namespace Go.Proofs.YtkaeenafejdkfaaGreatDoor

theorem spanE_all (p : Nat → Bool) (s : ByteArray) (i k : Nat) (h1 : i ≤ k) (h2 : k < spanE p s i) : ∃ h : k < s.size, p s[k].toNat = true := by
  by_cases hi : i < s.size
  · cases hp : p s[i].toNat
    · rw [spanE_stop hi hp] at h2; omega
    · rw [spanE_step hi hp] at h2
      by_cases hk : k = i
      · subst hk; exact ⟨hi, hp⟩
      · exact spanE_all p s (i + 1) k (by omega) h2
  · rw [spanE_end (by omega)] at h2; omega
  termination_by s.size - i
/-- all that is known of where a sort stops -/
theorem spanE_is (p : Nat → Bool) (s : ByteArray) (i : Nat) (hi : i ≤ s.size) : ∃ e, spanE p s i = e ∧ i ≤ e ∧ e ≤ s.size ∧ (∀ k, i ≤ k → k < e → ∃ h : k < s.size, p s[k].toNat = true) ∧ (∀ h : e < s.size, p s[e].toNat = false) :=
  ⟨_, rfl, spanE_le p s i, spanE_size p s i hi, fun k h1 h2 => spanE_all p s i k h1 h2, fun h => spanE_none p s i h⟩
theorem inAttr_parts {c : Nat} : inAttrB c = true ↔ blankB c = false ∧ c ≠ 47 ∧ c ≠ 62 ∧ c ≠ 61 := by
  unfold inAttrB inTagB betwB
  simp
  constructor
  · rintro ⟨⟨⟨a, b⟩, c⟩, d⟩; exact ⟨a, b, c, d⟩
  · rintro ⟨a, b, c, d⟩; exact ⟨⟨⟨a, b⟩, c⟩, d⟩
theorem inAttr_no {c : Nat} (h : inAttrB c = false) : blankB c = true ∨ (blankB c = false ∧ (c = 47 ∨ c = 62 ∨ c = 61)) := by
  cases hb : blankB c
  · right
    refine ⟨rfl, ?_⟩
    have : ¬ inAttrB c = true := by rw [h]; simp
    rw [inAttr_parts] at this
    rcases Nat.decEq c 47 with h1 | h1
    · rcases Nat.decEq c 62 with h2 | h2
      · rcases Nat.decEq c 61 with h3 | h3
        · exact absurd ⟨hb, h1, h2, h3⟩ this
        · exact .inr (.inr h3)
      · exact .inr (.inl h2)
    · exact .inl h1
  · exact .inl rfl
theorem inVal_parts {c : Nat} : inValB c = true ↔ blankB c = false ∧ c ≠ 62 := by
  unfold inValB
  simp
theorem inVal_no {c : Nat} (h : inValB c = false) : blankB c = true ∨ (blankB c = false ∧ c = 62) := by
  cases hb : blankB c
  · right
    refine ⟨rfl, ?_⟩
    rcases Nat.decEq c 62 with h2 | h2
    · have : inValB c = true := inVal_parts.2 ⟨hb, h2⟩
      rw [h] at this; cases this
    · exact h2
  · exact .inl rfl
end Go.Proofs.YtkaeenafejdkfaaGreatDoor

/- The program: bytes of a sort; digits. -/
namespace Go.Proofs.YtkaeenafejdkfaaGreatDoor
open Go.RowKit

theorem pblank_any (c : Nat) (w : World) : Calls Tryz.prog 174 #[.int .u8 c] w fun e w' => e = .returned (.bool (blankB c)) ∧ w' = w := by
  go_enter Tryz.func174, Tryz.ntmps174
  go_wp2
  all_goals go_ret
  all_goals refine ⟨retb ?_, rfl⟩
  all_goals (rw [Bool.eq_iff_iff]; unfold blankB; simp; try omega)
theorem pletter_any (c : Nat) (w : World) : Calls Tryz.prog 156 #[.int .u8 c] w fun e w' => e = .returned (.bool (alphaB c)) ∧ w' = w := by
  go_enter Tryz.func156, Tryz.ntmps156
  go_wp2
  all_goals go_ret
  all_goals refine ⟨retb ?_, rfl⟩
  all_goals (rw [Bool.eq_iff_iff]; unfold alphaB; simp; try omega)
theorem pbetw_any (c : Nat) (w : World) : Calls Tryz.prog 161 #[.int .u8 c] w fun e w' => e = .returned (.bool (betwB c)) ∧ w' = w := by
  go_enter Tryz.func161, Tryz.ntmps161
  cases hq : blankB c
  all_goals go_wp2_with (go_at_call 174; refine (pblank_any c _).mono ?_; rintro e w' ⟨rfl, rfl⟩; rw [hq])
  all_goals go_ret
  all_goals refine ⟨retb ?_, rfl⟩
  all_goals (rw [Bool.eq_iff_iff]; unfold betwB; simp [hq]; try omega)
theorem pinTag_any (c : Nat) (w : World) : Calls Tryz.prog 160 #[.int .u8 c] w fun e w' => e = .returned (.bool (inTagB c)) ∧ w' = w := by
  go_enter Tryz.func160, Tryz.ntmps160
  cases hq : betwB c
  all_goals go_wp2_with (go_at_call 161; refine (pbetw_any c _).mono ?_; rintro e w' ⟨rfl, rfl⟩; rw [hq])
  all_goals go_ret
  all_goals refine ⟨retb ?_, rfl⟩
  all_goals (rw [Bool.eq_iff_iff]; unfold inTagB; simp [hq]; try omega)
theorem pinAttr_any (c : Nat) (w : World) : Calls Tryz.prog 175 #[.int .u8 c] w fun e w' => e = .returned (.bool (inAttrB c)) ∧ w' = w := by
  go_enter Tryz.func175, Tryz.ntmps175
  cases hq : inTagB c
  all_goals go_wp2_with (go_at_call 160; refine (pinTag_any c _).mono ?_; rintro e w' ⟨rfl, rfl⟩; rw [hq])
  all_goals go_ret
  all_goals refine ⟨retb ?_, rfl⟩
  all_goals (rw [Bool.eq_iff_iff]; unfold inAttrB; simp [hq]; try omega)
theorem pinVal_any (c : Nat) (w : World) : Calls Tryz.prog 184 #[.int .u8 c] w fun e w' => e = .returned (.bool (inValB c)) ∧ w' = w := by
  go_enter Tryz.func184, Tryz.ntmps184
  cases hq : blankB c
  all_goals go_wp2_with (go_at_call 174; refine (pblank_any c _).mono ?_; rintro e w' ⟨rfl, rfl⟩; rw [hq])
  all_goals go_ret
  all_goals refine ⟨retb ?_, rfl⟩
  all_goals (rw [Bool.eq_iff_iff]; unfold inValB; simp [hq]; try omega)
/-- a digit's worth; 16: it is none -/
def digP (c : Nat) : Int := if digI c < 0 then 16 else digI c
set_option maxHeartbeats 4000000 in
set_option maxRecDepth 100000 in
theorem pdigit_any (c : Nat) (w : World) : Calls Tryz.prog 189 #[.int .u8 c] w fun e w' => e = .returned (.int .i64 (digP c)) ∧ w' = w := by
  obtain ⟨r, hr⟩ : ∃ r, r = digP c := ⟨_, rfl⟩
  rw [← hr]
  have HR := hid hr
  clear hr
  go_enter Tryz.func189, Tryz.ntmps189
  go_wp2
  all_goals go_light
  all_goals go_ret
  all_goals (refine ⟨retn ?_, rfl⟩; rw [HR.out]; unfold digP digI)
  all_goals (first | (split <;> (try split) <;> (try split) <;> (try split) <;> omega) | (simp_all; omega))
end Go.Proofs.YtkaeenafejdkfaaGreatDoor
