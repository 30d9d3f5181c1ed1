/- The document's turn: the number that a text tells, from its sign on. -/
import Derived.Test.YtlfepdecgfcifaaGreatDoorM20
import Derived.Test.YtlfepdecgfcifaaGreatDoorM05
namespace Go.Proofs.YtlfepdecgfcifaaGreatDoor
open Go.RowKit
set_option linter.unusedVariables false
attribute [local go_sem] Oper.semAt_some

def restE : Nat → Code → Code
  | 0, c => c
  | n + 1, .seq _ c => restE n c
  | _, c => c
def bodyE (f : Func) : Code := match f.body with | some c => c | none => .skip
/-- the number that digits tell, behind a sign or none -/
def numD (d : List UInt8) (neg : Bool) : Int :=
  if d.length < 1 ∨ 9 < d.length then -1
  else match Lib.decFrom 0 d with
    | some v => if neg = true ∧ 0 < v then -1 else v
    | none => -1
theorem numQ_numD (l : List UInt8) : numQ l = numD (unsg l) (negB l) := rfl
theorem dig_lt {acc v : Nat} {l : List UInt8} (h : Lib.decFrom acc l = some v) (hl : l.length ≤ 9) (ha : acc = 0) : v < 1000000000 := by
  subst ha
  have h1 := Lib.decFrom_lt _ _ _ h
  have : 10 ^ l.length ≤ 10 ^ 9 := Nat.pow_le_pow_right (by omega) hl
  omega

set_option maxHeartbeats 8000000 in
set_option maxRecDepth 100000 in
theorem turn_tail {w5 : World} (d : ByteArray) (neg : Bool) (Q : Ending → World → Prop) (hQ : Q (.returned (.int .i64 (numD d.data.toList neg))) w5) {u0 u1 u2 u3 u4 u5 u6 u9 u10 u11 u12 u13 u14 u15 u16 u17 u18 u19 u20 u21 u22 u23 u24 u25 u26 u27 u28 u29 u30 u31 u32 u33 u34 u35 u36 u37 u38 u39 u40 u41 u42 u43 u44 u45 u46 u47 u48 u49 u50 u51 u52 u53 u54 u55 u56 u57 u58 u59 u60 u61 u62 u63 u64 u65 u66 u67 u68 u69 u70 u71 u72 u73 u74 u75 u76 u77 u78 u79 u80 u81 u82 u83 u84 u85 u86 u87 u88 u89 u90 u91 u92 u93 u94 u95 u96 u97 u98 u99 u100 u101 u102 u103 u104 u105 u106 u107 u108 : Value} :
    Code.wp Tryz.prog (restE 8 (bodyE Tryz.f37)) (bodyPost Tryz.prog Tryz.f37 Q) { tmps := #[u0, u1, u2, u3, u4, u5, u6, .string d, .bool neg, u9, u10, u11, u12, u13, u14, u15, u16, u17, u18, u19, u20, u21, u22, u23, u24, u25, u26, u27, u28, u29, u30, u31, u32, u33, u34, u35, u36, u37, u38, u39, u40, u41, u42, u43, u44, u45, u46, u47, u48, u49, u50, u51, u52, u53, u54, u55, u56, u57, u58, u59, u60, u61, u62, u63, u64, u65, u66, u67, u68, u69, u70, u71, u72, u73, u74, u75, u76, u77, u78, u79, u80, u81, u82, u83, u84, u85, u86, u87, u88, u89, u90, u91, u92, u93, u94, u95, u96, u97, u98, u99, u100, u101, u102, u103, u104, u105, u106, u107, u108], defers := [] } w5 := by
  have HQ := hidF hQ
  clear hQ
  have hsz := Lib.size_eq d
  obtain ⟨l, hl⟩ : ∃ l, d.data.toList = l := ⟨_, rfl⟩
  rw [hl] at hsz HQ
  have HL := hidF hl
  clear hl
  conv => arg 2; dsimp only [restE, bodyE, Tryz.f37]
  conv => arg 4; dsimp only
  by_cases h1 : d.size < 1
  · have h1' : (d.size : Int) < 1 := by omega
    have e : numD l neg = -1 := by unfold numD; rw [if_pos (.inl (by omega))]
    rw [e] at HQ
    go_wp2_with fail
    all_goals exact HQ.out
  by_cases h9 : 9 < d.size
  · have h9' : (9 : Int) < (d.size : Int) := by omega
    have h1' : ¬ (d.size : Int) < 1 := by omega
    have e : numD l neg = -1 := by unfold numD; rw [if_pos (.inr (by omega))]
    rw [e] at HQ
    go_wp2_with fail
    all_goals exact HQ.out
  have h1' : ¬ (d.size : Int) < 1 := by omega
  have h9' : ¬ (9 : Int) < (d.size : Int) := by omega
  go_wp2_with fail
  go_loopw [10, 9] (fun jv nv wr => ∃ (j v : Nat), j ≤ d.size ∧ jv = .int .i64 j ∧ nv = .int .i64 v ∧ Lib.decFrom 0 (l.take j) = some v ∧ wr = w5) (fun jv _ _ => d.size - (intOf jv).toNat)
  case atStart => exact ⟨0, 0, by omega, rfl, rfl, rfl, rfl⟩
  case round =>
    obtain ⟨j, v, hj, rfl, rfl, hv, hw⟩ := hrel
    rw [hw]
    have hvb := dig_lt hv (by simp; omega) rfl
    have HV := hidF hv
    clear hv
    by_cases hjl : j < d.size
    · have hjl' : (j : Int) < (d.size : Int) := by omega
      obtain ⟨b, hb⟩ : ∃ b, l[j]? = some b := ⟨_, List.getElem?_eq_getElem (by omega)⟩
      have hdb : d[j] = b := by
        have h2 : d.data.toList[j]? = some b := by rw [HL.out]; exact hb
        rw [Array.getElem?_toList] at h2
        exact (Array.getElem?_eq_some_iff.1 h2).2
      by_cases hd : 48 ≤ b.toNat ∧ b.toNat ≤ 57
      · have g1 : ¬ (b.toNat : Int) < 48 := by omega
        have g2 : ¬ (57 : Int) < (b.toNat : Int) := by omega
        have hdv : Lib.digitVal b = some (b.toNat - 48) := by unfold Lib.digitVal; rw [if_pos hd]
        have HN := hidF (Lib.decFrom_take l j 0 v b _ HV.out hb hdv)
        clear hb hdv
        go_wp2_with fail
        go_roundw
        case rel => exact ⟨j + 1, v * 10 + (b.toNat - 48), by omega, by go_num, by first | (congr 1; omega) | go_num, HN.out, trivial⟩
        case measure => simp [intOf]; omega
      · have e : numD l neg = -1 := by
          unfold numD
          rw [if_neg (by omega)]
          cases hv : Lib.decFrom 0 l with
          | none => rfl
          | some q =>
            exfalso
            have := all_decFrom hv b (List.mem_of_getElem? hb)
            rw [digs_val] at this
            unfold Lib.digitVal at this
            rw [if_neg hd] at this
            cases this
        rw [e] at HQ
        clear hb e
        by_cases g1 : (b.toNat : Int) < 48
        · go_wp2_with fail
          all_goals exact HQ.out
        · have g2 : (57 : Int) < (b.toNat : Int) := by omega
          go_wp2_with fail
          all_goals exact HQ.out
    · obtain rfl : j = d.size := by omega
      have hta : l.take d.size = l := List.take_of_length_le (by omega)
      have hv := HV.out
      rw [hta] at hv
      have e : numD l neg = if neg = true ∧ 0 < v then -1 else (v : Int) := by
        unfold numD
        rw [if_neg (by omega), hv]
      rw [e] at HQ
      clear hv e
      cases neg
      · rw [if_neg (by simp)] at HQ
        go_wp2_with fail
        all_goals exact HQ.out
      · by_cases hv0 : 0 < v
        · have hv0' : (0 : Int) < (v : Int) := by omega
          rw [if_pos ⟨rfl, hv0⟩] at HQ
          go_wp2_with fail
          all_goals exact HQ.out
        · have hv0' : ¬ (0 : Int) < (v : Int) := by omega
          rw [if_neg (fun q => hv0 q.2)] at HQ
          go_wp2_with fail
          all_goals exact HQ.out
end Go.Proofs.YtlfepdecgfcifaaGreatDoor

/- The document's turn, walked. -/
namespace Go.Proofs.YtlfepdecgfcifaaGreatDoor
open Go.RowKit
set_option linter.unusedVariables false
attribute [local go_sem] Oper.semAt_some

theorem findI_neg {n : Nd} {name : ByteArray} (h : hasN n name = false) : findI n.attrs name = -1 := by
  unfold hasN findI at *
  cases hf : findA n.attrs name with
  | none => rfl
  | some k => rw [hf] at h; simp at h
theorem findI_pos {n : Nd} {name : ByteArray} (h : hasN n name = true) : ∃ (k : Nat) (x : ByteArray × ByteArray), findI n.attrs name = (k : Int) ∧ n.attrs[k]? = some x ∧ attrN n name = (x.2, true) ∧ k < n.attrs.length := by
  unfold hasN findI at *
  unfold attrN
  cases hf : findA n.attrs name with
  | none => rw [hf] at h; simp at h
  | some k =>
    have hk := findA_lt hf
    exact ⟨k, n.attrs[k], rfl, List.getElem?_eq_getElem hk, by simp only [List.getElem?_eq_getElem hk, Option.getD_some], hk⟩

set_option maxHeartbeats 16000000 in
set_option maxRecDepth 100000 in
theorem turnQ_any {W : World} {M : Nat → Lab} {B : Nat} {nv uv : Value} {ps : List Pn} {us : List Value} (h : RLies W M B nv uv ps us) {i : Nat} {p : Pn} (hp : ps[i]? = some p) :
    Calls Tryz.prog 37 #[.agg #[nv, uv], .int .i64 i] W fun e w' => e = .returned (.int .i64 (turnQ p.n)) ∧ Below W.heap.size W w' := by
  obtain ⟨nb, cap, rfl, hc1, hc2, _, hnb, hi⟩ := h.form hp
  obtain ⟨ua, un, uc, huv⟩ : ∃ a n c, uv = .slice a n c := by
    obtain ⟨_, a, c, e, _⟩ := h.undos
    exact ⟨a, _, c, e⟩
  subst huv
  obtain ⟨ka, kc, hkv, _, _⟩ := (h.node i p hp).1.shape
  obtain ⟨da, dc, hdv, _, _⟩ := (h.node i p hp).2.shape
  have c0 := (h.cellN rfl (f := 0) hp (by omega) rfl).1
  have c1 := (h.cellN rfl (f := 1) hp (by omega) rfl).1
  have c2 := (h.cellN rfl (f := 2) hp (by omega) rfl).1
  have c3 := (h.cellN rfl (f := 3) hp (by omega) rfl).1
  have c4 := (h.cellN rfl (f := 4) hp (by omega) rfl).1
  have c5 := (h.cellN rfl (f := 5) hp (by omega) rfl).1
  have hrow := (h.node i p hp).1
  rw [hkv] at c3 hrow
  rw [hdv] at c5
  unfold maxLen at hc2
  have hi' : (i : Int) < (ps.length : Int) := by omega
  have hB2 : Below W.heap.size W ((W.alloc (.cells #[.slice (some ⟨nb, 0, none⟩) ps.length cap, .slice ua un uc] 29)).alloc (.cells #[.int .i64 p.n.kind, .string p.n.tag, .string p.n.words, .slice ka p.n.attrs.length kc, .int .i64 p.n.parent, .slice da p.n.kids.length dc] 62)) := ((Below.refl _ W).alloc (Nat.le_refl _) _).alloc (by simp) _
  have HAT : Hid (∀ name, Calls Tryz.prog 60 #[.slice ka p.n.attrs.length kc, .string name] ((W.alloc (.cells #[.slice (some ⟨nb, 0, none⟩) ps.length cap, .slice ua un uc] 29)).alloc (.cells #[.int .i64 p.n.kind, .string p.n.tag, .string p.n.words, .slice ka p.n.attrs.length kc, .int .i64 p.n.parent, .slice da p.n.kids.length dc] 62)) fun e w' => e = .returned (.int .i64 (findI p.n.attrs name)) ∧ w' = ((W.alloc (.cells #[.slice (some ⟨nb, 0, none⟩) ps.length cap, .slice ua un uc] 29)).alloc (.cells #[.int .i64 p.n.kind, .string p.n.tag, .string p.n.words, .slice ka p.n.attrs.length kc, .int .i64 p.n.parent, .slice da p.n.kids.length dc] 62))) := fun name => at_any (hrow.keep (fun b hb _ => hB2.block b hb) (fun _ _ => rfl)) name
  have HB2 := hidF hB2
  have HROW := hidF hrow
  obtain ⟨n, hn⟩ : ∃ n, p.n = n := ⟨_, rfl⟩
  rw [hn] at c0 c1 c2 c3 c4 c5 HAT HB2 HROW ⊢
  have w1c : ∀ (j : Nat) (v : Value), W.cell? ⟨nb, j, none⟩ = some v → (W.alloc (.cells #[.slice (some ⟨nb, 0, none⟩) ps.length cap, .slice ua un uc] 29)).cell? ⟨nb, j, none⟩ = some v := fun j v hv => (World.cell?_of_block (a := ⟨nb, j, none⟩) (Below.heap_alloc W _ _ hnb)).trans hv
  have c0 := w1c _ _ c0
  rw [Nat.add_zero] at c0
  have c1 := w1c _ _ c1
  have c2 := w1c _ _ c2
  have c3 := w1c _ _ c3
  have c4 := w1c _ _ c4
  have c5 := w1c _ _ c5
  clear h hp hrow hB2 hkv hdv hn w1c
  have hmx : Tryz.prog.follows Departure.mixedOrders = true := by kernel_rfl
  unfold turnQ
  by_cases hk : ¬ n.kind = 2
  · rw [if_pos (.inl hk)]
    have hk' : (n.kind != 2) = true := by simpa using hk
    go_enter Tryz.func37, Tryz.ntmps37
    go_wp2_with fail
    all_goals go_returns
    all_goals exact ⟨rfl, HB2.out⟩
  have hk := Classical.not_not.1 hk
  rw [hk] at HAT c0 HB2
  by_cases hd : hasN n ⟨#[100, 105, 115, 97, 98, 108, 101, 100]⟩ = true
  · rw [if_pos (.inr hd)]
    obtain ⟨k, x, e1, e2, e3, e4⟩ := findI_pos hd
    have A1 := hidF (HAT.out ⟨#[100, 105, 115, 97, 98, 108, 101, 100]⟩)
    rw [e1] at A1
    have hk0 : (0 : Int) ≤ (k : Int) := by omega
    clear e1 e2 e3 hd
    go_enter Tryz.func37, Tryz.ntmps37
    go_wp2_with fail
    refine A1.out.mono ?_
    rintro e w' ⟨rfl, hw'⟩
    rw [hw']
    go_wp2_with fail
    all_goals go_returns
    all_goals exact ⟨rfl, HB2.out⟩
  have A1 := hidF (HAT.out ⟨#[100, 105, 115, 97, 98, 108, 101, 100]⟩)
  have hd := Bool.eq_false_iff.2 hd
  rw [findI_neg hd] at A1
  rw [hd, if_neg (by rintro (q | q); exact q hk; cases q)]
  clear hd
  cases ht : hasN n ⟨#[116, 97, 98, 105, 110, 100, 101, 120]⟩
  · rw [if_pos rfl]
    have A2 := hidF (HAT.out ⟨#[116, 97, 98, 105, 110, 100, 101, 120]⟩)
    rw [findI_neg ht] at A2
    clear ht
    have post : ∀ v : Int, (if takesN n = true then 0 else -1) = v → Calls Tryz.prog 37 #[.agg #[.slice (some ⟨nb, 0, none⟩) ps.length cap, .slice ua un uc], .int .i64 i] W fun e w' => e = .returned (.int .i64 v) ∧ Below W.heap.size W w' := by
      intro v hv
      by_cases h1 : n.tag = ⟨#[98, 117, 116, 116, 111, 110]⟩
      · have e : takesN n = true := by unfold takesN; rw [if_pos (show n.tag = ⟨#[98, 117, 116, 116, 111, 110]⟩ ∨ n.tag = ⟨#[105, 110, 112, 117, 116]⟩ ∨ n.tag = ⟨#[115, 101, 108, 101, 99, 116]⟩ from .inl h1)]
        rw [e, if_pos rfl] at hv
        subst hv
        rw [h1] at HAT A1 A2 c1 HB2
        clear e h1 
        go_enter Tryz.func37, Tryz.ntmps37
        go_wp2_with fail
        refine A1.out.mono ?_
        rintro e w' ⟨rfl, hw'⟩
        rw [hw']
        go_wp2_with fail
        refine A2.out.mono ?_
        rintro e w' ⟨rfl, hw'⟩
        rw [hw']
        go_wp2_with fail
        all_goals go_returns
        all_goals exact ⟨rfl, HB2.out⟩
      by_cases h2 : n.tag = ⟨#[105, 110, 112, 117, 116]⟩
      · have e : takesN n = true := by unfold takesN; rw [if_pos (show n.tag = ⟨#[98, 117, 116, 116, 111, 110]⟩ ∨ n.tag = ⟨#[105, 110, 112, 117, 116]⟩ ∨ n.tag = ⟨#[115, 101, 108, 101, 99, 116]⟩ from .inr (.inl h2))]
        rw [e, if_pos rfl] at hv
        subst hv
        rw [h2] at HAT A1 A2 c1 HB2
        clear e h2 h1
        go_enter Tryz.func37, Tryz.ntmps37
        go_wp2_with fail
        refine A1.out.mono ?_
        rintro e w' ⟨rfl, hw'⟩
        rw [hw']
        go_wp2_with fail
        refine A2.out.mono ?_
        rintro e w' ⟨rfl, hw'⟩
        rw [hw']
        go_wp2_with fail
        all_goals go_returns
        all_goals exact ⟨rfl, HB2.out⟩
      by_cases h3 : n.tag = ⟨#[115, 101, 108, 101, 99, 116]⟩
      · have e : takesN n = true := by unfold takesN; rw [if_pos (show n.tag = ⟨#[98, 117, 116, 116, 111, 110]⟩ ∨ n.tag = ⟨#[105, 110, 112, 117, 116]⟩ ∨ n.tag = ⟨#[115, 101, 108, 101, 99, 116]⟩ from .inr (.inr h3))]
        rw [e, if_pos rfl] at hv
        subst hv
        rw [h3] at HAT A1 A2 c1 HB2
        clear e h3 h1 h2
        go_enter Tryz.func37, Tryz.ntmps37
        go_wp2_with fail
        refine A1.out.mono ?_
        rintro e w' ⟨rfl, hw'⟩
        rw [hw']
        go_wp2_with fail
        refine A2.out.mono ?_
        rintro e w' ⟨rfl, hw'⟩
        rw [hw']
        go_wp2_with fail
        all_goals go_returns
        all_goals exact ⟨rfl, HB2.out⟩
      have f1 : (n.tag.toList == [98, 117, 116, 116, 111, 110]) = false := neT h1
      have f2 : (n.tag.toList == [105, 110, 112, 117, 116]) = false := neT h2
      have f3 : (n.tag.toList == [115, 101, 108, 101, 99, 116]) = false := neT h3
      have hnt : ¬ (n.tag = ⟨#[98, 117, 116, 116, 111, 110]⟩ ∨ n.tag = ⟨#[105, 110, 112, 117, 116]⟩ ∨ n.tag = ⟨#[115, 101, 108, 101, 99, 116]⟩) := by rintro (q | q | q); exact h1 q; exact h2 q; exact h3 q
      by_cases h4 : n.tag = ⟨#[97]⟩
      · have A3 := hidF (HAT.out ⟨#[104, 114, 101, 102]⟩)
        have e : takesN n = hasN n ⟨#[104, 114, 101, 102]⟩ := by unfold takesN; rw [if_neg hnt, if_pos h4, hasN_attr]
        rw [e] at hv
        have HT := hidF h4
        rw [h4] at A1 A2 A3 c1 HB2
        clear f1 f2 f3 e h1 h2 h3 h4 hnt
        by_cases hq : hasN n ⟨#[104, 114, 101, 102]⟩ = true
        · rw [if_pos hq] at hv
          subst hv
          obtain ⟨k, x, e1, e2, e3, e4⟩ := findI_pos hq
          rw [e1] at A3
          have hk0 : (0 : Int) ≤ (k : Int) := by omega
          clear e1 e2 e3 hq
          go_enter Tryz.func37, Tryz.ntmps37
          go_wp2_with fail
          refine A1.out.mono ?_
          rintro e w' ⟨rfl, hw'⟩
          rw [hw']
          go_wp2_with fail
          refine A2.out.mono ?_
          rintro e w' ⟨rfl, hw'⟩
          rw [hw']
          go_wp2_with fail
          refine A3.out.mono ?_
          rintro e w' ⟨rfl, hw'⟩
          rw [hw']
          go_wp2_with fail
          all_goals go_returns
          all_goals exact ⟨rfl, HB2.out⟩
        · rw [if_neg hq] at hv
          subst hv
          rw [findI_neg (Bool.eq_false_iff.2 hq)] at A3
          clear hq
          go_enter Tryz.func37, Tryz.ntmps37
          go_wp2_with fail
          refine A1.out.mono ?_
          rintro e w' ⟨rfl, hw'⟩
          rw [hw']
          go_wp2_with fail
          refine A2.out.mono ?_
          rintro e w' ⟨rfl, hw'⟩
          rw [hw']
          go_wp2_with fail
          refine A3.out.mono ?_
          rintro e w' ⟨rfl, hw'⟩
          rw [hw']
          go_wp2_with fail
          all_goals go_returns
          all_goals exact ⟨rfl, HB2.out⟩
      · have f4 : (n.tag.toList == [97]) = false := neT h4
        have e : takesN n = false := by unfold takesN; rw [if_neg hnt, if_neg h4]
        rw [e, if_neg (by simp)] at hv
        subst hv
        clear h1 h2 h3 h4 hnt e
        go_enter Tryz.func37, Tryz.ntmps37
        go_wp2_with fail
        refine A1.out.mono ?_
        rintro e w' ⟨rfl, hw'⟩
        rw [hw']
        go_wp2_with fail
        refine A2.out.mono ?_
        rintro e w' ⟨rfl, hw'⟩
        rw [hw']
        go_wp2_with fail
        all_goals go_returns
        all_goals exact ⟨rfl, HB2.out⟩
    exact post _ rfl
  · rw [if_neg (by simp)]
    obtain ⟨k, x, e1, e2, e3, e4⟩ := findI_pos ht
    have A2 := hidF (HAT.out ⟨#[116, 97, 98, 105, 110, 100, 101, 120]⟩)
    rw [e1] at A2
    have hv : valN n ⟨#[116, 97, 98, 105, 110, 100, 101, 120]⟩ = x.2 := by unfold valN; rw [e3]
    rw [hv]
    obtain ⟨s, hs⟩ : ∃ s, x.2 = s := ⟨_, rfl⟩
    rw [hs]
    have hk0 : (0 : Int) ≤ (k : Int) := by omega
    have hkn : (k : Int) < (n.attrs.length : Int) := by omega
    obtain ⟨ka', kc', hsh, hat⟩ := HROW.out.attrsAt
    cases hsh
    obtain ⟨g, hg1, d0, d1⟩ := hat k x e2
    subst hg1
    rw [hs] at d1
    have hgl : g < W.heap.size := World.block_lt_of_cell? W ⟨g, _, none⟩ d1
    have d2 := (HB2.out.cell (p := ⟨g, k * 2 + 1, none⟩) hgl).trans d1
    clear e1 e2 e3 ht hv hs hat d0
    have main : ∀ v : Int, numQ s.data.toList = v → Calls Tryz.prog 37 #[.agg #[.slice (some ⟨nb, 0, none⟩) ps.length cap, .slice ua un uc], .int .i64 i] W fun e w' => e = .returned (.int .i64 v) ∧ Below W.heap.size W w' := by
      intro v hv
      rw [numQ_numD] at hv
      have hsz := Lib.size_eq s
      cases hl : s.data.toList with
      | nil =>
        have hs0 : s.size = 0 := by rw [hsz, hl]; rfl
        rw [hl] at hv
        have hv' : v = -1 := hv.symm
        subst hv'
        have hse : s = ⟨#[]⟩ := by rw [← Lib.mk_data s, hl]
        subst hse
        have HX : Hid (numD (⟨#[]⟩ : ByteArray).data.toList false = -1) := by
          show _ = _
          rfl
        clear hv hl hsz hs0
        go_enter Tryz.func37, Tryz.ntmps37
        go_wp2_with fail
        refine A1.out.mono ?_
        rintro e w' ⟨rfl, hw'⟩
        rw [hw']
        go_wp2_with fail
        refine A2.out.mono ?_
        rintro e w' ⟨rfl, hw'⟩
        rw [hw']
        clear hw'
        go_upto_region 11 with fail
        rename ∀ (a : Act) (w : World), Code.wp _ _ _ a w → _ => hK0
        revert hK0
        rename ∀ (a : Act) (w : World), Code.wp _ _ _ a w → _ => hKr
        have HKR := hidF hKr
        clear hKr
        intro hK0
        go_wp2_with fail
        refine HKR.out _ _ ?_
        refine turn_tail _ false (fun e w' => e = .returned (.int .i64 (-1)) ∧ Below W.heap.size W w') ?_
        refine ⟨?_, HB2.out⟩
        rw [HX.out]
      | cons b r =>
        have hlen : 0 < s.size := by rw [hsz, hl]; simp
        have hlen' : (0 : Int) < (s.size : Int) := by omega
        have hdb : s[0] = b := by
          have h2 : s.data.toList[0]? = some b := by rw [hl]; rfl
          rw [Array.getElem?_toList] at h2
          exact (Array.getElem?_eq_some_iff.1 h2).2
        rw [hl] at hv
        by_cases hb : b.toNat = 45
        · have hb' : ((b.toNat : Int) == 45) = true := by rw [beq_iff_eq]; omega
          have hb2 : b = 45 := by apply UInt8.toNat_inj.1; rw [hb]; rfl
          have hn : negB (b :: r) = true := by rw [hb2]; rfl
          have hu : unsg (b :: r) = r := by unfold unsg; rw [if_pos hn]; rfl
          rw [hn, hu] at hv
          have HV := hidF hv
          have HX : Hid ((s.extract 1 (r.length + 1)).data.toList = r) := by
            show _ = _
            rw [ByteArray.data_extract, Array.toList_extract, hl]
            simp
          clear hv hn hu hb hb2
          go_enter Tryz.func37, Tryz.ntmps37
          go_wp2_with fail
          refine A1.out.mono ?_
          rintro e w' ⟨rfl, hw'⟩
          rw [hw']
          go_wp2_with fail
          refine A2.out.mono ?_
          rintro e w' ⟨rfl, hw'⟩
          rw [hw']
          clear hw'
          go_upto_region 11 with fail
          rename ∀ (a : Act) (w : World), Code.wp _ _ _ a w → _ => hK0
          revert hK0
          rename ∀ (a : Act) (w : World), Code.wp _ _ _ a w → _ => hKr
          have HKR := hidF hKr
          clear hKr
          intro hK0
          go_wp2_with fail
          refine HKR.out _ _ ?_
          refine turn_tail _ true (fun e w' => e = .returned (.int .i64 v) ∧ Below W.heap.size W w') ?_
          refine ⟨?_, HB2.out⟩
          rw [HX.out, HV.out]
        · have hb' : ((b.toNat : Int) == 45) = false := by rw [beq_eq_false_iff_ne]; omega
          have hn : negB (b :: r) = false := by
            show (b == 45) = false
            rw [beq_eq_false_iff_ne]
            rintro rfl
            exact hb rfl
          have hu : unsg (b :: r) = b :: r := by unfold unsg; rw [hn]; rfl
          rw [hn, hu] at hv
          have HV := hidF hv
          have HX := hidF hl
          clear hv hn hu hb
          go_enter Tryz.func37, Tryz.ntmps37
          go_wp2_with fail
          refine A1.out.mono ?_
          rintro e w' ⟨rfl, hw'⟩
          rw [hw']
          go_wp2_with fail
          refine A2.out.mono ?_
          rintro e w' ⟨rfl, hw'⟩
          rw [hw']
          clear hw'
          go_upto_region 11 with fail
          rename ∀ (a : Act) (w : World), Code.wp _ _ _ a w → _ => hK0
          revert hK0
          rename ∀ (a : Act) (w : World), Code.wp _ _ _ a w → _ => hKr
          have HKR := hidF hKr
          clear hKr
          intro hK0
          go_wp2_with fail
          refine HKR.out _ _ ?_
          refine turn_tail _ false (fun e w' => e = .returned (.int .i64 v) ∧ Below W.heap.size W w') ?_
          refine ⟨?_, HB2.out⟩
          rw [HX.out, HV.out]
    exact main _ rfl
end Go.Proofs.YtlfepdecgfcifaaGreatDoor
