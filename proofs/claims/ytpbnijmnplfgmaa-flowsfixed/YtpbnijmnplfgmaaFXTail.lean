/- FlowsFixed: the law's own walk, over what both answer. -/
import Derived.Test.YtpbnijmnplfgmaaFHold
import Derived.Test.YtpbnijmnplfgmaaRow
import Derived.Deep.DeepCutAuto
import Derived.Deep.Light
namespace Go.Proofs.Ytpbnijmnplfgmaa
open Go.RowKit

theorem cellL {w : World} {b : Nat} {cs : Array Value} {t : TypeId} (h : w.heap[b]? = some (.cells cs t (0, 0))) (i : Nat) {v : Value} (e : cs[i]? = some v) : w.cell? ⟨b, i, none⟩ = some v := by
  rw [cell_of_row w b i _ _ _ h, e]

/-- what was asked lies there still -/
structure AskAt (w wx : World) (cs : Array Value) : Prop where
  below : Below w.heap.size w wx
  f : wx.heap[w.heap.size]? = some (.cells cs 64 (0, 0))

def restOf : Nat → Code → Code
  | 0, c => c
  | n + 1, .seq _ c => restOf n c
  | _, c => c
def bodyOf (f : Func) : Code := match f.body with | some c => c | none => .skip

set_option maxHeartbeats 2000000 in
set_option maxRecDepth 100000 in
theorem fixed_tail (Rm Fr To L I T A Fi Mn Mx At p q r s : Int) (aF aT aL aI aR : Bool)
    (hQ : ∀ w, Calls Try.prog 26 #[.agg #[.int .i64 Rm, .int .i64 Fr, .int .i64 To, .int .i64 L, .int .i64 I, .int .i64 T, .int .i64 A, .int .i64 Fi, .int .i64 Mn, .int .i64 Mx, .int .i64 At, .bool aF, .bool aT, .bool aL, .bool aI, .bool aR]] w fun e w' => e = .returned (.tuple #[.int .i64 p, .int .i64 q, .int .i64 r, .int .i64 s]) ∧ Below w.heap.size w w')
    (hO : ∀ w, Calls Try.prog 25 #[.agg #[.int .i64 10, .int .i64 0, .int .i64 0, .int .i64 0, .int .i64 0, .int .i64 0, .int .i64 0, .int .i64 0, .int .i64 0, .int .i64 (-1), .int .i64 0, .bool false, .bool false, .bool false, .bool true, .bool false]] w fun e w' => e = .returned (.tuple #[.int .i64 0, .int .i64 0, .int .i64 10, .int .i64 0]) ∧ Below w.heap.size w w') (w w2 : World) (x0 x3 u17 u18 u19 u20 u21 u22 u23 u24 u25 u26 u27 u28 u29 u30 u31 u32 u33 u34 u35 u36 u37 u38 u39 u40 u41 u42 u43 u44 u45 u46 u47 u48 u49 u50 u51 u52 u53 u54 u55 u56 u57 u58 u59 u60 u61 u62 u63 u64 u65 u66 u67 u68 u69 u70 u71 u72 u73 u74 u75 u76 u77 u78 u79 u80 u81 u82 u83 u84 u85 u86 u87 u88 u89 u90 u91 u92 u93 : Value) (hA0 : AskAt w w2 #[.int .i64 Rm, .int .i64 Fr, .int .i64 To, .int .i64 L, .int .i64 I, .int .i64 T, .int .i64 A, .int .i64 Fi, .int .i64 Mn, .int .i64 Mx, .int .i64 At, .bool aF, .bool aT, .bool aL, .bool aI, .bool aR]) :
    Code.wp Try.prog (restOf 3 (bodyOf Try.f7)) (bodyPost Try.prog Try.f7 (fun e w' => e = .returned (.bool true) ∧ Below w.heap.size w w')) { tmps := #[x0, .pointer (some ⟨w.heap.size, 0, none⟩), .bool false, x3, .int .i64 p, .int .i64 q, .int .i64 r, .int .i64 s, undef, undef, undef, undef, undef, undef, undef, undef, undef, u17, u18, u19, u20, u21, u22, u23, u24, u25, u26, u27, u28, u29, u30, u31, u32, u33, u34, u35, u36, u37, u38, u39, u40, u41, u42, u43, u44, u45, u46, u47, u48, u49, u50, u51, u52, u53, u54, u55, u56, u57, u58, u59, u60, u61, u62, u63, u64, u65, u66, u67, u68, u69, u70, u71, u72, u73, u74, u75, u76, u77, u78, u79, u80, u81, u82, u83, u84, u85, u86, u87, u88, u89, u90, u91, u92, u93], defers := [] } w2 := by
  have HQ : Hid (∀ w, Calls Try.prog 26 #[.agg #[.int .i64 Rm, .int .i64 Fr, .int .i64 To, .int .i64 L, .int .i64 I, .int .i64 T, .int .i64 A, .int .i64 Fi, .int .i64 Mn, .int .i64 Mx, .int .i64 At, .bool aF, .bool aT, .bool aL, .bool aI, .bool aR]] w fun e w' => e = .returned (.tuple #[.int .i64 p, .int .i64 q, .int .i64 r, .int .i64 s]) ∧ Below w.heap.size w w') := hQ
  have HO : Hid (∀ w, Calls Try.prog 25 #[.agg #[.int .i64 10, .int .i64 0, .int .i64 0, .int .i64 0, .int .i64 0, .int .i64 0, .int .i64 0, .int .i64 0, .int .i64 0, .int .i64 (-1), .int .i64 0, .bool false, .bool false, .bool false, .bool true, .bool false]] w fun e w' => e = .returned (.tuple #[.int .i64 0, .int .i64 0, .int .i64 10, .int .i64 0]) ∧ Below w.heap.size w w') := hO
  have hA : Hid (AskAt w w2 #[.int .i64 Rm, .int .i64 Fr, .int .i64 To, .int .i64 L, .int .i64 I, .int .i64 T, .int .i64 A, .int .i64 Fi, .int .i64 Mn, .int .i64 Mx, .int .i64 At, .bool aF, .bool aT, .bool aL, .bool aI, .bool aR]) := hA0
  clear hQ hO hA0
  conv => arg 2; dsimp only [restOf, bodyOf, Try.f7]
  conv => arg 4; dsimp only
  have c0 := cellL hA.out.f 0 (v := .int .i64 Rm) rfl
  have c1 := cellL hA.out.f 1 (v := .int .i64 Fr) rfl
  have c2 := cellL hA.out.f 2 (v := .int .i64 To) rfl
  have c3 := cellL hA.out.f 3 (v := .int .i64 L) rfl
  have c4 := cellL hA.out.f 4 (v := .int .i64 I) rfl
  have c5 := cellL hA.out.f 5 (v := .int .i64 T) rfl
  have c6 := cellL hA.out.f 6 (v := .int .i64 A) rfl
  have c7 := cellL hA.out.f 7 (v := .int .i64 Fi) rfl
  have c8 := cellL hA.out.f 8 (v := .int .i64 Mn) rfl
  have c9 := cellL hA.out.f 9 (v := .int .i64 Mx) rfl
  have c10 := cellL hA.out.f 10 (v := .int .i64 At) rfl
  have c11 := cellL hA.out.f 11 (v := .bool aF) rfl
  have c12 := cellL hA.out.f 12 (v := .bool aT) rfl
  have c13 := cellL hA.out.f 13 (v := .bool aL) rfl
  have c14 := cellL hA.out.f 14 (v := .bool aI) rfl
  have c15 := cellL hA.out.f 15 (v := .bool aR) rfl
  go_upto_region 3 with fail
  go_cut [8, 9, 10, 11] (fun s8 s9 s10 s11 wx => s8 = .int .i64 p ∧ s9 = .int .i64 q ∧ s10 = .int .i64 r ∧ s11 = .int .i64 s ∧ Hid (Below w.heap.size w wx))
  case first =>
    go_wp2_with fail
    refine (HQ.out _).mono ?_
    rintro e w3 ⟨rfl, b3⟩
    clear c0 c1 c2 c3 c4 c5 c6 c7 c8 c9 c10 c11 c12 c13 c14 c15
    go_wp2_with fail
    go_meet
    case rel => go_light; exact ⟨rfl, rfl, rfl, rfl, hA.out.below.trans (b3.mono hA.out.below.size)⟩
  case rest =>
  clear c0 c1 c2 c3 c4 c5 c6 c7 c8 c9 c10 c11 c12 c13 c14 c15
  clear hA
  obtain ⟨rfl, rfl, rfl, rfl, hB⟩ := hcut
  obtain ⟨w3, h3⟩ : ∃ w3, w3 = wc := ⟨_, rfl⟩
  subst h3
  go_upto_region 5 with fail
  go_cut [15] (fun s15 wx => s15 = .int .i64 10 ∧ Hid (Below w.heap.size w wx))
  case first =>
    go_wp2_with fail
    refine (HO.out _).mono ?_
    rintro e w4 ⟨rfl, b4⟩
    go_wp2_with fail
    go_meet
    case rel => go_light; exact ⟨rfl, (hB.out.alloc hB.out.size _).trans (b4.mono (by simp; have := hB.out.size; omega))⟩
  case rest =>
  obtain ⟨rfl, hB2⟩ := hcut
  go_wp2_with fail
  go_returns
  exact ⟨rfl, hB2.out⟩
end Go.Proofs.Ytpbnijmnplfgmaa
