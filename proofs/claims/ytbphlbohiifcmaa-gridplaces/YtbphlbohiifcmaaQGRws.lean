/- The document's PlaceCells: how many rows there are. -/
import Derived.Test.YtbphlbohiifcmaaQGMem
namespace Go.Proofs.Ytbphlbohiifcmaa
open Go.RowKit
set_option linter.unusedVariables false      -- bounds that are for the walk

/-- what PlaceCells answers -/
def PcPost (w : World) (its : List Gi) (cols : Int) (e : Ending) (w' : World) : Prop := ∃ v', e = .returned (.tuple #[v', .int .i64 cols, .int .i64 (rowsG its)]) ∧ GsL w' v' its ∧ Below w.heap.size w w'

set_option maxHeartbeats 8000000 in
set_option maxRecDepth 100000 in
theorem qp_rws {w wl : World} {its : List Gi} {lv : Value} {sb n : Nat} {st : Nat → Bool} {cols : Int} (hP : PcAt w wl lv sb n its st) (hn : n ≤ 200) (hS : ∀ i ∈ its, i.Sm)
    (u0 u2 u3 u4 u5 u6 u8 u9 u10 u11 u12 u13 u14 u15 u16 u17 u18 u19 u21 u22 u23 u24 u25 u26 u27 u28 u29 u30 u31 u32 u33 u34 u35 u36 u37 u38 u39 u40 u41 u42 u43 u44 u45 u46 u47 u48 u49 u50 u51 u52 u53 u54 u55 u56 u57 u58 u59 u60 u61 u62 u63 u64 u65 u66 u67 u68 u69 u70 u71 u72 u73 u74 u75 u76 u77 u78 u79 u80 u81 u82 u83 u84 u85 u86 u87 u88 u89 u90 u91 u92 u93 u94 u95 u96 u97 u98 u99 u100 u101 u102 u103 u104 u105 u106 u107 u108 u109 u110 u111 u112 u113 u114 u115 u116 u117 u118 u119 u120 u121 u122 u123 u124 u125 u126 u127 u128 u129 u130 u131 u132 u133 u134 u135 u136 u137 u138 u139 u140 u141 u142 u143 u144 u145 u146 u147 u148 u149 u150 u151 u152 u153 u154 u155 u156 u157 u158 u159 u160 u161 u162 u163 u164 u165 u166 u167 u168 u169 u170 u171 u172 u173 u174 u175 u176 u177 u178 u179 u180 u181 u182 u183 u184 u185 u186 u187 u188 u189 u190 u191 u192 u193 u194 u195 u196 u197 u198 u199 u200 u201 u202 u203 u204 u205 u206 u207 u208 u209 u210 u211 u212 u213 u214 u215 u216 u217 u218 u219 u220 u221 u222 u223 u224 u225 u226 u227 u228 u229 u230 u231 u232 u233 u234 u235 u236 u237 u238 u239 u240 u241 : Value) :
    Code.wp Try.prog (restG 11 (bodyG Try.f21)) (bodyPost Try.prog Try.f21 (PcPost w its cols)) { tmps := #[u0, .int .i64 cols, u2, u3, u4, u5, u6, lv, u8, u9, u10, u11, u12, u13, u14, u15, u16, u17, u18, u19, .int .i64 0, u21, u22, u23, u24, u25, u26, u27, u28, u29, u30, u31, u32, u33, u34, u35, u36, u37, u38, u39, u40, u41, u42, u43, u44, u45, u46, u47, u48, u49, u50, u51, u52, u53, u54, u55, u56, u57, u58, u59, u60, u61, u62, u63, u64, u65, u66, u67, u68, u69, u70, u71, u72, u73, u74, u75, u76, u77, u78, u79, u80, u81, u82, u83, u84, u85, u86, u87, u88, u89, u90, u91, u92, u93, u94, u95, u96, u97, u98, u99, u100, u101, u102, u103, u104, u105, u106, u107, u108, u109, u110, u111, u112, u113, u114, u115, u116, u117, u118, u119, u120, u121, u122, u123, u124, u125, u126, u127, u128, u129, u130, u131, u132, u133, u134, u135, u136, u137, u138, u139, u140, u141, u142, u143, u144, u145, u146, u147, u148, u149, u150, u151, u152, u153, u154, u155, u156, u157, u158, u159, u160, u161, u162, u163, u164, u165, u166, u167, u168, u169, u170, u171, u172, u173, u174, u175, u176, u177, u178, u179, u180, u181, u182, u183, u184, u185, u186, u187, u188, u189, u190, u191, u192, u193, u194, u195, u196, u197, u198, u199, u200, u201, u202, u203, u204, u205, u206, u207, u208, u209, u210, u211, u212, u213, u214, u215, u216, u217, u218, u219, u220, u221, u222, u223, u224, u225, u226, u227, u228, u229, u230, u231, u232, u233, u234, u235, u236, u237, u238, u239, u240, u241], defers := [] } wl := by
  obtain ⟨a, c, rfl, c1, c2⟩ := hP.shape
  have HP := hidF hP
  have HS := hidF hS
  have HB : Hid (∀ k, 0 ≤ rowsG (its.take k) ∧ rowsG (its.take k) ≤ 1000020) := by
    intro k
    induction k with
    | zero => simp [rowsG]
    | succ k ih =>
      cases e : its[k]? with
      | none =>
        rw [List.take_add_one, e]
        simpa using ih
      | some q =>
        have hq := hS q (List.mem_of_getElem? e)
        have := hq.r0; have := hq.r2; have := hq.rs1; have := hq.rs2
        rw [rowsG_take e]
        unfold Gi.lr
        omega
  have HPO : Hid (∀ v' w', PcPost w its cols (.returned (.tuple #[v', .int .i64 cols, .int .i64 (rowsG its)])) w' ↔ (GsL w' v' its ∧ Below w.heap.size w w')) := fun v' w' => ⟨fun ⟨v2, e, h⟩ => by cases e; exact h, fun h => ⟨v', rfl, h⟩⟩
  clear hP hS
  conv => arg 2; dsimp only [restG, bodyG, Try.f21]
  conv => arg 4; dsimp only
  go_wp2_with fail
  go_loopw [20, 21] (fun rv iv wr => ∃ (k : Nat) (m : Int), k ≤ n ∧ iv = .int .i64 k ∧ rv = .int .i64 m ∧ Hid (m = rowsG (its.take k) ∧ Below wl.heap.size wl wr)) (fun _ iv _ => n - (intV iv).toNat)
  case atStart => exact ⟨0, 0, Nat.zero_le _, rfl, rfl, by simp [rowsG], Below.refl _ _⟩
  case round =>
    obtain ⟨k, m, hk, rfl, rfl, HZ⟩ := hrel
    by_cases hlt : k < n
    · obtain ⟨q, hq⟩ : ∃ q, its[k]? = some q := ⟨_, List.getElem?_eq_getElem (by rw [HP.out.len]; exact hlt)⟩
      obtain ⟨g, c9, hsv, _, _, gl, x1, x2, x3, x4, fz, _⟩ := (HP.out.held HZ.out.2).at hq
      cases hsv
      have hq2 := HS.out q (List.mem_of_getElem? hq)
      have s1 := hq2.r0; have s2 := hq2.r2; have s3 := hq2.rs1; have s4 := hq2.rs2
      have HR := hidF (rowsG_take hq)
      have hm := HB.out k
      rw [← HZ.out.1] at hm
      obtain ⟨m1, m2⟩ := hm
      obtain ⟨qc, qcs, qr, qrs⟩ := q
      simp only at x1 x2 x3 x4 s1 s2 s3 s4
      have i1 : (0 : Int) ≤ (k : Int) := by omega
      have i2 : (k : Int) < (n : Int) := by omega
      have Y1 : IntKind.i64.wrap (qr + qrs) = qr + qrs := wrapJ (by omega) (by omega)
      have Y2 : IntKind.i64.wrap (qr + qrs - 1) = qr + qrs - 1 := wrapJ (by omega) (by omega)
      have MO := hidF (fun W => most_any m (qr + qrs - 1) W)
      clear hq hq2 fz
      obtain ⟨w5, hw5⟩ : ∃ w5, w5 = wr := ⟨_, rfl⟩
      subst hw5
      go_upto_region 53 with fail
      go_region_with ((go_at_call 47; refine (MO.out _).mono ?_; rintro e w7 ⟨rfl, hw7⟩
                       have HX : Hid (Below wl.heap.size wl w7) := by rw [hw7]; exact HZ.out.2.drew
                       clear hw7))
      all_goals
        go_wp2_with fail
        go_roundw
        case rel =>
          go_light
          refine ⟨k + 1, _, by omega, by go_num, rfl, ?_, HX.out⟩
          rw [HR.out, ← HZ.out.1]
          rfl
        case measure => simp [intV]; omega
    · obtain rfl : k = n := by omega
      have hl2 : ¬ (k : Int) < (k : Int) := by omega
      have HM : Hid (m = rowsG its) := by show _ = _; rw [HZ.out.1, List.take_of_length_le (by rw [HP.out.len]; omega)]
      have HG := hidF (HP.out.gsL.below HZ.out.2)
      have HBB := hidF (HP.out.below.trans (HZ.out.2.mono HP.out.below.size))
      go_wp2_with fail
      go_returns
      rw [HM.out]
      exact (HPO.out _ _).2 ⟨HG.out, HBB.out⟩
end Go.Proofs.Ytbphlbohiifcmaa
