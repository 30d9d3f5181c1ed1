/- FlowsFloats: where any floats lie, by the program and by the document. -/
import Derived.Test.YthpffpgbmgnkcaaFFAdds
import Derived.Test.YthpffpgbmgnkcaaFFEnd
namespace Go.Proofs.Ythpffpgbmgnkcaa
open Go.RowKit
set_option linter.unusedVariables false      -- bounds that are for the walk

set_option maxHeartbeats 8000000 in
set_option maxRecDepth 100000 in
theorem floats_law (width : Int) (pa : Option Addr) (pc : Nat) (ps : List Pt) (w : World) (hp : Puts7 w pa ps) (hpc : ps.length ≤ pc) (hpm : pc ≤ 9223372036854775807) (y h : Int) :
    Calls Try.prog 3 #[.int .i64 width, .slice pa ps.length pc, .int .i64 y, .int .i64 h] w fun e w' => e = .returned (.bool true) ∧ Below w.heap.size w w' := by
  have HP := hidF hp
  obtain ⟨n, hn⟩ : ∃ n, ps.length = n := ⟨_, rfl⟩
  have HN := hidF hn
  rw [hn] at hpc ⊢
  obtain ⟨b1, b2⟩ := heldN_bd width
  have QH := hidF (fun W => qheld_any width W)
  have NW := hidF (new_any w width)
  obtain ⟨hw, ehw⟩ : ∃ t, heldN width = t := ⟨_, rfl⟩
  rw [ehw] at b1 b2 QH NW
  obtain ⟨wd, hwd⟩ : ∃ t, max 0 hw = t := ⟨_, rfl⟩
  rw [hwd] at NW
  have wd1 : 0 ≤ wd := by omega
  have wd2 : wd ≤ 16777216 := by omega
  have HWD := hidF hwd
  clear hp hn hwd ehw
  go_enter Try.func3, Try.ntmps3
  go_wp2_with fail
  refine NW.out.mono ?_
  rintro e w1 ⟨fb, lb, M, rfl, hfl, hrm, hb1, hold⟩
  have HF := hidF (And.intro hfl (And.intro hrm (And.intro hb1 hold)))
  clear hfl hrm hb1 hold NW
  by_cases hbig : 240 < n
  · have hbig' : (240 : Int) < (n : Int) := by omega
    go_wp2_with fail
    go_returns
    exact ⟨by first | rfl | simp, HF.out.2.2.1⟩
  · have hbig' : ¬ (240 : Int) < (n : Int) := by omega
    have hn2 : n ≤ 240 := by omega
    go_wp2_with fail
    refine (QH.out _).mono ?_
    rintro e wy ⟨rfl, hwy⟩
    rw [hwy]
    clear hwy wy QH
    go_upto_if 50 with fail
    go_cut [10] (fun s wx => s = .int .i64 wd ∧ wx = w1)
    case first =>
      by_cases hc : hw < 0
      · have e : wd = 0 := by have := HWD.out; omega
        subst e
        go_wp2_with fail
        go_meet
        case rel => go_light; exact ⟨rfl, rfl⟩
      · have e : hw = wd := by have := HWD.out; omega
        subst e
        go_wp2_with fail
        go_meet
        case rel => go_light; exact ⟨rfl, rfl⟩
    case rest =>
    obtain ⟨rfl, hwx⟩ := hcut
    have hwy := hwx.symm
    clear hwx
    subst hwy
    have hlt1 : fb < w1.heap.size := lt_of_heap HF.out.2.1.head
    have HBO : Hid (Bo w (w1.alloc (.cells #[.int .i64 0, .int .i64 wd, .slice none 0 0] 29)) M fb lb w1.heap.size (.slice none 0 0) (.slice none 0 0) wd [] [] 0 wd) := by
      obtain ⟨hfl, hrm, hb1, hold⟩ := HF.out
      have hb2 : Below w1.heap.size w1 (w1.alloc (.cells #[.int .i64 0, .int .i64 wd, .slice none 0 0] 29)) := (Below.refl _ _).alloc (Nat.le_refl _) _
      refine ⟨hb1.trans (hb2.mono hb1.size), hfl.below hb2, hrm.below hb2, ⟨heap_alloc_new w1 _, hb1.size, World.ownsRow_nil _ _ _ _, by simp [Value.ownBlock]⟩, hold, hfl.fresh _ (Nat.le_refl _), fun b e => by simp [Value.ownBlock] at e, by omega, by simp [Value.ownBlock]⟩
    have hbd0 : Bd [] := fun o ho => by simp at ho
    have ED := hidF (edges_any HBO.out.fl HBO.out.rm (by simp) hbd0 0 1)
    rw [show (gapN 0 wd [] (heldN 0) (heldN 1)).l = 0 from rfl, show (gapN 0 wd [] (heldN 0) (heldN 1)).r = wd from rfl] at ED
    have HFI : Hid (∀ W, Below (w1.alloc (.cells #[.int .i64 0, .int .i64 wd, .slice none 0 0] 29)).heap.size (w1.alloc (.cells #[.int .i64 0, .int .i64 wd, .slice none 0 0] 29)) W → FInv w W fb lb w1.heap.size wd) := fun W hb => ⟨M, _, _, [], 0, wd, HBO.out.held hb, hbd0, by simp⟩
    have j1 : (wd != wd) = false := by simp
    clear HF HBO hbd0
    go_wp2_with fail
    refine ED.out.mono ?_
    rintro e w2 ⟨rfl, hb2⟩
    have HI2 := hidF (HFI.out _ hb2)
    clear hb2 HFI ED
    obtain ⟨rb, hrb⟩ : ∃ r, w1.heap.size = r := ⟨_, rfl⟩
    rw [hrb] at HI2 ⊢
    clear hrb hlt1
    go_wp2_with fail
    refine floats_adds (w := w) (w1 := w2) (ps := ps) (lb := lb) HP.out HN.out hpc hpm hn2 wd1 wd2 HI2.out _ _ _ _ _ _ _ _ _ _ _ _ _ _ _ _ _ _ _ _ _ _ _ _ _ _ _ _ _ _ _ _ _ _ _ _ _ _ _ _ _ _ _ _ _ _ _ _ _ _ _ _ _ _ _ _ _ _ _ _ _ _ _ _ _ _ _ _ _ _ _ _ _ _ _ _ _ _ _ _ _ _ _ _ _ _ _ _ _ _ _ _ _ _ _ _ _ _ _ _ _ _ _ _ _ _ _ _ _ _ _ _ _ _ _ _ _ _ _ _ _ _ _ _ _ _ _ _ _ _ _ _ _ _ _ _ _ _ _ _ _ _ _ _ _ _ _ _ _ _ _ _ _ _ _ _ _ _ _ _ _ _ _ _ _ _ _ _ _ _ _ _ _ _ _ _ _ _ _ _ _ _ _ _ _ _ _ _ _ _ _ _ _ _ _ _ _ _ _ _ _ _ _ _ _ _ _ _ _ _ _ _ _ _ _ _ _ _ _ _ _ _ _ _ _ _ _ _ _ _ _ _ _ _ _ _ _ _ _ _ _ _ _ _ _ _ _ _ _ _ _ _ _ _ _ _ _ _ _ _ _ _ _ _ _ _ _ _ _ _ _ _ _ _ _ _ _ _ _ _ _ _ _ _ _ _ _ _ _ _ _ _ _ _ _ _ _ _ _ _ _ _ _ _ _ _ _ _ _ _ _ _ _ _ _ _ _ ?_
    intro u8 u14 u15 u16 u17 u18 u19 u20 u21 u22 u23 u24 u66 u67 u68 u69 u70 u71 u72 u73 u74 u75 u76 u77 u78 u79 u80 u81 u82 u83 u84 u85 u86 u87 u88 u89 u90 u91 u92 u93 u94 u95 u96 u97 u98 u99 u100 u101 u102 u103 u104 u105 u106 u107 u108 u109 u110 u111 u112 u113 u114 u115 u116 u117 u118 u119 u120 u121 u122 u123 u124 u125 u126 u127 u128 u129 u130 u131 u132 u133 u134 u135 u136 u137 u138 u139 u140 u141 u142 u143 u144 u145 u146 u147 u148 u149 u150 u151 u152 u153 u154 u155 u156 u157 u158 u159 u160 u161 u162 u163 u164 u165 u166 u167 u168 u169 u170 u171 u172 u173 u174 u175 u176 u177 u178 u179 u180 u181 u182 u183 u184 u185 u186 u187 u188 u189 u190 u191 u192 u193 u194 u195 u196 u197 u198 u199 u200 u201 u202 u203 u204 u205 u206 u207 u208 u209 u210 u211 u212 u213 u214 u215 wx hF
    refine (by assumption : ∀ (a : Act) (w : World), Code.wp _ _ _ a w → _) _ _ ?_
    exact floats_end wd1 wd2 hF _ _ _ _ _ _ _ _ _ _ _ _ _ _ _ _ _ _ _ _ _ _ _ _ _ _ _ _ _ _ _ _ _ _ _ _ _ _ _ _ _ _ _ _ _ _ _ _ _ _ _ _ _ _ _ _ _ _ _ _ _ _ _ _ _ _ _ _ _ _ _ _ _ _ _ _ _ _ _ _ _ _ _ _ _ _ _ _ _ _ _ _ _ _ _ _ _ _ _ _ _ _ _ _ _ _ _ _ _ _ _ _ _ _ _ _ _ _ _ _ _ _ _ _ _ _ _ _ _ _ _ _ _ _ _ _ _ _ _ _ _ _ _ _ _ _ _ _ _ _ _ _ _ _ _ _ _ _ _ _ _ _ _ _ _ _ _ _ _ _ _ _ _ _ _ _ _ _ _ _ _ _ _ _ _ _ _ _ _ _ _ _ _ _ _ _ _ _ _ _ _ _ _ _ _ _ _ _ _ _ _ _ _ _ _ _ _ _ _ _ _ _ _ _ _ _ _ _ _ _ _ _ _ _ _ _ _ _ _ _ _ _ _ _ _ _ _ _ _ _ _ _ _ _ _ _ _ _ _ _ _ _ _ _ _ _ _ _ _ _ _ _ _ _ _ _ _ _ _ _ _ _ _ _ _ _ _ _ _ _ _ _ _ _ _ _ _ _ _ _ _ _ _ _ _ _ _ _ _ _ _ _ _ _ _ _ _ _
end Go.Proofs.Ythpffpgbmgnkcaa
