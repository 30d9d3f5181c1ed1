/- InkParts (second form): where the arguments hold together at most 1048576 values and letters, InkParts answers true and leaves its arguments as they were. Condition: that bound alone (the law lists a text's runes as numbers of eight bytes, so that texts too great for any machine end the call). -/
import Derived.Test.YtpembplhhgimeaaRows
import Derived.Test.YtpembplhhgimeaaRefw
import Derived.Test.YtpembplhhgimeaaWidth
import Derived.Test.YtpembplhhgimeaaCut
import Derived.WalkKit
import Derived.ProofKit
import Derived.OpenShut
import Derived.ShutString
import Derived.JoinedCond
namespace Go.Proofs.Ytpembplhhgimeaa.inkParts
open Go.ChangeShapes Go.WideShapes Go.ChangeAt Go.RowKit
open Go.ChangeMaps (open_string shut_string)
set_option linter.unusedVariables false

theorem own : ownKnob Try.prog.godebug = none := by kernel_rfl

theorem one_is : wsum (held 2000) (runes ⟨#[97]⟩) = 1000 := by decide +kernel

set_option maxHeartbeats 2000000 in
set_option maxRecDepth 100000 in
theorem walk (a0 : Int) (s : ByteArray) (k : Int) (hs : s.size ≤ 1048576) (w : World) :
    Calls Try.prog 5 #[.int .i64 a0, .string s, .int .i64 k] w fun e w' => e = .returned (.bool true) ∧ Below w.heap.size w w' := by
  have h1 := inkWidth_any 2000 ⟨#[97]⟩ (by decide)
  rw [one_is] at h1
  have H1 : Hid (∀ w, Calls Try.prog 6 #[.int .i64 2000, .string ⟨#[97]⟩] w fun e w' => e = .returned (.int .i64 1000) ∧ Below w.heap.size w w') := h1
  clear h1
  have hh := held_bd a0
  go_enter Try.func5, Try.ntmps5
  go_wp2_with fail
  refine (H1.out _).mono ?_
  rintro e W1 ⟨rfl, b1⟩
  go_wp2_with fail
  refine (runes_any s hs _).mono ?_
  rintro e W2 ⟨v, u, rfl, hv, hu, b2⟩
  clear H1
  by_cases hc : s.size ≤ 3000 ∧ 0 ≤ k ∧ k < (runes s).length
  · obtain ⟨c1, c2, c3⟩ := hc
    obtain ⟨q, rfl⟩ := Int.eq_ofNat_of_zero_le c2
    have c4 : q < (runes s).length := by omega
    rcases row_open hv with ⟨rfl, h0⟩ | ⟨g, cap, rfl, hBg, hg, hcap, hcel⟩
    · omega
    rcases row_open hu with ⟨rfl, h0⟩ | ⟨g2, cap2, rfl, hBg2, hg2, hcap2, hcel2⟩
    · omega
    have hck : W2.cell? ⟨g2, q, none⟩ = some (.int .i64 ((runes s)[q].1 : Int)) := hcel2 q _ (by simp [placeV, List.getElem?_eq_getElem c4])
    have hpa := parts (held a0) s q c4
    clear hcel hcel2 hv hu
    obtain ⟨p, hp⟩ : ∃ p, (runes s)[q].1 = p := ⟨_, rfl⟩
    rw [hp] at hck hpa
    clear hp
    obtain ⟨hps, hsum⟩ := hpa
    have HS : Hid (wsum (held a0) (runes (s.extract 0 p)) + wsum (held a0) (runes (s.extract p s.size)) = wsum (held a0) (runes s)) := hsum
    clear hsum
    have z1 : (s.extract 0 p).size ≤ 3000 := by rw [ext_size s 0 p (by omega)]; omega
    have z2 : (s.extract p s.size).size ≤ 3000 := by rw [ext_size s p s.size (by omega)]; omega
    have y1 := wsum_bd (held a0) hh.1 hh.2 (runes (s.extract 0 p))
    have y2 := wsum_bd (held a0) hh.1 hh.2 (runes (s.extract p s.size))
    have x1 := runes_length (s.extract 0 p)
    have x2 := runes_length (s.extract p s.size)
    go_wp2_with fail
    refine (inkWidth_any _ _ z1 _).mono ?_
    rintro e W3 ⟨rfl, b3⟩
    have hck3 : W3.cell? ⟨g2, q, none⟩ = some (.int .i64 (p : Int)) := (b3.cell (p := ⟨g2, q, none⟩) hg2).trans hck
    go_wp2_with fail
    refine (inkWidth_any _ _ z2 _).mono ?_
    rintro e W4 ⟨rfl, b4⟩
    go_wp2_with fail
    refine (inkWidth_any _ _ c1 _).mono ?_
    rintro e W5 ⟨rfl, b5⟩
    go_wp2_with fail
    go_ret
    go_light
    refine ⟨ret_bool (by rw [HS.out]; simp), ?_⟩
    have s1 := b1.size
    have s2 := b2.size
    have s3 := b3.size
    have s4 := b4.size
    exact b1.trans ((b2.mono s1).trans ((b3.mono (by omega)).trans ((b4.mono (by omega)).trans (b5.mono (by omega)))))
  · have hb : Below w.heap.size w W2 := b1.trans (b2.mono b1.size)
    rcases row_open hv with ⟨rfl, h0⟩ | ⟨g, cap, rfl, hBg, hg, hcap, hcel⟩
    · clear hv hu
      have h0' : ((runes s).length : Int) = 0 := by omega
      by_cases c1 : s.size ≤ 3000
      · by_cases c2 : k < 0
        · go_wp2_with fail
          go_ret
          exact ⟨rfl, hb⟩
        · go_wp2_with fail
          go_ret
          exact ⟨rfl, hb⟩
      · go_wp2_with fail
        go_ret
        exact ⟨rfl, hb⟩
    · clear hv hu hcel
      by_cases c1 : s.size ≤ 3000
      · by_cases c2 : k < 0
        · go_wp2_with fail
          go_ret
          exact ⟨rfl, hb⟩
        · have c3 : ((runes s).length : Int) ≤ k := by omega
          go_wp2_with fail
          go_ret
          exact ⟨rfl, hb⟩
      · go_wp2_with fail
        go_ret
        exact ⟨rfl, hb⟩

/-- what the walk gives, under the bound -/
theorem contract (H : Type) (enc : TypeId × Value → H) (W : World) (base : Nat) (args : Array Value) (ds gs : List (DataW H)) (before : List MemPlace)
    (hval : ∀ (j : Nat) t v, Try.f5.params[j]? = some t → args[j]? = some v → Value.okWide Try.prog W .any base t v)
    (hW : DataW.Whole enc Try.prog Try.f5.params.toList Rows.inkPartsSpec.vars false W args.toList ds gs before) (hk : Rows.uptoSmall H (ds ++ gs) = true) :
    Calls Try.prog 5 args W fun e W' => ∃ v, e = .returned v ∧ Rows.inkPartsSpec.post enc Try.prog Try.f5 false true false false W args v W' := by
  have hW' := hW
  obtain ⟨p, q, hA0, hV, rfl, hfz, hnd⟩ := hW
  have hA : DataW.TrodAll enc Try.prog W 0 (fun _ => true) true Try.f5.params.toList args.toList ds p := hA0
  rw [Try.params5] at hA hval
  obtain ⟨v0, vs0, d0, ds0, p0, q0, hargs, rfl, rfl, h0, r0⟩ := trodAll_cons hA
  obtain ⟨v1, vs1, d1, ds1, p1, q1, rfl, rfl, rfl, h1, r1⟩ := trodAll_cons r0
  obtain ⟨v2, vs2, d2, ds2, p2, q2, rfl, rfl, rfl, h2, r2⟩ := trodAll_cons r1
  obtain ⟨rfl, rfl, rfl⟩ := trodAll_nil r2
  obtain rfl : args = #[v0, v1, v2] := by cases args; simp_all
  obtain ⟨rfl, rfl⟩ := trodVars_none hV
  obtain ⟨a0, rfl, rfl, rfl, w0⟩ := open_int Try.underlying3 (hval 0 3 v0 rfl rfl) h0
  obtain ⟨a1, rfl, rfl, rfl, w1⟩ := open_string Try.underlying9 (hval 1 9 v1 rfl rfl) h1
  obtain ⟨a2, rfl, rfl, rfl, w2⟩ := open_int Try.underlying3 (hval 2 3 v2 rfl rfl) h2
  clear hA0
  have hb := of_decide_eq_true hk
  have hb2 : a1.size ≤ 1048576 := by
    simp only [Rows.uptoBulkAll, Rows.uptoBulk, List.cons_append, List.nil_append] at hb
    have : a1.data.toList.length = a1.size := by simp
    omega
  refine (walk a0 a1 a2 hb2 W).mono fun e W' ⟨he, bel⟩ => ?_
  subst he
  exact ⟨_, rfl, _, _, _, [], _, [], hW', trodAll_mk1 (shut_bool Try.underlying4 _), (trodAll_cons_mk (shut_int Try.underlying3 w0) (trodAll_cons_mk (shut_string Try.underlying9 w1) (trodAll_cons_mk (shut_int Try.underlying3 w2) trodAll_mk0))), rfl, bel.frame _, fun h => by cases h⟩

set_option maxRecDepth 100000 in
theorem lifted (os : Os) (started : os.Started) (H : Type) (enc : TypeId × Value → H) (F : Stop.Interp) :
    ReturnsInHanded {} Try.checked os 5 .any ((Rows.OpenSpec.upto Rows.inkPartsSpec).pre6 enc Try.prog Try.f5 Rows.inkPartsUptoRow.domain false) (((Rows.OpenSpec.upto Rows.inkPartsSpec).at F).post enc Try.prog Try.f5 false true false false) := by
  refine returnsInHanded_of_cond (C := Try.checked) (s := Rows.OpenSpec.upto Rows.inkPartsSpec) (k := Rows.uptoSmall) rfl own started (by kernel_rfl) Try.func5
    (OpenSpec.witness (enc := enc) (C := Try.checked) (s := Rows.OpenSpec.upto Rows.inkPartsSpec) (k := Rows.uptoSmall) rfl false ⟨#[], #[.int .i64 0, .string ByteArray.empty, .int .i64 0], []⟩ 8 (by kernel_rfl) (by kernel_rfl) (by kernel_rfl)
      (x := ([.lit (.int .i64 0), .lit (.string []), .lit (.int .i64 0)], [], [])) (by kernel_rfl) rfl (by kernel_rfl)) ?_
  intro W base args ds gs before hval hW _ hk _
  exact contract H enc W base args ds gs before hval hW hk

theorem over : Rows.inkPartsUptoRow.holds Try.pinned (Rows.OpenSpec.upto Rows.inkPartsSpec) :=
  OpenClaim.holds_of_cond 5 Try.f5 rfl rfl rfl rfl rfl rfl rfl ⟨rfl, rfl, rfl, rfl, rfl⟩ rfl rfl rfl rfl rfl (by kernel_rfl) Try.func5 (by kernel_rfl)
    (of_decide_eq_true (by kernel_rfl)) (by unfold Func.isWrapper; first | (rw [if_pos (by decide +kernel)]; kernel_rfl) | (rw [if_neg (by decide +kernel)]; exact ⟨rfl, rfl⟩))
    (fun os started H enc _ F => lifted os started H enc F)

theorem proved : Rows.InkPartsUptoSaid :=
  over
#print axioms proved
end Go.Proofs.Ytpembplhhgimeaa.inkParts
