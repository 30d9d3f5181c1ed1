/- The document's left: what there is to share. -/
import Derived.Test.YtdjagdifemhkpaaQLeaf
import Derived.Test.YtdjagdifemhkpaaSDeal
namespace Go.Proofs.Ytdjagdifemhkpaa
open Go.RowKit
set_option linter.unusedVariables false      -- bounds that are for the walk

/-- a list of bools that is read -/
def BoolL (w : World) (v : Value) (l : List Bool) : Prop := ∃ a cap, v = .slice a l.length cap ∧ l.length ≤ cap ∧ cap ≤ 9223372036854775807 ∧ ∀ (j : Nat) (x : Bool), l[j]? = some x → ∃ b o, a = some ⟨b, o, none⟩ ∧ b < w.heap.size ∧ w.cell? ⟨b, o + j, none⟩ = some (.bool x)

set_option maxHeartbeats 2000000 in
set_option maxRecDepth 100000 in
theorem qleft_any {w : World} {lv ov dv : Value} {ps : List Pr} (h1 : ItemsL w lv (ps.map Pr.i)) (h2 : IntL w ov (ps.map Pr.size)) (h3 : BoolL w dv (ps.map Pr.settled)) (ho : RowOk ps) (room : Int) (r1 : -10000000000 ≤ room) (r2 : room ≤ 10000000000) :
    Calls Try.prog 33 #[lv, ov, dv, .int .i64 room] w fun e w' => e = .returned (.int .i64 (freeN room ps ps.length)) ∧ w' = w := by
  obtain ⟨la, lc, rfl, q1, q2, hl⟩ := h1
  obtain ⟨oa, oc, rfl, q3, q4, hov⟩ := h2
  obtain ⟨da, dc, rfl, q5, q6, hdv⟩ := h3
  have HL := hidF hl
  have HV := hidF hov
  have HD := hidF hdv
  have HO := hidF ho
  simp only [List.length_map] at q1 q3 q5 ⊢
  obtain ⟨n, hn⟩ : ∃ n, ps.length = n := ⟨_, rfl⟩
  have HN := hidF hn
  rw [hn] at q1 q3 q5 ⊢
  clear hl hov hdv ho hn
  go_enter Try.func33, Try.ntmps33
  go_wp2_with fail
  go_loopw [3, 9] (fun rv i wr => ∃ (k : Nat) (z : Int), k ≤ n ∧ i = .int .i64 k ∧ rv = .int .i64 z ∧ wr = w ∧ Hid (z = freeN room ps k)) (fun _ i _ => n - (intV i).toNat)
  case atStart => exact ⟨0, room, Nat.zero_le _, rfl, rfl, rfl, by show _ = _; simp [freeN]⟩
  case round =>
    obtain ⟨k, z, hk, rfl, rfl, hww, HZ⟩ := hrel
    have hww2 := hww.symm
    clear hww
    subst hww2
    have z1 := HO.out.free room k
    rw [← HZ.out] at z1
    obtain ⟨z1, z2⟩ := z1
    by_cases hlt : k < n
    · obtain ⟨p, hp⟩ : ∃ p, ps[k]? = some p := ⟨_, List.getElem?_eq_getElem (by rw [HN.out]; exact hlt)⟩
      obtain ⟨lb, lo, rfl, li⟩ := HL.out k p.i (by rw [List.getElem?_map, hp]; rfl)
      obtain ⟨ob, oo, rfl, ol, oc9⟩ := HV.out k p.size (by rw [List.getElem?_map, hp]; rfl)
      obtain ⟨db, d0, rfl, dl, dc9⟩ := HD.out k p.settled (by rw [List.getElem?_map, hp]; rfl)
      have c0 := li.c0
      have l0 := li.lt
      have g1 := HO.out.gotP (List.mem_of_getElem? hp)
      have HS := hidF (freeN_succ (room := room) hp)
      have i1 : (0 : Int) ≤ (k : Int) := by omega
      have i2 : (k : Int) < (n : Int) := by omega
      clear hp li
      obtain ⟨⟨xb, xmn, xmx, xar, xgr, xsh⟩, sz, mv, st⟩ := p
      unfold gotP at g1 HS
      simp only at c0 oc9 dc9 g1 HS
      cases st
      · simp only [Bool.false_eq_true, if_false] at g1 HS
        obtain ⟨g1, g2⟩ := g1
        go_wp2_with fail
        go_roundw
        case rel => go_light; exact ⟨k + 1, _, by omega, by go_num, rfl, by trivial, by show _ = _; rw [HS.out, ← HZ.out]⟩
        case measure => simp [intV]; omega
      · simp only [if_true] at g1 HS
        obtain ⟨g1, g2⟩ := g1
        go_wp2_with fail
        go_roundw
        case rel => go_light; exact ⟨k + 1, _, by omega, by go_num, rfl, by trivial, by show _ = _; rw [HS.out, ← HZ.out]⟩
        case measure => simp [intV]; omega
    · obtain rfl : k = n := by omega
      go_wp2_with fail
      go_returns
      exact ⟨ret_i HZ.out, rfl⟩
end Go.Proofs.Ytdjagdifemhkpaa
