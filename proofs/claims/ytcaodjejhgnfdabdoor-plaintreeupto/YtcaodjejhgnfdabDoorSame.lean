/- Two lists of attributes that are one. -/
import Derived.Test.YtcaodjejhgnfdabDoorLook3
namespace Go.Proofs.YtcaodjejhgnfdabDoor
open Go.RowKit

set_option maxHeartbeats 4000000 in
set_option maxRecDepth 100000 in
theorem sameAttrs_any {w : World} {v u : Value} {l : List (ByteArray × ByteArray)} (hv : AttrsAt w v l) (hu : AttrsAt w u l) (hl : l.length ≤ 1099511627776) :
    Calls Tryd.prog 32 #[v, u] w fun e w' => e = .returned (.bool true) ∧ Below w.heap.size w w' := by
  obtain ⟨a, c, rfl, ha⟩ := hv
  obtain ⟨b, d, rfl, hb⟩ := hu
  have HA : Hid _ := ha
  have HB : Hid _ := hb
  clear ha hb
  go_enter Tryd.func32, Tryd.ntmps32
  go_wp2
  go_loopw [5] (fun i wr => ∃ k : Nat, k ≤ l.length ∧ i = .int .i64 k ∧ Hid (Below w.heap.size w wr)) (fun i _ => l.length - (intOf i).toNat)
  case atStart => exact ⟨0, by omega, rfl, Below.refl _ _⟩
  case round =>
    obtain ⟨k, hk, rfl, hbel⟩ := hrel
    by_cases hlt : k < l.length
    · obtain ⟨⟨yn, yv⟩, hy⟩ : ∃ y, l[k]? = some y := ⟨_, List.getElem?_eq_getElem hlt⟩
      obtain ⟨g, rfl, e1, f1⟩ := HA.out k _ hy
      obtain ⟨g2, rfl, e2, f2⟩ := HB.out k _ hy
      have e1' := (hbel.out.cell (p := ⟨g, k * 2, none⟩) (World.block_lt_of_cell? w _ e1)).trans e1
      have e2' := (hbel.out.cell (p := ⟨g2, k * 2, none⟩) (World.block_lt_of_cell? w _ e2)).trans e2
      have f1' := (hbel.out.cell (p := ⟨g, k * 2 + 1, none⟩) (World.block_lt_of_cell? w _ f1)).trans f1
      have f2' := (hbel.out.cell (p := ⟨g2, k * 2 + 1, none⟩) (World.block_lt_of_cell? w _ f2)).trans f2
      dsimp only at e1' e2' f1' f2'
      clear hy e1 e2 f1 f2
      go_wp2
      go_quiet (fail)
      go_wp2
      go_roundw
      case rel => exact ⟨k + 1, by omega, by go_num, below_drewN hbel.out _⟩
      case measure => simp [intOf]; omega
    · go_wp2
      go_ret
      exact ⟨rfl, hbel.out⟩
end Go.Proofs.YtcaodjejhgnfdabDoor
