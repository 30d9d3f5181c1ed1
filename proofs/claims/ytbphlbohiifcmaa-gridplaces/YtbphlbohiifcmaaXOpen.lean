/- A list of numbers, and a list of items, that came in, laid open. -/
import Derived.Test.YtbphlbohiifcmaaXBase
import Derived.Test.YtbphlbohiifcmaaRows
import Derived.ProofKit
import Derived.OpenShut
import Derived.Deep.SlicePairs
import Derived.ChangeSlices
namespace Go.Proofs.Ytbphlbohiifcmaa
open Go.RowKit Go.Deep Go.ChangeShapes

/-- an address at which something lies is that of a cell -/
theorem xaddr_of {w : World} {a : Addr} {v : Value} (h : w.cell? (a.add 0) = some v) : a = ⟨a.block, a.off, none⟩ := by
  obtain ⟨b, o, s⟩ := a
  cases s with
  | none => rfl
  | some x =>
    exfalso
    simp only [Addr.add, if_true, World.cell?] at h
    split at h
    · simp at h
    · cases h
theorem xaddr_add {a : Addr} (h : a = ⟨a.block, a.off, none⟩) (j : Nat) : a.add j = ⟨a.block, a.off + j, none⟩ := by
  generalize a.block = b at h
  generalize a.off = o at h
  subst h
  unfold Addr.add
  split
  · simp_all
  · rfl
theorem xblk_lt {w : World} {b o : Nat} {v : Value} (h : w.cell? ⟨b, o, none⟩ = some v) : b < w.heap.size := World.block_lt_of_cell? w ⟨b, o, none⟩ h

theorem Try.xcellsInt : Try.prog.cellsOf 3 = 1 := by kernel_rfl

/-- a slice of numbers -/
theorem open_intl {H : Type} {enc : TypeId × Value → H} {W : World} {fuel : Nat} {v : Value} {x : DataW H × List MemPlace} (h : DataW.trod enc Try.prog W 0 (fun _ => true) true fuel 23 [v] = some x) :
    ∃ l, IntL W v l := by
  rcases open_ints Try.underlying23 Try.underlying3 Try.xcellsInt h with ⟨h0, _⟩ | ⟨a, len, cap, zs, h0, _, hl, hm, hz, _, hx, _⟩
  · refine ⟨[], none, 0, ?_, Nat.le_refl _, by omega, fun j x hj => by simp at hj⟩
    simpa using h0
  · have hzl : len ≤ zs.length := by rw [hz]; simp; exact hl
    unfold maxLen at hm
    have hlen : (zs.take len).length = len := by simp; omega
    refine ⟨zs.take len, some a, cap, by rw [hlen]; simpa using h0, by rw [hlen]; exact hl, by omega, fun j k hj => ?_⟩
    have hjl : j < len := by have := (List.getElem?_eq_some_iff.1 hj).1; omega
    have c0 := hx j (by omega)
    have hk : zs.getD j 0 = k := by
      rw [List.getElem?_take, if_pos hjl] at hj
      rw [List.getD_eq_getElem?_getD, hj]
      rfl
    rw [hk] at c0
    have ea := xaddr_of (hx 0 (by omega))
    rw [xaddr_add ea] at c0
    exact ⟨a.block, a.off, congrArg some ea, xblk_lt c0, c0⟩
end Go.Proofs.Ytbphlbohiifcmaa
