/- What the document's Runes answers of texts of at most 1048576 bytes: the runes of the text, and where each begins, in two slices of its own that share no memory. -/
import Derived.Test.YtpembplhhgimeaaRunes
import Derived.Maps.AppendAt
namespace Go.Proofs.Ytpembplhhgimeaa
open Go.RowKit

theorem Try.info3 : (Try.prog.info? 3).map (fun i => (i.zero, i.size, i.bytes)) = some (some (.int .i64 0), 1, 8) := by kernel_rfl

/-- two slices lie in no common row -/
def Apart (v u : Value) : Prop := ∀ k, v.ownBlock = some k → u.ownBlock ≠ some k
theorem Apart.symm {v u : Value} (h : Apart v u) : Apart u v := fun k hu hv => h k hv hu
theorem Apart.kept {v u : Value} (h : Apart v u) {w w1 : World} {base : Nat} {e : TypeId} {size n : Nat} {xs : List Value} (hu : w.ownsRow base e size u n xs) (hg : w.grownBy w1 v.ownBlock) : w1.ownsRow base e size u n xs := by
  refine hu.kept hg ?_
  cases hk : u.ownBlock with
  | none => exact .inl rfl
  | some k => exact .inr fun hv => h k hv.symm hk
theorem Apart.step {v u v' : Value} (h : Apart v u) {w : World} {base : Nat} {e : TypeId} {size n : Nat} {xs : List Value} (hu : w.ownsRow base e size u n xs) (hat : v'.ownBlock = v.ownBlock ∨ v'.ownBlock = some w.heap.size) : Apart v' u := by
  intro k hk hu'
  rcases hat with e1 | e1
  · exact h k (e1 ▸ hk) hu'
  · have := (hu.lt k hu').2
    rw [e1] at hk
    cases hk
    omega

theorem decode_le4 (s : ByteArray) (pos : Nat) : (Utf8.decode s pos).2 ≤ 4 := by
  simp only [Utf8.decode]
  repeat' split
  all_goals simp only []
  all_goals omega

theorem runeAt_dec (s : ByteArray) (pos : Nat) (h : pos < s.size) (hs : s.size ≤ 1048576) (w : World) :
    Calls Try.prog 21 #[.string s, .int .i64 pos] w fun e w' => e = .returned (.tuple #[.int .i64 (Utf8.decode s pos).1, .int .i64 (Utf8.decode s pos).2]) ∧ w' = w := by
  have := runeAt_any s pos (by omega) (by omega) w
  rw [rune_decode s pos h] at this
  exact this

/-- an append onto one of two slices that lie apart leaves the other, and all that was there before -/
theorem beside {w wr w1 : World} {B : Nat} {v u v1 : Value} {n m : Nat} {xs ys : List Value} {o : Obj} (hv : wr.ownsRow B 3 1 v n xs) (hu : wr.ownsRow B 3 1 u m ys) (hap : Apart v u) (hbw : Below B w wr) (hB : B ≤ wr.heap.size)
    (hg : (wr.alloc o).grownBy w1 v.ownBlock) (hat : v1.ownBlock = v.ownBlock ∨ v1.ownBlock = some (wr.alloc o).heap.size) : w1.ownsRow B 3 1 u m ys ∧ Apart v1 u ∧ Below B w w1 ∧ B ≤ w1.heap.size := by
  have hs : B ≤ (wr.alloc o).heap.size := by simp; omega
  exact ⟨hap.kept (hu.alloc o) hg, hap.step (hu.alloc o) hat, (hbw.alloc hB o).grown hg hs (fun k hk => (hv.lt k hk).1), Nat.le_trans hs hg.size⟩

def runeV (x : Nat × Nat) : Value := .int .i64 x.2
def placeV (x : Nat × Nat) : Value := .int .i64 x.1

theorem runes_of (s : ByteArray) (acc : List (Nat × Nat)) (f pos : Nat) (h : acc ++ runesFrom s f pos = runes s) : acc.length ≤ s.size := by
  have := runes_length s
  rw [← h, List.length_append] at this
  omega

set_option maxHeartbeats 2000000 in
set_option maxRecDepth 100000 in
theorem runes_any (s : ByteArray) (hs : s.size ≤ 1048576) (w : World) :
    Calls Try.prog 15 #[.string s] w fun e w' => ∃ v u, e = .returned (.tuple #[v, u]) ∧ w'.ownsRow w.heap.size 3 1 v (runes s).length ((runes s).map runeV) ∧ w'.ownsRow w.heap.size 3 1 u (runes s).length ((runes s).map placeV) ∧ Below w.heap.size w w' := by
  obtain ⟨i0, hi, hz0, hz1, hz2⟩ := info_parts Try.info3
  go_enter Try.func15, Try.ntmps15
  go_wp2
  go_loopw [4, 5, 6] (fun v u i wr => ∃ (pos fuel : Nat) (acc : List (Nat × Nat)), i = .int .i64 pos ∧ wr.ownsRow w.heap.size 3 1 v acc.length (acc.map runeV) ∧ wr.ownsRow w.heap.size 3 1 u acc.length (acc.map placeV) ∧ Apart v u ∧ Below w.heap.size w wr ∧ Hid (acc ++ runesFrom s fuel pos = runes s) ∧ s.size ≤ pos + fuel ∧ pos ≤ s.size + 4) (fun _ _ i _ => s.size - (intOf i).toNat)
  case atStart =>
    exact ⟨0, s.size, [], rfl, World.ownsRow_nil _ _ _ _, World.ownsRow_nil _ _ _ _, fun k hk => by simp [Value.ownBlock] at hk, Below.refl _ _, rfl, by omega, by omega⟩
  case round =>
    obtain ⟨pos, fuel, acc, rfl, hv, hu, hap, hbw, hacc, hfu, hpos⟩ := hrel
    have hle := runes_of s acc fuel pos hacc
    have hbs := hbw.size
    by_cases hp : pos < s.size
    · have hwd := decode_pos s pos hp
      have hw4 := decode_le4 s pos
      have hd1 := decode_le s pos
      obtain ⟨f, rfl⟩ : ∃ f, fuel = f + 1 := ⟨fuel - 1, by omega⟩
      go_wp2_with (first
        | (go_at_call 21; refine (runeAt_dec s pos hp hs _).mono ?_; rintro e w' ⟨rfl, rfl⟩)
        | (at_builtin; refine wpList_append_own_at _ rfl (.tmp 19) (.tmp 21) 26 rfl w.heap.size 3 i0 (.int .i64 0) 1 8 Try.underlying26 hi hz0 hz1 hz2 rfl (by decide) _ _ _ rfl (hv.alloc _) ⟨_, 0, none⟩ 1 1 [.int .i64 (Utf8.decode s pos).1] rfl rfl (cell_one_new _ _ _) (by simp [Value.oneCell']) (by unfold maxLen; omega) (by omega) (by simp; omega) ?_; intro v1 w1 hv1 hg1 _ hat1; obtain ⟨hu1, hap1, hb1, hz⟩ := beside hv hu hap hbw hbs hg1 hat1; clear hg1 hat1 hu hap hbw hbs hv)
        | (at_builtin; refine wpList_append_own_at _ rfl (.tmp 23) (.tmp 25) 26 rfl w.heap.size 3 i0 (.int .i64 0) 1 8 Try.underlying26 hi hz0 hz1 hz2 rfl (by decide) _ _ _ rfl (hu1.alloc _) ⟨_, 0, none⟩ 1 1 [.int .i64 pos] rfl rfl (cell_one_new _ _ _) (by simp [Value.oneCell']) (by unfold maxLen; omega) (by omega) (by simp; omega) ?_; intro u2 w2 hu2 hg2 _ hat2; obtain ⟨hv2, hap2, hb2, hz3⟩ := beside hu1 hv1 hap1.symm hb1 hz hg2 hat2; clear hg2 hat2 hv1 hap1 hb1 hz hu1))
      go_roundw
      case rel =>
        go_light
        refine ⟨pos + (Utf8.decode s pos).2, f, acc ++ [(pos, (Utf8.decode s pos).1)], by go_num, ?_, ?_, hap2.symm, hb2, ?_, by omega, by omega⟩
        · rw [List.length_append, List.map_append]; exact hv2
        · rw [List.length_append, List.map_append]; exact hu2
        · have := hacc.out
          rw [runesFrom_step s f pos hp] at this
          show _ = _
          rw [List.append_assoc]; exact this
      case measure => go_light; simp [intOf]; omega
    · have e : acc = runes s := by have := hacc.out; rw [runesFrom_end s fuel pos hp, List.append_nil] at this; exact this
      have E : Hid (acc = runes s) := e
      clear e
      go_wp2
      go_ret2
      exact ⟨_, _, rfl, E.out ▸ hv, E.out ▸ hu, hbw⟩
end Go.Proofs.Ytpembplhhgimeaa
