/- The program: the speller, with the builder that lies at its head. -/
import Derived.Test.YtkaeenafejdkfaaGreatDoorM07
import Derived.Test.YtkaeenafejdkfaaGreatDoorM05
import Derived.Test.YtkaeenafejdkfaaGreatDoorM03
import Derived.Deep.LoopGhost
import Derived.Lib.SliceRun
namespace Go.Proofs.YtkaeenafejdkfaaGreatDoor
open Go.RowKit

/-- A speller in a block of its own: what its builder holds, its tree, how many are open. -/
def SpAt (B b : Nat) (p : Value) (bs : List Value) (tv : Value) (op : Int) (w : World) : Prop :=
  B ≤ b ∧ ∃ v, w.heap[b]? = some (.cells #[p, v, tv, .int .i64 op] 132 (0, 0)) ∧ w.ownsRowF B 5 1 v bs.length bs ∧ v.ownBlock ≠ some b

/-- fresh or written to. -/
def Sp (B b : Nat) (bs : List Value) (tv : Value) (op : Int) (w : World) : Prop :=
  SpAt B b (.pointer none) bs tv op w ∨ SpAt B b (.pointer (some ⟨b, 0, none⟩)) bs tv op w

theorem SpAt.cell0 {B b : Nat} {p : Value} {bs : List Value} {tv : Value} {op : Int} {w : World} (h : SpAt B b p bs tv op w) : w.cell? ⟨b, 0, none⟩ = some p := by
  obtain ⟨_, v, hb, _⟩ := h
  rw [Lib.cell_of_heap hb]; rfl

theorem SpAt.cell2 {B b : Nat} {p : Value} {bs : List Value} {tv : Value} {op : Int} {w : World} (h : SpAt B b p bs tv op w) : w.cell? ⟨b, 2, none⟩ = some tv := by
  obtain ⟨_, v, hb, _⟩ := h
  rw [Lib.cell_of_heap hb]; rfl

theorem SpAt.cell3 {B b : Nat} {p : Value} {bs : List Value} {tv : Value} {op : Int} {w : World} (h : SpAt B b p bs tv op w) : w.cell? ⟨b, 3, none⟩ = some (.int .i64 op) := by
  obtain ⟨_, v, hb, _⟩ := h
  rw [Lib.cell_of_heap hb]; rfl

theorem SpAt.shape {B b : Nat} {p : Value} {bs : List Value} {tv : Value} {op : Int} {w : World} (h : SpAt B b p bs tv op w) : w.shape? b = some (132, 4) := by
  obtain ⟨_, v, hb, _⟩ := h
  simp [World.shape?, hb]

theorem SpAt.lt {B b : Nat} {p : Value} {bs : List Value} {tv : Value} {op : Int} {w : World} (h : SpAt B b p bs tv op w) : b < w.heap.size := by
  obtain ⟨_, v, hb, _⟩ := h
  exact size_of hb

theorem SpAt.frozen {B b : Nat} {p : Value} {bs : List Value} {tv : Value} {op : Int} {w : World} (h : SpAt B b p bs tv op w) (k : Nat) : w.frozen? ⟨b, k, none⟩ = false := by
  obtain ⟨_, v, hb, _⟩ := h
  exact Lib.frozen_of_heap hb k

theorem SpAt.used {B b : Nat} {p : Value} {bs : List Value} {tv : Value} {op : Int} {w : World} (h : SpAt B b p bs tv op w) (q : Value) : SpAt B b q bs tv op (w.setCell ⟨b, 0, none⟩ q) := by
  obtain ⟨hB, v, hb, hown, hne⟩ := h
  refine ⟨hB, v, ?_, ?_, hne⟩
  · simp [World.setCell, Array.getElem?_modify, hb]
  · refine hown.kept (row := some b) ⟨rfl, rfl, rfl, by simp [World.setCell], fun k _ hk => Below.heap_setCell _ _ _ _ (fun e => hk (by simp [e]))⟩ ?_
    exact Or.inr hne

theorem SpAt.opens {B b : Nat} {p : Value} {bs : List Value} {tv : Value} {op : Int} {w : World} (h : SpAt B b p bs tv op w) (q : Int) : SpAt B b p bs tv q (w.setCell ⟨b, 3, none⟩ (.int .i64 q)) := by
  obtain ⟨hB, v, hb, hown, hne⟩ := h
  refine ⟨hB, v, ?_, ?_, hne⟩
  · simp [World.setCell, Array.getElem?_modify, hb]
  · refine hown.kept (row := some b) ⟨rfl, rfl, rfl, by simp [World.setCell], fun k _ hk => Below.heap_setCell _ _ _ _ (fun e => hk (by simp [e]))⟩ ?_
    exact Or.inr hne

theorem SpAt.put {B b : Nat} {p v v' : Value} {bs' : List Value} {tv : Value} {op : Int} {w : World} (hB : B ≤ b) (hb : w.heap[b]? = some (.cells #[p, v, tv, .int .i64 op] 132 (0, 0))) (hown : w.ownsRowF B 5 1 v' bs'.length bs') :
    SpAt B b p bs' tv op (w.setCell ⟨b, 1, none⟩ v') := by
  have hne := Lib.ownBlock_neF hown hb (by decide)
  refine ⟨hB, v', ?_, ?_, hne⟩
  · simp [World.setCell, Array.getElem?_modify, hb]
  · exact hown.kept (row := some b) ⟨rfl, rfl, rfl, by simp [World.setCell], fun k _ hk => Below.heap_setCell _ _ _ _ (fun e => hk (by simp [e]))⟩ (Or.inr hne)

theorem SpAt.alloc {B b : Nat} {p : Value} {bs : List Value} {tv : Value} {op : Int} {w : World} (h : SpAt B b p bs tv op w) (o : Obj) : SpAt B b p bs tv op (w.alloc o) := by
  have hlt := h.lt
  obtain ⟨hB, v, hb, hown, hne⟩ := h
  exact ⟨hB, v, (Lib.alloc_old w o b hlt).trans hb, hown.kept (World.grownBy_alloc w o none) (by cases hv : v.ownBlock <;> simp), hne⟩

/-- what stays: all that lies below B, and every row that is neither one of bytes nor a speller. -/
structure Spk (B : Nat) (w w' : World) : Prop where
  below : Below B w w'
  row : ∀ (k : Nat) (cs : Array Value) (T : TypeId) (fr : Nat × Nat), w.heap[k]? = some (.cells cs T fr) → T ≠ 5 → T ≠ 132 → w'.heap[k]? = some (.cells cs T fr)
theorem Spk.refl (B : Nat) (w : World) : Spk B w w := ⟨Below.refl B w, fun _ _ _ _ h _ _ => h⟩
theorem Spk.trans {B : Nat} {w w' w'' : World} (h : Spk B w w') (h' : Spk B w' w'') : Spk B w w'' := ⟨h.below.trans h'.below, fun k cs T fr e n1 n2 => h'.row k cs T fr (h.row k cs T fr e n1 n2) n1 n2⟩
theorem Spk.of {B : Nat} {w w' : World} (hB : B ≤ w.heap.size) (h : Below w.heap.size w w') : Spk B w w' :=
  ⟨h.mono hB, fun k _ _ _ e _ _ => (h.block k (size_of e)).trans e⟩
theorem Spk.set {B b : Nat} {w w' : World} (h : Spk B w w') (hB : B ≤ b) {cs' : Array Value} {fr' : Nat × Nat} (hb : w'.heap[b]? = some (.cells cs' 132 fr')) (o : Nat) (u : Value) : Spk B w (w'.setCell ⟨b, o, none⟩ u) :=
  ⟨h.below.setCell (p := ⟨b, o, none⟩) hB _, fun k cs T fr e n1 n2 => by
    have e' := h.row k cs T fr e n1 n2
    rw [Below.heap_setCell w' ⟨b, o, none⟩ u k (fun (ek : k = b) => by subst ek; rw [e'] at hb; injection hb with hb; injection hb with _ hb _; exact n2 hb)]
    exact e'⟩

set_option maxHeartbeats 4000000 in
set_option maxRecDepth 100000 in
theorem spCheck_fresh (b : Nat) (w : World) (h0 : w.cell? ⟨b, 0, none⟩ = some (.pointer none)) (hsh : w.shape? b = some (132, 4)) (hfz : w.frozen? ⟨b, 0, none⟩ = false) :
    Calls Tryz.prog 169 #[.pointer (some ⟨b, 0, none⟩)] w fun e w' => e = .returned (.tuple #[]) ∧ w' = w.setCell ⟨b, 0, none⟩ (.pointer (some ⟨b, 0, none⟩)) := by
  have hj : ∃ j, Tryz.prog.info? 130 = some j ∧ j.size ≠ 0 := ⟨_, rfl, by decide⟩
  obtain ⟨j, hj, hjs⟩ := hj
  go_enter Tryz.func169, Tryz.ntmps169
  go_wp2_with fail
  rw [Lib.run_to_unsafe w ⟨b, 0, none⟩ Tryz.underlying127 Tryz.underlying151 hj hjs hsh (Nat.zero_lt_succ 3)]
  simp only [Result.andThen]
  rw [Oper.upon_value]
  go_wp2_with fail
  rw [run_callFunc_extern Tryz.func182 (by kernel_rfl) (by kernel_rfl) (by kernel_rfl) (e := Extern.AbiNoEscape.same) (by kernel_rfl)]
  rw [Lib.run_noEscape]
  simp only [Result.andThen]
  rw [Oper.upon_value]
  go_wp2_with fail
  rw [Lib.run_from_unsafe w ⟨b, 0, none⟩ Tryz.underlying151 Tryz.underlying127 hj hsh (by kernel_rfl)]
  simp only [Result.andThen]
  rw [Oper.upon_value]
  go_wp2_with fail
  go_end0
  exact ⟨rfl, rfl⟩

theorem spCheck_any (B b : Nat) (bs : List Value) (tv : Value) (op : Int) (w : World) (h : Sp B b bs tv op w) :
    Calls Tryz.prog 169 #[.pointer (some ⟨b, 0, none⟩)] w fun e w' => e = .returned (.tuple #[]) ∧ (SpAt B b (.pointer (some ⟨b, 0, none⟩)) bs tv op w' ∧ Spk B w w') := by
  rcases h with h | h
  · refine (spCheck_fresh b w h.cell0 h.shape (h.frozen 0)).mono ?_
    rintro e w' ⟨rfl, rfl⟩
    obtain ⟨v, hbk, _⟩ := h.2
    exact ⟨rfl, h.used _, (Spk.refl B w).set h.1 hbk 0 _⟩
  · refine (copyCheck_used b w h.cell0).mono ?_
    rintro e w' ⟨rfl, rfl⟩
    exact ⟨rfl, h, Spk.refl B _⟩

set_option maxHeartbeats 4000000 in
set_option maxRecDepth 100000 in
theorem spWrite_any (B b : Nat) (bs : List Value) (tv : Value) (op : Int) (s : ByteArray) (w : World) (h : Sp B b bs tv op w) (hlen : bs.length + s.size ≤ 1000000) (hBw : B ≤ w.heap.size) :
    Calls Tryz.prog 149 #[.pointer (some ⟨b, 0, none⟩), .string s] w fun e w' => e = .returned (.tuple #[.int .i64 s.size, .nilIface]) ∧ (SpAt B b (.pointer (some ⟨b, 0, none⟩)) (bs ++ Lib.strCells s) tv op w' ∧ Spk B w w') := by
  obtain ⟨i0, hi, hz0, hz1, hz2⟩ := byte_info
  go_enter Tryz.func149, Tryz.ntmps149
  go_wp2_with fail
  refine (spCheck_any B b bs tv op _ h).mono ?_
  rintro e w1 ⟨rfl, h1, hb1⟩
  obtain ⟨hB, v, hbk, hown, hne⟩ := h1
  have c0 : w1.cell? ⟨b, 0, none⟩ = some (.pointer (some ⟨b, 0, none⟩)) := by rw [Lib.cell_of_heap hbk]; rfl
  have c1 : w1.cell? ⟨b, 1, none⟩ = some v := by rw [Lib.cell_of_heap hbk]; rfl
  go_wp2_with (at_builtin; refine Lib.wpList_append_own_stringF _ rfl _ _ 128 9 rfl B 5 i0 Tryz.underlying128 Tryz.underlying9 hi hz0 hz1 hz2 _ _ _ rfl hown s rfl ?c3 ?c4 ?c5 ?_)
  case c3 => unfold maxLen; omega
  case c4 => omega
  case c5 => have := hb1.below.size; omega
  intro v' w2 hown' hgrow _
  have hlt : b < w1.heap.size := size_of hbk
  have hb2 : w2.heap[b]? = some (.cells #[.pointer (some ⟨b, 0, none⟩), v, tv, .int .i64 op] 132 (0, 0)) := by
    rw [hgrow.block b hlt (fun e => hne e.symm)]
    exact hbk
  have d0 : w2.cell? ⟨b, 0, none⟩ = some (.pointer (some ⟨b, 0, none⟩)) := by rw [Lib.cell_of_heap hb2]; rfl
  have d1 : w2.cell? ⟨b, 1, none⟩ = some v := by rw [Lib.cell_of_heap hb2]; rfl
  have f1 : w2.frozen? ⟨b, 1, none⟩ = false := Lib.frozen_of_heap hb2 1
  obtain ⟨ao, n', cap, rfl⟩ : ∃ ao n' cap, v' = .slice ao n' cap := by
    rcases hown'.2 with ⟨hv, _⟩ | ⟨g, cap, cur, fz, hv, _⟩
    · exact ⟨_, _, _, hv⟩
    · exact ⟨_, _, _, hv⟩
  have HO := hid hown'
  have HG := hid hgrow
  have HW := hid hown
  clear hown' hgrow hown
  go_wp2_with fail
  go_ret2
  refine ⟨rfl, ?_, ?_⟩
  · exact SpAt.put hB hb2 (bs' := bs ++ Lib.strCells s) (by simpa [Lib.strCells_length] using HO.out)
  · refine Spk.set (w' := w2) ⟨hb1.below.grown HG.out (by have := hb1.below.size; omega) (fun k hk => (HW.out.lt k hk).1), fun k cs T fr e n1 n2 => ?_⟩ hB hb2 1 _
    have e' := hb1.row k cs T fr e n1 n2
    rw [HG.out.block k (size_of e') (fun e2 => Lib.ownBlock_neF HW.out e' n1 e2.symm)]
    exact e'

set_option maxHeartbeats 4000000 in
set_option maxRecDepth 100000 in
theorem spLen_any (B b : Nat) (bs : List Value) (tv : Value) (op : Int) (w : World) (h : Sp B b bs tv op w) :
    Calls Tryz.prog 148 #[.pointer (some ⟨b, 0, none⟩)] w fun e w' => e = .returned (.int .i64 bs.length) ∧ w' = w := by
  obtain ⟨p, v, hbk, hown⟩ : ∃ p v, w.heap[b]? = some (.cells #[p, v, tv, .int .i64 op] 132 (0, 0)) ∧ w.ownsRowF B 5 1 v bs.length bs := by
    rcases h with ⟨_, v, h1, h2, _⟩ | ⟨_, v, h1, h2, _⟩
    · exact ⟨_, v, h1, h2⟩
    · exact ⟨_, v, h1, h2⟩
  obtain ⟨ao, cap, rfl⟩ : ∃ ao cap, v = .slice ao bs.length cap := by
    rcases hown.2 with ⟨hv, h0⟩ | ⟨g, cap, cur, fz, hv, _⟩
    · exact ⟨none, 0, by rw [hv]; simp_all⟩
    · exact ⟨_, _, hv⟩
  have c1 : w.cell? ⟨b, 1, none⟩ = some (.slice ao bs.length cap) := by rw [Lib.cell_of_heap hbk]; rfl
  clear hown hbk h
  go_enter Tryz.func148, Tryz.ntmps148
  go_wp2_with fail
  go_ret
  exact ⟨rfl, rfl⟩
end Go.Proofs.YtkaeenafejdkfaaGreatDoor

/- The program: put, a speller's parts. -/
namespace Go.Proofs.YtkaeenafejdkfaaGreatDoor
open Go.RowKit

/-- parts behind each other, as cells -/
def catV (l : List ByteArray) : List Value := l.flatMap Lib.strCells
def catN : List ByteArray → Nat
  | [] => 0
  | x :: l => x.size + catN l
theorem catN_append (a b : List ByteArray) : catN (a ++ b) = catN a + catN b := by
  induction a with
  | nil => simp [catN]
  | cons x a ih => simp only [List.cons_append, catN, ih]; omega
theorem catV_length (l : List ByteArray) : (catV l).length = catN l := by
  induction l with
  | nil => rfl
  | cons x l ih =>
    have e : catV (x :: l) = Lib.strCells x ++ catV l := by simp [catV]
    rw [e, List.length_append, Lib.strCells_length, ih, catN]

/-- a row of texts -/
def StrRow (w : World) (g : Nat) (parts : List ByteArray) : Prop := ∃ fr, w.heap[g]? = some (.cells (parts.map Value.string).toArray 9 fr)
theorem StrRow.keep {B : Nat} {w w' : World} {g : Nat} {parts : List ByteArray} (h : StrRow w g parts) (hk : Spk B w w') : StrRow w' g parts := by
  obtain ⟨fr, h⟩ := h
  exact ⟨fr, hk.row g _ _ _ h (by decide) (by decide)⟩
theorem StrRow.cell {w : World} {g : Nat} {parts : List ByteArray} (h : StrRow w g parts) {k : Nat} {x : ByteArray} (hk : parts[k]? = some x) : w.cell? ⟨g, k, none⟩ = some (.string x) := by
  obtain ⟨fr, h⟩ := h
  rw [Lib.cell_of_heap h]
  simp [hk]

set_option maxHeartbeats 4000000 in
set_option maxRecDepth 100000 in
theorem spPut_any (B b : Nat) (bs : List Value) (tv : Value) (op : Int) (g c : Nat) (parts : List ByteArray) (w : World) (h : Sp B b bs tv op w) (hg : StrRow w g parts) (hlen : bs.length + catN parts ≤ 20000) (hpl : parts.length ≤ 1000) (hBw : B ≤ w.heap.size) :
    Calls Tryz.prog 117 #[.pointer (some ⟨b, 0, none⟩), .slice (some ⟨g, 0, none⟩) parts.length c] w fun e w' => e = .returned (.tuple #[]) ∧ (Sp B b (bs ++ catV parts) tv op w' ∧ Spk B w w') := by
  go_enter Tryz.func117, Tryz.ntmps117
  go_wp2_with fail
  go_loopw [8] (fun v wr => ∃ k : Nat, k ≤ parts.length ∧ v = .int .i64 k ∧ Hid (Sp B b (bs ++ catV (parts.take k)) tv op wr ∧ Spk B w wr)) (fun v _ => parts.length - (intOf v).toNat)
  case atStart => exact ⟨0, by omega, rfl, hid ⟨by simpa [catV] using h, Spk.refl B w⟩⟩
  case round =>
    obtain ⟨k, hk, rfl, HR⟩ := hrel
    by_cases hlt : k < parts.length
    · obtain ⟨x, hx⟩ : ∃ x, parts[k]? = some x := ⟨_, List.getElem?_eq_getElem hlt⟩
      have htk : parts.take (k + 1) = parts.take k ++ [x] := by rw [List.take_add_one, hx]; rfl
      have hcN : catN (parts.take k) + x.size ≤ catN parts := by
        have e := congrArg catN (List.take_append_drop (k + 1) parts)
        rw [catN_append, htk, catN_append] at e
        simp only [catN] at e
        omega
      have hl0 : (bs ++ catV (parts.take k)).length = bs.length + catN (parts.take k) := by rw [List.length_append, catV_length]
      have hcell := (hg.keep HR.out.2).cell hx
      obtain ⟨n, hn⟩ : ∃ n, n = bs.length + catN (parts.take k) := ⟨_, rfl⟩
      rw [← hn] at hl0
      have hnx : n + x.size ≤ 20000 := by omega
      have HT := hid htk
      have HL := hid hl0
      clear htk hl0 hn hcN hx
      go_wp2_with fail
      refine (spLen_any B b _ tv op _ HR.out.1).mono ?_
      rintro e w1 ⟨rfl, rfl⟩
      rw [HL.out]
      have hnot : decide ((n : Int) + (x.size : Int) > 20000) = false := by rw [decide_eq_false_iff_not]; omega
      go_wp2_with fail
      refine (spWrite_any B b _ tv op x _ HR.out.1 (by rw [HL.out]; omega) (Nat.le_trans hBw HR.out.2.below.size)).mono ?_
      rintro e w2 ⟨rfl, hS2, hK2⟩
      have H2 : Hid (Sp B b (bs ++ catV (parts.take (k + 1))) tv op w2 ∧ Spk B w w2) := by
        refine ⟨.inr ?_, HR.out.2.trans hK2⟩
        rw [HT.out]
        unfold catV at hS2 ⊢
        rw [List.flatMap_append, ← List.append_assoc]
        simpa using hS2
      clear hS2 hK2 HR hcell
      go_wp2_with fail
      refine ⟨⟨k + 1, by omega, by go_num, H2⟩, ?_⟩
      simp [intOf]; omega
    · have hkk : k = parts.length := by omega
      subst hkk
      go_wp2_with fail
      go_end0
      rw [List.take_length] at HR
      exact ⟨rfl, HR.out⟩

theorem Sp.alloc {B b : Nat} {bs : List Value} {tv : Value} {op : Int} {w : World} (h : Sp B b bs tv op w) (o : Obj) : Sp B b bs tv op (w.alloc o) := h.elim (fun x => .inl (x.alloc o)) (fun x => .inr (x.alloc o))
theorem Sp.drew {B b : Nat} {bs : List Value} {tv : Value} {op : Int} {w : World} (h : Sp B b bs tv op w) : Sp B b bs tv op w.drew := h
/-- parts that were just laid in a row -/
theorem spPut_new (parts : List ByteArray) {B b : Nat} {bs : List Value} {tv : Value} {op : Int} {w wr W : World} (h : Sp B b bs tv op wr) (hk : Spk B w wr) (hBw : B ≤ w.heap.size) (hlen : bs.length + catN parts ≤ 20000) (hpl : parts.length ≤ 1000)
    (hW : W = wr.alloc (.cells (parts.map Value.string).toArray 9) ∨ W = (wr.alloc (.cells (parts.map Value.string).toArray 9)).drew) :
    Calls Tryz.prog 117 #[.pointer (some ⟨b, 0, none⟩), .slice (some ⟨wr.heap.size, 0, none⟩) parts.length parts.length] W fun e w' => e = .returned (.tuple #[]) ∧ Hid (Sp B b (bs ++ catV parts) tv op w' ∧ Spk B w w') := by
  have hBr : B ≤ wr.heap.size := Nat.le_trans hBw hk.below.size
  have h0 : Below wr.heap.size wr W := by
    rcases hW with rfl | rfl
    · exact (Below.refl _ _).alloc (Nat.le_refl _) _
    · exact ((Below.refl _ _).alloc (Nat.le_refl _) _).drew
  have h1 : Sp B b bs tv op W := by
    rcases hW with rfl | rfl
    · exact h.alloc _
    · exact (h.alloc _).drew
  have h2 : StrRow W wr.heap.size parts := by
    rcases hW with rfl | rfl
    · exact ⟨_, heap_alloc_new wr _⟩
    · exact ⟨_, heap_alloc_new wr _⟩
  refine (spPut_any B b bs tv op wr.heap.size parts.length parts W h1 h2 hlen hpl (Nat.le_trans hBr h0.size)).mono ?_
  rintro e w' ⟨rfl, q1, q2⟩
  exact ⟨rfl, q1, (hk.trans (Spk.of hBr h0)).trans q2⟩
end Go.Proofs.YtkaeenafejdkfaaGreatDoor

/- What is spelt of a text, and that it is read as that text. -/
namespace Go.Proofs.YtkaeenafejdkfaaGreatDoor

def refOf (c : UInt8) : List UInt8 := if c = 60 then [38, 108, 116, 59] else if c = 34 then [38, 113, 117, 111, 116, 59] else [38, 97, 109, 112, 59]
/-- a text with its marks as references -/
def quoteL (m : UInt8) : List UInt8 → List UInt8
  | [] => []
  | c :: l => if c = 38 ∨ c = m then refOf c ++ quoteL m l else c :: quoteL m l
theorem quoteL_app (m : UInt8) (a b : List UInt8) : quoteL m (a ++ b) = quoteL m a ++ quoteL m b := by
  induction a with
  | nil => rfl
  | cons c a ih =>
    by_cases h : c = 38 ∨ c = m
    · simp only [List.cons_append, quoteL, if_pos h, ih, List.append_assoc]
    · simp only [List.cons_append, quoteL, if_neg h, ih]
theorem meant_amp (l : List UInt8) : meant (38 :: 97 :: 109 :: 112 :: 59 :: l) = 38 :: meant l := by
  have h : refAt (97 :: 109 :: 112 :: 59 :: l) = some (38, 4) := by
    unfold refAt
    simp only
    have e : (97 :: 109 :: 112 :: 59 :: l : List UInt8).takeWhile bodyB = [97, 109, 112] := by
      rw [List.takeWhile_cons_of_pos (by decide), List.takeWhile_cons_of_pos (by decide), List.takeWhile_cons_of_pos (by decide), List.takeWhile_cons_of_neg (by decide)]
    rw [e]
    rfl
  rw [meant_ref h]
  rfl
theorem meant_lt (l : List UInt8) : meant (38 :: 108 :: 116 :: 59 :: l) = 60 :: meant l := by
  have h : refAt (108 :: 116 :: 59 :: l) = some (60, 3) := by
    unfold refAt
    simp only
    have e : (108 :: 116 :: 59 :: l : List UInt8).takeWhile bodyB = [108, 116] := by
      rw [List.takeWhile_cons_of_pos (by decide), List.takeWhile_cons_of_pos (by decide), List.takeWhile_cons_of_neg (by decide)]
    rw [e]
    rfl
  rw [meant_ref h]
  rfl
theorem meant_quot (l : List UInt8) : meant (38 :: 113 :: 117 :: 111 :: 116 :: 59 :: l) = 34 :: meant l := by
  have h : refAt (113 :: 117 :: 111 :: 116 :: 59 :: l) = some (34, 5) := by
    unfold refAt
    simp only
    have e : (113 :: 117 :: 111 :: 116 :: 59 :: l : List UInt8).takeWhile bodyB = [113, 117, 111, 116] := by
      rw [List.takeWhile_cons_of_pos (by decide), List.takeWhile_cons_of_pos (by decide), List.takeWhile_cons_of_pos (by decide), List.takeWhile_cons_of_pos (by decide), List.takeWhile_cons_of_neg (by decide)]
    rw [e]
    rfl
  rw [meant_ref h]
  rfl
/-- what is quoted is read as it was -/
theorem meant_quote (m : UInt8) (hm : m = 60 ∨ m = 34) : ∀ l : List UInt8, meant (quoteL m l) = l
  | [] => rfl
  | c :: l => by
    have ih := meant_quote m hm l
    unfold quoteL
    split
    · rename_i h
      unfold refOf
      split
      · rename_i e; subst e
        show meant (38 :: 108 :: 116 :: 59 :: quoteL m l) = _
        rw [meant_lt, ih]
      · split
        · rename_i e; subst e
          show meant (38 :: 113 :: 117 :: 111 :: 116 :: 59 :: quoteL m l) = _
          rw [meant_quot, ih]
        · rename_i h1 h2
          have e : c = 38 := by
            rcases h with h | h
            · exact h
            · rcases hm with e | e
              · exact absurd (h.trans e) h1
              · exact absurd (h.trans e) h2
          subst e
          show meant (38 :: 97 :: 109 :: 112 :: 59 :: quoteL m l) = _
          rw [meant_amp, ih]
    · rename_i h
      rw [meant_plain (fun e => h (.inl e)), ih]
theorem refOf_no (m : UInt8) (hm : m = 60 ∨ m = 34) (c : UInt8) : m ∉ refOf c := by
  unfold refOf
  rcases hm with rfl | rfl <;> (split <;> (try split) <;> decide)
/-- the mark is not in it -/
theorem quote_no (m : UInt8) (hm : m = 60 ∨ m = 34) : ∀ l : List UInt8, m ∉ quoteL m l
  | [] => by simp [quoteL]
  | c :: l => by
    have ih := quote_no m hm l
    unfold quoteL
    split
    · rw [List.mem_append]
      rintro (h | h)
      · exact refOf_no m hm c h
      · exact ih h
    · rename_i h
      rw [List.mem_cons]
      rintro (e | e)
      · exact h (.inr e.symm)
      · exact ih e
theorem refOf_len (c : UInt8) : (refOf c).length ≤ 6 ∧ 4 ≤ (refOf c).length := by
  unfold refOf
  split
  · decide
  · split <;> decide
theorem quote_len (m : UInt8) : ∀ l : List UInt8, (quoteL m l).length ≤ 6 * l.length
  | [] => by simp [quoteL]
  | c :: l => by
    have ih := quote_len m l
    unfold quoteL
    split
    · have := (refOf_len c).1
      rw [List.length_append, List.length_cons]
      omega
    · rw [List.length_cons, List.length_cons]
      omega
theorem quote_ne (m : UInt8) {l : List UInt8} (h : l ≠ []) : quoteL m l ≠ [] := by
  cases l with
  | nil => exact absurd rfl h
  | cons c l =>
    unfold quoteL
    split
    · intro e
      have := (refOf_len c).2
      rw [List.append_eq_nil_iff] at e
      rw [e.1] at this
      simp at this
    · simp
end Go.Proofs.YtkaeenafejdkfaaGreatDoor

/- The program: quote, a text whose marks are put as references. -/
namespace Go.Proofs.YtkaeenafejdkfaaGreatDoor
open Go.RowKit

def refS (c : UInt8) : ByteArray := ⟨(refOf c).toArray⟩
set_option maxHeartbeats 4000000 in
set_option maxRecDepth 100000 in
theorem reference_any (c : Nat) (hc : c < 256) (w : World) :
    Calls Tryz.prog 147 #[.int .u8 c] w fun e w' => e = .returned (.string (refS c.toUInt8)) ∧ w' = w := by
  by_cases h1 : c = 60
  · subst h1
    go_enter Tryz.func147, Tryz.ntmps147
    go_wp2_with fail
    go_ret
    exact ⟨rfl, rfl⟩
  · by_cases h2 : c = 34
    · subst h2
      go_enter Tryz.func147, Tryz.ntmps147
      go_wp2_with fail
      go_ret
      exact ⟨rfl, rfl⟩
    · have e1 : ((c : Int) == 60) = false := by rw [beq_eq_false_iff_ne]; omega
      have e2 : ((c : Int) == 34) = false := by rw [beq_eq_false_iff_ne]; omega
      have hr : refS c.toUInt8 = ⟨#[38, 97, 109, 112, 59]⟩ := by
        have n1 : c.toUInt8 ≠ 60 := fun e => h1 (by have := congrArg UInt8.toNat e; simp at this; omega)
        have n2 : c.toUInt8 ≠ 34 := fun e => h2 (by have := congrArg UInt8.toNat e; simp at this; omega)
        unfold refS refOf
        rw [if_neg n1, if_neg n2]
      rw [hr]
      clear hr h1 h2 hc
      go_enter Tryz.func147, Tryz.ntmps147
      go_wp2_with fail
      go_ret
      exact ⟨rfl, rfl⟩

theorem quote_step {m : UInt8} {l P : List UInt8} {f k : Nat} {c : UInt8} (hk : l[k]? = some c) (hf : f ≤ k) (h : quoteL m (l.take k) = P ++ (l.take k).drop f) :
    quoteL m (l.take (k + 1)) = P ++ (l.take k).drop f ++ quoteL m [c] ∧ (l.take (k + 1)).drop f = (l.take k).drop f ++ [c] := by
  have hl : k < l.length := by
    rcases Nat.lt_or_ge k l.length with h | h
    · exact h
    · rw [List.getElem?_eq_none h] at hk; cases hk
  have e : l.take (k + 1) = l.take k ++ [c] := by rw [List.take_add_one, hk]; rfl
  refine ⟨by rw [e, quoteL_app, h], ?_⟩
  rw [e, List.drop_append_of_le_length (by rw [List.length_take]; omega)]
theorem quote_pre (m : UInt8) (l : List UInt8) (k : Nat) : (quoteL m (l.take k)).length ≤ (quoteL m l).length := by
  conv => rhs; rw [← List.take_append_drop k l, quoteL_app, List.length_append]
  omega
theorem ext_dt (s : ByteArray) (f k : Nat) : (s.extract f k).data.toList = (s.data.toList.take k).drop f := by
  rw [ByteArray.data_extract, Array.toList_extract, List.drop_take]
theorem quote_one {m c : UInt8} (h : c = 38 ∨ c = m) : quoteL m [c] = refOf c := by simp [quoteL, h]
theorem quote_none {m c : UInt8} (h : ¬ (c = 38 ∨ c = m)) : quoteL m [c] = [c] := by simp [quoteL, h]
theorem refS_size (c : UInt8) : (refS c).size = (refOf c).length := rfl
theorem catV_two (a b : ByteArray) : catV [a, b] = Lib.byteCells (a.data.toList ++ b.data.toList) := by
  simp [catV, Lib.byteCells_append, Lib.strCells_eq]
theorem catV_one (a : ByteArray) : catV [a] = Lib.byteCells a.data.toList := by simp [catV, Lib.strCells_eq]
/-- what a round at a mark leaves -/
theorem quote_mark {B b : Nat} {bs : List Value} {tv : Value} {op : Int} {s : ByteArray} {m c : Nat} {k f : Nat} {w wr : World} (hlt : k < s.size) (hf : f ≤ k) (hc : s[k].toNat = c) (hq : c = 38 ∨ c = m)
    (hlen : bs.length + (quoteL m.toUInt8 s.data.toList).length ≤ 20000) (hBw : B ≤ w.heap.size)
    (HR : ∃ P, Sp B b (bs ++ Lib.byteCells P) tv op wr ∧ Spk B w wr ∧ quoteL m.toUInt8 (s.data.toList.take k) = P ++ (s.data.toList.take k).drop f) :
    Calls Tryz.prog 117 #[.pointer (some ⟨b, 0, none⟩), .slice (some ⟨wr.heap.size, 0, none⟩) 2 2] (wr.alloc (.cells #[.string (s.extract f k), .string (refS (UInt8.ofNat c))] 9)).drew fun e w' => e = .returned (.tuple #[]) ∧ Hid (∃ P, Sp B b (bs ++ Lib.byteCells P) tv op w' ∧ Spk B w w' ∧ quoteL m.toUInt8 (s.data.toList.take (k + 1)) = P ++ (s.data.toList.take (k + 1)).drop (k + 1)) := by
  obtain ⟨P, h1, h2, h3⟩ := HR
  have hk : s.data.toList[k]? = some s[k] := by rw [List.getElem?_eq_getElem (by simpa using hlt)]; rfl
  have hcc : UInt8.ofNat c = s[k] := by rw [← hc]; simp
  have hq' : s[k] = 38 ∨ s[k] = m.toUInt8 := by
    rcases hq with e | e
    · exact .inl (by rw [← hcc, e]; rfl)
    · exact .inr (by rw [← hcc, e])
  obtain ⟨q1, _⟩ := quote_step (m := m.toUInt8) hk hf h3
  rw [quote_one hq'] at q1
  have hP := quote_pre m.toUInt8 s.data.toList (k + 1)
  rw [q1, List.length_append, List.length_append] at hP
  have e1 : (s.extract f k).size = ((s.data.toList.take k).drop f).length := by rw [← ext_dt]; rfl
  refine (spPut_new [s.extract f k, refS (UInt8.ofNat c)] h1 h2 hBw ?_ (by simp) (.inr rfl)).mono ?_
  · simp only [catN, List.length_append, Lib.byteCells_length, refS_size, hcc, e1]; omega
  · rintro e w' ⟨rfl, g⟩
    refine ⟨rfl, hid ⟨P ++ (s.data.toList.take k).drop f ++ refOf s[k], ?_, g.out.2, ?_⟩⟩
    · have := g.out.1
      rw [catV_two, ext_dt, List.append_assoc, ← Lib.byteCells_append, hcc] at this
      rw [List.append_assoc]
      exact this
    · rw [q1]; simp
/-- what a round at no mark leaves -/
theorem quote_stay {B b : Nat} {bs : List Value} {tv : Value} {op : Int} {s : ByteArray} {m c : Nat} {k f : Nat} {w wr : World} (hlt : k < s.size) (hf : f ≤ k) (hc : s[k].toNat = c) (hm : m < 256) (hq : ¬ (c = 38 ∨ c = m))
    (HR : ∃ P, Sp B b (bs ++ Lib.byteCells P) tv op wr ∧ Spk B w wr ∧ quoteL m.toUInt8 (s.data.toList.take k) = P ++ (s.data.toList.take k).drop f) :
    ∃ P, Sp B b (bs ++ Lib.byteCells P) tv op wr ∧ Spk B w wr ∧ quoteL m.toUInt8 (s.data.toList.take (k + 1)) = P ++ (s.data.toList.take (k + 1)).drop f := by
  obtain ⟨P, h1, h2, h3⟩ := HR
  have hk : s.data.toList[k]? = some s[k] := by rw [List.getElem?_eq_getElem (by simpa using hlt)]; rfl
  have hq' : ¬ (s[k] = 38 ∨ s[k] = m.toUInt8) := by
    rintro (e | e)
    · exact hq (.inl (by rw [← hc, e]; rfl))
    · exact hq (.inr (by rw [← hc, e]; simp; omega))
  obtain ⟨q1, q2⟩ := quote_step (m := m.toUInt8) hk hf h3
  rw [quote_none hq'] at q1
  exact ⟨P, h1, h2, by rw [q1, q2, List.append_assoc]⟩
/-- the rest behind the last mark -/
theorem quote_last {B b : Nat} {bs : List Value} {tv : Value} {op : Int} {s : ByteArray} {m : Nat} {f : Nat} {w wr : World}
    (hlen : bs.length + (quoteL m.toUInt8 s.data.toList).length ≤ 20000) (hBw : B ≤ w.heap.size)
    (HR : ∃ P, Sp B b (bs ++ Lib.byteCells P) tv op wr ∧ Spk B w wr ∧ quoteL m.toUInt8 (s.data.toList.take s.size) = P ++ (s.data.toList.take s.size).drop f) :
    Calls Tryz.prog 117 #[.pointer (some ⟨b, 0, none⟩), .slice (some ⟨wr.heap.size, 0, none⟩) 1 1] (wr.alloc (.cells #[.string (s.extract f s.size)] 9)) fun e w' => e = .returned (.tuple #[]) ∧ Hid (Sp B b (bs ++ Lib.byteCells (quoteL m.toUInt8 s.data.toList)) tv op w' ∧ Spk B w w') := by
  obtain ⟨P, h1, h2, h3⟩ := HR
  have e1 : (s.extract f s.size).size = ((s.data.toList.take s.size).drop f).length := by rw [← ext_dt]; rfl
  have e0 : s.data.toList.take s.size = s.data.toList := List.take_of_length_le (by simp)
  have hP := congrArg List.length h3
  rw [List.length_append, ← e1, e0] at hP
  refine (spPut_new [s.extract f s.size] h1 h2 hBw ?_ (by simp) (.inl rfl)).mono ?_
  · simp only [catN, List.length_append, Lib.byteCells_length]; omega
  · rintro e w' ⟨rfl, g⟩
    refine ⟨rfl, hid ⟨?_, g.out.2⟩⟩
    have := g.out.1
    rw [catV_one, ext_dt, List.append_assoc, ← Lib.byteCells_append, ← h3, e0] at this
    exact this

set_option maxHeartbeats 4000000 in
set_option maxRecDepth 100000 in
theorem quote_any (B b : Nat) (bs : List Value) (tv : Value) (op : Int) (s : ByteArray) (m : Nat) (hm : m < 256) (w : World) (h : Sp B b bs tv op w) (hlen : bs.length + (quoteL m.toUInt8 s.data.toList).length ≤ 20000) (hsz : s.size ≤ 20000) (hBw : B ≤ w.heap.size) :
    Calls Tryz.prog 116 #[.pointer (some ⟨b, 0, none⟩), .string s, .int .u8 m] w fun e w' => e = .returned (.tuple #[]) ∧ (Sp B b (bs ++ Lib.byteCells (quoteL m.toUInt8 s.data.toList)) tv op w' ∧ Spk B w w') := by
  go_enter Tryz.func116, Tryz.ntmps116
  go_wp2_with fail
  go_loopw [6, 10] (fun fv v wr => ∃ k f : Nat, k ≤ s.size ∧ f ≤ k ∧ v = .int .i64 k ∧ fv = .int .i64 f ∧ Hid (∃ P, Sp B b (bs ++ Lib.byteCells P) tv op wr ∧ Spk B w wr ∧ quoteL m.toUInt8 (s.data.toList.take k) = P ++ (s.data.toList.take k).drop f)) (fun _ v _ => s.size - (intOf v).toNat)
  case atStart => exact ⟨0, 0, by omega, by omega, rfl, rfl, hid ⟨[], by simpa [Lib.byteCells] using h, Spk.refl B w, rfl⟩⟩
  case round =>
    obtain ⟨k, f, hk, hf, rfl, rfl, HR⟩ := hrel
    by_cases hlt : k < s.size
    · obtain ⟨c, hc⟩ : ∃ c, s[k].toNat = c := ⟨_, rfl⟩
      have hc8 : c < 256 := by rw [← hc]; exact UInt8.toNat_lt _
      by_cases hq : c = 38 ∨ c = m
      · have g0 : ((c : Int) == 38) = true ∨ (((c : Int) == 38) = false ∧ ((c : Int) == (m : Int)) = true) := by
          by_cases e : c = 38
          · exact .inl (by rw [beq_iff_eq]; omega)
          · exact .inr ⟨by rw [beq_eq_false_iff_ne]; omega, by rw [beq_iff_eq]; omega⟩
        have HP := hid (quote_mark hlt hf hc hq hlen hBw HR.out)
        clear hq HR hm
        rcases g0 with g1 | ⟨g1, g2⟩
        all_goals
          go_wp2_with fail
        all_goals
          go_region_with ((first
            | (go_at_call 147; refine (reference_any c hc8 _).mono ?_; rintro e w1 ⟨rfl, rfl⟩)
            | (go_at_call 117; refine HP.out.mono ?_; rintro e w2 ⟨rfl, HR2⟩)))
        all_goals go_wp2_with fail
        all_goals (refine ⟨⟨k + 1, k + 1, by omega, by omega, by go_num, by go_num, HR2⟩, ?_⟩; simp [intOf]; omega)
      · have g1 : ((c : Int) == 38) = false := by rw [beq_eq_false_iff_ne]; omega
        have g2 : ((c : Int) == (m : Int)) = false := by rw [beq_eq_false_iff_ne]; omega
        have H2 := hid (quote_stay hlt hf hc hm hq HR.out)
        clear hq HR hm
        go_wp2_with fail
        refine ⟨⟨k + 1, f, by omega, by omega, by go_num, rfl, H2⟩, ?_⟩
        simp [intOf]; omega
    · have hkk : k = s.size := by omega
      subst hkk
      have HP := hid (quote_last hlen hBw HR.out)
      clear HR
      go_wp2_with fail
      refine HP.out.mono ?_
      rintro e w2 ⟨rfl, HR2⟩
      go_wp2_with fail
      go_end0
      exact ⟨rfl, HR2.out⟩
end Go.Proofs.YtkaeenafejdkfaaGreatDoor

/- What looks at a tree: kids, places, ways. -/
namespace Go.Proofs.YtkaeenafejdkfaaGreatDoor
open Go.RowKit

theorem Tryz.infoInt : (Tryz.prog.info? 3).map (fun i => (i.zero, i.size, i.bytes)) = some (some (.int .i64 0), 1, 8) := by kernel_rfl

set_option maxHeartbeats 1000000 in
set_option maxRecDepth 100000 in
theorem clone_any {w : World} {M : Nat → Lab} {l : Lab} {v : Value} {n : Nat} {xs : List Int} (h : Row w M l 3 1 v n (xs.map intV)) (hn : n ≤ 1099511627776) :
    Calls Tryz.prog 91 #[v] w fun e w' => ∃ v', e = .returned v' ∧ w'.ownsRow w.heap.size 3 1 v' n (xs.map intV) ∧ Below w.heap.size w w' := by
  obtain ⟨i0, hi, hz0, hz1, hz2⟩ := info_parts Tryz.infoInt
  have qs : ∀ (w : World) (a : Option Addr) (n c n' c' : Nat), (binOp .eql 48 (.slice a n c) (.slice none n' c')).run Tryz.prog w = .ok (.bool a.isNone) w := fun w a n c n' c' => Lib.run_eql_slice_nil w _ _ a n c n' c' Tryz.underlying48
  obtain ⟨hl, a, cap, rfl, h1, h2, h3⟩ := id h
  cases a with
  | none =>
    have hz : n = 0 ∧ cap = 0 := by
      rcases h3 with ⟨h3, _⟩ | ⟨g, cur, ha, _⟩
      · exact ⟨by omega, h3⟩
      · cases ha
    obtain ⟨rfl, rfl⟩ := hz
    have hx : xs.map intV = [] := List.eq_nil_of_length_eq_zero (by simpa using hl)
    have HX : Hid (xs.map intV = []) := hx
    clear h hl h3 hx
    go_enter Tryz.func91, Tryz.ntmps91
    go_wp2
    go_ret
    exact ⟨_, rfl, by rw [HX.out]; exact World.ownsRow_nil _ _ _ _, Below.refl _ _⟩
  | some ad =>
    obtain ⟨g, rfl⟩ : ∃ g, ad = ⟨g, 0, none⟩ := by
      rcases h3 with ⟨_, h3 | ⟨g, h3⟩⟩ | ⟨g, cur, ha, _⟩
      · cases h3
      · exact ⟨g, by cases h3; rfl⟩
      · exact ⟨g, by cases ha; rfl⟩
    have hcells : Hid (∀ j u, (xs.map intV)[j]? = some u → (w.alloc (.cells #[] 3)).cell? ((⟨g, 0, none⟩ : Addr).add j) = some u) := by
      intro j u hu
      have hadd : (⟨g, 0, none⟩ : Addr).add j = ⟨g, j, none⟩ := by unfold Addr.add; split <;> simp_all
      have hc := (h.cell rfl hu).1
      rw [hadd]
      exact (World.cell?_of_block (a := ⟨g, j, none⟩) (Below.heap_alloc w _ g (World.block_lt_of_cell? w _ hc))).trans hc
    have hone : Hid (∀ u ∈ xs.map intV, u.oneCell' = true) := by
      intro u hu
      obtain ⟨k, _, rfl⟩ := List.mem_map.1 hu
      rfl
    have hown : Hid ((w.alloc (.cells #[] 3)).ownsRow w.heap.size 3 1 (.slice (some ⟨w.heap.size, 0, none⟩) 0 0) 0 []) := World.ownsRow_made w #[] 0 (Nat.le_refl _) (by unfold maxLen; omega) rfl
    have HL : Hid ((xs.map intV).length = n * 1) := hl
    clear h hl h3
    unfold maxLen at h2
    go_enter Tryz.func91, Tryz.ntmps91
    go_wp2_with (at_builtin; refine wpList_append_own_at _ (by rfl) (.tmp 5) (.tmp 6) 48 (by rfl) w.heap.size 3 i0 (.int .i64 0) 1 8 Tryz.underlying48 hi hz0 hz1 hz2 rfl (by decide) (.slice (some ⟨w.heap.size, 0, none⟩) 0 0) 0 [] (by rfl) hown.out ⟨g, 0, none⟩ n cap (xs.map intV) (by rfl) HL.out hcells.out hone.out (by unfold maxLen; omega) (by omega) (by simp) ?_; intro v' w' hv hg _ _; have HV : Hid _ := And.intro hv hg; clear hv hg)
    go_ret
    refine ⟨_, rfl, by simpa using HV.out.1, ?_⟩
    exact ((Below.refl _ _).alloc (Nat.le_refl _) _).grown HV.out.2 (by simp) (fun k hk => by simp [Value.ownBlock] at hk; omega)

set_option maxHeartbeats 1000000 in
theorem kids_any {w : World} {M : Nat → Lab} {tb : Nat} {nv uv : Value} {ps : List Pn} {us : List Value} (h : Lies w M tb nv uv ps us) {i : Nat} {p : Pn} (hp : ps[i]? = some p) (hk : p.n.kids.length ≤ 1099511627776) :
    Calls Tryz.prog 44 #[.pointer (some ⟨tb, 0, none⟩), .int .i64 i] w fun e w' => ∃ v', e = .returned v' ∧ w'.ownsRow w.heap.size 3 1 v' p.n.kids.length (p.n.kids.map intV) ∧ Below w.heap.size w w' := by
  have hb := hasB_of hp
  obtain ⟨nb, cap, rfl, hc, hm, _, _, hi⟩ := h.form hp
  have c0 := h.cell0
  have c5 := (h.cellN rfl (f := 5) hp (by omega) rfl).1
  have hr := (h.node i p hp).2
  obtain ⟨ka, kc, hkv, _, _⟩ := hr.shape
  rw [hkv] at c5
  have HR : Hid (Row w M (.kids i) 3 1 (.slice ka p.n.kids.length kc) p.n.kids.length (p.n.kids.map intV)) := hkv ▸ hr
  have H : Hid (Lies w M tb (.slice (some ⟨nb, 0, none⟩) ps.length cap) uv ps us) := h
  unfold maxLen at hm
  clear h hr hkv
  go_enter Tryz.func44, Tryz.ntmps44
  go_wp2_with (first
    | (go_at_call 73; refine (has_any H.out _).mono ?_; rintro e w' ⟨rfl, rfl⟩; rw [hb])
    | (go_at_call 91; refine (clone_any HR.out hk).mono ?_; rintro e w1 ⟨v1, rfl, ho, hB⟩))
  go_ret
  exact ⟨_, rfl, ho, hB⟩

def kidsB (k : Int) : Bool := decide (k = 1 ∨ k = 2)
set_option maxHeartbeats 1000000 in
theorem mayHaveKids_any {w : World} {M : Nat → Lab} {tb : Nat} {nv uv : Value} {ps : List Pn} {us : List Value} (h : Lies w M tb nv uv ps us) {i : Nat} {p : Pn} (hp : ps[i]? = some p) :
    Calls Tryz.prog 88 #[.pointer (some ⟨tb, 0, none⟩), .int .i64 i] w fun e w' => e = .returned (.bool (kidsB p.n.kind)) ∧ w' = w := by
  obtain ⟨nb, cap, rfl, hc, hm, _, _, hi⟩ := h.form hp
  have c0 := h.cell0
  have c4 := (h.cellN rfl (f := 0) hp (by omega) rfl).1
  rw [Nat.add_zero] at c4
  unfold maxLen at hm
  clear h
  go_enter Tryz.func88, Tryz.ntmps88
  go_wp2
  all_goals go_ret
  all_goals refine ⟨ret_bool ?_, rfl⟩
  all_goals (unfold kidsB; by_cases h1 : p.n.kind = 1 <;> by_cases h2 : p.n.kind = 2 <;> simp_all)

set_option maxHeartbeats 2000000 in
theorem index_any {w : World} {M : Nat → Lab} {l : Lab} {v : Value} {n : Nat} {xs : List Int} (h : Row w M l 3 1 v n (xs.map intV)) (x : Int) (hx : x ∈ xs) :
    Calls Tryz.prog 170 #[v, .int .i64 x] w fun e w' => e = .returned (.int .i64 (idx xs x : Nat)) ∧ w' = w := by
  have hln : xs.length = n := by have := h.1; simpa using this
  have hpos : 0 < n := by
    rw [← hln]
    exact List.length_pos_of_mem hx
  obtain ⟨g, cap, rfl, hc, hm, _, _⟩ := h.form hpos
  unfold maxLen at hm
  have hcell : Hid (∀ k y, xs[k]? = some y → w.cell? ⟨g, k, none⟩ = some (.int .i64 y)) := by
    intro k y hk
    exact (h.cell rfl (j := k) (u := .int .i64 y) (by simp [hk, intV])).1
  have hlt : idx xs x < xs.length := List.findIdx_lt_length.2 ⟨x, hx, by simp⟩
  have HG : Hid (xs[idx xs x]? = some x) := idx_get hx
  have HB : Hid (∀ k, k < idx xs x → xs[k]? ≠ some x) := by
    intro k hk e
    have := List.not_of_lt_findIdx hk
    rw [List.getElem?_eq_getElem (by omega)] at e
    rw [Option.some.inj e] at this
    simp at this
  clear h
  generalize idx xs x = r at *
  go_enter Tryz.func170, Tryz.ntmps170
  go_wp2
  go_loop [8] (fun i => ∃ k : Nat, k ≤ r ∧ i = .int .i64 k) (fun i => r + 1 - (intOf i).toNat)
  case atStart => exact ⟨0, by omega, rfl⟩
  case round =>
    obtain ⟨k, hk, rfl⟩ := hrel
    have hks : ∃ y, xs[k]? = some y := ⟨xs[k]'(by omega), List.getElem?_eq_getElem _⟩
    obtain ⟨y, hy⟩ := hks
    have ck := hcell.out k y hy
    by_cases hkr : k = r
    · subst hkr
      obtain rfl : y = x := Option.some.inj (hy.symm.trans HG.out)
      clear hy
      go_wp2
      go_ret
      exact ⟨rfl, rfl⟩
    · have hne : (x == y) = false := by
        rw [beq_eq_false_iff_ne]
        intro e
        subst e
        exact HB.out k (by omega) hy
      have hne' : ¬ x = y := by simpa using hne
      clear hy
      go_wp2
      go_round
      case rel => exact ⟨k + 1, by omega, by go_num⟩
      case measure => simp [intOf]; omega
end Go.Proofs.YtkaeenafejdkfaaGreatDoor
