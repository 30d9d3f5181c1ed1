/- How a grower lies in memory: its tree, its open elements; what a call leaves as it was. -/
import Derived.Test.YtkaeenafejdkfaaGreatDoorPShut
import Derived.Test.YtkaeenafejdkfaaGreatDoorM07
import Derived.Test.YtkaeenafejdkfaaGreatDoorShelf
import Derived.Test.YtkaeenafejdkfaaGreatDoorM06
import Derived.Laws.IdiomStrings
import Derived.Test.YtkaeenafejdkfaaGreatDoorM05
namespace Go.Proofs.YtkaeenafejdkfaaGreatDoor
open Go.RowKit

/-- a grower lies there -/
structure GS (w : World) (gb tb : Nat) (ns : List Nd) (op : List Nat) (tx u : Nat) (M Mo : Nat → Lab) : Prop where
  tree : ∃ nv uv ps us, Lies w M tb nv uv ps us ∧ nodesOf ps = ns ∧ us.length ≤ u
  head : ∃ a cap, w.heap[gb]? = some (.cells #[.pointer (some ⟨tb, 0, none⟩), .slice a op.length cap, .int .i64 tx] 117 (0, 0)) ∧ Row w Mo (.kids 0) 3 1 (.slice a op.length cap) op.length ((op.reverse.map fun (k : Nat) => (k : Int)).map intV)
  gm : M gb = .other
  gO : Mo gb = .other
  apart : ∀ k, Mo k ≠ .other → M k = .other
  fresh : ∀ k, w.heap.size ≤ k → Mo k = .other
  errs : Errs w M
  errO : ∀ g, errG g = true → Mo g = .other ∧ g ≠ gb
/-- what is neither the tree's nor the grower's is as it was -/
structure GMv (gb : Nat) (w : World) (M Mo : Nat → Lab) (w' : World) (M' Mo' : Nat → Lab) : Prop where
  os : w'.os = w.os
  tape : w'.tape = w.tape
  output : w'.output = w.output
  size : w.heap.size ≤ w'.heap.size
  keep : ∀ k, k < w.heap.size → M k = .other → Mo k = .other → k ≠ gb → w'.heap[k]? = w.heap[k]? ∧ M' k = .other ∧ Mo' k = .other
theorem GMv.refl (gb : Nat) (w : World) (M Mo : Nat → Lab) : GMv gb w M Mo w M Mo := ⟨rfl, rfl, rfl, Nat.le_refl _, fun _ _ h1 h2 _ => ⟨rfl, h1, h2⟩⟩
theorem GMv.trans {gb : Nat} {a b c : World} {M Mo N No L Lo : Nat → Lab} (h : GMv gb a M Mo b N No) (k : GMv gb b N No c L Lo) : GMv gb a M Mo c L Lo :=
  ⟨k.os.trans h.os, k.tape.trans h.tape, k.output.trans h.output, Nat.le_trans h.size k.size, fun x hx h1 h2 h3 => by
    obtain ⟨e1, e2, e3⟩ := h.keep x hx h1 h2 h3
    obtain ⟨f1, f2, f3⟩ := k.keep x (Nat.lt_of_lt_of_le hx h.size) e2 e3 h3
    exact ⟨f1.trans e1, f2, f3⟩⟩
theorem GMv.below {gb : Nat} {w w' : World} {M Mo : Nat → Lab} (h : Below w.heap.size w w') : GMv gb w M Mo w' M Mo := ⟨h.os, h.tape, h.output, h.size, fun k hk h1 h2 _ => ⟨h.block k hk, h1, h2⟩⟩
theorem GS.far {w w' : World} {gb tb : Nat} {ns : List Nd} {op : List Nat} {tx u : Nat} {M Mo : Nat → Lab} (h : GS w gb tb ns op tx u M Mo) (hs : w.heap.size ≤ w'.heap.size) (hb : ∀ k, k < w.heap.size → (M k ≠ .other ∨ Mo k ≠ .other ∨ k = gb ∨ errG k = true) → w'.heap[k]? = w.heap[k]?) : GS w' gb tb ns op tx u M Mo := by
  obtain ⟨nv, uv, ps, us, h1, h2, h3⟩ := h.tree
  obtain ⟨a, cap, h4, h5⟩ := h.head
  refine ⟨⟨nv, uv, ps, us, h1.far hs (fun k hk he => hb k hk (.inl he)), h2, h3⟩, ⟨a, cap, (hb gb (lt_of_heap h4) (.inr (.inr (.inl rfl)))).trans h4, h5.keep (fun k hk e => hb k hk (.inr (.inl (by rw [e]; intro e; cases e)))) (fun _ _ => rfl)⟩, h.gm, h.gO, h.apart, fun k hk => h.fresh k (by omega), ⟨h.errs.lab, fun g hg => ?_⟩, h.errO⟩
  obtain ⟨t, x, hc⟩ := h.errs.cell g hg
  exact ⟨t, x, (World.cell?_of_block (a := ⟨g, 0, none⟩) (hb g (World.block_lt_of_cell? w _ hc) (.inr (.inr (.inr hg))))).trans hc⟩
theorem GS.below {w w' : World} {gb tb : Nat} {ns : List Nd} {op : List Nat} {tx u : Nat} {M Mo : Nat → Lab} (h : GS w gb tb ns op tx u M Mo) (hb : Below w.heap.size w w') : GS w' gb tb ns op tx u M Mo :=
  h.far hb.size (fun k hk _ => hb.block k hk)
theorem GS.only {w w' : World} {gb tb b : Nat} {ns : List Nd} {op : List Nat} {tx u : Nat} {M Mo : Nat → Lab} (h : GS w gb tb ns op tx u M Mo) (ho : Only b w w') (h1 : M b = .other) (h2 : Mo b = .other) (h3 : b ≠ gb) (h4 : errG b = false) : GS w' gb tb ns op tx u M Mo :=
  h.far ho.size (fun k hk hc => ho.block k hk (by
    rintro rfl
    rcases hc with hc | hc | hc | hc
    · exact hc h1
    · exact hc h2
    · exact h3 hc
    · rw [h4] at hc; cases hc))
/-- the tree has changed -/
theorem GS.change {w w' : World} {gb tb : Nat} {ns ns' : List Nd} {op : List Nat} {tx u u' : Nat} {M M' Mo : Nat → Lab} {nv uv : Value} {ps : List Pn} {us : List Value} (h : GS w gb tb ns op tx u M Mo) (hL : Lies w' M' tb nv uv ps us) (hn : nodesOf ps = ns') (hu : us.length ≤ u') (hm : Moved w M w' M') : GS w' gb tb ns' op tx u' M' Mo ∧ GMv gb w M Mo w' M' Mo := by
  obtain ⟨a, cap, h4, h5⟩ := h.head
  have hgl := lt_of_heap h4
  have hlt : ∀ k, Mo k ≠ .other → k < w.heap.size := fun k hk => by
    rcases Nat.lt_or_ge k w.heap.size with hl | hl
    · exact hl
    · exact absurd (h.fresh k hl) hk
  refine ⟨⟨⟨nv, uv, ps, us, hL, hn, hu⟩, ⟨a, cap, (hm.far gb hgl h.gm).trans h4, h5.keep (fun k hk e => hm.far k hk (h.apart k (by rw [e]; intro e; cases e))) (fun _ _ => rfl)⟩, (hm.lab gb hgl).trans h.gm, h.gO, fun k hk => (hm.lab k (hlt k hk)).trans (h.apart k hk), fun k hk => h.fresh k (Nat.le_trans hm.size hk), h.errs.moved hm, h.errO⟩, ⟨hm.os, hm.tape, hm.output, hm.size, fun k hk h1 h2 _ => ⟨hm.far k hk h1, (hm.lab k hk).trans h1, h2⟩⟩⟩
/-- the grower's own cells -/
theorem three_cells {w : World} {b : Nat} {t : TypeId} {a0 a1 a2 : Value} (h : w.heap[b]? = some (.cells #[a0, a1, a2] t (0, 0))) : w.cell? ⟨b, 0, none⟩ = some a0 ∧ w.cell? ⟨b, 1, none⟩ = some a1 ∧ w.cell? ⟨b, 2, none⟩ = some a2 ∧ ∀ o, w.frozen? ⟨b, o, none⟩ = false := by
  refine ⟨?_, ?_, ?_, fun o => by simp [World.frozen?, h]⟩ <;> (rw [cell_of_row w b _ _ _ _ h]; rfl)
theorem GS.text {w : World} {gb tb : Nat} {ns : List Nd} {op : List Nat} {tx u : Nat} {M Mo : Nat → Lab} (h : GS w gb tb ns op tx u M Mo) (t : Int) (tn : Nat) (ht : t = tn) : GS (w.setCell ⟨gb, 2, none⟩ (.int .i64 t)) gb tb ns op tn u M Mo ∧ GMv gb w M Mo (w.setCell ⟨gb, 2, none⟩ (.int .i64 t)) M Mo := by
  subst ht
  obtain ⟨nv, uv, ps, us, h1, h2, h3⟩ := h.tree
  obtain ⟨a, cap, h4, h5⟩ := h.head
  have hset : ∀ k, k ≠ gb → (w.setCell ⟨gb, 2, none⟩ (.int .i64 tn)).heap[k]? = w.heap[k]? := fun k hk => Below.heap_setCell w ⟨gb, 2, none⟩ _ k hk
  have hsz : (w.setCell ⟨gb, 2, none⟩ (.int .i64 tn)).heap.size = w.heap.size := by simp [World.setCell]
  refine ⟨⟨⟨nv, uv, ps, us, h1.far (by omega) (fun k hk he => hset k (by rintro rfl; exact he h.gm)), h2, h3⟩, ⟨a, cap, by simp [World.setCell, Array.getElem?_modify, h4], h5.keep (fun k hk e => hset k (by rintro rfl; rw [h.gO] at e; cases e)) (fun _ _ => rfl)⟩, h.gm, h.gO, h.apart, fun k hk => h.fresh k (by omega), ⟨h.errs.lab, fun g hg => ?_⟩, h.errO⟩, ⟨rfl, rfl, rfl, by omega, fun k _ h1 h2 h3 => ⟨hset k h3, h1, h2⟩⟩⟩
  obtain ⟨t, x, hc⟩ := h.errs.cell g hg
  exact ⟨t, x, (World.cell?_of_block (a := ⟨g, 0, none⟩) (hset g (h.errO g hg).2)).trans hc⟩
/-- the list of open elements is another -/
theorem GS.opened {w w1 : World} {gb tb : Nat} {ns : List Nd} {op op' : List Nat} {tx u : Nat} {M Mo Mo1 : Nat → Lab} (h : GS w gb tb ns op tx u M Mo) {a : Option Addr} {cap : Nat} (hr : Row w1 Mo1 (.kids 0) 3 1 (.slice a op'.length cap) op'.length ((op'.reverse.map fun (k : Nat) => (k : Int)).map intV)) (st : Step w Mo w1 Mo1 (.kids 0)) : GS (w1.setCell ⟨gb, 1, none⟩ (.slice a op'.length cap)) gb tb ns op' tx u M Mo1 ∧ GMv gb w M Mo (w1.setCell ⟨gb, 1, none⟩ (.slice a op'.length cap)) M Mo1 := by
  obtain ⟨nv, uv, ps, us, h1, h2, h3⟩ := h.tree
  obtain ⟨b, c, h4, h5⟩ := h.head
  have hgl := lt_of_heap h4
  have hset : ∀ k, k ≠ gb → (w1.setCell ⟨gb, 1, none⟩ (.slice a op'.length cap)).heap[k]? = w1.heap[k]? := fun k hk => Below.heap_setCell w1 ⟨gb, 1, none⟩ _ k hk
  have hsz : (w1.setCell ⟨gb, 1, none⟩ (.slice a op'.length cap)).heap.size = w1.heap.size := by simp [World.setCell]
  have hle := st.size
  have hfar : ∀ k, k < w.heap.size → Mo k = .other → w1.heap[k]? = w.heap[k]? := fun k hk hm => st.far k hk (by rw [hm]; intro e; cases e)
  have hg1 : Mo1 gb = .other := (st.lab gb hgl).trans h.gO
  have hap : ∀ k, M k ≠ .other → Mo k = .other := fun k hk => Classical.byContradiction fun hn => hk (h.apart k hn)
  refine ⟨⟨⟨nv, uv, ps, us, h1.far (by omega) (fun k hk he => (hset k (by rintro rfl; exact he h.gm)).trans (hfar k hk (hap k he))), h2, h3⟩, ⟨a, cap, ?_, hr.keep (fun k hk e => hset k (by rintro rfl; rw [hg1] at e; cases e)) (fun _ _ => rfl)⟩, h.gm, hg1, fun k hk => ?_, fun k hk => st.fresh k (by omega), ⟨h.errs.lab, fun g hg => ?_⟩, fun g hg => ?_⟩, ⟨st.os, st.tape, st.output, by omega, fun k hk e1 e2 e3 => ⟨(hset k e3).trans (hfar k hk e2), e1, (st.lab k hk).trans e2⟩⟩⟩
  · have e := (hfar gb hgl h.gO).trans h4
    simp [World.setCell, Array.getElem?_modify, e]
  · rcases Nat.lt_or_ge k w.heap.size with hl | hl
    · exact h.apart k (by rw [← st.lab k hl]; exact hk)
    · exact h1.fresh k hl
  · obtain ⟨t, x, hc⟩ := h.errs.cell g hg
    have hgl2 := World.block_lt_of_cell? w _ hc
    exact ⟨t, x, (World.cell?_of_block (a := ⟨g, 0, none⟩) ((hset g (h.errO g hg).2).trans (hfar g hgl2 (h.errO g hg).1))).trans hc⟩
  · obtain ⟨t, x, hc⟩ := h.errs.cell g hg
    have hgl2 := World.block_lt_of_cell? w _ hc
    exact ⟨(st.lab g hgl2).trans (h.errO g hg).1, (h.errO g hg).2⟩
theorem Row.prefix {w : World} {M : Nat → Lab} {l : Lab} {e : TypeId} {a : Option Addr} {cap n m : Nat} {xs : List Value} (h : Row w M l e 1 (.slice a n cap) n xs) (hm : m ≤ n) : Row w M l e 1 (.slice a m cap) m (xs.take m) := by
  obtain ⟨h0, a', cap', e1, h1, h2, h3⟩ := h
  cases e1
  refine ⟨by rw [List.length_take, h0]; omega, a, cap, rfl, by omega, h2, ?_⟩
  rcases h3 with h3 | ⟨g, cur, h4, h5, h6, h7, h8⟩
  · exact .inl h3
  · refine .inr ⟨g, cur, h4, h5, h6, h7, ?_⟩
    rw [← h8, List.take_take]
    congr 1
    omega
/-- some are shut -/
theorem GS.cut {w w' : World} {gb tb : Nat} {ns : List Nd} {op : List Nat} {tx u m : Nat} {M Mo : Nat → Lab} (h : GS w gb tb ns op tx u M Mo) {a : Option Addr} {cap : Nat} (hg : w.heap[gb]? = some (.cells #[.pointer (some ⟨tb, 0, none⟩), .slice a op.length cap, .int .i64 tx] 117 (0, 0))) (hm : m ≤ op.length) (ho : Only gb w w') (hg' : w'.heap[gb]? = some (.cells #[.pointer (some ⟨tb, 0, none⟩), .slice a m cap, .int .i64 0] 117 (0, 0))) : GS w' gb tb ns (op.drop (op.length - m)) 0 u M Mo ∧ GMv gb w M Mo w' M Mo := by
  obtain ⟨nv, uv, ps, us, h1, h2, h3⟩ := h.tree
  obtain ⟨b, c, h4, h5⟩ := h.head
  have hgl := lt_of_heap h4
  have e : a = b ∧ cap = c := by
    have := hg.symm.trans h4
    simp at this
    exact this
  obtain ⟨rfl, rfl⟩ := e
  have hlen : (op.drop (op.length - m)).length = m := by rw [List.length_drop]; omega
  refine ⟨⟨⟨nv, uv, ps, us, h1.far ho.size (fun k hk he => ho.block k hk (by rintro rfl; exact he h.gm)), h2, h3⟩, ⟨a, cap, by rw [hlen]; exact hg', ?_⟩, h.gm, h.gO, h.apart, fun k hk => h.fresh k (Nat.le_trans ho.size hk), ⟨h.errs.lab, fun g hg => ?_⟩, h.errO⟩, ⟨ho.os, ho.tape, ho.output, ho.size, fun k hk e1 e2 e3 => ⟨ho.block k hk e3, e1, e2⟩⟩⟩
  · rw [hlen]
    have := (h5.prefix hm).keep (w' := w') (M' := Mo) (fun k hk e => ho.block k hk (by rintro rfl; rw [h.gO] at e; cases e)) (fun _ _ => rfl)
    have e2 : ((op.reverse.map fun (k : Nat) => (k : Int)).map intV).take m = (((op.drop (op.length - m)).reverse.map fun (k : Nat) => (k : Int)).map intV) := by
      rw [← List.map_take, ← List.map_take]
      congr 2
      rw [List.take_reverse]
    rw [← e2]
    exact this
  · obtain ⟨t, x, hc⟩ := h.errs.cell g hg
    exact ⟨t, x, (World.cell?_of_block (a := ⟨g, 0, none⟩) (ho.block g (World.block_lt_of_cell? w _ hc) (h.errO g hg).2)).trans hc⟩
end Go.Proofs.YtkaeenafejdkfaaGreatDoor

/- The program: up to the next mark. -/
namespace Go.Proofs.YtkaeenafejdkfaaGreatDoor
open Go.RowKit

theorem stands_prefix {p s : ByteArray} {k : Nat} (hp : 0 < p.size) : standsAt p s k ↔ p.data.toList.isPrefixOf (s.data.toList.drop k) = true := by
  rw [List.isPrefixOf_iff_prefix, List.prefix_iff_eq_take]
  unfold standsAt
  constructor
  · rintro ⟨h1, h2⟩
    have e := congrArg (fun x : ByteArray => x.data.toList) h2
    simp only [ext_list] at e
    rw [show k + p.size - k = p.data.toList.length by simp] at e
    exact e.symm
  · intro h
    have hl : p.data.toList.length ≤ (s.data.toList.drop k).length := by
      have := congrArg List.length h
      rw [List.length_take] at this
      omega
    have hl2 : p.size ≤ s.size - k := by simpa using hl
    refine ⟨by omega, ?_⟩
    apply ByteArray.ext
    apply Array.toList_inj.mp
    rw [ext_list, show k + p.size - k = p.data.toList.length by simp]
    exact h.symm
theorem occ_at {p s : ByteArray} {i j : Nat} (hp : 0 < p.size) : Lib.occAt (s.extract i s.size).data.toList p.data.toList j = decide (standsAt p s (i + j)) := by
  unfold Lib.occAt
  rw [ext_list, List.take_of_length_le (by simp), List.drop_drop, Bool.eq_iff_iff, decide_eq_true_eq, stands_prefix hp]
theorem cut_hit {p s : ByteArray} {i k : Nat} (hi : i ≤ s.size) (hp : 0 < p.size) (h : findE p s i = some k) : Lib.cut (s.extract i s.size).data.toList p.data.toList = ((s.extract i k).data.toList, (s.extract (k + p.size) s.size).data.toList, true) := by
  obtain ⟨h1, h2, h3⟩ := findE_some h
  have hk := h2.1
  have hidx : Lib.index (s.extract i s.size).data.toList p.data.toList = ((k - i : Nat) : Int) := by
    refine Lib.index_first (by rw [ext_list]; simp; omega) ?_ ?_
    · rw [occ_at hp, decide_eq_true_eq, show i + (k - i) = k by omega]; exact h2
    · intro j hj
      rw [occ_at hp, decide_eq_false_iff_not]
      exact h3 (i + j) (by omega) (by omega)
  unfold Lib.cut
  rw [hidx, if_pos (by omega)]
  simp only [Int.toNat_natCast, ext_list]
  rw [List.take_of_length_le (l := s.data.toList.drop i) (by simp), List.drop_drop, List.take_of_length_le (l := s.data.toList.drop (k + p.size)) (by simp)]
  have e : i + (k - i + p.data.toList.length) = k + p.size := by simp; omega
  rw [e]
theorem cut_miss {p s : ByteArray} {i : Nat} (hp : 0 < p.size) (h : findE p s i = none) : Lib.cut (s.extract i s.size).data.toList p.data.toList = ((s.extract i s.size).data.toList, [], false) := by
  have hidx : Lib.index (s.extract i s.size).data.toList p.data.toList = -1 := by
    refine Lib.index_none (fun j _ => ?_)
    rw [occ_at hp, decide_eq_false_iff_not]
    exact findE_no hp h (i + j) (by omega)
  unfold Lib.cut
  rw [hidx, if_neg (by omega)]
theorem pcut_hit (s p : ByteArray) (i k : Nat) (hs : s.size ≤ 100000) (hi : i ≤ s.size) (hp : 0 < p.size) (h : findE p s i = some k) (m : Int) (w : World) (hm : w.cell? ⟨8, 0, none⟩ = some (.int .i64 m)) :
    Calls Tryz.prog 164 #[.string (s.extract i s.size), .string p] w fun e w' => e = .returned (.tuple #[.string (s.extract i k), .string (s.extract (k + p.size) s.size), .bool true]) ∧ ∃ n, w' = w.drewN n := by
  have := Tryz.strings_Cut (s.extract i s.size) p m w (by rw [ByteArray.size_extract]; omega) hm
  rw [cut_hit hi hp h] at this
  exact this
theorem pcut_miss (s p : ByteArray) (i : Nat) (hs : s.size ≤ 100000) (hp : 0 < p.size) (h : findE p s i = none) (m : Int) (w : World) (hm : w.cell? ⟨8, 0, none⟩ = some (.int .i64 m)) :
    Calls Tryz.prog 164 #[.string (s.extract i s.size), .string p] w fun e w' => e = .returned (.tuple #[.string (s.extract i s.size), .string ⟨#[]⟩, .bool false]) ∧ ∃ n, w' = w.drewN n := by
  have := Tryz.strings_Cut (s.extract i s.size) p m w (by rw [ByteArray.size_extract]; omega) hm
  rw [cut_miss hp h] at this
  exact this

set_option maxHeartbeats 4000000 in
set_option maxRecDepth 100000 in
theorem pass_hit {w : World} {b : Nat} {s : ByteArray} {i k : Nat} {raw : ByteArray} (h : Sc w b s i raw) (hs : s.size ≤ 100000) (hi : i ≤ s.size) (p : ByteArray) (hp : 0 < p.size) (hf : findE p s i = some k) (m : Int) (hm : w.cell? ⟨8, 0, none⟩ = some (.int .i64 m)) :
    Calls Tryz.prog 138 #[.pointer (some ⟨b, 0, none⟩), .string p] w fun e w' => e = .returned (.tuple #[.string (s.extract i k), .bool true]) ∧ Only b w w' ∧ Sc w' b s (k + p.size) raw := by
  have H := hid h
  obtain ⟨c0, c1, c2, cf⟩ := h.cells
  have hk : k + p.size ≤ s.size := (findE_some hf).2.1.1
  have hsz : (s.extract (k + p.size) s.size).size = s.size - (k + p.size) := by rw [ByteArray.size_extract]; omega
  have HC : ∀ n, Calls Tryz.prog 164 #[.string (s.extract i s.size), .string p] (w.drewN n) fun e w' => e = .returned (.tuple #[.string (s.extract i k), .string (s.extract (k + p.size) s.size), .bool true]) ∧ ∃ m, w' = (w.drewN n).drewN m := fun n => pcut_hit s p i k hs hi hp hf m _ hm
  clear h hf
  go_enter Tryz.func138, Tryz.ntmps138
  go_wp2_with fail
  go_quiet ((go_at_call 164; exact Calls.quiet_of (HC _)))
  go_wp2_with fail
  go_ret2
  exact ⟨rfl, ((Only.refl _ _).drew _).set _ _, (H.out.drew _).set _ _ (by omega)⟩
set_option maxHeartbeats 4000000 in
set_option maxRecDepth 100000 in
theorem pass_miss {w : World} {b : Nat} {s : ByteArray} {i : Nat} {raw : ByteArray} (h : Sc w b s i raw) (hs : s.size ≤ 100000) (hi : i ≤ s.size) (p : ByteArray) (hp : 0 < p.size) (hf : findE p s i = none) (m : Int) (hm : w.cell? ⟨8, 0, none⟩ = some (.int .i64 m)) :
    Calls Tryz.prog 138 #[.pointer (some ⟨b, 0, none⟩), .string p] w fun e w' => e = .returned (.tuple #[.string (s.extract i s.size), .bool false]) ∧ Only b w w' ∧ Sc w' b s s.size raw := by
  have H := hid h
  obtain ⟨c0, c1, c2, cf⟩ := h.cells
  have HC : ∀ n, Calls Tryz.prog 164 #[.string (s.extract i s.size), .string p] (w.drewN n) fun e w' => e = .returned (.tuple #[.string (s.extract i s.size), .string ⟨#[]⟩, .bool false]) ∧ ∃ m, w' = (w.drewN n).drewN m := fun n => pcut_miss s p i hs hp hf m _ hm
  clear h hf
  go_enter Tryz.func138, Tryz.ntmps138
  go_wp2_with fail
  go_quiet ((go_at_call 164; exact Calls.quiet_of (HC _)))
  go_wp2_with fail
  go_ret2
  exact ⟨rfl, ((Only.refl _ _).drew _).set _ _, (H.out.drew _).set _ _ (by simp)⟩
end Go.Proofs.YtkaeenafejdkfaaGreatDoor

/- The program: small letters. -/
namespace Go.Proofs.YtkaeenafejdkfaaGreatDoor
open Go.RowKit
/-- how far small letters have been made -/
def LowAt (w wr : World) (s : ByteArray) (k : Nat) : Prop := Below w.heap.size w wr ∧ ∃ C, wr.heap[w.heap.size]? = some (.cells C 5 (C.size, C.size + 1)) ∧ s.size ≤ C.size ∧ ∀ j, (h : j < s.size) → C[j]? = some (.int .u8 ((if j < k then lowerB s[j] else s[j]).toNat : Int))
theorem LowAt.start (w : World) (s : ByteArray) (cap : Nat) : LowAt w (w.alloc (.cells (bytesRow s cap) 5 ((bytesRow s cap).size, (bytesRow s cap).size + 1))).drew s 0 := by
  refine ⟨((Below.refl _ _).alloc (Nat.le_refl _) _).drew, bytesRow s cap, heap_alloc_new w _, ?_, fun j h => ?_⟩
  · unfold bytesRow; simp
  · unfold bytesRow
    rw [Array.getElem?_append_left (by simpa using h)]
    simp only [Nat.not_lt_zero, if_false]
    rw [Array.getElem?_map, Array.getElem?_eq_getElem (by exact h)]
    rfl
theorem LowAt.cell {w wr : World} {s : ByteArray} {k j : Nat} (h : LowAt w wr s k) (hj : j < s.size) : wr.cell? ⟨w.heap.size, j, none⟩ = some (.int .u8 ((if j < k then lowerB s[j] else s[j]).toNat : Int)) ∧ wr.frozen? ⟨w.heap.size, j, none⟩ = false := by
  obtain ⟨_, C, h1, h2, h3⟩ := h
  refine ⟨by rw [cell_of_row wr _ _ _ _ _ h1]; exact h3 j hj, ?_⟩
  simp [World.frozen?, h1]
  omega
theorem LowAt.stay {w wr : World} {s : ByteArray} {k : Nat} (h : LowAt w wr s k) (hk : k < s.size) (hl : lowerB s[k] = s[k]) : LowAt w wr s (k + 1) := by
  obtain ⟨a, C, h1, h2, h3⟩ := h
  refine ⟨a, C, h1, h2, fun j hj => ?_⟩
  rw [h3 j hj]
  by_cases hjk : j = k
  · subst hjk; simp [hl]
  · by_cases hlt : j < k
    · rw [if_pos hlt, if_pos (by omega)]
    · rw [if_neg hlt, if_neg (by omega)]
theorem LowAt.put {w wr : World} {s : ByteArray} {k : Nat} (h : LowAt w wr s k) (hk : k < s.size) (x : Int) (hx : x = ((lowerB s[k]).toNat : Int)) : LowAt w (wr.setCell ⟨w.heap.size, k, none⟩ (.int .u8 x)) s (k + 1) := by
  obtain ⟨a, C, h1, h2, h3⟩ := h
  refine ⟨a.setCell (Nat.le_refl _) _, C.setIfInBounds k (.int .u8 x), ?_, by simpa using h2, fun j hj => ?_⟩
  · simp [World.setCell, Array.getElem?_modify, h1]
  · by_cases hjk : j = k
    · subst hjk
      rw [Array.getElem?_setIfInBounds_self_of_lt (by omega), if_pos (by omega), hx]
    · rw [Array.getElem?_setIfInBounds_ne (by omega), h3 j hj]
      by_cases hlt : j < k
      · rw [if_pos hlt, if_pos (by omega)]
      · rw [if_neg hlt, if_neg (by omega)]
set_option maxRecDepth 100000 in
theorem LowAt.back {w wr : World} {s : ByteArray} (h : LowAt w wr s s.size) (cap : Nat) : (convert 128 9 (.slice (some ⟨w.heap.size, 0, none⟩) s.size cap)).run Tryz.prog wr = .ok (.string (smallS s)) wr := by
  have hl : (smallL s.data.toList).length = s.size := by unfold smallL; simp
  have hb := run_convert_bytes_back (P := Tryz.prog) wr 128 9 5 ⟨w.heap.size, 0, none⟩ cap (smallL s.data.toList) (by rfl) (by rfl) (by rfl) (fun j hj => by
    have hj' : j < s.size := by omega
    have h1 := (h.cell hj').1
    rw [if_pos hj'] at h1
    have e : (⟨w.heap.size, 0, none⟩ : Addr).add j = ⟨w.heap.size, j, none⟩ := by simp [Addr.add]; try omega
    have e2 : (smallL s.data.toList)[j] = lowerB s[j] := by
      have : (smallL s.data.toList)[j]? = some (lowerB s[j]) := by unfold smallL; rw [List.getElem?_map, bytes_get s j hj']; rfl
      rw [List.getElem?_eq_getElem hj] at this
      exact Option.some.inj this
    rw [e, h1, e2])
  rw [hl] at hb
  exact hb

set_option maxHeartbeats 4000000 in
set_option maxRecDepth 100000 in
theorem lower_any (s : ByteArray) (hs : s.size ≤ 100000) (w : World) :
    Calls Tryz.prog 158 #[.string s] w fun e w' => e = .returned (.string (smallS s)) ∧ Below w.heap.size w w' := by
  have hcv := run_bytes_of_string (P := Tryz.prog) w 9 128 5 s (by rfl) (by rfl) (by rfl)
  go_enter Tryz.func158, Tryz.ntmps158
  go_wp2_with fail
  have H0 := hid (LowAt.start w s (grownCap w s.size 0 5))
  clear hcv
  generalize hw2 : (w.alloc _).drew = w2
  rw [hw2] at H0
  clear hw2
  generalize grownCap w s.size 0 5 = cap
  go_loopw [10] (fun iv wr => ∃ k : Nat, k ≤ s.size ∧ iv = .int .i64 k ∧ Hid (LowAt w wr s k)) (fun iv _ => s.size - (intOf iv).toNat)
  case atStart => exact ⟨0, by omega, rfl, H0⟩
  case round =>
    obtain ⟨k, hk, rfl, hL⟩ := hrel
    by_cases hlt : k < s.size
    · obtain ⟨c0, f0⟩ := hL.out.cell hlt
      rw [if_neg (Nat.lt_irrefl k)] at c0
      obtain ⟨c, hc⟩ : ∃ c, s[k].toNat = c := ⟨_, rfl⟩
      rw [hc] at c0
      by_cases hup : 65 ≤ c ∧ c ≤ 90
      · have g1 : (65 : Int) ≤ c := by omega
        have g2 : (c : Int) ≤ 90 := by omega
        have hx : (c : Int) + 97 - 65 = ((lowerB s[k]).toNat : Int) := by
          rw [← low_up hc hup]
          simp
          omega
        have H := hid (hL.out.put hlt _ hx)
        clear hx
        go_wp2_with fail
        all_goals go_light
        all_goals first
          | (refine ⟨⟨k + 1, by omega, by go_num, H⟩, ?_⟩; simp [intOf]; omega)
          | (exfalso; simp_all; done)
      · have H := hid (hL.out.stay hlt (by rw [← low_no hc hup, ← hc]; simp))
        by_cases h65 : c < 65
        · have g1 : (c : Int) < 65 := by omega
          go_wp2_with fail
          all_goals go_light
          all_goals first
            | (refine ⟨⟨k + 1, by omega, by go_num, H⟩, ?_⟩; simp [intOf]; omega)
            | (exfalso; simp_all; done)
        · have g1 : (65 : Int) ≤ c := by omega
          have g2 : (90 : Int) < c := by omega
          go_wp2_with fail
          all_goals go_light
          all_goals first
            | (refine ⟨⟨k + 1, by omega, by go_num, H⟩, ?_⟩; simp [intOf]; omega)
            | (exfalso; simp_all; done)
    · obtain rfl : k = s.size := by omega
      have hcb := hL.out.back cap
      have HB := hid hL.out.1
      go_wp2_with fail
      go_ret
      exact ⟨rfl, HB.out⟩
end Go.Proofs.YtkaeenafejdkfaaGreatDoor

/- The program: comments and end tags are cut. -/
namespace Go.Proofs.YtkaeenafejdkfaaGreatDoor
open Go.RowKit

/-- a scanner lies there, and the library's variable holds a number -/
structure SC (w : World) (b : Nat) (s : ByteArray) (i : Nat) (raw : ByteArray) : Prop where
  sc : Sc w b s i raw
  ne : 8 ≠ b
  max : ∃ m, w.cell? ⟨8, 0, none⟩ = some (.int .i64 m)
theorem lt_of_cell8 {w : World} {v : Value} (h : w.cell? ⟨8, 0, none⟩ = some v) : 8 < w.heap.size := World.block_lt_of_cell? w _ h
theorem SC.only {w w' : World} {b : Nat} {s : ByteArray} {i j : Nat} {raw raw' : ByteArray} (h : SC w b s i raw) (ho : Only b w w') (hs : Sc w' b s j raw') : SC w' b s j raw' := by
  obtain ⟨m, hm⟩ := h.max
  exact ⟨hs, h.ne, m, (World.cell?_of_block (a := ⟨8, 0, none⟩) (ho.block 8 (lt_of_cell8 hm) h.ne)).trans hm⟩
theorem SC.alloc {w : World} {b : Nat} {s : ByteArray} {i : Nat} {raw : ByteArray} (h : SC w b s i raw) (o : Obj) : SC (w.alloc o) b s i raw := by
  obtain ⟨m, hm⟩ := h.max
  refine ⟨?_, h.ne, m, (World.cell?_alloc_lt _ _ ⟨8, 0, none⟩ (lt_of_cell8 hm)).trans hm⟩
  have := h.sc
  unfold Sc at this ⊢
  rw [Below.heap_alloc _ _ _ h.sc.lt]; exact this
theorem Only.alloc {b : Nat} {w : World} (o : Obj) : Only b w (w.alloc o) := Only.of ((Below.refl _ _).alloc (Nat.le_refl _) _)

/-- a piece of the program as a value -/
def pcv (kind i : Int) (name said : ByteArray) (attrs : Value) : Value := .agg #[.int .i64 kind, .int .i64 i, .string name, .string said, attrs]
theorem five_cells {w : World} {b : Nat} {t : TypeId} {a0 a1 a2 a3 a4 : Value} (h : w.heap[b]? = some (.cells #[a0, a1, a2, a3, a4] t (0, 0))) : w.cell? ⟨b, 0, none⟩ = some a0 ∧ w.cell? ⟨b, 1, none⟩ = some a1 ∧ w.cell? ⟨b, 2, none⟩ = some a2 ∧ w.cell? ⟨b, 3, none⟩ = some a3 ∧ w.cell? ⟨b, 4, none⟩ = some a4 ∧ ∀ o, w.frozen? ⟨b, o, none⟩ = false := by
  refine ⟨?_, ?_, ?_, ?_, ?_, fun o => by simp [World.frozen?, h]⟩ <;> (rw [cell_of_row w b _ _ _ _ h]; rfl)
def emptyPiece : Obj := .cells #[.int .i64 0, .int .i64 0, .string ⟨#[]⟩, .string ⟨#[]⟩, .slice none 0 0] 121 (0, 0)
/-- the result's block lies where it was laid -/
theorem res_block {w w' : World} {b : Nat} (hb : b < w.heap.size) (h : Only b (w.alloc emptyPiece) w') : w'.heap[w.heap.size]? = some emptyPiece := by
  rw [h.block w.heap.size (by simp) (by omega)]; exact heap_alloc_new w _
theorem Only.sets {b rb : Nat} {w w' : World} (h : Only b w w') (hr : w.heap.size ≤ rb) (o : Nat) (u : Value) : Only b w (w'.setCell ⟨rb, o, none⟩ u) :=
  ⟨h.os, h.tape, h.output, by simpa [World.setCell] using h.size, fun k hk hb => (Below.heap_setCell w' ⟨rb, o, none⟩ u k (by show k ≠ rb; omega)).trans (h.block k hk hb)⟩
theorem Sc.sets {w : World} {b rb : Nat} {s : ByteArray} {i : Nat} {raw : ByteArray} (h : Sc w b s i raw) (hr : b ≠ rb) (o : Nat) (u : Value) : Sc (w.setCell ⟨rb, o, none⟩ u) b s i raw := by
  unfold Sc at h ⊢
  rw [Below.heap_setCell w ⟨rb, o, none⟩ u b hr]; exact h

def mGt : ByteArray := ⟨#[45, 45, 62]⟩
set_option maxHeartbeats 4000000 in
set_option maxRecDepth 100000 in
theorem cutComment_hit {w : World} {b : Nat} {s : ByteArray} {i k : Nat} {raw : ByteArray} (h : SC w b s i raw) (hs : s.size ≤ 100000) (hp : standsAt ⟨#[60, 33, 45, 45]⟩ s i) (hf : findE ⟨#[45, 45, 62]⟩ s (i + 4) = some k) :
    Calls Tryz.prog 134 #[.pointer (some ⟨b, 0, none⟩)] w fun e w' => e = .returned (pcv 2 0 ⟨#[]⟩ (s.extract (i + 4) k) (.slice none 0 0)) ∧ Only b w w' ∧ Sc w' b s (k + 3) raw := by
  have hi : i + 4 ≤ s.size := hp.1
  have hlt := h.sc.lt
  have H := hid (h.alloc emptyPiece)
  have HP := hid hp
  have HF := hid hf
  clear h hp hf
  go_enter Tryz.func134, Tryz.ntmps134
  go_wp2_with fail
  refine (skip_yes H.out.sc hs ⟨#[60, 33, 45, 45]⟩ HP.out).mono ?_
  rintro e w1 ⟨rfl, hO1, hS1⟩
  have H1 := hid (H.out.only hO1 hS1)
  obtain ⟨m, hm⟩ := H1.out.max
  have hO1' := hid hO1
  clear hO1 hS1
  go_wp2_with fail
  refine (pass_hit (i := i + 4) H1.out.sc hs hi ⟨#[45, 45, 62]⟩ (by decide) HF.out m hm).mono ?_
  rintro e w2 ⟨rfl, hO2, hS2⟩
  have hR := res_block hlt (hO1'.out.trans hO2)
  obtain ⟨d0, d1, d2, d3, d4, df⟩ := five_cells hR
  have HO := hid (Only.alloc (b := b) emptyPiece |>.trans (hO1'.out.trans hO2))
  have HS := hid hS2
  clear hO2 hS2 hR hm
  go_wp2_with fail
  refine bodyPost_ret (v := pcv 2 0 ⟨#[]⟩ (s.extract (i + 4) k) (.slice none 0 0)) ?_ rfl ⟨rfl, ?_, ?_⟩
  · simp [results, Tryz.results134, go_sem, d0, d1, d2, d3, d4]
    try rfl
  · exact ((((HO.out.sets (Nat.le_refl _) _ _).sets (Nat.le_refl _) _ _).sets (Nat.le_refl _) _ _).sets (Nat.le_refl _) _ _).sets (Nat.le_refl _) _ _
  · have hn : b ≠ w.heap.size := by omega
    exact ((((HS.out.sets hn _ _).sets hn _ _).sets hn _ _).sets hn _ _).sets hn _ _
set_option maxHeartbeats 4000000 in
set_option maxRecDepth 100000 in
theorem cutComment_miss {w : World} {b : Nat} {s : ByteArray} {i : Nat} {raw : ByteArray} (h : SC w b s i raw) (hs : s.size ≤ 100000) (hp : standsAt ⟨#[60, 33, 45, 45]⟩ s i) (hf : findE ⟨#[45, 45, 62]⟩ s (i + 4) = none) :
    Calls Tryz.prog 134 #[.pointer (some ⟨b, 0, none⟩)] w fun e w' => e = .returned (pcv 2 0 ⟨#[]⟩ (s.extract (i + 4) s.size) (.slice none 0 0)) ∧ Only b w w' ∧ Sc w' b s s.size raw := by
  have hi : i + 4 ≤ s.size := hp.1
  have hlt := h.sc.lt
  have H := hid (h.alloc emptyPiece)
  have HP := hid hp
  have HF := hid hf
  clear h hp hf
  go_enter Tryz.func134, Tryz.ntmps134
  go_wp2_with fail
  refine (skip_yes H.out.sc hs ⟨#[60, 33, 45, 45]⟩ HP.out).mono ?_
  rintro e w1 ⟨rfl, hO1, hS1⟩
  have H1 := hid (H.out.only hO1 hS1)
  obtain ⟨m, hm⟩ := H1.out.max
  have hO1' := hid hO1
  clear hO1 hS1
  go_wp2_with fail
  refine (pass_miss (i := i + 4) H1.out.sc hs hi ⟨#[45, 45, 62]⟩ (by decide) HF.out m hm).mono ?_
  rintro e w2 ⟨rfl, hO2, hS2⟩
  have hR := res_block hlt (hO1'.out.trans hO2)
  obtain ⟨d0, d1, d2, d3, d4, df⟩ := five_cells hR
  have HO := hid (Only.alloc (b := b) emptyPiece |>.trans (hO1'.out.trans hO2))
  have HS := hid hS2
  clear hO2 hS2 hR hm
  go_wp2_with fail
  refine bodyPost_ret (v := pcv 2 0 ⟨#[]⟩ (s.extract (i + 4) s.size) (.slice none 0 0)) ?_ rfl ⟨rfl, ?_, ?_⟩
  · simp [results, Tryz.results134, go_sem, d0, d1, d2, d3, d4]
    try rfl
  · exact ((((HO.out.sets (Nat.le_refl _) _ _).sets (Nat.le_refl _) _ _).sets (Nat.le_refl _) _ _).sets (Nat.le_refl _) _ _).sets (Nat.le_refl _) _ _
  · have hn : b ≠ w.heap.size := by omega
    exact ((((HS.out.sets hn _ _).sets hn _ _).sets hn _ _).sets hn _ _).sets hn _ _
set_option maxHeartbeats 4000000 in
set_option maxRecDepth 100000 in
theorem cutEnd_hit {w : World} {b : Nat} {s : ByteArray} {i t k : Nat} {raw : ByteArray} (h : SC w b s i raw) (hs : s.size ≤ 100000) (hp : standsAt ⟨#[60, 47]⟩ s i) (ht : spanE inTagB s (i + 2) = t) (hf : findE ⟨#[62]⟩ s t = some k) :
    Calls Tryz.prog 136 #[.pointer (some ⟨b, 0, none⟩)] w fun e w' => e = .returned (pcv 4 0 (smallS (s.extract (i + 2) t)) ⟨#[]⟩ (.slice none 0 0)) ∧ Only b w w' ∧ Sc w' b s (k + 1) raw := by
  have hi : i + 2 ≤ s.size := hp.1
  have ht2 : t ≤ s.size := by rw [← ht]; exact spanE_size _ _ _ hi
  have hlt := h.sc.lt
  have H := hid (h.alloc emptyPiece)
  have HP := hid hp
  have HF := hid hf
  have HT := hid ht
  clear h hp hf ht
  go_enter Tryz.func136, Tryz.ntmps136
  go_wp2_with fail
  refine (skip_yes H.out.sc hs ⟨#[60, 47]⟩ HP.out).mono ?_
  rintro e w1 ⟨rfl, hO1, hS1⟩
  have H1 := hid (H.out.only hO1 hS1)
  have hO1' := hid hO1
  clear hO1 hS1
  go_wp2_with fail
  refine (take_tag (i := i + 2) H1.out.sc hs hi).mono ?_
  rintro e w2 ⟨rfl, hO2, hS2⟩
  rw [HT.out] at hS2 ⊢
  have H2 := hid (H1.out.only hO2 hS2)
  have hO2' := hid (hO1'.out.trans hO2)
  clear hO2 hS2
  go_wp2_with fail
  refine (lower_any (s.extract (i + 2) t) (by rw [ByteArray.size_extract]; omega) _).mono ?_
  rintro e w3 ⟨rfl, hB3⟩
  have H3 := hid (H2.out.only (Only.of hB3) (H2.out.sc.below H2.out.sc.lt hB3))
  have hO3' := hid (hO2'.out.trans (Only.of hB3))
  obtain ⟨m, hm⟩ := H3.out.max
  clear hB3
  go_wp2_with fail
  refine (pass_hit (i := t) H3.out.sc hs ht2 ⟨#[62]⟩ (by decide) HF.out m hm).mono ?_
  rintro e w4 ⟨rfl, hO4, hS4⟩
  have hR := res_block hlt (hO3'.out.trans hO4)
  obtain ⟨d0, d1, d2, d3, d4, df⟩ := five_cells hR
  have HO := hid (Only.alloc (b := b) emptyPiece |>.trans (hO3'.out.trans hO4))
  have HS := hid hS4
  clear hO4 hS4 hR hm
  go_wp2_with fail
  refine bodyPost_ret (v := pcv 4 0 (smallS (s.extract (i + 2) t)) ⟨#[]⟩ (.slice none 0 0)) ?_ rfl ⟨rfl, ?_, ?_⟩
  · simp [results, Tryz.results136, go_sem, d0, d1, d2, d3, d4]
    try rfl
  · exact ((((HO.out.sets (Nat.le_refl _) _ _).sets (Nat.le_refl _) _ _).sets (Nat.le_refl _) _ _).sets (Nat.le_refl _) _ _).sets (Nat.le_refl _) _ _
  · have hn : b ≠ w.heap.size := by omega
    exact ((((HS.out.sets hn _ _).sets hn _ _).sets hn _ _).sets hn _ _).sets hn _ _
set_option maxHeartbeats 4000000 in
set_option maxRecDepth 100000 in
theorem cutEnd_miss {w : World} {b : Nat} {s : ByteArray} {i t : Nat} {raw : ByteArray} (h : SC w b s i raw) (hs : s.size ≤ 100000) (hp : standsAt ⟨#[60, 47]⟩ s i) (ht : spanE inTagB s (i + 2) = t) (hf : findE ⟨#[62]⟩ s t = none) :
    Calls Tryz.prog 136 #[.pointer (some ⟨b, 0, none⟩)] w fun e w' => e = .returned (pcv 0 0 ⟨#[]⟩ ⟨#[]⟩ (.slice none 0 0)) ∧ Only b w w' ∧ Sc w' b s s.size raw := by
  have hi : i + 2 ≤ s.size := hp.1
  have ht2 : t ≤ s.size := by rw [← ht]; exact spanE_size _ _ _ hi
  have hlt := h.sc.lt
  have H := hid (h.alloc emptyPiece)
  have HP := hid hp
  have HF := hid hf
  have HT := hid ht
  clear h hp hf ht
  go_enter Tryz.func136, Tryz.ntmps136
  go_wp2_with fail
  refine (skip_yes H.out.sc hs ⟨#[60, 47]⟩ HP.out).mono ?_
  rintro e w1 ⟨rfl, hO1, hS1⟩
  have H1 := hid (H.out.only hO1 hS1)
  have hO1' := hid hO1
  clear hO1 hS1
  go_wp2_with fail
  refine (take_tag (i := i + 2) H1.out.sc hs hi).mono ?_
  rintro e w2 ⟨rfl, hO2, hS2⟩
  rw [HT.out] at hS2 ⊢
  have H2 := hid (H1.out.only hO2 hS2)
  have hO2' := hid (hO1'.out.trans hO2)
  clear hO2 hS2
  go_wp2_with fail
  refine (lower_any (s.extract (i + 2) t) (by rw [ByteArray.size_extract]; omega) _).mono ?_
  rintro e w3 ⟨rfl, hB3⟩
  have H3 := hid (H2.out.only (Only.of hB3) (H2.out.sc.below H2.out.sc.lt hB3))
  have hO3' := hid (hO2'.out.trans (Only.of hB3))
  obtain ⟨m, hm⟩ := H3.out.max
  clear hB3
  go_wp2_with fail
  refine (pass_miss (i := t) H3.out.sc hs ht2 ⟨#[62]⟩ (by decide) HF.out m hm).mono ?_
  rintro e w4 ⟨rfl, hO4, hS4⟩
  have hR := res_block hlt (hO3'.out.trans hO4)
  obtain ⟨d0, d1, d2, d3, d4, df⟩ := five_cells hR
  have HO := hid (Only.alloc (b := b) emptyPiece |>.trans (hO3'.out.trans hO4))
  have HS := hid hS4
  clear hO4 hS4 hR hm
  go_wp2_with fail
  refine bodyPost_ret (v := pcv 0 0 ⟨#[]⟩ ⟨#[]⟩ (.slice none 0 0)) ?_ rfl ⟨rfl, ?_, ?_⟩
  · simp [results, Tryz.results136, go_sem, d0, d1, d2, d3, d4]
    try rfl
  · exact ((((HO.out.sets (Nat.le_refl _) _ _).sets (Nat.le_refl _) _ _).sets (Nat.le_refl _) _ _).sets (Nat.le_refl _) _ _).sets (Nat.le_refl _) _ _
  · have hn : b ≠ w.heap.size := by omega
    exact ((((HS.out.sets hn _ _).sets hn _ _).sets hn _ _).sets hn _ _).sets hn _ _
end Go.Proofs.YtkaeenafejdkfaaGreatDoor

/- The program: a value as it stands. -/
namespace Go.Proofs.YtkaeenafejdkfaaGreatDoor
open Go.RowKit

/-- a value as it stands, and where the scanner is then -/
def valR (s : ByteArray) (i : Nat) : ByteArray × Nat :=
  if bt s i = 34 ∨ bt s i = 39 then
    match findE (s.extract i (i + 1)) s (i + 1) with
    | some e => (s.extract (i + 1) e, e + 1)
    | none => (s.extract (i + 1) s.size, s.size)
  else (s.extract i (spanE inValB s i), spanE inValB s i)
theorem one_of {s : ByteArray} {i : Nat} {q : UInt8} (h : standsAt ⟨#[q]⟩ s i) : bt s i = q.toNat ∧ s.extract i (i + 1) = ⟨#[q]⟩ ∧ i < s.size := by
  have h1 : i + 1 ≤ s.size := h.1
  have h2 : s.extract i (i + 1) = ⟨#[q]⟩ := h.2
  refine ⟨?_, h2, by omega⟩
  have hb := stands_one.1 h
  rw [bytes_get s i (by omega)] at hb
  rw [bt_lt (by omega), Option.some.inj hb]
theorem one_is {s : ByteArray} {i : Nat} {q : UInt8} (h : bt s i = q.toNat) : standsAt ⟨#[q]⟩ s i := by
  have hi : i < s.size := by
    rcases Nat.lt_or_ge i s.size with h2 | h2
    · exact h2
    · rw [bt_ge h2] at h
      have := q.toNat_lt
      omega
  rw [bt_lt hi] at h
  exact stands_one.2 (by rw [bytes_get s i hi, UInt8.toNat_inj.mp h])
def strokes : Obj := .cells #[.string ⟨#[34]⟩, .string ⟨#[39]⟩] 9 (0, 0)

set_option maxHeartbeats 4000000 in
set_option maxRecDepth 100000 in
theorem cutValue_any {w : World} {b : Nat} {s : ByteArray} {i : Nat} {raw : ByteArray} (h : SC w b s i raw) (hs : s.size ≤ 100000) (hi : i ≤ s.size) :
    Calls Tryz.prog 176 #[.pointer (some ⟨b, 0, none⟩)] w fun e w' => e = .returned (.string (valR s i).1) ∧ Only b w w' ∧ Sc w' b s (valR s i).2 raw := by
  obtain ⟨t, ht⟩ : ∃ t, t = valR s i := ⟨_, rfl⟩
  rw [← ht]
  have HT := hid ht
  have hlt := h.sc.lt
  have H := hid h
  clear h ht
  go_enter Tryz.func176, Tryz.ntmps176
  go_wp2_with fail
  go_loopw [9] (fun v wr => ∃ k : Nat, k ≤ 2 ∧ v = .int .i64 k ∧ Hid (SC wr b s i raw ∧ Only b w wr ∧ wr.heap[w.heap.size]? = some strokes ∧ (1 ≤ k → ¬ standsAt ⟨#[34]⟩ s i) ∧ (2 ≤ k → ¬ standsAt ⟨#[39]⟩ s i))) (fun v _ => 2 - (intOf v).toNat)
  case atStart => exact ⟨0, by omega, rfl, hid ⟨H.out.alloc _, Only.alloc _, heap_alloc_new w _, fun h => absurd h (by omega), fun h => absurd h (by omega)⟩⟩
  case round =>
    obtain ⟨k, hk, rfl, hB⟩ := hrel
    obtain ⟨d0, d1, df⟩ := pair_cells hB.out.2.2.1
    have hne : w.heap.size ≠ b := by omega
    have hlt2 : w.heap.size < wr.heap.size := size_of hB.out.2.2.1
    obtain rfl | rfl | rfl : k = 0 ∨ k = 1 ∨ k = 2 := by omega
    · by_cases hst : standsAt ⟨#[34]⟩ s i
      · have hone := one_of hst
        have hbt : bt s i = 34 := hone.1
        cases hf : findE ⟨#[34]⟩ s (i + 1) with
        | none =>
          have HV : Hid (t = (s.extract (i + 1) s.size, s.size)) := by
            show _ = _
            rw [HT.out]; unfold valR; rw [if_pos (.inl hbt), hone.2.1, hf]
          have hil := hone.2.2
          clear hone hbt HT
          go_wp2_with fail
          refine (skip_yes hB.out.1.sc hs _ hst).mono ?_
          rintro e w1 ⟨rfl, hO1, hS1⟩
          have H1 := hid (hB.out.1.only hO1 hS1)
          obtain ⟨m, hm⟩ := H1.out.max
          have HO1 := hid (hB.out.2.1.trans hO1)
          clear hO1 hS1
          go_wp2_with fail
          refine (pass_miss (i := i + 1) H1.out.sc hs hil ⟨#[34]⟩ (by decide) hf m hm).mono ?_
          rintro e w2 ⟨rfl, hO2, hS2⟩
          have HO2 := hid (HO1.out.trans hO2)
          have HS2 := hid hS2
          clear hO2 hS2
          go_wp2_with fail
          go_ret
          rw [HV.out]
          exact ⟨rfl, HO2.out, HS2.out⟩
        | some e0 =>
          have HV : Hid (t = (s.extract (i + 1) e0, e0 + 1)) := by
            show _ = _
            rw [HT.out]; unfold valR; rw [if_pos (.inl hbt), hone.2.1, hf]
          have hil := hone.2.2
          clear hone hbt HT
          go_wp2_with fail
          refine (skip_yes hB.out.1.sc hs _ hst).mono ?_
          rintro e w1 ⟨rfl, hO1, hS1⟩
          have H1 := hid (hB.out.1.only hO1 hS1)
          obtain ⟨m, hm⟩ := H1.out.max
          have HO1 := hid (hB.out.2.1.trans hO1)
          clear hO1 hS1
          go_wp2_with fail
          refine (pass_hit (i := i + 1) H1.out.sc hs hil ⟨#[34]⟩ (by decide) hf m hm).mono ?_
          rintro e w2 ⟨rfl, hO2, hS2⟩
          have HO2 := hid (HO1.out.trans hO2)
          have HS2 := hid hS2
          clear hO2 hS2
          go_wp2_with fail
          go_ret
          rw [HV.out]
          exact ⟨rfl, HO2.out, HS2.out⟩
      · have HN := hid hst
        clear hst
        go_wp2_with fail
        refine (skip_no hB.out.1.sc hi _ HN.out).mono ?_
        rintro e w1 ⟨rfl, hO1, hS1⟩
        have H1 : Hid (SC w1 b s i raw ∧ Only b w w1 ∧ w1.heap[w.heap.size]? = some strokes ∧ (1 ≤ 1 → ¬ standsAt ⟨#[34]⟩ s i) ∧ (2 ≤ 1 → ¬ standsAt ⟨#[39]⟩ s i)) := ⟨hB.out.1.only hO1 hS1, hB.out.2.1.trans hO1, (hO1.block _ hlt2 hne).trans hB.out.2.2.1, fun _ => HN.out, fun h => absurd h (by omega)⟩
        clear hO1 hS1
        go_wp2_with fail
        refine ⟨⟨1, by omega, by go_num, H1⟩, ?_⟩
        simp [intOf]
    · by_cases hst : standsAt ⟨#[39]⟩ s i
      · have hone := one_of hst
        have hbt : bt s i = 39 := hone.1
        cases hf : findE ⟨#[39]⟩ s (i + 1) with
        | none =>
          have HV : Hid (t = (s.extract (i + 1) s.size, s.size)) := by
            show _ = _
            rw [HT.out]; unfold valR; rw [if_pos (.inr hbt), hone.2.1, hf]
          have hil := hone.2.2
          clear hone hbt HT
          go_wp2_with fail
          refine (skip_yes hB.out.1.sc hs _ hst).mono ?_
          rintro e w1 ⟨rfl, hO1, hS1⟩
          have H1 := hid (hB.out.1.only hO1 hS1)
          obtain ⟨m, hm⟩ := H1.out.max
          have HO1 := hid (hB.out.2.1.trans hO1)
          clear hO1 hS1
          go_wp2_with fail
          refine (pass_miss (i := i + 1) H1.out.sc hs hil ⟨#[39]⟩ (by decide) hf m hm).mono ?_
          rintro e w2 ⟨rfl, hO2, hS2⟩
          have HO2 := hid (HO1.out.trans hO2)
          have HS2 := hid hS2
          clear hO2 hS2
          go_wp2_with fail
          go_ret
          rw [HV.out]
          exact ⟨rfl, HO2.out, HS2.out⟩
        | some e0 =>
          have HV : Hid (t = (s.extract (i + 1) e0, e0 + 1)) := by
            show _ = _
            rw [HT.out]; unfold valR; rw [if_pos (.inr hbt), hone.2.1, hf]
          have hil := hone.2.2
          clear hone hbt HT
          go_wp2_with fail
          refine (skip_yes hB.out.1.sc hs _ hst).mono ?_
          rintro e w1 ⟨rfl, hO1, hS1⟩
          have H1 := hid (hB.out.1.only hO1 hS1)
          obtain ⟨m, hm⟩ := H1.out.max
          have HO1 := hid (hB.out.2.1.trans hO1)
          clear hO1 hS1
          go_wp2_with fail
          refine (pass_hit (i := i + 1) H1.out.sc hs hil ⟨#[39]⟩ (by decide) hf m hm).mono ?_
          rintro e w2 ⟨rfl, hO2, hS2⟩
          have HO2 := hid (HO1.out.trans hO2)
          have HS2 := hid hS2
          clear hO2 hS2
          go_wp2_with fail
          go_ret
          rw [HV.out]
          exact ⟨rfl, HO2.out, HS2.out⟩
      · have HN := hid hst
        clear hst
        go_wp2_with fail
        refine (skip_no hB.out.1.sc hi _ HN.out).mono ?_
        rintro e w1 ⟨rfl, hO1, hS1⟩
        have H1 : Hid (SC w1 b s i raw ∧ Only b w w1 ∧ w1.heap[w.heap.size]? = some strokes ∧ (1 ≤ 2 → ¬ standsAt ⟨#[34]⟩ s i) ∧ (2 ≤ 2 → ¬ standsAt ⟨#[39]⟩ s i)) := ⟨hB.out.1.only hO1 hS1, hB.out.2.1.trans hO1, (hO1.block _ hlt2 hne).trans hB.out.2.2.1, fun _ => hB.out.2.2.2.1 (by omega), fun _ => HN.out⟩
        clear hO1 hS1
        go_wp2_with fail
        refine ⟨⟨2, by omega, by go_num, H1⟩, ?_⟩
        simp [intOf]
    · have HV : Hid (t = (s.extract i (spanE inValB s i), spanE inValB s i)) := by
        show _ = _
        rw [HT.out]; unfold valR
        rw [if_neg (fun h => h.elim (fun h => hB.out.2.2.2.1 (by omega) (one_is h)) (fun h => hB.out.2.2.2.2 (by omega) (one_is h)))]
      clear HT
      go_wp2_with fail
      refine (take_val hB.out.1.sc hs hi).mono ?_
      rintro e w1 ⟨rfl, hO1, hS1⟩
      have HO1 := hid (hB.out.2.1.trans hO1)
      have HS1 := hid hS1
      clear hO1 hS1
      go_wp2_with fail
      go_ret
      rw [HV.out]
      exact ⟨rfl, HO1.out, HS1.out⟩
end Go.Proofs.YtkaeenafejdkfaaGreatDoor
