/- The program: the next piece. -/
import Derived.Test.YtkaeenafejdkfaaGreatDoorM20
import Derived.Test.YtkaeenafejdkfaaGreatDoorM14
namespace Go.Proofs.YtkaeenafejdkfaaGreatDoor
open Go.RowKit

def nilS : Value := .slice none 0 0
/-- a piece as the program has it -/
def PcV (w : World) (B : Nat) (pc : Pc) (i : Nat) (v : Value) : Prop := match pc with
  | .text t _ => v = pcv 1 i ⟨#[]⟩ t (.slice none 0 0)
  | .com t _ => v = pcv 2 i ⟨#[]⟩ t (.slice none 0 0)
  | .none _ => v = pcv 0 i ⟨#[]⟩ ⟨#[]⟩ (.slice none 0 0)
  | .fin n _ => v = pcv 4 i n ⟨#[]⟩ (.slice none 0 0)
  | .start n l _ => ∃ av, v = pcv 3 i n ⟨#[]⟩ av ∧ AttrsIn w B av l
def Pc.to : Pc → Nat
  | .text _ t => t
  | .com _ t => t
  | .none t => t
  | .fin _ t => t
  | .start _ _ t => t
def Pc.raw : Pc → ByteArray
  | .start n _ _ => if rawB n = true then n else ⟨#[]⟩
  | _ => ⟨#[]⟩
/-- what a piece is cut into -/
def CutPost (w : World) (b : Nat) (s : ByteArray) (i : Nat) (pc : Pc) (e : Ending) (w' : World) : Prop := ∃ v, e = .returned v ∧ PcV w' w.heap.size pc i v ∧ Only b w w' ∧ Sc w' b s pc.to pc.raw
/-- five cells are stored over the result -/
theorem five_sets {w w1 w2 : World} {b : Nat} {s : ByteArray} {i : Nat} {raw : ByteArray} (hb : b < w.heap.size) (ho : Only b (w.alloc emptyPiece) w1) (h1 : Only b w1 w2) (hs : Sc w2 b s i raw) (a0 a1 a2 a3 a4 : Value) :
    Only b w (((((w2.setCell ⟨w.heap.size, 0, none⟩ a0).setCell ⟨w.heap.size, 1, none⟩ a1).setCell ⟨w.heap.size, 2, none⟩ a2).setCell ⟨w.heap.size, 3, none⟩ a3).setCell ⟨w.heap.size, 4, none⟩ a4) ∧
    Sc (((((w2.setCell ⟨w.heap.size, 0, none⟩ a0).setCell ⟨w.heap.size, 1, none⟩ a1).setCell ⟨w.heap.size, 2, none⟩ a2).setCell ⟨w.heap.size, 3, none⟩ a3).setCell ⟨w.heap.size, 4, none⟩ a4) b s i raw := by
  have hn : b ≠ w.heap.size := by omega
  exact ⟨((((((Only.alloc (b := b) emptyPiece).trans (ho.trans h1)).sets (Nat.le_refl _) _ _).sets (Nat.le_refl _) _ _).sets (Nat.le_refl _) _ _).sets (Nat.le_refl _) _ _).sets (Nat.le_refl _) _ _,
    ((((hs.sets hn _ _).sets hn _ _).sets hn _ _).sets hn _ _).sets hn _ _⟩

set_option maxHeartbeats 4000000 in
set_option maxRecDepth 100000 in
theorem cut_any {w : World} {b : Nat} {s : ByteArray} {i : Nat} (h : SC w b s i ⟨#[]⟩) (hs : s.size ≤ 100000) (hi : i < s.size) (pc : Pc) (hpc : pc = pieceP nameB s i) :
    Calls Tryz.prog 110 #[.pointer (some ⟨b, 0, none⟩)] w (CutPost w b s 0 pc) := by
  have hlt0 := h.sc.lt
  have H := hid (h.alloc emptyPiece)
  obtain ⟨c0, c1, c2, cf⟩ := (h.alloc emptyPiece).sc.cells
  unfold emptyPiece at c0 c1 c2 cf
  have HPC := hid hpc
  obtain ⟨q, hq⟩ : ∃ q, q = kindT (s.extract i s.size) := ⟨_, rfl⟩
  have HQ := hid hq
  have hk := kind_at (s := s) (i := i) (by omega)
  rw [← hq] at hk
  have HK := hid hk
  clear h hpc hq hk
  go_enter Tryz.func110, Tryz.ntmps110
  go_wp2_with fail
  go_quiet ((go_at_call 133; exact Calls.quiet_of_same (pbegins_any (s.extract i s.size) q HQ.out _)))
  have H1 := hid (H.out.only ((Only.refl _ _).drew nq) (H.out.sc.drew nq))
  have HO1 : Hid (Only b (w.alloc emptyPiece) ((w.alloc emptyPiece).drewN nq)) := (Only.refl _ _).drew nq
  change Exit.then _ _ _ _ ((w.alloc emptyPiece).drewN nq)
  generalize (w.alloc emptyPiece).drewN nq = w1 at *
  clear c0 c1 c2 cf H HQ
  by_cases hcom : standsAt ⟨#[60, 33, 45, 45]⟩ s i
  · have h60 := two_is.1 (com_two hcom)
    have hst : startB s i = true := by
      cases hb : startB s i
      · have := (kind_one (by omega)).2 hb
        rw [kind_at (by omega), if_pos hcom] at this
        omega
      · rfl
    obtain rfl : q = 2 := by rw [HK.out, if_pos hcom]
    clear HK
    cases hf : findE ⟨#[45, 45, 62]⟩ s (i + 4) with
    | some k =>
      have HPP : Hid (pc = .com (s.extract (i + 4) k) (k + 3)) := by
        show _ = _
        rw [HPC.out]; unfold pieceP; rw [if_neg (by rw [hst]; simp), if_pos hcom, hf]
      go_wp2_with fail
      refine (cutComment_hit H1.out hs hcom hf).mono ?_
      rintro e w2 ⟨rfl, hO2, hS2⟩
      unfold pcv
      have hR := res_block hlt0 (HO1.out.trans hO2)
      obtain ⟨r0, r1, r2, r3, r4, rf⟩ := five_cells hR
      have HO2 := hid hO2
      have HS2 := hid hS2
      clear hO2 hS2 hR
      go_wp2_with fail
      rw [HPP.out]
      obtain ⟨z1, z2⟩ := five_sets hlt0 HO1.out HO2.out HS2.out (.int .i64 2) (.int .i64 0) (.string ⟨#[]⟩) (.string (s.extract (i + 4) k)) (.slice none 0 0)
      refine bodyPost_ret (v := pcv 2 0 ⟨#[]⟩ (s.extract (i + 4) k) (.slice none 0 0)) ?_ rfl ⟨_, rfl, (rfl : PcV _ _ (.com (s.extract (i + 4) k) (k + 3)) 0 _), z1, z2⟩
      simp [results, Tryz.results110, go_sem, r0, r1, r2, r3, r4]
      try rfl
    | none =>
      have HPP : Hid (pc = .com (s.extract (i + 4) s.size) s.size) := by
        show _ = _
        rw [HPC.out]; unfold pieceP; rw [if_neg (by rw [hst]; simp), if_pos hcom, hf]
      go_wp2_with fail
      refine (cutComment_miss H1.out hs hcom hf).mono ?_
      rintro e w2 ⟨rfl, hO2, hS2⟩
      unfold pcv
      have hR := res_block hlt0 (HO1.out.trans hO2)
      obtain ⟨r0, r1, r2, r3, r4, rf⟩ := five_cells hR
      have HO2 := hid hO2
      have HS2 := hid hS2
      clear hO2 hS2 hR
      go_wp2_with fail
      rw [HPP.out]
      obtain ⟨z1, z2⟩ := five_sets hlt0 HO1.out HO2.out HS2.out (.int .i64 2) (.int .i64 0) (.string ⟨#[]⟩) (.string (s.extract (i + 4) s.size)) (.slice none 0 0)
      refine bodyPost_ret (v := pcv 2 0 ⟨#[]⟩ (s.extract (i + 4) s.size) (.slice none 0 0)) ?_ rfl ⟨_, rfl, (rfl : PcV _ _ (.com (s.extract (i + 4) s.size) s.size) 0 _), z1, z2⟩
      simp [results, Tryz.results110, go_sem, r0, r1, r2, r3, r4]
      try rfl
  by_cases hbang : bt s i = 60 ∧ (bt s (i + 1) = 33 ∨ bt s (i + 1) = 63)
  · have hst : startB s i = true := by
      cases hb : startB s i
      · have := (kind_one (by omega)).2 hb
        rw [kind_at (by omega), if_neg hcom, if_pos hbang] at this
        omega
      · rfl
    obtain rfl : q = 0 := by rw [HK.out, if_neg hcom, if_pos hbang]
    clear HK
    obtain ⟨m, hm⟩ := H1.out.max
    cases hf : findE ⟨#[62]⟩ s i with
    | some k =>
      have HPP : Hid (pc = .none (k + 1)) := by
        show _ = _
        rw [HPC.out]; unfold pieceP; rw [if_neg (by rw [hst]; simp), if_neg hcom, if_pos hbang.2, hf]
      go_wp2_with fail
      refine (pass_hit H1.out.sc hs (by omega) ⟨#[62]⟩ (by decide) hf m hm).mono ?_
      rintro e w2 ⟨rfl, hO2, hS2⟩
      have hR := res_block hlt0 (HO1.out.trans hO2)
      obtain ⟨r0, r1, r2, r3, r4, rf⟩ := five_cells hR
      have HO2 := hid hO2
      have HS2 := hid hS2
      clear hO2 hS2 hR
      go_wp2_with fail
      rw [HPP.out]
      obtain ⟨z1, z2⟩ := five_sets hlt0 HO1.out HO2.out HS2.out (.int .i64 0) (.int .i64 0) (.string ⟨#[]⟩) (.string ⟨#[]⟩) (.slice none 0 0)
      refine bodyPost_ret (v := pcv 0 0 ⟨#[]⟩ ⟨#[]⟩ (.slice none 0 0)) ?_ rfl ⟨_, rfl, (rfl : PcV _ _ (.none (k + 1)) 0 _), z1, z2⟩
      simp [results, Tryz.results110, go_sem, r0, r1, r2, r3, r4]
      try rfl
    | none =>
      have HPP : Hid (pc = .none s.size) := by
        show _ = _
        rw [HPC.out]; unfold pieceP; rw [if_neg (by rw [hst]; simp), if_neg hcom, if_pos hbang.2, hf]
      go_wp2_with fail
      refine (pass_miss H1.out.sc hs (by omega) ⟨#[62]⟩ (by decide) hf m hm).mono ?_
      rintro e w2 ⟨rfl, hO2, hS2⟩
      have hR := res_block hlt0 (HO1.out.trans hO2)
      obtain ⟨r0, r1, r2, r3, r4, rf⟩ := five_cells hR
      have HO2 := hid hO2
      have HS2 := hid hS2
      clear hO2 hS2 hR
      go_wp2_with fail
      rw [HPP.out]
      obtain ⟨z1, z2⟩ := five_sets hlt0 HO1.out HO2.out HS2.out (.int .i64 0) (.int .i64 0) (.string ⟨#[]⟩) (.string ⟨#[]⟩) (.slice none 0 0)
      refine bodyPost_ret (v := pcv 0 0 ⟨#[]⟩ ⟨#[]⟩ (.slice none 0 0)) ?_ rfl ⟨_, rfl, (rfl : PcV _ _ (.none s.size) 0 _), z1, z2⟩
      simp [results, Tryz.results110, go_sem, r0, r1, r2, r3, r4]
      try rfl
  by_cases hend : bt s i = 60 ∧ bt s (i + 1) = 47 ∧ alphaB (bt s (i + 2)) = true
  · have hst : startB s i = true := by
      cases hb : startB s i
      · have := (kind_one (by omega)).2 hb
        rw [kind_at (by omega), if_neg hcom, if_neg hbang, if_pos hend] at this
        omega
      · rfl
    obtain rfl : q = 4 := by rw [HK.out, if_neg hcom, if_neg hbang, if_pos hend]
    clear HK
    have hne : ¬ (bt s (i + 1) = 33 ∨ bt s (i + 1) = 63) := by omega
    have hse : standsAt ⟨#[60, 47]⟩ s i := two_is.2 ⟨hend.1, hend.2.1⟩
    cases hf : findE ⟨#[62]⟩ s (spanE inTagB s (i + 2)) with
    | some k =>
      have HPP : Hid (pc = .fin (smallS (s.extract (i + 2) (spanE inTagB s (i + 2)))) (k + 1)) := by
        show _ = _
        rw [HPC.out]; unfold pieceP endP; rw [if_neg (by rw [hst]; simp), if_neg hcom, if_neg hne, if_pos hend.2.1]; simp only [hf]
      go_wp2_with fail
      refine (cutEnd_hit H1.out hs hse rfl hf).mono ?_
      rintro e w2 ⟨rfl, hO2, hS2⟩
      unfold pcv
      have hR := res_block hlt0 (HO1.out.trans hO2)
      obtain ⟨r0, r1, r2, r3, r4, rf⟩ := five_cells hR
      have HO2 := hid hO2
      have HS2 := hid hS2
      clear hO2 hS2 hR
      go_wp2_with fail
      rw [HPP.out]
      obtain ⟨z1, z2⟩ := five_sets hlt0 HO1.out HO2.out HS2.out (.int .i64 4) (.int .i64 0) (.string (smallS (s.extract (i + 2) (spanE inTagB s (i + 2))))) (.string ⟨#[]⟩) (.slice none 0 0)
      refine bodyPost_ret (v := pcv 4 0 (smallS (s.extract (i + 2) (spanE inTagB s (i + 2)))) ⟨#[]⟩ (.slice none 0 0)) ?_ rfl ⟨_, rfl, (rfl : PcV _ _ (.fin (smallS (s.extract (i + 2) (spanE inTagB s (i + 2)))) (k + 1)) 0 _), z1, z2⟩
      simp [results, Tryz.results110, go_sem, r0, r1, r2, r3, r4]
      try rfl
    | none =>
      have HPP : Hid (pc = .none s.size) := by
        show _ = _
        rw [HPC.out]; unfold pieceP endP; rw [if_neg (by rw [hst]; simp), if_neg hcom, if_neg hne, if_pos hend.2.1]; simp only [hf]
      go_wp2_with fail
      refine (cutEnd_miss H1.out hs hse rfl hf).mono ?_
      rintro e w2 ⟨rfl, hO2, hS2⟩
      unfold pcv
      have hR := res_block hlt0 (HO1.out.trans hO2)
      obtain ⟨r0, r1, r2, r3, r4, rf⟩ := five_cells hR
      have HO2 := hid hO2
      have HS2 := hid hS2
      clear hO2 hS2 hR
      go_wp2_with fail
      rw [HPP.out]
      obtain ⟨z1, z2⟩ := five_sets hlt0 HO1.out HO2.out HS2.out (.int .i64 0) (.int .i64 0) (.string ⟨#[]⟩) (.string ⟨#[]⟩) (.slice none 0 0)
      refine bodyPost_ret (v := pcv 0 0 ⟨#[]⟩ ⟨#[]⟩ (.slice none 0 0)) ?_ rfl ⟨_, rfl, (rfl : PcV _ _ (.none s.size) 0 _), z1, z2⟩
      simp [results, Tryz.results110, go_sem, r0, r1, r2, r3, r4]
      try rfl
  by_cases hsta : bt s i = 60 ∧ alphaB (bt s (i + 1)) = true
  · have hst : startB s i = true := by
      cases hb : startB s i
      · have := (kind_one (by omega)).2 hb
        rw [kind_at (by omega), if_neg hcom, if_neg hbang, if_neg hend, if_pos hsta] at this
        omega
      · rfl
    obtain rfl : q = 3 := by rw [HK.out, if_neg hcom, if_neg hbang, if_neg hend, if_pos hsta]
    clear HK
    have hne : ¬ (bt s (i + 1) = 33 ∨ bt s (i + 1) = 63) := fun h => hbang ⟨hsta.1, h⟩
    have hne2 : ¬ bt s (i + 1) = 47 := fun h => by have := hsta.2; rw [h] at this; exact absurd this (by decide)
    have HP1 : Hid (pc = startP nameB s i) := by
      show _ = _
      rw [HPC.out]; unfold pieceP; rw [if_neg (by rw [hst]; simp), if_neg hcom, if_neg hne, if_neg hne2]
    have hlt : standsAt ⟨#[60]⟩ s i := one_is hsta.1
    go_wp2_with fail
    refine (cutStart_any H1.out hs hlt rfl).mono ?_
    intro e w2 hpost
    cases hf : attrsF nameB (s.size + 1) s (spanE inTagB s (i + 1)) [] with
    | some x =>
      obtain ⟨l, j⟩ := x
      rw [hf] at hpost
      obtain ⟨av, rfl, hAI, hO2, hS2⟩ := hpost
      have HPP : Hid (pc = .start (smallS (s.extract (i + 1) (spanE inTagB s (i + 1)))) l j) := by
        show _ = _
        rw [HP1.out]; unfold startP; simp only [hf]
      obtain ⟨aa, ac, rfl, hAI2⟩ := hAI
      have HAI : Hid (AttrsIn w2 w1.heap.size (.slice aa l.length ac) l) := ⟨aa, ac, rfl, hAI2⟩
      clear hAI2
      unfold pcv
      have hwl : w.heap.size < w1.heap.size := size_of (res_block hlt0 HO1.out)
      have hR := res_block hlt0 (HO1.out.trans hO2)
      obtain ⟨r0, r1, r2, r3, r4, rf⟩ := five_cells hR
      have HO2 := hid hO2
      have HS2 := hid hS2
      clear hO2 hS2 hR
      go_wp2_with fail
      rw [HPP.out]
      obtain ⟨z1, z2⟩ := five_sets hlt0 HO1.out HO2.out HS2.out (.int .i64 3) (.int .i64 0) (.string (smallS (s.extract (i + 1) (spanE inTagB s (i + 1))))) (.string ⟨#[]⟩) (.slice aa l.length ac)
      refine bodyPost_ret (v := pcv 3 0 (smallS (s.extract (i + 1) (spanE inTagB s (i + 1)))) ⟨#[]⟩ (.slice aa l.length ac)) ?_ rfl ⟨_, rfl, ⟨_, rfl, (((((HAI.out.sets hwl _).sets hwl _).sets hwl _).sets hwl _).sets hwl _).mono (Nat.le_of_lt hwl)⟩, z1, z2⟩
      simp [results, Tryz.results110, go_sem, r0, r1, r2, r3, r4]
      try rfl
    | none =>
      rw [hf] at hpost
      obtain ⟨rfl, hO2, hS2⟩ := hpost
      have HPP : Hid (pc = .none s.size) := by
        show _ = _
        rw [HP1.out]; unfold startP; simp only [hf]
      unfold pcv
      have hR := res_block hlt0 (HO1.out.trans hO2)
      obtain ⟨r0, r1, r2, r3, r4, rf⟩ := five_cells hR
      have HO2 := hid hO2
      have HS2 := hid hS2
      clear hO2 hS2 hR
      go_wp2_with fail
      rw [HPP.out]
      obtain ⟨z1, z2⟩ := five_sets hlt0 HO1.out HO2.out HS2.out (.int .i64 0) (.int .i64 0) (.string ⟨#[]⟩) (.string ⟨#[]⟩) (.slice none 0 0)
      refine bodyPost_ret (v := pcv 0 0 ⟨#[]⟩ ⟨#[]⟩ (.slice none 0 0)) ?_ rfl ⟨_, rfl, (rfl : PcV _ _ (.none s.size) 0 _), z1, z2⟩
      simp [results, Tryz.results110, go_sem, r0, r1, r2, r3, r4]
      try rfl
  · have hq1 : q = 1 := by rw [HK.out, if_neg hcom, if_neg hbang, if_neg hend, if_neg hsta]
    have hst : startB s i = false := by
      rw [← kind_one (by omega), kind_at (by omega), ← HK.out]; exact hq1
    subst hq1
    clear HK
    have hw : wordE s i = wordN s (i + 1) := by rw [word_same, wordN_step hi hst]
    have HPP : Hid (pc = .text (meantS (s.extract i (wordN s (i + 1)))) (wordN s (i + 1))) := by
      show _ = _
      rw [HPC.out]; unfold pieceP; rw [if_pos hst]
    go_wp2_with fail
    refine (cutWords_any H1.out hs (by omega)).mono ?_
    rw [hw]
    rintro e w2 ⟨rfl, hO2, hS2⟩
    unfold pcv
    have hR := res_block hlt0 (HO1.out.trans hO2)
    obtain ⟨r0, r1, r2, r3, r4, rf⟩ := five_cells hR
    have HO2 := hid hO2
    have HS2 := hid hS2
    clear hO2 hS2 hR
    go_wp2_with fail
    rw [HPP.out]
    obtain ⟨z1, z2⟩ := five_sets hlt0 HO1.out HO2.out HS2.out (.int .i64 1) (.int .i64 0) (.string ⟨#[]⟩) (.string (meantS (s.extract i (wordN s (i + 1))))) (.slice none 0 0)
    refine bodyPost_ret (v := pcv 1 0 ⟨#[]⟩ (meantS (s.extract i (wordN s (i + 1)))) (.slice none 0 0)) ?_ rfl ⟨_, rfl, (rfl : PcV _ _ (.text (meantS (s.extract i (wordN s (i + 1)))) (wordN s (i + 1))) 0 _), z1, z2⟩
    simp [results, Tryz.results110, go_sem, r0, r1, r2, r3, r4]
    try rfl

theorem Sc.al {w : World} {b : Nat} {s : ByteArray} {i : Nat} {raw : ByteArray} (h : Sc w b s i raw) (o : Obj) : Sc (w.alloc o) b s i raw := by
  have hl := h.lt
  unfold Sc at h ⊢
  rw [Below.heap_alloc _ _ _ hl]; exact h
/-- what a raw element says, as a piece -/
def pcRaw (s : ByteArray) (i : Nat) (raw : ByteArray) : Pc := if rawE s raw i = i then .none i else .text (s.extract i (rawE s raw i)) (rawE s raw i)
theorem pcRaw_to {s : ByteArray} {i : Nat} {raw : ByteArray} : (pcRaw s i raw).to = rawE s raw i ∧ (pcRaw s i raw).raw = ⟨#[]⟩ := by
  unfold pcRaw; split
  · rename_i h; exact ⟨h.symm, rfl⟩
  · exact ⟨rfl, rfl⟩
theorem PcV.form {w : World} {B : Nat} {pc : Pc} {i : Nat} {v : Value} (h : PcV w B pc i v) : ∃ k n t a l c, v = pcv k i n t (.slice a l c) ∧ ∀ (w' : World) (B' : Nat) (j : Int), B' ≤ B → (∀ g, B ≤ g → g < w.heap.size → w'.heap[g]? = w.heap[g]?) → ∀ j' : Nat, j = j' → PcV w' B' pc j' (pcv k j n t (.slice a l c)) := by
  cases pc with
  | text t e => exact ⟨_, _, _, _, _, _, h, fun w' B' j _ _ j' hj => by subst hj; rfl⟩
  | com t e => exact ⟨_, _, _, _, _, _, h, fun w' B' j _ _ j' hj => by subst hj; rfl⟩
  | none e => exact ⟨_, _, _, _, _, _, h, fun w' B' j _ _ j' hj => by subst hj; rfl⟩
  | fin n e => exact ⟨_, _, _, _, _, _, h, fun w' B' j _ _ j' hj => by subst hj; rfl⟩
  | start n l e =>
    obtain ⟨av, rfl, hA⟩ := h
    obtain ⟨a, c, rfl, _⟩ := id hA
    exact ⟨_, _, _, _, _, _, rfl, fun w' B' j hB hk j' hj => by subst hj; exact ⟨_, rfl, (hA.keep hk).mono hB⟩⟩
set_option maxHeartbeats 4000000 in
set_option maxRecDepth 100000 in
theorem cut_raw {w : World} {b : Nat} {s : ByteArray} {i : Nat} {raw : ByteArray} (h : SC w b s i raw) (hs : s.size ≤ 100000) (hi : i < s.size) (hr : raw.size ≤ 100) (hne : raw ≠ ⟨#[]⟩) :
    Calls Tryz.prog 110 #[.pointer (some ⟨b, 0, none⟩)] w (CutPost w b s 0 (pcRaw s i raw)) := by
  have hlt0 := h.sc.lt
  have H := hid (h.alloc emptyPiece)
  obtain ⟨c0, c1, c2, cf⟩ := (h.alloc emptyPiece).sc.cells
  unfold emptyPiece at c0 c1 c2 cf
  have hne2 : ¬ raw.toList = [] := fun e => hne (by rw [Lib.toList_data] at e; exact ByteArray.ext (Array.toList_inj.mp e))
  have hne3 : raw.toList.isEmpty = false := by cases hh : raw.toList with | nil => exact absurd hh hne2 | cons _ _ => rfl
  have HO1 : Hid (Only b (w.alloc emptyPiece) (w.alloc emptyPiece)) := Only.refl _ _
  clear h hne
  go_enter Tryz.func110, Tryz.ntmps110
  go_wp2_with fail
  refine (cutRaw_any H.out hs (by omega) hr).mono ?_
  rintro e w2 ⟨rfl, hO2, hS2⟩
  obtain ⟨e1, e2⟩ := pcRaw_to (s := s) (i := i) (raw := raw)
  rw [← e1, ← e2] at hS2
  have hR := res_block hlt0 hO2
  obtain ⟨r0, r1, r2, r3, r4, rf⟩ := five_cells hR
  have HO2 := hid hO2
  have HS2 := hid hS2
  clear hO2 hS2 hR e1 e2
  by_cases hz : rawE s raw i = i
  · have HPP : Hid (pcRaw s i raw = .none i) := by show _ = _; unfold pcRaw; rw [if_pos hz]
    rw [HPP.out] at HS2
    unfold rawV pcv
    rw [if_pos hz]
    go_wp2_with fail
    rw [HPP.out]
    obtain ⟨z1, z2⟩ := five_sets hlt0 HO1.out HO2.out HS2.out (.int .i64 0) (.int .i64 0) (.string ⟨#[]⟩) (.string ⟨#[]⟩) (.slice none 0 0)
    refine bodyPost_ret (v := pcv 0 0 ⟨#[]⟩ ⟨#[]⟩ (.slice none 0 0)) ?_ rfl ⟨_, rfl, (rfl : PcV _ _ (.none i) 0 _), z1, z2⟩
    simp [results, Tryz.results110, go_sem, r0, r1, r2, r3, r4]
    try rfl
  · have HPP : Hid (pcRaw s i raw = .text (s.extract i (rawE s raw i)) (rawE s raw i)) := by show _ = _; unfold pcRaw; rw [if_neg hz]
    rw [HPP.out] at HS2
    unfold rawV pcv
    rw [if_neg hz]
    go_wp2_with fail
    rw [HPP.out]
    obtain ⟨z1, z2⟩ := five_sets hlt0 HO1.out HO2.out HS2.out (.int .i64 1) (.int .i64 0) (.string ⟨#[]⟩) (.string (s.extract i (rawE s raw i))) (.slice none 0 0)
    refine bodyPost_ret (v := pcv 1 0 ⟨#[]⟩ (s.extract i (rawE s raw i)) (.slice none 0 0)) ?_ rfl ⟨_, rfl, (rfl : PcV _ _ (.text (s.extract i (rawE s raw i)) (rawE s raw i)) 0 _), z1, z2⟩
    simp [results, Tryz.results110, go_sem, r0, r1, r2, r3, r4]
    try rfl

/-- the piece that comes next -/
def pcNext (s : ByteArray) (i : Nat) (raw : ByteArray) : Pc := if raw = ⟨#[]⟩ then pieceP nameB s i else pcRaw s i raw
def NextPost (w : World) (b : Nat) (s : ByteArray) (i : Nat) (raw : ByteArray) (e : Ending) (w' : World) : Prop :=
  if i < s.size then ∃ v, e = .returned (.tuple #[v, .bool true]) ∧ PcV w' w.heap.size (pcNext s i raw) i v ∧ Only b w w' ∧ Sc w' b s (pcNext s i raw).to (pcNext s i raw).raw
  else ∃ v, e = .returned (.tuple #[v, .bool false]) ∧ Only b w w' ∧ Sc w' b s i raw
set_option maxHeartbeats 4000000 in
set_option maxRecDepth 100000 in
theorem next_any {w : World} {b : Nat} {s : ByteArray} {i : Nat} {raw : ByteArray} (h : SC w b s i raw) (hs : s.size ≤ 100000) (hi : i ≤ s.size) (hr : raw.size ≤ 100) :
    Calls Tryz.prog 71 #[.pointer (some ⟨b, 0, none⟩)] w (NextPost w b s i raw) := by
  have hlt0 := h.sc.lt
  have H := hid (h.alloc emptyPiece)
  by_cases hlt : i < s.size
  · have hN : NextPost w b s i raw = (fun e w' => ∃ v, e = .returned (.tuple #[v, .bool true]) ∧ PcV w' w.heap.size (pcNext s i raw) i v ∧ Only b w w' ∧ Sc w' b s (pcNext s i raw).to (pcNext s i raw).raw) := by
      funext e w'; unfold NextPost; rw [if_pos hlt]
    rw [hN]
    clear hN
    obtain ⟨pc, hpc⟩ : ∃ pc, pc = pcNext s i raw := ⟨_, rfl⟩
    rw [← hpc]
    have HPC := hid hpc
    clear h hpc
    go_enter Tryz.func71, Tryz.ntmps71
    go_wp2_with fail
    refine (atEnd_bel H.out.sc false (at_no hlt)).mono ?_
    rintro e w1 ⟨rfl, hB1⟩
    have H1 := hid (H.out.bel hB1)
    have HO1 := hid (Only.of (b := b) hB1)
    obtain ⟨c0, c1, c2, cf⟩ := H1.out.sc.cells
    clear hB1 H
    have hcut : Calls Tryz.prog 110 #[.pointer (some ⟨b, 0, none⟩)] w1 (CutPost w1 b s 0 pc) := by
      rw [HPC.out]
      unfold pcNext
      by_cases hz : raw = ⟨#[]⟩
      · rw [if_pos hz]
        subst hz
        exact cut_any H1.out hs hlt _ rfl
      · rw [if_neg hz]
        exact cut_raw H1.out hs hlt hr hz
    have HCUT := hid hcut
    clear hcut
    go_wp2_with fail
    refine HCUT.out.mono ?_
    rintro e w2 ⟨v, rfl, hPV, hO2, hS2⟩
    obtain ⟨k, n, t, a, l, c, rfl, hF⟩ := hPV.form
    have HF := hid hF
    have hR := res_block hlt0 (HO1.out.trans hO2)
    have hwl : w.heap.size < w2.heap.size := size_of hR
    obtain ⟨r0, r1, r2, r3, r4, rf⟩ := five_cells hR
    have HO2 := hid hO2
    have HS2 := hid hS2
    have hwl1 : w.heap.size < w1.heap.size := size_of (res_block hlt0 HO1.out)
    have HR := hid hR
    clear hO2 hS2 hR hPV hF HCUT
    unfold pcv
    go_wp2_with fail
    obtain ⟨z1, z2⟩ := five_sets hlt0 HO1.out HO2.out HS2.out (.int .i64 k) (.int .i64 i) (.string n) (.string t) (.slice a l c)
    have hkeep : ∀ g, w1.heap.size ≤ g → g < w2.heap.size → ((((((w2.setCell ⟨w.heap.size, 0, none⟩ (.int .i64 k)).setCell ⟨w.heap.size, 1, none⟩ (.int .i64 i)).setCell ⟨w.heap.size, 2, none⟩ (.string n)).setCell ⟨w.heap.size, 3, none⟩ (.string t)).setCell ⟨w.heap.size, 4, none⟩ (.slice a l c)).alloc (.cells #[.int .i64 k, .int .i64 i, .string n, .string t, .slice a l c] 121)).heap[g]? = w2.heap[g]? := by
      intro g h1 h2
      have hne : g ≠ w.heap.size := by omega
      rw [Below.heap_alloc _ _ _ (by simpa [World.setCell] using h2)]
      rw [Below.heap_setCell _ ⟨w.heap.size, 4, none⟩ _ _ hne, Below.heap_setCell _ ⟨w.heap.size, 3, none⟩ _ _ hne, Below.heap_setCell _ ⟨w.heap.size, 2, none⟩ _ _ hne, Below.heap_setCell _ ⟨w.heap.size, 1, none⟩ _ _ hne, Below.heap_setCell _ ⟨w.heap.size, 0, none⟩ _ _ hne]
    have hblk : ((((((w2.setCell ⟨w.heap.size, 0, none⟩ (.int .i64 k)).setCell ⟨w.heap.size, 1, none⟩ (.int .i64 i)).setCell ⟨w.heap.size, 2, none⟩ (.string n)).setCell ⟨w.heap.size, 3, none⟩ (.string t)).setCell ⟨w.heap.size, 4, none⟩ (.slice a l c)).alloc (.cells #[.int .i64 k, .int .i64 i, .string n, .string t, .slice a l c] 121)).heap[w.heap.size]? = some (.cells #[.int .i64 k, .int .i64 i, .string n, .string t, .slice a l c] 121 (0, 0)) := by
      have h0 := HR.out
      unfold emptyPiece at h0
      rw [Below.heap_alloc _ _ _ (by simpa [World.setCell] using hwl)]
      simp [World.setCell, Array.getElem?_modify, h0]
    have hpost := HF.out _ _ i (Nat.le_of_lt hwl1) hkeep i rfl
    have hO := z1.trans (Only.alloc (.cells #[.int .i64 k, .int .i64 i, .string n, .string t, .slice a l c] 121))
    have hS := z2.al (.cells #[.int .i64 k, .int .i64 i, .string n, .string t, .slice a l c] 121)
    generalize ((((((w2.setCell ⟨w.heap.size, 0, none⟩ (.int .i64 k)).setCell ⟨w.heap.size, 1, none⟩ (.int .i64 i)).setCell ⟨w.heap.size, 2, none⟩ (.string n)).setCell ⟨w.heap.size, 3, none⟩ (.string t)).setCell ⟨w.heap.size, 4, none⟩ (.slice a l c)).alloc (.cells #[.int .i64 k, .int .i64 i, .string n, .string t, .slice a l c] 121)) = W at *
    obtain ⟨f0, f1, f2, f3, f4, ff⟩ := five_cells hblk
    refine bodyPost_ret (v := .tuple #[pcv k i n t (.slice a l c), .bool true]) ?_ rfl ⟨_, rfl, hpost, hO, hS⟩
    simp [results, Tryz.results71, go_sem, f0, f1, f2, f3, f4]
    try rfl
  · have hN : NextPost w b s i raw = (fun e w' => ∃ v, e = .returned (.tuple #[v, .bool false]) ∧ Only b w w' ∧ Sc w' b s i raw) := by
      funext e w'; unfold NextPost; rw [if_neg hlt]
    rw [hN]
    clear hN
    obtain rfl : i = s.size := by omega
    clear h
    go_enter Tryz.func71, Tryz.ntmps71
    go_wp2_with fail
    refine (atEnd_bel H.out.sc true (at_end rfl)).mono ?_
    rintro e w2 ⟨rfl, hB1⟩
    have hR := res_block hlt0 (Only.of (b := b) hB1)
    obtain ⟨r0, r1, r2, r3, r4, rf⟩ := five_cells hR
    have HO2 := hid (Only.of (b := b) hB1)
    have HS2 := hid (H.out.bel hB1).sc
    have HO1 : Hid (Only b (w.alloc emptyPiece) (w.alloc emptyPiece)) := Only.refl _ _
    clear hB1 hR
    go_wp2_with fail
    obtain ⟨z1, z2⟩ := five_sets hlt0 HO1.out HO2.out HS2.out (.int .i64 0) (.int .i64 0) (.string ⟨#[]⟩) (.string ⟨#[]⟩) (.slice none 0 0)
    refine bodyPost_ret (v := .tuple #[pcv 0 0 ⟨#[]⟩ ⟨#[]⟩ (.slice none 0 0), .bool false]) ?_ rfl ⟨_, rfl, z1, z2⟩
    simp [results, Tryz.results71, go_sem, r0, r1, r2, r3, r4]
    try rfl
end Go.Proofs.YtkaeenafejdkfaaGreatDoor

/- Which error a node that cannot be made has. -/
namespace Go.Proofs.YtkaeenafejdkfaaGreatDoor
open Go.RowKit

set_option maxHeartbeats 2000000 in
set_option maxRecDepth 100000 in
theorem createX_bad {w : World} {M : Nat → Lab} {tb : Nat} {nv uv : Value} {ps : List Pn} {us : List Value} (h : Lies w M tb nv uv ps us) (hE : Errs w M) (hn : ps.length ≤ 400) (kind : Int) (tag words : ByteArray) (hbad : 20000 < words.size ∨ ps.length = 400) :
    Calls Tryz.prog 81 #[.pointer (some ⟨tb, 0, none⟩), .agg #[.int .i64 kind, .string tag, .string words, .slice none 0 0, .int .i64 0, .slice none 0 0]] w fun e w' =>
      ∃ v, e = .returned (.tuple #[.int .i64 0, v]) ∧ isErr v ∧ w.cell? ⟨0, 0, none⟩ = some v ∧ Below w.heap.size w w' := by
  obtain ⟨t, a, hc⟩ := hE.cell 0 (by decide)
  have hlt : 0 < w.heap.size := World.block_lt_of_cell? w _ hc
  have H : Hid (Lies w M tb nv uv ps us) := h
  clear h hE
  by_cases h2 : 20000 < words.size
  · go_enter Tryz.func81, Tryz.ntmps81
    go_wp2
    go_quiet (fail)
    go_wp2
    go_ret2
    exact ⟨_, rfl, ⟨t, a, rfl⟩, hc, below_drewN ((Below.refl _ _).alloc (Nat.le_refl _) _) _⟩
  · have hr : decide (ps.length < 400) = false := by simp; omega
    go_enter Tryz.func81, Tryz.ntmps81
    go_wp2_with (go_at_call 120; refine (room_any (H.out.alloc _) hn).mono ?_; rintro e w' ⟨rfl, rfl⟩; rw [hr])
    go_quiet (fail)
    go_wp2
    go_ret2
    exact ⟨_, rfl, ⟨t, a, rfl⟩, hc, below_drewN ((Below.refl _ _).alloc (Nat.le_refl _) _) _⟩

set_option maxHeartbeats 2000000 in
theorem elementX_name {w : World} {M : Nat → Lab} {tb : Nat} (hE : Errs w M) (tag : ByteArray) (ht : nameB tag = false) :
    Calls Tryz.prog 38 #[.pointer (some ⟨tb, 0, none⟩), .string tag] w fun e w' => ∃ v, e = .returned (.tuple #[.int .i64 0, v]) ∧ isErr v ∧ w.cell? ⟨5, 0, none⟩ = some v ∧ Below w.heap.size w w' := by
  obtain ⟨t, a, hc⟩ := hE.cell 5 (by decide)
  clear hE
  go_enter Tryz.func38, Tryz.ntmps38
  go_wp2_with (go_at_call 80; refine (name_any _ _).mono ?_; rintro e w' ⟨rfl, rfl⟩; rw [ht])
  go_quiet (fail)
  go_wp2
  go_ret2
  exact ⟨_, rfl, ⟨t, a, rfl⟩, hc, below_drewN (Below.refl _ _) _⟩

set_option maxHeartbeats 2000000 in
theorem elementX_full {w : World} {M : Nat → Lab} {tb : Nat} {nv uv : Value} {ps : List Pn} {us : List Value} (h : Lies w M tb nv uv ps us) (hE : Errs w M) (hn : ps.length ≤ 400) (tag : ByteArray) (ht : nameB tag = true) (h4 : ps.length = 400) :
    Calls Tryz.prog 38 #[.pointer (some ⟨tb, 0, none⟩), .string tag] w fun e w' => ∃ v, e = .returned (.tuple #[.int .i64 0, v]) ∧ isErr v ∧ w.cell? ⟨0, 0, none⟩ = some v ∧ Below w.heap.size w w' := by
  have H : Hid (Lies w M tb nv uv ps us) := h
  have HE : Hid (Errs w M) := hE
  clear h hE
  go_enter Tryz.func38, Tryz.ntmps38
  go_wp2_with (first
    | (go_at_call 80; refine (name_any _ _).mono ?_; rintro e w' ⟨rfl, rfl⟩; rw [ht])
    | (go_at_call 81; refine (createX_bad H.out HE.out hn 2 tag ⟨#[]⟩ (.inr h4)).mono ?_; rintro e w' ⟨v, rfl, ⟨t2, a2, rfl⟩, hcv, hB⟩; have HV : Hid _ := hcv; clear hcv))
  go_ret2
  exact ⟨_, rfl, ⟨t2, a2, rfl⟩, HV.out, hB⟩


set_option maxHeartbeats 2000000 in
theorem textX_bad {w : World} {M : Nat → Lab} {tb : Nat} {nv uv : Value} {ps : List Pn} {us : List Value} (h : Lies w M tb nv uv ps us) (hE : Errs w M) (hn : ps.length ≤ 400) (words : ByteArray) (hbad : 20000 < words.size ∨ ps.length = 400) :
    Calls Tryz.prog 40 #[.pointer (some ⟨tb, 0, none⟩), .string words] w fun e w' => ∃ v, e = .returned (.tuple #[.int .i64 0, v]) ∧ isErr v ∧ w.cell? ⟨0, 0, none⟩ = some v ∧ Below w.heap.size w w' := by
  have H : Hid (Lies w M tb nv uv ps us) := h
  have HE : Hid (Errs w M) := hE
  have HB : Hid (20000 < words.size ∨ ps.length = 400) := hbad
  clear h hE hbad
  go_enter Tryz.func40, Tryz.ntmps40
  go_wp2_with (go_at_call 81; refine (createX_bad H.out HE.out hn 3 ⟨#[]⟩ words HB.out).mono ?_; rintro e w' ⟨v, rfl, ⟨t2, a2, rfl⟩, hcv, hB⟩; have HV : Hid _ := hcv; clear hcv)
  go_ret2
  exact ⟨_, rfl, ⟨t2, a2, rfl⟩, HV.out, hB⟩

set_option maxHeartbeats 2000000 in
theorem commentX_bad {w : World} {M : Nat → Lab} {tb : Nat} {nv uv : Value} {ps : List Pn} {us : List Value} (h : Lies w M tb nv uv ps us) (hE : Errs w M) (hn : ps.length ≤ 400) (words : ByteArray) (hbad : 20000 < words.size ∨ ps.length = 400) :
    Calls Tryz.prog 39 #[.pointer (some ⟨tb, 0, none⟩), .string words] w fun e w' => ∃ v, e = .returned (.tuple #[.int .i64 0, v]) ∧ isErr v ∧ w.cell? ⟨0, 0, none⟩ = some v ∧ Below w.heap.size w w' := by
  have H : Hid (Lies w M tb nv uv ps us) := h
  have HE : Hid (Errs w M) := hE
  have HB : Hid (20000 < words.size ∨ ps.length = 400) := hbad
  clear h hE hbad
  go_enter Tryz.func39, Tryz.ntmps39
  go_wp2_with (go_at_call 81; refine (createX_bad H.out HE.out hn 4 ⟨#[]⟩ words HB.out).mono ?_; rintro e w' ⟨v, rfl, ⟨t2, a2, rfl⟩, hcv, hB⟩; have HV : Hid _ := hcv; clear hcv)
  go_ret2
  exact ⟨_, rfl, ⟨t2, a2, rfl⟩, HV.out, hB⟩

end Go.Proofs.YtkaeenafejdkfaaGreatDoor
