/- The program: the tree of a text is grown. -/
import Derived.Test.YtkaeenafejdkfaaGreatDoorM47
import Derived.Defers
import Derived.Recover
import Derived.LoopN
namespace Go.Proofs.YtkaeenafejdkfaaGreatDoor
open Go.RowKit

def pObj (k : Int) (i : Int) (n t : ByteArray) (a : Option Addr) (l c : Nat) : Obj := .cells #[.int .i64 k, .int .i64 i, .string n, .string t, .slice a l c] 121 (0, 0)
/-- at the loop's head -/
def HeadAt (w0 : World) (gb tb sb : Nat) (s : ByteArray) (R : Res) (pb : Nat) (more : Bool) (g : Nat) (wr : World) : Prop :=
  (more = false ∧ g = 0 ∧ ∃ ns op i raw u M Mo, R = .ok ns ∧ LS w0 gb tb sb s i raw ns op u M Mo wr) ∨
  (more = true ∧ ∃ i raw ns op u f M Mo B k n t a l c, i < s.size ∧ g = 1 + left s i raw ∧ St s R i raw ns op u f ∧ Nx w0 gb tb sb s i raw ns op u pb M Mo B (pcv k i n t (.slice a l c)) wr ∧ wr.heap[pb]? = some (pObj k i n t a l c))
/-- the next piece is laid in a block -/
theorem head_more {w0 w2 w3 w4 : World} {gb tb sb : Nat} {s : ByteArray} {R : Res} {i : Nat} {raw : ByteArray} {ns : List Nd} {op : List Nat} {u f pb : Nat} {M Mo : Nat → Lab} {k : Int} {n t : ByteArray} {a : Option Addr} {l c : Nat} (hL : LS w0 gb tb sb s i raw ns op u M Mo w2) (hS : St s R i raw ns op u f) (hi : i < s.size)
    (hO : Only sb w2 w3) (hSc : Sc w3 sb s (pcNext s i raw).to (pcNext s i raw).raw) (hP : PcV w3 w2.heap.size (pcNext s i raw) i (pcv k i n t (.slice a l c))) (hpo : Only pb w3 w4) (hpb : w4.heap[pb]? = some (pObj k i n t a l c)) (p1 : M pb = .other) (p2 : Mo pb = .other) (p3 : pb ≠ gb) (p4 : pb ≠ sb) (p5 : w0.heap.size ≤ pb) (hfar : ∀ g, w2.heap.size ≤ g → g < w3.heap.size → g ≠ pb) :
    HeadAt w0 gb tb sb s R pb true (1 + left s i raw) w4 := by
  have hL3 := hL.scan hO hSc
  have hL4 := hL3.other hpo p1 p2 p3 p4 p5
  obtain ⟨nv, uv, ps, us, g1, _, _⟩ := hL.gs.tree
  obtain ⟨ga, gc, hg, _⟩ := hL.gs.head
  refine .inr ⟨rfl, i, raw, ns, op, u, f, M, Mo, w2.heap.size, k, n, t, a, l, c, hi, rfl, hS, ⟨hL4, lt_of_heap hg, fun x hx => ⟨g1.fresh x hx, hL.gs.fresh x hx⟩, ?_, p1, p2, p3, p4, p5⟩, hpb⟩
  obtain ⟨k', n', t', a', l', c', e, hF⟩ := hP.form
  unfold pcv at e
  simp at e
  obtain ⟨rfl, rfl, rfl, rfl, rfl, rfl⟩ := e
  exact hF w4 w2.heap.size i (Nat.le_refl _) (fun g hg1 hg2 => hpo.block g hg2 (hfar g hg1 hg2)) i rfl
theorem head_end {w0 w2 w3 w4 : World} {gb tb sb : Nat} {s : ByteArray} {R : Res} {i : Nat} {raw : ByteArray} {ns : List Nd} {op : List Nat} {u f pb : Nat} {M Mo : Nat → Lab} (hL : LS w0 gb tb sb s i raw ns op u M Mo w2) (hS : St s R i raw ns op u f) (hi : s.size ≤ i) (hO : Only sb w2 w3) (hSc : Sc w3 sb s i raw) (hpo : Only pb w3 w4) (p1 : M pb = .other) (p2 : Mo pb = .other) (p3 : pb ≠ gb) (p4 : pb ≠ sb) (p5 : w0.heap.size ≤ pb) : HeadAt w0 gb tb sb s R pb false 0 w4 :=
  .inl ⟨rfl, rfl, ns, op, i, raw, u, M, Mo, by rw [hS.res]; exact read_end hi, (hL.scan hO hSc).other hpo p1 p2 p3 p4 p5⟩
/-- the beginning -/
theorem ls_start {w w1 : World} {M1 : Nat → Lab} {tb : Nat} {nv uv : Value} (s : ByteArray) (hL : Lies w1 M1 tb nv uv [docP] []) (hM : Moved w (fun _ => .other) w1 M1) (hE : Errs w (fun _ => .other)) (m : Int) (h8 : w.cell? ⟨8, 0, none⟩ = some (.int .i64 m)) :
    LS w w1.heap.size tb (w1.heap.size + 1) s 0 ⟨#[]⟩ [docN] [] 0 M1 (fun _ => .other) ((w1.alloc (.cells #[.pointer (some ⟨tb, 0, none⟩), .slice none 0 0, .int .i64 0] 117)).alloc (.cells #[.string s, .int .i64 0, .string ⟨#[]⟩] 119)) := by
  have hsz : (w1.alloc (.cells #[.pointer (some ⟨tb, 0, none⟩), .slice none 0 0, .int .i64 0] 117)).heap.size = w1.heap.size + 1 := by simp
  have hB : Below w1.heap.size w1 ((w1.alloc (.cells #[.pointer (some ⟨tb, 0, none⟩), .slice none 0 0, .int .i64 0] 117)).alloc (.cells #[.string s, .int .i64 0, .string ⟨#[]⟩] 119)) := ((Below.refl _ _).alloc (Nat.le_refl _) _).alloc (by simp) _
  have hw8 : 8 < w.heap.size := World.block_lt_of_cell? w _ h8
  have hle := hM.size
  have hBw : Below w.heap.size w ((w1.alloc (.cells #[.pointer (some ⟨tb, 0, none⟩), .slice none 0 0, .int .i64 0] 117)).alloc (.cells #[.string s, .int .i64 0, .string ⟨#[]⟩] 119)) := ⟨hB.os.trans hM.os, hB.tape.trans hM.tape, hB.output.trans hM.output, Nat.le_trans hle hB.size, fun k hk => (hB.block k (Nat.lt_of_lt_of_le hk hle)).trans (hM.far k hk rfl)⟩
  have herr : ∀ g, errG g = true → g < w.heap.size := fun g hg => by
    obtain ⟨t, x, hc⟩ := hE.cell g hg
    exact World.block_lt_of_cell? w _ hc
  have hgb : ((w1.alloc (.cells #[.pointer (some ⟨tb, 0, none⟩), .slice none 0 0, .int .i64 0] 117)).alloc (.cells #[.string s, .int .i64 0, .string ⟨#[]⟩] 119)).heap[w1.heap.size]? = some (.cells #[.pointer (some ⟨tb, 0, none⟩), .slice none 0 0, .int .i64 0] 117 (0, 0)) := by
    rw [Below.heap_alloc _ _ _ (by omega)]; exact heap_alloc_new w1 _
  have hsb : ((w1.alloc (.cells #[.pointer (some ⟨tb, 0, none⟩), .slice none 0 0, .int .i64 0] 117)).alloc (.cells #[.string s, .int .i64 0, .string ⟨#[]⟩] 119)).heap[w1.heap.size + 1]? = some (.cells #[.string s, .int .i64 0, .string ⟨#[]⟩] 119 (0, 0)) := by
    rw [← hsz]; exact heap_alloc_new _ _
  refine ⟨⟨⟨nv, uv, [docP], [], hL.below hB, rfl, Nat.le_refl _⟩, ⟨none, 0, hgb, Row.nil _ _ _ _ _⟩, hL.fresh _ (Nat.le_refl _), rfl, fun k hk => absurd rfl hk, fun _ _ => rfl, (hE.moved hM).below hB, fun g hg => ⟨rfl, by have := herr g hg; omega⟩⟩, ⟨hsb, by omega, m, (hBw.cell (p := ⟨8, 0, none⟩) hw8).trans h8⟩, hL.fresh _ (by omega), rfl, by omega, hBw, fun k hk => ⟨hM.lab k hk, rfl⟩, hle, by omega, herr, hw8⟩

set_option maxHeartbeats 8000000 in
set_option maxRecDepth 100000 in
theorem grow_any {w : World} (s : ByteArray) (hs : s.size ≤ 20000) (m8 : Int) (h8 : w.cell? ⟨8, 0, none⟩ = some (.int .i64 m8)) (hE : Errs w (fun _ => .other)) (bv : Value) (hbv : w.cell? ⟨0, 0, none⟩ = some bv) :
    Calls Tryz.prog 31 #[.string s] w (GrowPost w bv (readS s)) := by
  have hst := St.start s
  obtain ⟨R, hR⟩ : ∃ R, R = readS s := ⟨_, rfl⟩
  rw [← hR] at hst ⊢
  have HST := hid hst
  have HE := hid hE
  have HB := hid hbv
  have H8 := hid h8
  clear hR hE hbv h8 hst
  go_enter Tryz.func31, Tryz.ntmps31
  go_wp2_with fail
  refine (new_any w).mono ?_
  rintro e w1 ⟨tb, nv, uv, M1, rfl, hL1, hM1⟩
  have HL := hid (ls_start s hL1 hM1 HE.out m8 H8.out)
  have hwle : w.heap.size ≤ w1.heap.size := hM1.size
  have HFR := hid hL1.fresh
  clear hL1 hM1
  go_upto_region 3 with fail
  obtain ⟨gb, hgb⟩ : ∃ gb, gb = w1.heap.size := ⟨_, rfl⟩
  obtain ⟨sb, hsb⟩ : ∃ sb, sb = gb + 1 := ⟨_, rfl⟩
  have hw2 : ((w1.alloc (.cells #[.pointer (some ⟨tb, 0, none⟩), .slice none 0 0, .int .i64 0] 117)).alloc (.cells #[.string s, .int .i64 0, .string ⟨#[]⟩] 119)).heap.size = w1.heap.size + 1 + 1 := by simp
  generalize ((w1.alloc (.cells #[.pointer (some ⟨tb, 0, none⟩), .slice none 0 0, .int .i64 0] 117)).alloc (.cells #[.string s, .int .i64 0, .string ⟨#[]⟩] 119)) = w2 at *
  rw [← hgb, ← hsb] at HL ⊢
  have hq1 : gb < w2.heap.size := by omega
  have hq2 : sb < w2.heap.size := by omega
  have hq3 : w.heap.size ≤ gb := by omega
  have hq4 : w1.heap.size ≤ w2.heap.size := by omega
  clear hgb hsb hw2
  go_cut [5, 6] (fun s5 s6 wx => ∃ pb b g, s5 = .pointer (some ⟨pb, 0, none⟩) ∧ s6 = .bool b ∧ Hid (HeadAt w gb tb sb s R pb b g wx))
  case first =>
    by_cases hi : 0 < s.size
    · go_wp2_with fail
      refine (next_any HL.out.sc (by omega) (Nat.zero_le _) (Nat.zero_le _)).mono ?_
      intro e w3 hpost
      unfold NextPost at hpost
      rw [if_pos hi] at hpost
      obtain ⟨v, rfl, hPV, hO3, hS3⟩ := hpost
      obtain ⟨k, n, t, a, l, c, rfl, hF⟩ := hPV.form
      have hsz3 : w2.heap.size ≤ w3.heap.size := hO3.size
      have HH : Hid (HeadAt w gb tb sb s R w3.heap.size true (1 + left s 0 ⟨#[]⟩) (w3.alloc (pObj k 0 n t a l c))) := head_more HL.out HST.out hi hO3 hS3 hPV (Only.alloc _) (heap_alloc_new w3 _) (HFR.out _ (by omega)) rfl (by omega) (by omega) (by omega) (fun g _ h => by omega)
      clear hPV hO3 hS3 hF
      unfold pcv
      go_wp2_with fail
      go_meet
      exact ⟨_, _, _, rfl, rfl, HH⟩
    · have hz : s.size = 0 := by omega
      have HL2 : Hid (SC w2 sb s s.size ⟨#[]⟩) := by show SC _ _ _ _ _; rw [hz]; exact HL.out.sc
      go_wp2_with fail
      refine (next_end HL2.out).mono ?_
      rintro e w3 ⟨rfl, hO3, hS3⟩
      rw [hz] at hS3
      have hsz3 : w2.heap.size ≤ w3.heap.size := hO3.size
      have HH : Hid (HeadAt w gb tb sb s R w3.heap.size false 0 (w3.alloc (pObj 0 0 ⟨#[]⟩ ⟨#[]⟩ none 0 0))) := head_end HL.out HST.out (by omega) hO3 hS3 (Only.alloc _) (HFR.out _ (by omega)) rfl (by omega) (by omega) (by omega)
      clear hO3 hS3
      unfold pcv
      go_wp2_with fail
      go_meet
      exact ⟨_, _, _, rfl, rfl, HH⟩
  case rest =>
  obtain ⟨w4, hw4⟩ : ∃ w9, w9 = wc := ⟨_, rfl⟩
  subst hw4
  obtain ⟨pb, b, g0, hs5, hs6, HH⟩ := hcut
  subst hs5
  subst hs6
  clear HL HST HFR
  go_wp2_with fail
  go_loopg [5, 6] g0 (fun g v5 v6 wr => ∃ pb b, v5 = .pointer (some ⟨pb, 0, none⟩) ∧ v6 = .bool b ∧ Hid (HeadAt w gb tb sb s R pb b g wr))
  case atStart => exact ⟨pb, b, rfl, rfl, HH⟩
  case round =>
    obtain ⟨pb, b, rfl, rfl, HR⟩ := hrel
    rcases HR.out with ⟨hb, hg, ns, op, i, raw, u, M, Mo, hRes, hLS⟩ | ⟨hb, i, raw, ns, op, u, f, M, Mo, B, k, n, t, a, l, c, hi, hg, hST, hNX, hPB⟩
    · subst hb
      obtain ⟨ga, gc, hgh, _⟩ := hLS.gs.head
      obtain ⟨e0, e1, e2, ef⟩ := three_cells hgh
      obtain ⟨nv', uv', ps, us, hL, hn, _⟩ := hLS.gs.tree
      have HL := hid hL
      have HLS := hid hLS
      have HN := hid hn
      have hgl := lt_of_heap hgh
      have HRS := hid hRes
      clear hgh hL hLS hg hn hRes
      go_wp2_with fail
      refine (settle_any HL.out).mono ?_
      rintro e w5 ⟨rfl, hL5, hm5⟩
      have hg5 : w5.cell? ⟨gb, 0, none⟩ = some (.pointer (some ⟨tb, 0, none⟩)) := (World.cell?_of_block (a := ⟨gb, 0, none⟩) (hm5.far gb hgl HLS.out.gs.gm)).trans e0
      have H5 := hid (And.intro hL5 hm5)
      clear hL5 hm5
      go_wp2_with fail
      go_ret
      rw [HRS.out]
      have hb := HLS.out.bel
      exact ⟨tb, M, _, _, ps, rfl, H5.out.1, HN.out, ⟨H5.out.2.os.trans hb.os, H5.out.2.tape.trans hb.tape, H5.out.2.output.trans hb.output, Nat.le_trans hb.size H5.out.2.size, fun k hk => (H5.out.2.lab k (Nat.lt_of_lt_of_le hk hb.size)).trans (HLS.out.low k hk).1, fun k hk _ => (H5.out.2.far k (Nat.lt_of_lt_of_le hk hb.size) (HLS.out.low k hk).1).trans (hb.block k hk)⟩⟩
    · subst hb
      obtain ⟨d0, d1, d2, d3, d4, df⟩ := five_cells hPB
      have hbw := HB.out
      have hel : 0 < w.heap.size := World.block_lt_of_cell? w _ hbw
      have htake := ptake_any hNX.ls.gs hST.inv (by have := hST.few; have := hST.le; omega) hNX.pv (next_ok hs hi) ⟨hNX.gB, hNX.free⟩ bv ((hNX.ls.bel.cell (p := ⟨0, 0, none⟩) hel).trans hbw)
      unfold pcv at htake
      have HT := hid htake
      have HX := hid hNX
      have HP := hid hPB
      have HS := hid hST
      have HG := hid hg
      clear htake hNX hPB hST hbw hg
      go_wp2_with fail
      refine HT.out.mono ?_
      intro e w5 hout
      clear d0 d1 d2 d3 d4 df HT
      cases hpm : pieceM ns op (pcNext s i raw) with
      | none =>
        rw [hpm] at hout
        obtain ⟨⟨fb, rfl, hfb⟩, M5, Mo5, hV5⟩ := hout
        have hRb := HS.out.bad hi hpm
        rw [hRb]
        exact ⟨rfl, ⟨fb, rfl, hfb⟩, (HX.out.ls.lowAfter hV5).1⟩
      | some x =>
        obtain ⟨ns', op'⟩ := x
        rw [hpm] at hout
        obtain ⟨rfl, M5, Mo5, hG5, hV5⟩ := hout
        obtain ⟨⟨f', hST5⟩, hleft⟩ := HS.out.next hi hpm
        have hL5 := HX.out.ls.grown hG5 hV5
        obtain ⟨hpk, hpm5, hpo5⟩ := hV5.keep pb (lt_of_heap HP.out) HX.out.pM HX.out.pMo HX.out.pg
        have hpb5 := hpk.trans HP.out
        unfold pObj at hpb5
        obtain ⟨d0, d1, d2, d3, d4, df⟩ := five_cells hpb5
        have hB6 : Below w5.heap.size w5 (w5.alloc (pObj k i n t a l c)) := (Below.refl _ _).alloc (Nat.le_refl _) _
        have hL6 := hL5.below hB6
        have hfr5 : M5 w5.heap.size = .other ∧ Mo5 w5.heap.size = .other := by
          obtain ⟨_, _, _, _, q1, _, _⟩ := hL5.gs.tree
          exact ⟨q1.fresh _ (Nat.le_refl _), hL5.gs.fresh _ (Nat.le_refl _)⟩
        obtain ⟨ga5, gc5, hgh5, _⟩ := hL5.gs.head
        have hng : w5.heap.size ≠ gb := by have := lt_of_heap hgh5; omega
        have hns : w5.heap.size ≠ sb := by have := hL5.sc.sc.lt; omega
        have hnl : w.heap.size ≤ w5.heap.size := hL5.bel.size
        have hnew := heap_alloc_new w5 (pObj k i n t a l c)
        have hsz6 : (w5.alloc (pObj k i n t a l c)).heap.size = w5.heap.size + 1 := by simp
        have HL6 := hid hL6
        have HS5 := hid hST5
        have HLT := hid hleft
        have HFR := hid hfr5
        have HNEW := hid hnew
        clear hG5 hV5 hL5 hL6 hST5 hleft hpk hpm5 hpo5 hpb5 hB6 hfr5 hgh5 hnew HX HP HS
        generalize (pcNext s i raw).to = i2 at *
        generalize (pcNext s i raw).raw = raw2 at *
        go_wp2_with fail
        obtain ⟨pb6, hpb6⟩ : ∃ pb6, pb6 = w5.heap.size := ⟨_, rfl⟩
        rw [← hpb6] at HFR HNEW hng hns hnl hsz6 ⊢
        change Calls _ _ _ (w5.alloc (pObj k i n t a l c)) _
        generalize w5.alloc (pObj k i n t a l c) = w6 at *
        clear hpb6 d0 d1 d2 d3 d4 df
        by_cases hi2 : i2 < s.size
        · refine (next_any HL6.out.sc (by omega) (Nat.le_of_lt hi2) HS5.out.raw).mono ?_
          intro e w7 hpost
          unfold NextPost at hpost
          rw [if_pos hi2] at hpost
          obtain ⟨v, rfl, hPV, hO7, hS7⟩ := hpost
          obtain ⟨k2, n2, t2, a2, l2, c2, rfl, hF⟩ := hPV.form
          have hp7 := (hO7.block pb6 (by omega) hns).trans HNEW.out
          unfold pObj at hp7
          obtain ⟨r0, r1, r2, r3, r4, rf⟩ := five_cells hp7
          have hO8 : Only pb6 w7 (((((w7.setCell ⟨pb6, 0, none⟩ (.int .i64 k2)).setCell ⟨pb6, 1, none⟩ (.int .i64 i2)).setCell ⟨pb6, 2, none⟩ (.string n2)).setCell ⟨pb6, 3, none⟩ (.string t2)).setCell ⟨pb6, 4, none⟩ (.slice a2 l2 c2)) := (((((Only.refl _ _).set _ _).set _ _).set _ _).set _ _).set _ _
          have hp8 : (((((w7.setCell ⟨pb6, 0, none⟩ (.int .i64 k2)).setCell ⟨pb6, 1, none⟩ (.int .i64 i2)).setCell ⟨pb6, 2, none⟩ (.string n2)).setCell ⟨pb6, 3, none⟩ (.string t2)).setCell ⟨pb6, 4, none⟩ (.slice a2 l2 c2)).heap[pb6]? = some (pObj k2 i2 n2 t2 a2 l2 c2) := by
            unfold pObj
            simp [World.setCell, Array.getElem?_modify, hp7]
          have HH8 := hid (head_more HL6.out HS5.out hi2 hO7 hS7 hPV hO8 hp8 HFR.out.1 HFR.out.2 hng hns hnl (fun g h1 _ => by omega))
          clear hPV hO7 hS7 hF hp7 hO8 hp8
          unfold pcv
          go_wp2_with fail
          go_roundg (1 + left s i2 raw2)
          case measure => have := HLT.out; have := HG.out; omega
          case rel => exact ⟨pb6, true, rfl, rfl, HH8⟩
        · have hz : i2 = s.size := by have := HS5.out.le; omega
          subst hz
          refine (next_end HL6.out.sc).mono ?_
          rintro e w7 ⟨rfl, hO7, hS7⟩
          have hp7 := (hO7.block pb6 (by omega) hns).trans HNEW.out
          unfold pObj at hp7
          obtain ⟨r0, r1, r2, r3, r4, rf⟩ := five_cells hp7
          have hO8 : Only pb6 w7 (((((w7.setCell ⟨pb6, 0, none⟩ (.int .i64 0)).setCell ⟨pb6, 1, none⟩ (.int .i64 0)).setCell ⟨pb6, 2, none⟩ (.string ⟨#[]⟩)).setCell ⟨pb6, 3, none⟩ (.string ⟨#[]⟩)).setCell ⟨pb6, 4, none⟩ (.slice none 0 0)) := (((((Only.refl _ _).set _ _).set _ _).set _ _).set _ _).set _ _
          have HH8 := hid (head_end HL6.out HS5.out (Nat.le_refl _) hO7 hS7 hO8 HFR.out.1 HFR.out.2 hng hns hnl)
          clear hO7 hS7 hp7 hO8
          unfold pcv
          go_wp2_with fail
          go_roundg 0
          case measure => have := HG.out; omega
          case rel => exact ⟨pb6, false, rfl, rfl, HH8⟩
end Go.Proofs.YtkaeenafejdkfaaGreatDoor

/- The program: a text is read: the tree of it, or the fault that was thrown. -/
namespace Go.Proofs.YtkaeenafejdkfaaGreatDoor
open Go.RowKit

/-- the deferred function of a frame that returns -/
theorem guard_idle (p : Addr) (w : World) :
    CallsD Tryz.prog 70 #[.pointer (some p)] .returning w fun e u' w' => e = .returned (.tuple #[]) ∧ u' = .returning ∧ w' = w := by
  refine callsD_of_wpS Tryz.func70 rfl fun c₀ cs hu => ?_
  apply wpS_seq
  apply wpS_region
  simp [wpOpsS, go_sem, recoverD, hu, Tryz.ntmps70, Exit.thenS]
  apply wpS_seq
  apply wpS_seq
  apply wpS_region
  simp [wpOpsS, go_sem, Exit.thenS]
  refine wpS_cond (t := true) (by simp [Act.eval, Array.replicate]) ?_
  simp only [if_true]
  refine wpS_of_wp (wp_ret ?_)
  cases c₀
  simp_all [bodyPostS, results, Tryz.results70, Exit.thenS]

theorem too_much (v : Value) (w : World) : (Instr.typeAssert (.iface 114 v) 20 114 true).run Tryz.prog w = .ok (.tuple #[v, .bool true]) w := by
  simp [Instr.typeAssert, run_underlying Tryz.underlying114, go_sem, Result.andThen]

set_option maxHeartbeats 2000000 in
set_option maxRecDepth 100000 in
/-- the deferred function of a frame that was thrown out of -/
theorem guard_catch (eb : Nat) (w : World) (x0 : Value) (f : Value) (older : List PanicEntry) (hc : w.cell? ⟨eb, 0, none⟩ = some x0) (hz : w.frozen? ⟨eb, 0, none⟩ = false) :
    CallsD Tryz.prog 70 #[.pointer (some ⟨eb, 0, none⟩)] (.panicking ({ v := .iface 114 (.agg #[.iface 69 f]), recovered := false } :: older)) w fun e u' w' =>
      e = .returned (.tuple #[]) ∧ u' = .panicking ({ v := .iface 114 (.agg #[.iface 69 f]), recovered := true } :: older) ∧ w' = (w.setCell ⟨eb, 0, none⟩ (.iface 69 f)).alloc (.cells #[.iface 69 f] 114) := by
  have htm := too_much
  have hlt : eb < w.heap.size := World.block_lt_of_cell? w _ hc
  refine callsD_of_wpS Tryz.func70 rfl fun c₀ cs hu => ?_
  apply wpS_seq
  apply wpS_region
  simp [wpOpsS, go_sem, recoverD, hu, Tryz.ntmps70, Exit.thenS]
  apply wpS_seq
  apply wpS_seq
  apply wpS_region
  simp [wpOpsS, go_sem, Exit.thenS]
  refine wpS_cond (t := false) (by simp [Act.eval, Array.replicate]) ?_
  simp only [Bool.false_eq_true, if_false]
  refine wpS_of_wp (wp_skip ?_)
  simp only [Exit.thenS]
  refine wpS_of_wp ?_
  have ht : (#[Value.pointer (some { block := eb, off := 0 })] ++ ((((Array.replicate 16 undef).setIfInBounds 3 (Value.iface 114 (Value.agg #[Value.iface 69 f]))).setIfInBounds 0 (Value.iface 114 (Value.agg #[Value.iface 69 f]))).setIfInBounds 4 (Value.iface 114 (Value.agg #[Value.iface 69 f]))).setIfInBounds 5 (Value.bool false)) =
      #[Value.pointer (some { block := eb, off := 0 }), Value.iface 114 (Value.agg #[Value.iface 69 f]), undef, undef, Value.iface 114 (Value.agg #[Value.iface 69 f]), Value.iface 114 (Value.agg #[Value.iface 69 f]), Value.bool false, undef, undef, undef, undef, undef, undef, undef, undef, undef, undef] := rfl
  rw [ht]
  clear ht
  go_wp2_with fail
  cases c₀
  simp_all [bodyPostS, results, Tryz.results70]

/-- what Read gives -/
def ReadPost (w0 : World) (bv : Value) (R : Res) (e : Ending) (w' : World) : Prop := match R with
  | .ok ns => ∃ tb M nv uv ps, e = .returned (.tuple #[.pointer (some ⟨tb, 0, none⟩), .nilIface]) ∧ Lies w' M tb nv uv ps [] ∧ nodesOf ps = ns ∧ Moved w0 (fun _ => .other) w' M
  | .bad i => ∃ fb, e = .returned (.tuple #[.pointer none, .iface 69 (.pointer (some ⟨fb, 0, none⟩))]) ∧ w'.heap[fb]? = some (.cells #[.int .i64 i, bv] 71 (0, 0)) ∧ Below w0.heap.size w0 w'

theorem read1_any {w : World} {b : Nat} (s : ByteArray) (h0 : w.cell? ⟨b, 0, none⟩ = some (.string s)) (hs : s.size ≤ 20000) (m8 : Int) (h8 : w.cell? ⟨8, 0, none⟩ = some (.int .i64 m8)) (hE : Errs w (fun _ => .other)) (bv : Value) (hbv : w.cell? ⟨0, 0, none⟩ = some bv) :
    Calls Tryz.prog 30 #[.pointer (some ⟨b, 0, none⟩)] w (GrowPost w bv (readS s)) := by
  have hg := grow_any s hs m8 h8 hE bv hbv
  have HG := hid hg
  clear hg hE hbv h8
  obtain ⟨R, hR⟩ : ∃ R, R = readS s := ⟨_, rfl⟩
  rw [← hR] at HG ⊢
  clear hR
  go_enter Tryz.func30, Tryz.ntmps30
  go_wp2_with fail
  refine HG.out.mono ?_
  intro e w1 hp
  cases R with
  | ok ns =>
    obtain ⟨tb, M, nv, uv, ps, rfl, h⟩ := hp
    have H := hid h
    clear h
    go_wp2_with fail
    go_ret
    exact ⟨tb, M, nv, uv, ps, rfl, H.out⟩
  | bad i =>
    obtain ⟨⟨fb, rfl, h⟩, h2⟩ := hp
    have H := hid (And.intro h h2)
    clear h h2
    go_wp2_with fail
    exact ⟨rfl, ⟨fb, rfl, H.out.1⟩, H.out.2⟩

set_option maxHeartbeats 4000000 in
theorem guard_any {w : World} {b : Nat} (s : ByteArray) (h0 : w.cell? ⟨b, 0, none⟩ = some (.string s)) (hs : s.size ≤ 20000) (m8 : Int) (h8 : w.cell? ⟨8, 0, none⟩ = some (.int .i64 m8)) (hE : Errs w (fun _ => .other)) (bv : Value) (hbv : w.cell? ⟨0, 0, none⟩ = some bv) :
    Calls Tryz.prog 29 #[.func (.func 30) #[] #[.pointer (some ⟨b, 0, none⟩)]] w (ReadPost w bv (readS s)) := by
  have hmf : ∀ (fn : Fn) (first cap : Array Value) (w : World), (Instr.makeFunc fn first cap).run Tryz.prog w = .ok (.func fn first cap) w := fun _ _ _ _ => rfl
  have hlt : b < w.heap.size := World.block_lt_of_cell? w _ h0
  have hlt8 : 8 < w.heap.size := World.block_lt_of_cell? w _ h8
  have hltb : 0 < w.heap.size := World.block_lt_of_cell? w _ hbv
  have hBA : Below w.heap.size w (w.alloc (.cells #[.nilIface] 33)) := (Below.refl _ _).alloc (Nat.le_refl _) _
  have hg := read1_any (w := w.alloc (.cells #[.nilIface] 33)) s ((World.cell?_alloc_lt _ _ ⟨b, 0, none⟩ hlt).trans h0) hs m8 ((World.cell?_alloc_lt _ _ ⟨8, 0, none⟩ hlt8).trans h8) (hE.below hBA) bv ((World.cell?_alloc_lt _ _ ⟨0, 0, none⟩ hltb).trans hbv)
  have HG := hid hg
  clear hg hE hbv h8 hBA h0
  obtain ⟨R, hR⟩ : ∃ R, R = readS s := ⟨_, rfl⟩
  rw [← hR] at HG ⊢
  clear hR
  go_enter_defers Tryz.func29, Tryz.ntmps29
  go_wp2_with fail
  refine HG.out.mono ?_
  intro e w1 hp
  cases R with
  | ok ns =>
    obtain ⟨tb, M, nv, uv, ps, rfl, hL, hn, hM⟩ := hp
    have hb0 := hM.far w.heap.size (by simp) rfl
    rw [heap_alloc_new w] at hb0
    have d0 : w1.cell? ⟨w.heap.size, 0, none⟩ = some .nilIface := by rw [cell_of_row w1 w.heap.size 0 _ _ _ hb0]; rfl
    have f0 : w1.frozen? ⟨w.heap.size, 0, none⟩ = false := by simp [World.frozen?, hb0]
    have hlab : M w.heap.size = .other := hM.lab _ (by simp)
    have H1 := hid (And.intro hL (And.intro hn hM))
    have hl1 : w.heap.size < w1.heap.size := World.block_lt_of_cell? w1 _ d0
    clear hL hn hM hb0
    go_wp2_with fail
    refine leaves_cons (f := 70) (args := #[.pointer (some ⟨w.heap.size, 0, none⟩)]) (by simp) (by simp [go_sem]) ?_
    refine (guard_idle ⟨w.heap.size, 0, none⟩ _).mono ?_
    rintro e u' w'' ⟨rfl, rfl, rfl⟩
    obtain ⟨hL, hn, hM⟩ := H1.out
    have hsz : (w1.setCell ⟨w.heap.size, 0, none⟩ .nilIface).heap.size = w1.heap.size := by simp [World.setCell]
    have hM0 : w.heap.size ≤ w1.heap.size := by omega
    refine ⟨.tuple #[.pointer (some ⟨tb, 0, none⟩), .nilIface], ?_, tb, M, nv, uv, ps, rfl, hL.far (by omega) (fun k hk ho => Below.heap_setCell _ _ _ _ (fun e => ho (e ▸ hlab))), hn, ⟨hM.os, hM.tape, hM.output, by omega, fun k hk => hM.lab k (by simp; omega), fun k hk ho => ?_⟩⟩
    · simp [results, Tryz.results29, go_sem, d0]
    · rw [Below.heap_setCell _ _ _ _ (show k ≠ w.heap.size by omega)]
      exact (hM.far k (by simp; omega) rfl).trans (Below.heap_alloc _ _ _ hk)
  | bad i =>
    obtain ⟨⟨fb, rfl, hf⟩, hB⟩ := hp
    have hb0 := hB.block w.heap.size (by simp)
    rw [heap_alloc_new w] at hb0
    have d0 : w1.cell? ⟨w.heap.size, 0, none⟩ = some .nilIface := by rw [cell_of_row w1 w.heap.size 0 _ _ _ hb0]; rfl
    have f0 : w1.frozen? ⟨w.heap.size, 0, none⟩ = false := by simp [World.frozen?, hb0]
    have hne : fb ≠ w.heap.size := by
      intro e
      rw [e, hb0] at hf
      simp at hf
    have hl1 : w.heap.size < w1.heap.size := World.block_lt_of_cell? w1 _ d0
    have hfl := lt_of_heap hf
    have H1 := hid (And.intro hf hB)
    clear hf hB hb0
    go_wp2_with fail
    refine leaves_cons (f := 70) (args := #[.pointer (some ⟨w.heap.size, 0, none⟩)]) (by simp) (by simp [go_sem]) ?_
    refine (guard_catch w.heap.size w1 _ _ [] d0 f0).mono ?_
    rintro e u' w'' ⟨rfl, rfl, rfl⟩
    obtain ⟨hf, hB⟩ := H1.out
    have hsz : (w1.setCell ⟨w.heap.size, 0, none⟩ (.iface 69 (.pointer (some ⟨fb, 0, none⟩)))).heap.size = w1.heap.size := by simp [World.setCell]
    refine ⟨.tuple #[.pointer none, .iface 69 (.pointer (some ⟨fb, 0, none⟩))], ?_, fb, rfl, ?_, ?_⟩
    · simp [results, Tryz.results29, go_sem, d0, hl1, hsz]
    · rw [Below.heap_alloc _ _ _ (by omega), Below.heap_setCell _ _ _ _ hne]
      exact hf
    · exact (((((Below.refl _ _).alloc (Nat.le_refl _) _).trans (hB.mono (by simp))).setCell (Nat.le_refl _) _).alloc (by omega) _)

/-- what is thrown where a text is too long, or what reading gives -/
def readR (s : ByteArray) : Res := if 20000 < s.size then .bad 20000 else readS s

set_option maxHeartbeats 4000000 in
theorem read_any {w : World} (s : ByteArray) (hs : s.size < 9223372036854775808) (m8 : Int) (h8 : w.cell? ⟨8, 0, none⟩ = some (.int .i64 m8)) (hE : Errs w (fun _ => .other)) (bv : Value) (hbv : w.cell? ⟨0, 0, none⟩ = some bv) :
    Calls Tryz.prog 8 #[.string s] w (ReadPost w bv (readR s)) := by
  have hlt8 : 8 < w.heap.size := World.block_lt_of_cell? w _ h8
  have hltb : 0 < w.heap.size := World.block_lt_of_cell? w _ hbv
  have hBA : Below w.heap.size w (w.alloc (.cells #[.string s] 9)) := (Below.refl _ _).alloc (Nat.le_refl _) _
  by_cases hl : 20000 < s.size
  · have hR : readR s = .bad 20000 := by unfold readR; rw [if_pos hl]
    rw [hR]
    obtain ⟨t2, x2, hc2⟩ := hE.cell 0 (by decide)
    have hb2 := Option.some.inj (hbv.symm.trans hc2)
    subst hb2
    clear hc2
    have hbv2 : (w.alloc (.cells #[.string s] 9)).cell? ⟨0, 0, none⟩ = some (.iface t2 (.pointer (some x2))) := (World.cell?_alloc_lt _ _ ⟨0, 0, none⟩ hltb).trans hbv
    clear hE h8 hR
    go_enter Tryz.func8, Tryz.ntmps8
    go_wp2_with fail
    have hz0 : (w.alloc (.cells #[.string s] 9)).heap.size = w.heap.size + 1 := by simp
    have H1 := hid (And.intro hBA hz0)
    generalize (w.alloc (.cells #[.string s] 9)) = w1 at *
    have hq1 : 0 < w1.heap.size := World.block_lt_of_cell? w1 _ hbv2
    clear hbv hltb hBA hz0 hlt8
    go_region
    all_goals go_wp2_with fail
    all_goals go_ret2
    all_goals (first
      | (refine ⟨w1.heap.size, rfl, heap_alloc_new w1 (.cells #[.int .i64 20000, .iface t2 (.pointer (some x2))] 71), H1.out.1.trans (((Below.refl w1.heap.size w1).alloc (Nat.le_refl _) _).drew.mono (by have := H1.out.2; omega))⟩)
      | (trace_state; fail))
  · have hR : readR s = readS s := by unfold readR; rw [if_neg hl]
    have hg := guard_any (w := w.alloc (.cells #[.string s] 9)) (b := w.heap.size) s (by rw [cell_of_row _ w.heap.size 0 _ _ _ (heap_alloc_new w _)]; rfl) (by omega) m8 ((World.cell?_alloc_lt _ _ ⟨8, 0, none⟩ hlt8).trans h8) (hE.below hBA) bv ((World.cell?_alloc_lt _ _ ⟨0, 0, none⟩ hltb).trans hbv)
    have HG := hid hg
    have HBA := hid hBA
    clear hg hE hbv h8 hBA
    rw [hR]
    obtain ⟨R, hR⟩ : ∃ R, R = readS s := ⟨_, rfl⟩
    rw [← hR] at HG ⊢
    clear hR
    have hmf : ∀ (fn : Fn) (first cap : Array Value) (w : World), (Instr.makeFunc fn first cap).run Tryz.prog w = .ok (.func fn first cap) w := fun _ _ _ _ => rfl
    go_enter Tryz.func8, Tryz.ntmps8
    go_wp2_with fail
    refine HG.out.mono ?_
    intro e w1 hp
    cases R with
    | ok ns =>
      obtain ⟨tb, M, nv, uv, ps, rfl, h1, h2, h3⟩ := hp
      have H := hid (And.intro h1 (And.intro h2 h3))
      clear h1 h2 h3
      go_wp2_with fail
      go_ret2
      obtain ⟨h1, h2, h3⟩ := H.out
      exact ⟨tb, M, nv, uv, ps, rfl, h1, h2, ((Moved.refl w _).below HBA.out).trans h3⟩
    | bad i =>
      obtain ⟨fb, rfl, h1, h2⟩ := hp
      have H := hid (And.intro h1 h2)
      clear h1 h2
      go_wp2_with fail
      go_ret2
      exact ⟨fb, rfl, H.out.1, HBA.out.trans (H.out.2.mono (by simp))⟩
end Go.Proofs.YtkaeenafejdkfaaGreatDoor
