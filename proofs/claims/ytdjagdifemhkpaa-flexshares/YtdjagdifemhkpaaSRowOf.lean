/- rowOf: a row out of items. -/
import Derived.Test.YtdjagdifemhkpaaSFree
import Derived.Test.YtdjagdifemhkpaaSStep
namespace Go.Proofs.Ytdjagdifemhkpaa
open Go.RowKit
set_option linter.unusedVariables false      -- bounds that are for the walk

def awayN (grow : Bool) (i : It) : Bool := (grow && decide (bndI i i.b < i.b)) || (!grow && decide (i.b < bndI i i.b))
def mkP (grow : Bool) (i : It) : Pr := ⟨i, bndI i i.b, 0, awayN grow i || decide (facG grow i = 0)⟩
def wantsN (its : List It) (k : Nat) : Int := ((its.take k).map wantN).sum
def arsN (its : List It) (k : Nat) : Int := ((its.take k).map It.ar).sum
def gapsN (n : Nat) (gap : Int) : Int := max ((n : Int) - 1) 0 * gap
def growN (its : List It) (room gap : Int) : Bool := decide (gapsN its.length gap + wantsN its its.length < room)
def roomN (its : List It) (room gap : Int) : Int := room - gapsN its.length gap - arsN its its.length
def partsN (its : List It) (room gap : Int) : List Pr := its.map (mkP (growN its room gap))
def startN (its : List It) (room gap : Int) : Int := freeN (roomN its room gap) (partsN its room gap) its.length

theorem sum2_bd {α : Type} (f : α → Int) (B : Int) : ∀ l : List α, (∀ p ∈ l, -B ≤ f p ∧ f p ≤ B) → -(l.length * B) ≤ (l.map f).sum ∧ (l.map f).sum ≤ l.length * B
  | [], _ => by simp
  | x :: r, h => by
    have h1 := h x (List.mem_cons_self ..)
    have h2 := sum2_bd f B r (fun y hy => h y (List.mem_cons_of_mem _ hy))
    rw [List.map_cons, List.sum_cons, List.length_cons, Int.natCast_add, Int.add_mul]
    simp only [Int.natCast_one, Int.one_mul]
    omega
structure ItsOk (its : List It) : Prop where
  len : its.length ≤ 200
  ok : ∀ i ∈ its, i.Ok
theorem ItsOk.ars {its : List It} (h : ItsOk its) (k : Nat) : -3355443200 ≤ arsN its k ∧ arsN its k ≤ 3355443200 := by
  have := sum2_bd It.ar 16777216 (its.take k) (fun i hi => ⟨(h.ok i (List.mem_of_mem_take hi)).ar0, (h.ok i (List.mem_of_mem_take hi)).ar1⟩)
  have hl : (its.take k).length ≤ 200 := by rw [List.length_take]; have := h.len; omega
  unfold arsN; omega
theorem ItsOk.wants {its : List It} (h : ItsOk its) (k : Nat) : -6710886400 ≤ wantsN its k ∧ wantsN its k ≤ 6710886400 := by
  have := sum2_bd wantN 33554432 (its.take k) (fun i hi => by
    have o := h.ok i (List.mem_of_mem_take hi)
    have := bndI_b o; have := o.ar0; have := o.ar1
    unfold wantN; omega)
  have hl : (its.take k).length ≤ 200 := by rw [List.length_take]; have := h.len; omega
  unfold wantsN; omega
theorem gapsN_bd (n : Nat) (gap : Int) (hn : n ≤ 200) (g1 : -16777216 ≤ gap) (g2 : gap ≤ 16777216) : -3355443200 ≤ gapsN n gap ∧ gapsN n gap ≤ 3355443200 := by
  unfold gapsN
  rw [show max ((n : Int) - 1) 0 = ((n - 1 : Nat) : Int) by omega]
  generalize hk : n - 1 = k
  have a1 : (k : Int) * gap ≤ 200 * 16777216 := Int.le_trans (Int.mul_le_mul_of_nonneg_left g2 (by omega)) (Int.mul_le_mul_of_nonneg_right (by omega) (by omega))
  have a2 : (k : Int) * (-gap) ≤ 200 * 16777216 := Int.le_trans (Int.mul_le_mul_of_nonneg_left (show -gap ≤ 16777216 by omega) (by omega)) (Int.mul_le_mul_of_nonneg_right (by omega) (by omega))
  rw [Int.mul_neg] at a2
  omega
theorem parts_ok {its : List It} (h : ItsOk its) (grow : Bool) (k : Nat) : RowOk ((its.take k).map (mkP grow)) := by
  refine ⟨by rw [List.length_map, List.length_take]; have := h.len; omega, fun p hp => ?_, fun p hp _ => ?_⟩
  · obtain ⟨i, hi, rfl⟩ := List.mem_map.1 hp
    exact h.ok i (List.mem_of_mem_take hi)
  · obtain ⟨i, hi, rfl⟩ := List.mem_map.1 hp
    exact bndI_b (h.ok i (List.mem_of_mem_take hi))

theorem Try.infoPart : (Try.prog.info? 75).map (fun i => (i.zero, i.size, i.bytes)) = some (some (.agg #[.int .i64 0, .int .i64 0, .int .i64 0, .int .i64 0, .int .i64 0, .int .i64 0, .int .i64 0, .int .i64 0, .bool false]), 9, 72) := by kernel_rfl

/-- one part more -/
theorem RwAt.app {wx w9 : World} {B rb : Nat} {pv pv' : Value} {ps : List Pr} {p : Pr} {grow : Bool} {room start : Int} (h : RwAt wx B rb pv ps grow room start) (hg : wx.grownBy w9 pv.ownBlock) (hw : w9.ownsRow B 75 9 pv' (ps.length + 1) (prsC ps ++ prC p)) (hat : pv'.ownBlock = pv.ownBlock ∨ pv'.ownBlock = some wx.heap.size) :
    w9.cell? ⟨rb, 0, none⟩ = some pv ∧ w9.frozen? ⟨rb, 0, none⟩ = false ∧ rb < w9.heap.size ∧ RwAt (w9.setCell ⟨rb, 0, none⟩ pv') B rb pv' (ps ++ [p]) grow room start := by
  have hrl := ltH h.head
  have hh := (hg.block rb hrl (fun e => h.ne e.symm)).trans h.head
  have hne : pv'.ownBlock ≠ some rb := by
    rcases hat with e | e
    · rw [e]; exact h.ne
    · rw [e]; intro e2; cases e2; omega
  refine ⟨by rw [cell_of_row _ _ _ _ _ _ hh]; rfl, by simp [World.frozen?, hh], ltH hh, ⟨heap_setCell_same w9 rb 0 _ _ pv' hh, h.lo, ?_, hne⟩⟩
  rw [List.length_append, prsC_snoc]
  exact ownsRow_setCell_other hw hne _
theorem RwAt.drewX {w : World} {B rb : Nat} {pv : Value} {ps : List Pr} {grow : Bool} {room start : Int} (h : RwAt w B rb pv ps grow room start) : RwAt w.drew B rb pv ps grow room start := ⟨h.head, h.lo, h.row, h.ne⟩
theorem news_nine (w : World) (cs : Array Value) (t : TypeId) (B : Nat) (hB : w.heap.size = B) : ∀ j u, cs.toList[j]? = some u → (w.alloc (.cells cs t)).cell? ((⟨B, 0, none⟩ : Addr).add j) = some u := by
  subst hB
  exact news_six w cs t

set_option maxHeartbeats 4000000 in
set_option maxRecDepth 100000 in
theorem rowOf_any {w : World} {v : Value} {its : List It} (h : ItemsL w v its) (ho : ItsOk its) (room gap : Int) (r1 : -16777216 ≤ room) (r2 : room ≤ 16777216) (g1 : -16777216 ≤ gap) (g2 : gap ≤ 16777216) :
    Calls Try.prog 25 #[v, .int .i64 room, .int .i64 gap] w fun e w' => ∃ rb pv, e = .returned (.pointer (some ⟨rb, 0, none⟩)) ∧ RwAt w' w.heap.size rb pv (partsN its room gap) (growN its room gap) (roomN its room gap) (startN its room gap) ∧ Below w.heap.size w w' := by
  obtain ⟨i0, hi, hz0, hz1, hz2⟩ := info_parts Try.infoPart
  obtain ⟨a, cap, rfl, hc1, hc2, hl⟩ := h
  have HL := hidF hl
  have HO := hidF ho
  have hln := ho.len
  obtain ⟨gb1, gb2⟩ := gapsN_bd its.length gap hln g1 g2
  have GA := hidF (fun W => gaps_any its.length gap (by omega) (by omega) g1 g2 W)
  rw [show max ((its.length : Int) - 1) 0 * gap = gapsN its.length gap from rfl] at GA
  obtain ⟨n, hn⟩ : ∃ n, its.length = n := ⟨_, rfl⟩
  have HN := hidF hn
  obtain ⟨gs, hgs⟩ : ∃ g, gapsN its.length gap = g := ⟨_, rfl⟩
  have HGS := hidF hgs
  rw [hgs] at gb1 gb2 GA
  rw [hn] at hc1 hln GA ⊢
  clear hl ho hn hgs
  go_enter Try.func25, Try.ntmps25
  go_wp2_with fail
  refine (GA.out _).mono ?_
  rintro e w' ⟨rfl, hw'⟩
  rw [hw']
  clear hw' w'
  have hL0 := hidF (Below.refl w.heap.size w)
  go_wp2_with fail
  go_loopw [7, 26] (fun wv i wr => ∃ (k : Nat) (z : Int), k ≤ n ∧ i = .int .i64 k ∧ wv = .int .i64 z ∧ Hid (z = gs + wantsN its k ∧ Below w.heap.size w wr ∧ wr.heap[w.heap.size]? = some (.cells #[.slice none 0 0, .bool false, .int .i64 (room - gs - arsN its k), .int .i64 0] 73 (0, 0)))) (fun _ i _ => n - (intV i).toNat)
  case atStart =>
    refine ⟨0, gs, Nat.zero_le _, rfl, rfl, by simp [wantsN], by go_grown, ?_⟩
    have := heap_alloc_new w (.cells #[.slice none 0 0, .bool false, .int .i64 (room - gs), .int .i64 0] 73)
    simpa [arsN] using this
  case round =>
    obtain ⟨k, z, hk, rfl, rfl, HZ⟩ := hrel
    obtain ⟨wb1, wb2⟩ := HO.out.wants k
    have zb1 : -12000000000 ≤ z := by have := HZ.out.1; omega
    have zb2 : z ≤ 12000000000 := by have := HZ.out.1; omega
    obtain ⟨ab1, ab2⟩ := HO.out.ars k
    obtain ⟨ra, hra⟩ : ∃ r, room - gs - arsN its k = r := ⟨_, rfl⟩
    have HRA := hidF hra
    have ra1 : -7000000000 ≤ ra := by omega
    have ra2 : ra ≤ 7000000000 := by omega
    have hh := HZ.out.2.2
    rw [hra] at hh
    have rl : w.heap.size < wr.heap.size := ltH hh
    have q2 : wr.cell? ⟨w.heap.size, 2, none⟩ = some (.int .i64 ra) := by rw [cell_of_row _ _ _ _ _ _ hh]; rfl
    have q2f : wr.frozen? ⟨w.heap.size, 2, none⟩ = false := by simp [World.frozen?, hh]
    have HH := hidF hh
    clear hra hh wb1 wb2 ab1 ab2
    by_cases hlt : k < n
    · obtain ⟨x, hx⟩ : ∃ x, its[k]? = some x := ⟨_, List.getElem?_eq_getElem (by rw [HN.out]; exact hlt)⟩
      obtain ⟨b, o, rfl, hit⟩ := HL.out k x hx
      obtain ⟨x1, x2, x3, x4, x5, x6, x7⟩ := hit.below HZ.out.2.1
      have hok := HO.out.ok x (List.mem_of_getElem? hx)
      have WA := hidF (fun W => want_any hok W)
      have o1 := hok.ar0
      have o2 := hok.ar1
      have wb : -33554432 ≤ wantN x ∧ wantN x ≤ 33554432 := by
        have := bndI_b hok
        unfold wantN; omega
      obtain ⟨wn, hwn⟩ : ∃ t, wantN x = t := ⟨_, rfl⟩
      have HS1 : Hid (wantsN its (k + 1) = wantsN its k + wn) := by
        show _ = _
        unfold wantsN; rw [List.take_add_one, hx, ← hwn]; simp
      have HS2 : Hid (arsN its (k + 1) = arsN its k + x.ar) := by
        show _ = _
        unfold arsN; rw [List.take_add_one, hx]; simp
      rw [hwn] at WA wb
      obtain ⟨wb1, wb2⟩ := wb
      have i1 : (0 : Int) ≤ (k : Int) := by omega
      have i2 : (k : Int) < (n : Int) := by omega
      have x1' : b < wr.heap.size + 1 := by omega
      have B1 := hidF (fun ob => HZ.out.2.1.alloc (o := ob) HZ.out.2.1.size)
      clear hit hx hok hwn
      obtain ⟨xb, xmn, xmx, xar, xgr, xsh⟩ := x
      unfold itV at WA
      simp only at x2 x3 x4 x5 x6 x7 WA o1 o2 HS2
      have W9 : IntKind.i64.wrap (ra - xar) = ra - xar := wrapJ (by omega) (by omega)
      go_wp2_with fail
      refine (WA.out _).mono ?_
      rintro e w2 ⟨rfl, hb2⟩
      have B2 := hidF ((B1.out _).trans (hb2.mono (by simp; omega)))
      have c1 : w2.cell? ⟨w.heap.size, 2, none⟩ = some (.int .i64 ra) := (hb2.cell (p := ⟨w.heap.size, 2, none⟩) (by simp; omega)).trans ((World.cell?_of_block (a := ⟨w.heap.size, 2, none⟩) (Below.heap_alloc wr _ _ rl)).trans q2)
      have c2 : w2.frozen? ⟨w.heap.size, 2, none⟩ = false := (hb2.frozen (p := ⟨w.heap.size, 2, none⟩) (by simp; omega)).trans ((World.frozen?_of_block (a := ⟨w.heap.size, 2, none⟩) (Below.heap_alloc wr _ _ rl)).trans q2f)
      have c3 : w2.cell? ⟨wr.heap.size, 3, none⟩ = some (.int .i64 xar) := (hb2.cell (p := ⟨wr.heap.size, 3, none⟩) (by simp)).trans (by go_simp)
      have H2 : Hid (w2.heap[w.heap.size]? = some (.cells #[.slice none 0 0, .bool false, .int .i64 ra, .int .i64 0] 73 (0, 0))) := (hb2.block _ (by simp; omega)).trans ((Below.heap_alloc wr _ _ rl).trans HH.out)
      have l2 : w.heap.size < w2.heap.size := ltH H2.out
      have l3 : wr.heap.size < w2.heap.size := by have := hb2.size; simp at this; omega
      clear hb2
      go_wp2_with fail
      go_still_tail 9, (by kernel_rfl)
      go_wp2_with fail
      go_roundw
      case rel =>
        go_light
        refine ⟨k + 1, _, by omega, by go_num, rfl, ?_, (B2.out.setCell (p := ⟨w.heap.size, 2, none⟩) (Nat.le_refl _) _).drew, ?_⟩
        · rw [HS1.out, HZ.out.1]; omega
        · have e := heap_setCell_same w2 w.heap.size 2 _ _ (.int .i64 (ra - xar)) H2.out
          rw [HS2.out, show room - gs - (arsN its k + xar) = ra - xar by rw [← HRA.out]; omega]
          exact e
      case measure => simp [intV]; omega
    · obtain rfl : k = n := by omega
      obtain ⟨gr, hgr⟩ : ∃ g, decide (z < room) = g := ⟨_, rfl⟩
      have HGR : Hid (growN its room gap = gr) := by
        show _ = _
        unfold growN
        rw [HGS.out, HN.out, ← HZ.out.1, hgr]
      have HRO : Hid (roomN its room gap = ra) := by
        show _ = _
        unfold roomN
        rw [HGS.out, HN.out, HRA.out]
      have q1 : wr.cell? ⟨w.heap.size, 1, none⟩ = some (.bool false) := by rw [cell_of_row _ _ _ _ _ _ HH.out]; rfl
      have q1f : wr.frozen? ⟨w.heap.size, 1, none⟩ = false := by simp [World.frozen?, HH.out]
      have R4 : Hid (RwAt (wr.setCell ⟨w.heap.size, 1, none⟩ (.bool gr)) w.heap.size w.heap.size (.slice none 0 0) [] gr ra 0) := by
        refine ⟨heap_setCell_same wr w.heap.size 1 _ _ (.bool gr) HH.out, Nat.le_refl _, World.ownsRow_nil _ _ _ _, by simp [Value.ownBlock]⟩
      have B4 := hidF (HZ.out.2.1.setCell (p := ⟨w.heap.size, 1, none⟩) (Nat.le_refl _) (.bool gr))
      clear HZ HRA hk hlt HH q2 q2f
      go_wp2_with fail
      go_loopw [52] (fun i wr => ∃ (q : Nat) (pv : Value), q ≤ k ∧ i = .int .i64 q ∧ Hid (Below w.heap.size w wr ∧ RwAt wr w.heap.size w.heap.size pv ((its.take q).map (mkP gr)) gr ra 0)) (fun i _ => k - (intV i).toNat)
      case atStart =>
        refine ⟨0, .slice none 0 0, Nat.zero_le _, rfl, ?_, ?_⟩
        · exact B4.out
        · exact R4.out
      case round =>
        obtain ⟨q, pv, hq, rfl, HZ⟩ := hrel
        clear R4 B4 q1 q1f
        obtain ⟨d0, d1, d2, d3, d4⟩ := HZ.out.2.cells
        by_cases hlt : q < k
        · obtain ⟨x, hx⟩ : ∃ x, its[q]? = some x := ⟨_, List.getElem?_eq_getElem (by rw [HN.out]; exact hlt)⟩
          obtain ⟨b, o, rfl, hit⟩ := HL.out q x hx
          obtain ⟨x1, x2, x3, x4, x5, x6, x7⟩ := hit.below HZ.out.1
          have hok := HO.out.ok x (List.mem_of_getElem? hx)
          have WI := hidF (fun W => within_any x x.b W)
          obtain ⟨sz, hsz⟩ : ∃ t, bndI x x.b = t := ⟨_, rfl⟩
          obtain ⟨aw, haw⟩ : ∃ t, awayN gr x = t := ⟨_, rfl⟩
          obtain ⟨fa, hfa⟩ : ∃ t, facG gr x = t := ⟨_, rfl⟩
          have HT : Hid ((its.take (q + 1)).map (mkP gr) = (its.take q).map (mkP gr) ++ [⟨x, sz, 0, aw || decide (fa = 0)⟩]) := by
            show _ = _
            rw [List.take_add_one, hx]
            simp [mkP, hsz, haw, hfa]
          have FA := hidF (fun (W : World) (hb : Below wr.heap.size wr W) => factorR_any (HZ.out.2.below hb) x)
          rw [hfa] at FA
          rw [hsz] at WI
          have HAW : Hid (((gr && decide (sz < x.b)) || (!gr && decide (x.b < sz))) = aw) := by
            show _ = _
            rw [← haw, ← hsz]; rfl
          have i1 : (0 : Int) ≤ (q : Int) := by omega
          have i2 : (q : Int) < (k : Int) := by omega
          have x1' : b < wr.heap.size + 1 := by omega
          have bz := HZ.out.1.size
          clear hit hx hok hsz haw hfa
          obtain ⟨xb, xmn, xmx, xar, xgr, xsh⟩ := x
          unfold itV at WI FA
          simp only at x2 x3 x4 x5 x6 x7 WI FA HAW
          go_wp2_with fail
          refine (WI.out _).mono ?_
          rintro e w2 ⟨rfl, hb2⟩
          have bb : Below wr.heap.size wr w2 := Below.trans ((Below.refl wr.heap.size wr).alloc (Nat.le_refl _) _) (hb2.mono (by simp))
          have R2 := hidF (HZ.out.2.below bb)
          have B2 := hidF (HZ.out.1.trans (bb.mono bz))
          obtain ⟨e0, e1, e2, e3, e4⟩ := R2.out.cells
          have c0 : w2.cell? ⟨wr.heap.size, 0, none⟩ = some (.int .i64 xb) := (hb2.cell (p := ⟨wr.heap.size, 0, none⟩) (by simp)).trans (by go_simp)
          have c1 : w2.cell? ⟨wr.heap.size, 1, none⟩ = some (.int .i64 xmn) := (hb2.cell (p := ⟨wr.heap.size, 1, none⟩) (by simp)).trans (by go_simp)
          have c2 : w2.cell? ⟨wr.heap.size, 2, none⟩ = some (.int .i64 xmx) := (hb2.cell (p := ⟨wr.heap.size, 2, none⟩) (by simp)).trans (by go_simp)
          have c3 : w2.cell? ⟨wr.heap.size, 3, none⟩ = some (.int .i64 xar) := (hb2.cell (p := ⟨wr.heap.size, 3, none⟩) (by simp)).trans (by go_simp)
          have c4 : w2.cell? ⟨wr.heap.size, 4, none⟩ = some (.int .i64 xgr) := (hb2.cell (p := ⟨wr.heap.size, 4, none⟩) (by simp)).trans (by go_simp)
          have c5 : w2.cell? ⟨wr.heap.size, 5, none⟩ = some (.int .i64 xsh) := (hb2.cell (p := ⟨wr.heap.size, 5, none⟩) (by simp)).trans (by go_simp)
          have l2 : wr.heap.size < w2.heap.size := by have := hb2.size; simp at this; omega
          have FA2 := hidF (fun (W : World) (hb : Below w2.heap.size w2 W) => FA.out W (bb.trans (hb.mono (by omega))))
          clear hb2 bb d0 d1 d2 d3 d4 x2 x3 x4 x5 x6 x7 FA
          go_upto_region 14 with fail
          go_cut [14] (fun s wx => s = .bool aw ∧ wx = w2)
          case first =>
            cases gr
            · have ha : decide (xb < sz) = aw := by have := HAW.out; simpa using this
              go_wp2_with fail
              go_meet
              case rel => go_light; exact ⟨by first | rfl | rw [ha], rfl⟩
            · have ha : decide (sz < xb) = aw := by have := HAW.out; simpa using this
              have ha2 : (xb > sz) = (sz < xb) := rfl
              go_wp2_with fail
              all_goals
                go_meet
                case rel => go_light; exact ⟨by first | rfl | rw [ha] | simp_all, rfl⟩
          case rest =>
          obtain ⟨rfl, hwx⟩ := hcut
          have hwx2 := hwx.symm
          clear hwx
          subst hwx2
          go_upto_region 15 with fail
          obtain ⟨qs, hqs⟩ : ∃ qs, (its.take q).map (mkP gr) = qs := ⟨_, rfl⟩
          rw [hqs] at R2 HT HZ
          have HQS := hidF hqs
          have rlt : w.heap.size < wr.heap.size := ltH HZ.out.2.head
          have NI : Hid (some wr.heap.size ≠ pv.ownBlock) := fun e => Nat.lt_irrefl _ (HZ.out.2.row.lt _ e.symm).2
          have plen : qs.length ≤ 200 := by rw [← hqs, List.length_map, List.length_take]; have := HO.out.len; omega
          clear hqs
          have e1f := (show w2.frozen? ⟨w.heap.size, 0, none⟩ = false by simp [World.frozen?, R2.out.head])
          · cases aw
            · have RD := hidF (And.intro B2.out R2.out)
              refine wp_region_held_drew (S := (fun wx => wx.cell? ⟨wr.heap.size, 0, none⟩ = some (.int .i64 xb) ∧ wx.cell? ⟨wr.heap.size, 1, none⟩ = some (.int .i64 xmn) ∧ wx.cell? ⟨wr.heap.size, 2, none⟩ = some (.int .i64 xmx) ∧ wx.cell? ⟨wr.heap.size, 3, none⟩ = some (.int .i64 xar) ∧ wx.cell? ⟨wr.heap.size, 4, none⟩ = some (.int .i64 xgr) ∧ wx.cell? ⟨wr.heap.size, 5, none⟩ = some (.int .i64 xsh))) (by kernel_rfl) ?_ (fun hHeld => ?_)
              · (try dsimp only)
                go_keep
              refine wpAnyH_take (i := 0) (v := ?_) rfl (by kernel_rfl) (by kernel_rfl) (by kernel_rfl) (fun _ _ _ h => h) (Or.inl ⟨by rfl, ?_⟩) (by assumption) ?_
              rotate_left
              · intro wy hSw
                (try dsimp only at hSw)
                go_simp
                with_reducible rfl
              simp only [Act.put]
              refine wpAnyH_take (i := 1) (v := ?_) rfl (by kernel_rfl) (by kernel_rfl) (by kernel_rfl) (fun _ _ _ h => h) (Or.inl ⟨by rfl, ?_⟩) (by assumption) ?_
              rotate_left
              · intro wy hSw
                (try dsimp only at hSw)
                go_simp
                with_reducible rfl
              simp only [Act.put]
              refine wpAnyH_take (i := 2) (v := ?_) rfl (by kernel_rfl) (by kernel_rfl) (by kernel_rfl) (fun _ _ _ h => h) (Or.inl ⟨by rfl, ?_⟩) (by assumption) ?_
              rotate_left
              · intro wy hSw
                (try dsimp only at hSw)
                go_simp
                with_reducible rfl
              simp only [Act.put]
              refine wpAnyH_take (i := 3) (v := ?_) rfl (by kernel_rfl) (by kernel_rfl) (by kernel_rfl) (fun _ _ _ h => h) (Or.inl ⟨by rfl, ?_⟩) (by assumption) ?_
              rotate_left
              · intro wy hSw
                (try dsimp only at hSw)
                go_simp
                with_reducible rfl
              simp only [Act.put]
              refine wpAnyH_take (i := 5) (v := ?_) rfl (by kernel_rfl) (by kernel_rfl) (by kernel_rfl) (fun _ _ _ h => h) (Or.inl ⟨by rfl, ?_⟩) (by assumption) ?_
              rotate_left
              · intro wy hSw
                (try dsimp only at hSw)
                go_simp
                with_reducible rfl
              simp only [Act.put]
              refine wpAnyH_take (i := 6) (v := ?_) rfl (by kernel_rfl) (by kernel_rfl) (by kernel_rfl) (fun _ _ _ h => h) (Or.inl ⟨by rfl, ?_⟩) (by assumption) ?_
              rotate_left
              · intro wy hSw
                (try dsimp only at hSw)
                go_simp
                with_reducible rfl
              simp only [Act.put]
              refine wpAnyH_take (i := 7) (v := ?_) rfl (by kernel_rfl) (by kernel_rfl) (by kernel_rfl) (fun _ _ _ h => h) (Or.inl ⟨by rfl, ?_⟩) (by assumption) ?_
              rotate_left
              · intro wy hSw
                (try dsimp only at hSw)
                go_simp
                with_reducible rfl
              simp only [Act.put]
              refine wpAnyH_take (i := 8) (v := ?_) rfl (by kernel_rfl) (by kernel_rfl) (by kernel_rfl) (fun _ _ _ h => h) (Or.inl ⟨by rfl, ?_⟩) (by assumption) ?_
              rotate_left
              · intro wy hSw
                (try dsimp only at hSw)
                go_simp
                with_reducible rfl
              simp only [Act.put]
              refine wpAnyH_take (i := 9) (v := ?_) rfl (by kernel_rfl) (by kernel_rfl) (by kernel_rfl) (fun _ _ _ h => h) (Or.inl ⟨by kernel_rfl, ?_⟩) (by assumption) ?_
              rotate_left
              · intro wy hSw
                (try dsimp only at hSw)
                go_simp
                with_reducible rfl
              simp only [Act.put]
              refine wpAnyH_take (i := 10) (v := ?_) rfl (by kernel_rfl) (by kernel_rfl) (by kernel_rfl) (fun _ _ _ h => h) (Or.inl ⟨by kernel_rfl, ?_⟩) (by assumption) ?_
              rotate_left
              · intro wy hSw
                (try dsimp only at hSw)
                go_simp
                with_reducible rfl
              simp only [Act.put]
              (try go_simp)
              refine wpAnyH_ready (rs := [4, 11]) (by kernel_rfl) (by simp) ?_
              refine AllReadyH.cons rfl (fun K hK => ?_) ?_
              · go_simp
                refine hK.out _ _ (by (try dsimp only); go_keep) (fun _ => ?_)
                clear hK K
                (try go_simp)
                refine wpAnyH_ready (rs := [11]) (by kernel_rfl) (by simp) ?_
                refine AllReadyH.cons rfl (fun K hK => ?_) AllReadyH.nil
                refine step_callG _ (by kernel_rfl) 59 [.tmp 92, .tmp 93] #[65, 26] (by rfl) Try.func59 (by kernel_rfl) rfl [.pointer (some ⟨w.heap.size, 0, none⟩), .agg #[.int .i64 xb, .int .i64 xmn, .int .i64 xmx, .int .i64 xar, .int .i64 xgr, .int .i64 xsh]] (by simp [Act.eval]) (FA2.out _ (Below.refl _ _).drew) (fun e w5 hh5 => ?_)
                obtain ⟨he5, hb5'⟩ := hh5
                have hb5 : Below w2.heap.size w2 w5 := (Below.refl w2.heap.size w2).drew.trans hb5'
                have R5 := hidF (And.intro (B2.out.trans (hb5.mono B2.out.size)) (R2.out.below hb5))
                have m0 := (hb5.cell (p := ⟨wr.heap.size, 0, none⟩) l2).trans c0
                have m1 := (hb5.cell (p := ⟨wr.heap.size, 1, none⟩) l2).trans c1
                have m2 := (hb5.cell (p := ⟨wr.heap.size, 2, none⟩) l2).trans c2
                have m3 := (hb5.cell (p := ⟨wr.heap.size, 3, none⟩) l2).trans c3
                have m4 := (hb5.cell (p := ⟨wr.heap.size, 4, none⟩) l2).trans c4
                have m5 := (hb5.cell (p := ⟨wr.heap.size, 5, none⟩) l2).trans c5
                have l5 : wr.heap.size < w5.heap.size := Nat.lt_of_lt_of_le l2 hb5.size
                obtain ⟨n0, n1, n2, n3, n4⟩ := R5.out.2.cells
                clear hb5 hb5'
                refine ⟨_, he5, hK.out _ _ ⟨m0, m1, m2, m3, m4, m5⟩ (fun _ => ?_)⟩
                clear hK K
                refine wpAnyH_take (i := 12) (v := ?_) rfl (by kernel_rfl) (by kernel_rfl) (by kernel_rfl) (fun _ _ _ h => h) (Or.inl ⟨by kernel_rfl, ?_⟩) (by assumption) ?_
                rotate_left
                · intro wy hSw
                  (try dsimp only at hSw)
                  go_simp
                  with_reducible rfl
                simp only [Act.put]
                refine wpAnyH_take (i := 13) (v := ?_) rfl (by kernel_rfl) (by kernel_rfl) (by kernel_rfl) (fun _ _ _ h => h) (Or.inl ⟨by rfl, ?_⟩) (by assumption) ?_
                rotate_left
                · intro wy hSw
                  (try dsimp only at hSw)
                  go_simp
                  with_reducible rfl
                simp only [Act.put]
                refine wpAnyH_take (i := 14) (v := ?_) rfl (by kernel_rfl) (by kernel_rfl) (by kernel_rfl) (fun _ _ _ h => h) (Or.inl ⟨by rfl, ?_⟩) (by assumption) ?_
                rotate_left
                · intro wy hSw
                  (try dsimp only at hSw)
                  go_simp
                  with_reducible rfl
                simp only [Act.put]
                (try go_simp)
                refine wpAnyH_ready (rs := [15]) (by kernel_rfl) (by simp) ?_
                refine AllReadyH.cons rfl (fun K hK => ?_) AllReadyH.nil
                go_simp
                refine hK.out _ _ (by (try dsimp only); go_keep) (fun _ => ?_)
                clear hK K
                (try go_simp)
                refine wpAnyH_ready (rs := [16]) (by kernel_rfl) (by simp) ?_
                refine AllReadyH.cons rfl (fun K hK => ?_) AllReadyH.nil
                refine step_own _ (by rfl) (.tmp 87) (.tmp 98) 71 (by rfl) w.heap.size 75 i0 _ 9 72 Try.underlying71 hi hz0 hz1 hz2 rfl (by decide) pv qs.length (prsC qs) (by simp [Act.eval]) (R5.out.2.row.alloc _) ⟨w5.heap.size, 0, none⟩ 1 1 (prC ⟨⟨xb, xmn, xmx, xar, xgr, xsh⟩, sz, 0, decide (fa = 0)⟩) (by simp [Act.eval]) rfl (fun j u hj => news_six w5 _ _ j u hj) (by simp [Value.oneCell', prC, itC]) (by unfold maxLen; omega) (by omega) (by have := R5.out.1.size; simp; omega) ?_
                intro v9 w9 ho9 hg9 hat9
                obtain ⟨va, vc, hv9, _, _⟩ := own_shape9 ho9
                subst hv9
                obtain ⟨y1, y2, y3, y4⟩ := RwAt.app (R5.out.2.below ((Below.refl _ _).alloc (Nat.le_refl _) _)) hg9 ho9 hat9
                have BF := hidF (((R5.out.1.alloc R5.out.1.size _).grown hg9 (by have := R5.out.1.size; simp; omega) (fun b hb => (R5.out.2.row.lt b hb).1)).setCell (p := ⟨w.heap.size, 0, none⟩) (Nat.le_refl _) (.slice va (qs.length + 1) vc))
                have RF := hidF y4
                have s0 := hg9.cell (a := ⟨wr.heap.size, 0, none⟩) (v := .int .i64 xb) ((World.cell?_of_block (a := ⟨wr.heap.size, 0, none⟩) (Below.heap_alloc w5 _ _ (by first | omega | (show wr.heap.size < w2.heap.size; omega)))).trans m0) NI.out
                have s1 := hg9.cell (a := ⟨wr.heap.size, 1, none⟩) (v := .int .i64 xmn) ((World.cell?_of_block (a := ⟨wr.heap.size, 1, none⟩) (Below.heap_alloc w5 _ _ (by first | omega | (show wr.heap.size < w2.heap.size; omega)))).trans m1) NI.out
                have s2 := hg9.cell (a := ⟨wr.heap.size, 2, none⟩) (v := .int .i64 xmx) ((World.cell?_of_block (a := ⟨wr.heap.size, 2, none⟩) (Below.heap_alloc w5 _ _ (by first | omega | (show wr.heap.size < w2.heap.size; omega)))).trans m2) NI.out
                have s3 := hg9.cell (a := ⟨wr.heap.size, 3, none⟩) (v := .int .i64 xar) ((World.cell?_of_block (a := ⟨wr.heap.size, 3, none⟩) (Below.heap_alloc w5 _ _ (by first | omega | (show wr.heap.size < w2.heap.size; omega)))).trans m3) NI.out
                have s4 := hg9.cell (a := ⟨wr.heap.size, 4, none⟩) (v := .int .i64 xgr) ((World.cell?_of_block (a := ⟨wr.heap.size, 4, none⟩) (Below.heap_alloc w5 _ _ (by first | omega | (show wr.heap.size < w2.heap.size; omega)))).trans m4) NI.out
                have s5 := hg9.cell (a := ⟨wr.heap.size, 5, none⟩) (v := .int .i64 xsh) ((World.cell?_of_block (a := ⟨wr.heap.size, 5, none⟩) (Below.heap_alloc w5 _ _ (by first | omega | (show wr.heap.size < w2.heap.size; omega)))).trans m5) NI.out
                clear ho9 hg9 hat9 y4
                refine hK.out _ _ ⟨s0, s1, s2, s3, s4, s5⟩ (fun _ => ?_)
                clear hK K
                refine wpAnyH_take (i := 17) (v := ?_) rfl (by kernel_rfl) (by kernel_rfl) (by kernel_rfl) (fun _ _ _ h => h) (Or.inl ⟨by rfl, ?_⟩) (by assumption) ?_
                rotate_left
                · intro wy hSw
                  (try dsimp only at hSw)
                  go_simp
                  with_reducible rfl
                simp only [Act.put]
                refine wpAnyH_take (i := 18) (v := ?_) rfl (by kernel_rfl) (by kernel_rfl) (by kernel_rfl) (fun _ _ _ h => h) (Or.inl ⟨by rfl, ?_⟩) (by assumption) ?_
                rotate_left
                · intro wy hSw
                  (try dsimp only at hSw)
                  go_simp
                  with_reducible rfl
                simp only [Act.put]
                (try go_simp)
                refine wpAnyH_ready (rs := [19]) (by kernel_rfl) (by simp) ?_
                refine AllReadyH.cons rfl (fun K hK => ?_) AllReadyH.nil
                go_simp
                refine hK.out _ _ ?_ (fun _ => ?_)
                · (try dsimp only)
                  refine ⟨?_, ?_, ?_, ?_, ?_, ?_⟩ <;> (rw [setCell_cell _ _ _ _ (by intro e; have := congrArg Addr.block e; simp at this; omega)]; assumption)
                clear hK K
                refine wpAnyH_done (by kernel_rfl) ?_ _
                go_wp2_with fail
                go_roundw
                case rel => go_light; exact ⟨q + 1, _, by omega, by go_num, BF.out, by rw [HT.out]; exact RF.out⟩
                case measure => simp [intV]; omega
              refine AllReadyH.cons rfl (fun K hK => ?_) AllReadyH.nil
              refine step_callG _ (by kernel_rfl) 59 [.tmp 92, .tmp 93] #[65, 26] (by rfl) Try.func59 (by kernel_rfl) rfl [.pointer (some ⟨w.heap.size, 0, none⟩), .agg #[.int .i64 xb, .int .i64 xmn, .int .i64 xmx, .int .i64 xar, .int .i64 xgr, .int .i64 xsh]] (by simp [Act.eval]) (FA2.out _ (Below.refl _ _).drew) (fun e w5 hh5 => ?_)
              obtain ⟨he5, hb5'⟩ := hh5
              have hb5 : Below w2.heap.size w2 w5 := (Below.refl w2.heap.size w2).drew.trans hb5'
              have R5 := hidF (And.intro (B2.out.trans (hb5.mono B2.out.size)) (R2.out.below hb5))
              have m0 := (hb5.cell (p := ⟨wr.heap.size, 0, none⟩) l2).trans c0
              have m1 := (hb5.cell (p := ⟨wr.heap.size, 1, none⟩) l2).trans c1
              have m2 := (hb5.cell (p := ⟨wr.heap.size, 2, none⟩) l2).trans c2
              have m3 := (hb5.cell (p := ⟨wr.heap.size, 3, none⟩) l2).trans c3
              have m4 := (hb5.cell (p := ⟨wr.heap.size, 4, none⟩) l2).trans c4
              have m5 := (hb5.cell (p := ⟨wr.heap.size, 5, none⟩) l2).trans c5
              have l5 : wr.heap.size < w5.heap.size := Nat.lt_of_lt_of_le l2 hb5.size
              obtain ⟨n0, n1, n2, n3, n4⟩ := R5.out.2.cells
              clear hb5 hb5'
              refine ⟨_, he5, hK.out _ _ ⟨m0, m1, m2, m3, m4, m5⟩ (fun _ => ?_)⟩
              clear hK K
              refine wpAnyH_take (i := 12) (v := ?_) rfl (by kernel_rfl) (by kernel_rfl) (by kernel_rfl) (fun _ _ _ h => h) (Or.inl ⟨by kernel_rfl, ?_⟩) (by assumption) ?_
              rotate_left
              · intro wy hSw
                (try dsimp only at hSw)
                go_simp
                with_reducible rfl
              simp only [Act.put]
              refine wpAnyH_take (i := 13) (v := ?_) rfl (by kernel_rfl) (by kernel_rfl) (by kernel_rfl) (fun _ _ _ h => h) (Or.inl ⟨by rfl, ?_⟩) (by assumption) ?_
              rotate_left
              · intro wy hSw
                (try dsimp only at hSw)
                go_simp
                with_reducible rfl
              simp only [Act.put]
              refine wpAnyH_take (i := 14) (v := ?_) rfl (by kernel_rfl) (by kernel_rfl) (by kernel_rfl) (fun _ _ _ h => h) (Or.inl ⟨by rfl, ?_⟩) (by assumption) ?_
              rotate_left
              · intro wy hSw
                (try dsimp only at hSw)
                go_simp
                with_reducible rfl
              simp only [Act.put]
              (try go_simp)
              refine wpAnyH_ready (rs := [4, 15]) (by kernel_rfl) (by simp) ?_
              refine AllReadyH.cons rfl (fun K hK => ?_) ?_
              · go_simp
                refine hK.out _ _ (by (try dsimp only); go_keep) (fun _ => ?_)
                clear hK K
                (try go_simp)
                refine wpAnyH_ready (rs := [15]) (by kernel_rfl) (by simp) ?_
                refine AllReadyH.cons rfl (fun K hK => ?_) AllReadyH.nil
                go_simp
                refine hK.out _ _ (by (try dsimp only); go_keep) (fun _ => ?_)
                clear hK K
                (try go_simp)
                refine wpAnyH_ready (rs := [16]) (by kernel_rfl) (by simp) ?_
                refine AllReadyH.cons rfl (fun K hK => ?_) AllReadyH.nil
                refine step_own _ (by rfl) (.tmp 87) (.tmp 98) 71 (by rfl) w.heap.size 75 i0 _ 9 72 Try.underlying71 hi hz0 hz1 hz2 rfl (by decide) pv qs.length (prsC qs) (by simp [Act.eval]) (R5.out.2.row.alloc _) ⟨w5.heap.size, 0, none⟩ 1 1 (prC ⟨⟨xb, xmn, xmx, xar, xgr, xsh⟩, sz, 0, decide (fa = 0)⟩) (by simp [Act.eval]) rfl (fun j u hj => news_six w5 _ _ j u hj) (by simp [Value.oneCell', prC, itC]) (by unfold maxLen; omega) (by omega) (by have := R5.out.1.size; simp; omega) ?_
                intro v9 w9 ho9 hg9 hat9
                obtain ⟨va, vc, hv9, _, _⟩ := own_shape9 ho9
                subst hv9
                obtain ⟨y1, y2, y3, y4⟩ := RwAt.app (R5.out.2.below ((Below.refl _ _).alloc (Nat.le_refl _) _)) hg9 ho9 hat9
                have BF := hidF (((R5.out.1.alloc R5.out.1.size _).grown hg9 (by have := R5.out.1.size; simp; omega) (fun b hb => (R5.out.2.row.lt b hb).1)).setCell (p := ⟨w.heap.size, 0, none⟩) (Nat.le_refl _) (.slice va (qs.length + 1) vc))
                have RF := hidF y4
                have s0 := hg9.cell (a := ⟨wr.heap.size, 0, none⟩) (v := .int .i64 xb) ((World.cell?_of_block (a := ⟨wr.heap.size, 0, none⟩) (Below.heap_alloc w5 _ _ (by first | omega | (show wr.heap.size < w2.heap.size; omega)))).trans m0) NI.out
                have s1 := hg9.cell (a := ⟨wr.heap.size, 1, none⟩) (v := .int .i64 xmn) ((World.cell?_of_block (a := ⟨wr.heap.size, 1, none⟩) (Below.heap_alloc w5 _ _ (by first | omega | (show wr.heap.size < w2.heap.size; omega)))).trans m1) NI.out
                have s2 := hg9.cell (a := ⟨wr.heap.size, 2, none⟩) (v := .int .i64 xmx) ((World.cell?_of_block (a := ⟨wr.heap.size, 2, none⟩) (Below.heap_alloc w5 _ _ (by first | omega | (show wr.heap.size < w2.heap.size; omega)))).trans m2) NI.out
                have s3 := hg9.cell (a := ⟨wr.heap.size, 3, none⟩) (v := .int .i64 xar) ((World.cell?_of_block (a := ⟨wr.heap.size, 3, none⟩) (Below.heap_alloc w5 _ _ (by first | omega | (show wr.heap.size < w2.heap.size; omega)))).trans m3) NI.out
                have s4 := hg9.cell (a := ⟨wr.heap.size, 4, none⟩) (v := .int .i64 xgr) ((World.cell?_of_block (a := ⟨wr.heap.size, 4, none⟩) (Below.heap_alloc w5 _ _ (by first | omega | (show wr.heap.size < w2.heap.size; omega)))).trans m4) NI.out
                have s5 := hg9.cell (a := ⟨wr.heap.size, 5, none⟩) (v := .int .i64 xsh) ((World.cell?_of_block (a := ⟨wr.heap.size, 5, none⟩) (Below.heap_alloc w5 _ _ (by first | omega | (show wr.heap.size < w2.heap.size; omega)))).trans m5) NI.out
                clear ho9 hg9 hat9 y4
                refine hK.out _ _ ⟨s0, s1, s2, s3, s4, s5⟩ (fun _ => ?_)
                clear hK K
                refine wpAnyH_take (i := 17) (v := ?_) rfl (by kernel_rfl) (by kernel_rfl) (by kernel_rfl) (fun _ _ _ h => h) (Or.inl ⟨by rfl, ?_⟩) (by assumption) ?_
                rotate_left
                · intro wy hSw
                  (try dsimp only at hSw)
                  go_simp
                  with_reducible rfl
                simp only [Act.put]
                refine wpAnyH_take (i := 18) (v := ?_) rfl (by kernel_rfl) (by kernel_rfl) (by kernel_rfl) (fun _ _ _ h => h) (Or.inl ⟨by rfl, ?_⟩) (by assumption) ?_
                rotate_left
                · intro wy hSw
                  (try dsimp only at hSw)
                  go_simp
                  with_reducible rfl
                simp only [Act.put]
                (try go_simp)
                refine wpAnyH_ready (rs := [19]) (by kernel_rfl) (by simp) ?_
                refine AllReadyH.cons rfl (fun K hK => ?_) AllReadyH.nil
                go_simp
                refine hK.out _ _ ?_ (fun _ => ?_)
                · (try dsimp only)
                  refine ⟨?_, ?_, ?_, ?_, ?_, ?_⟩ <;> (rw [setCell_cell _ _ _ _ (by intro e; have := congrArg Addr.block e; simp at this; omega)]; assumption)
                clear hK K
                refine wpAnyH_done (by kernel_rfl) ?_ _
                go_wp2_with fail
                go_roundw
                case rel => go_light; exact ⟨q + 1, _, by omega, by go_num, BF.out, by rw [HT.out]; exact RF.out⟩
                case measure => simp [intV]; omega
              refine AllReadyH.cons rfl (fun K hK => ?_) AllReadyH.nil
              go_simp
              refine hK.out _ _ (by (try dsimp only); go_keep) (fun _ => ?_)
              clear hK K
              (try go_simp)
              refine wpAnyH_ready (rs := [4]) (by kernel_rfl) (by simp) ?_
              refine AllReadyH.cons rfl (fun K hK => ?_) AllReadyH.nil
              go_simp
              refine hK.out _ _ (by (try dsimp only); go_keep) (fun _ => ?_)
              clear hK K
              (try go_simp)
              refine wpAnyH_ready (rs := [16]) (by kernel_rfl) (by simp) ?_
              refine AllReadyH.cons rfl (fun K hK => ?_) AllReadyH.nil
              refine step_own _ (by rfl) (.tmp 87) (.tmp 98) 71 (by rfl) w.heap.size 75 i0 _ 9 72 Try.underlying71 hi hz0 hz1 hz2 rfl (by decide) pv qs.length (prsC qs) (by simp [Act.eval]) (R5.out.2.row.alloc _) ⟨w5.heap.size, 0, none⟩ 1 1 (prC ⟨⟨xb, xmn, xmx, xar, xgr, xsh⟩, sz, 0, decide (fa = 0)⟩) (by simp [Act.eval]) rfl (fun j u hj => news_six w5 _ _ j u hj) (by simp [Value.oneCell', prC, itC]) (by unfold maxLen; omega) (by omega) (by have := R5.out.1.size; simp; omega) ?_
              intro v9 w9 ho9 hg9 hat9
              obtain ⟨va, vc, hv9, _, _⟩ := own_shape9 ho9
              subst hv9
              obtain ⟨y1, y2, y3, y4⟩ := RwAt.app (R5.out.2.below ((Below.refl _ _).alloc (Nat.le_refl _) _)) hg9 ho9 hat9
              have BF := hidF (((R5.out.1.alloc R5.out.1.size _).grown hg9 (by have := R5.out.1.size; simp; omega) (fun b hb => (R5.out.2.row.lt b hb).1)).setCell (p := ⟨w.heap.size, 0, none⟩) (Nat.le_refl _) (.slice va (qs.length + 1) vc))
              have RF := hidF y4
              have s0 := hg9.cell (a := ⟨wr.heap.size, 0, none⟩) (v := .int .i64 xb) ((World.cell?_of_block (a := ⟨wr.heap.size, 0, none⟩) (Below.heap_alloc w5 _ _ (by first | omega | (show wr.heap.size < w2.heap.size; omega)))).trans m0) NI.out
              have s1 := hg9.cell (a := ⟨wr.heap.size, 1, none⟩) (v := .int .i64 xmn) ((World.cell?_of_block (a := ⟨wr.heap.size, 1, none⟩) (Below.heap_alloc w5 _ _ (by first | omega | (show wr.heap.size < w2.heap.size; omega)))).trans m1) NI.out
              have s2 := hg9.cell (a := ⟨wr.heap.size, 2, none⟩) (v := .int .i64 xmx) ((World.cell?_of_block (a := ⟨wr.heap.size, 2, none⟩) (Below.heap_alloc w5 _ _ (by first | omega | (show wr.heap.size < w2.heap.size; omega)))).trans m2) NI.out
              have s3 := hg9.cell (a := ⟨wr.heap.size, 3, none⟩) (v := .int .i64 xar) ((World.cell?_of_block (a := ⟨wr.heap.size, 3, none⟩) (Below.heap_alloc w5 _ _ (by first | omega | (show wr.heap.size < w2.heap.size; omega)))).trans m3) NI.out
              have s4 := hg9.cell (a := ⟨wr.heap.size, 4, none⟩) (v := .int .i64 xgr) ((World.cell?_of_block (a := ⟨wr.heap.size, 4, none⟩) (Below.heap_alloc w5 _ _ (by first | omega | (show wr.heap.size < w2.heap.size; omega)))).trans m4) NI.out
              have s5 := hg9.cell (a := ⟨wr.heap.size, 5, none⟩) (v := .int .i64 xsh) ((World.cell?_of_block (a := ⟨wr.heap.size, 5, none⟩) (Below.heap_alloc w5 _ _ (by first | omega | (show wr.heap.size < w2.heap.size; omega)))).trans m5) NI.out
              clear ho9 hg9 hat9 y4
              refine hK.out _ _ ⟨s0, s1, s2, s3, s4, s5⟩ (fun _ => ?_)
              clear hK K
              refine wpAnyH_take (i := 17) (v := ?_) rfl (by kernel_rfl) (by kernel_rfl) (by kernel_rfl) (fun _ _ _ h => h) (Or.inl ⟨by rfl, ?_⟩) (by assumption) ?_
              rotate_left
              · intro wy hSw
                (try dsimp only at hSw)
                go_simp
                with_reducible rfl
              simp only [Act.put]
              refine wpAnyH_take (i := 18) (v := ?_) rfl (by kernel_rfl) (by kernel_rfl) (by kernel_rfl) (fun _ _ _ h => h) (Or.inl ⟨by rfl, ?_⟩) (by assumption) ?_
              rotate_left
              · intro wy hSw
                (try dsimp only at hSw)
                go_simp
                with_reducible rfl
              simp only [Act.put]
              (try go_simp)
              refine wpAnyH_ready (rs := [19]) (by kernel_rfl) (by simp) ?_
              refine AllReadyH.cons rfl (fun K hK => ?_) AllReadyH.nil
              go_simp
              refine hK.out _ _ ?_ (fun _ => ?_)
              · (try dsimp only)
                refine ⟨?_, ?_, ?_, ?_, ?_, ?_⟩ <;> (rw [setCell_cell _ _ _ _ (by intro e; have := congrArg Addr.block e; simp at this; omega)]; assumption)
              clear hK K
              refine wpAnyH_done (by kernel_rfl) ?_ _
              go_wp2_with fail
              go_roundw
              case rel => go_light; exact ⟨q + 1, _, by omega, by go_num, BF.out, by rw [HT.out]; exact RF.out⟩
              case measure => simp [intV]; omega
            · have RD := hidF (And.intro (B2.out.drew) (RwAt.drewX R2.out))
              refine wp_region_held_drew (S := (fun wx => wx.cell? ⟨wr.heap.size, 0, none⟩ = some (.int .i64 xb) ∧ wx.cell? ⟨wr.heap.size, 1, none⟩ = some (.int .i64 xmn) ∧ wx.cell? ⟨wr.heap.size, 2, none⟩ = some (.int .i64 xmx) ∧ wx.cell? ⟨wr.heap.size, 3, none⟩ = some (.int .i64 xar) ∧ wx.cell? ⟨wr.heap.size, 4, none⟩ = some (.int .i64 xgr) ∧ wx.cell? ⟨wr.heap.size, 5, none⟩ = some (.int .i64 xsh))) (by kernel_rfl) ?_ (fun hHeld => ?_)
              · (try dsimp only)
                go_keep
              refine wpAnyH_take (i := 0) (v := ?_) rfl (by kernel_rfl) (by kernel_rfl) (by kernel_rfl) (fun _ _ _ h => h) (Or.inl ⟨by rfl, ?_⟩) (by assumption) ?_
              rotate_left
              · intro wy hSw
                (try dsimp only at hSw)
                go_simp
                with_reducible rfl
              simp only [Act.put]
              refine wpAnyH_take (i := 1) (v := ?_) rfl (by kernel_rfl) (by kernel_rfl) (by kernel_rfl) (fun _ _ _ h => h) (Or.inl ⟨by rfl, ?_⟩) (by assumption) ?_
              rotate_left
              · intro wy hSw
                (try dsimp only at hSw)
                go_simp
                with_reducible rfl
              simp only [Act.put]
              refine wpAnyH_take (i := 2) (v := ?_) rfl (by kernel_rfl) (by kernel_rfl) (by kernel_rfl) (fun _ _ _ h => h) (Or.inl ⟨by rfl, ?_⟩) (by assumption) ?_
              rotate_left
              · intro wy hSw
                (try dsimp only at hSw)
                go_simp
                with_reducible rfl
              simp only [Act.put]
              refine wpAnyH_take (i := 3) (v := ?_) rfl (by kernel_rfl) (by kernel_rfl) (by kernel_rfl) (fun _ _ _ h => h) (Or.inl ⟨by rfl, ?_⟩) (by assumption) ?_
              rotate_left
              · intro wy hSw
                (try dsimp only at hSw)
                go_simp
                with_reducible rfl
              simp only [Act.put]
              refine wpAnyH_take (i := 5) (v := ?_) rfl (by kernel_rfl) (by kernel_rfl) (by kernel_rfl) (fun _ _ _ h => h) (Or.inl ⟨by rfl, ?_⟩) (by assumption) ?_
              rotate_left
              · intro wy hSw
                (try dsimp only at hSw)
                go_simp
                with_reducible rfl
              simp only [Act.put]
              refine wpAnyH_take (i := 6) (v := ?_) rfl (by kernel_rfl) (by kernel_rfl) (by kernel_rfl) (fun _ _ _ h => h) (Or.inl ⟨by rfl, ?_⟩) (by assumption) ?_
              rotate_left
              · intro wy hSw
                (try dsimp only at hSw)
                go_simp
                with_reducible rfl
              simp only [Act.put]
              refine wpAnyH_take (i := 7) (v := ?_) rfl (by kernel_rfl) (by kernel_rfl) (by kernel_rfl) (fun _ _ _ h => h) (Or.inl ⟨by rfl, ?_⟩) (by assumption) ?_
              rotate_left
              · intro wy hSw
                (try dsimp only at hSw)
                go_simp
                with_reducible rfl
              simp only [Act.put]
              refine wpAnyH_take (i := 8) (v := ?_) rfl (by kernel_rfl) (by kernel_rfl) (by kernel_rfl) (fun _ _ _ h => h) (Or.inl ⟨by rfl, ?_⟩) (by assumption) ?_
              rotate_left
              · intro wy hSw
                (try dsimp only at hSw)
                go_simp
                with_reducible rfl
              simp only [Act.put]
              refine wpAnyH_take (i := 9) (v := undef) rfl (by kernel_rfl) (by kernel_rfl) (by kernel_rfl) (fun _ _ _ h => h) (Or.inr ⟨by kernel_rfl, rfl⟩) (by assumption) ?_
              simp only [Act.put]
              refine wpAnyH_take (i := 10) (v := undef) rfl (by kernel_rfl) (by kernel_rfl) (by kernel_rfl) (fun _ _ _ h => h) (Or.inr ⟨by kernel_rfl, rfl⟩) (by assumption) ?_
              simp only [Act.put]
              refine wpAnyH_take (i := 11) (v := undef) rfl (by kernel_rfl) (by kernel_rfl) (by kernel_rfl) (fun _ _ _ h => h) (Or.inr ⟨by kernel_rfl, rfl⟩) (by assumption) ?_
              simp only [Act.put]
              refine wpAnyH_take (i := 12) (v := undef) rfl (by kernel_rfl) (by kernel_rfl) (by kernel_rfl) (fun _ _ _ h => h) (Or.inr ⟨by kernel_rfl, rfl⟩) (by assumption) ?_
              simp only [Act.put]
              refine wpAnyH_take (i := 13) (v := ?_) rfl (by kernel_rfl) (by kernel_rfl) (by kernel_rfl) (fun _ _ _ h => h) (Or.inl ⟨by rfl, ?_⟩) (by assumption) ?_
              rotate_left
              · intro wy hSw
                (try dsimp only at hSw)
                go_simp
                with_reducible rfl
              simp only [Act.put]
              refine wpAnyH_take (i := 14) (v := ?_) rfl (by kernel_rfl) (by kernel_rfl) (by kernel_rfl) (fun _ _ _ h => h) (Or.inl ⟨by rfl, ?_⟩) (by assumption) ?_
              rotate_left
              · intro wy hSw
                (try dsimp only at hSw)
                go_simp
                with_reducible rfl
              simp only [Act.put]
              (try go_simp)
              refine wpAnyH_ready (rs := [4, 15]) (by kernel_rfl) (by simp) ?_
              refine AllReadyH.cons rfl (fun K hK => ?_) ?_
              · go_simp
                refine hK.out _ _ (by (try dsimp only); go_keep) (fun _ => ?_)
                clear hK K
                (try go_simp)
                refine wpAnyH_ready (rs := [15]) (by kernel_rfl) (by simp) ?_
                refine AllReadyH.cons rfl (fun K hK => ?_) AllReadyH.nil
                go_simp
                refine hK.out _ _ (by (try dsimp only); go_keep) (fun _ => ?_)
                clear hK K
                (try go_simp)
                refine wpAnyH_ready (rs := [16]) (by kernel_rfl) (by simp) ?_
                refine AllReadyH.cons rfl (fun K hK => ?_) AllReadyH.nil
                refine step_own _ (by rfl) (.tmp 87) (.tmp 98) 71 (by rfl) w.heap.size 75 i0 _ 9 72 Try.underlying71 hi hz0 hz1 hz2 rfl (by decide) pv qs.length (prsC qs) (by simp [Act.eval]) (RD.out.2.row.alloc _) ⟨w2.drew.heap.size, 0, none⟩ 1 1 (prC ⟨⟨xb, xmn, xmx, xar, xgr, xsh⟩, sz, 0, true⟩) (by simp [Act.eval]) rfl (fun j u hj => news_six w2.drew _ _ j u hj) (by simp [Value.oneCell', prC, itC]) (by unfold maxLen; omega) (by omega) (by have := RD.out.1.size; simp; omega) ?_
                intro v9 w9 ho9 hg9 hat9
                obtain ⟨va, vc, hv9, _, _⟩ := own_shape9 ho9
                subst hv9
                obtain ⟨y1, y2, y3, y4⟩ := RwAt.app (RD.out.2.below ((Below.refl _ _).alloc (Nat.le_refl _) _)) hg9 ho9 hat9
                have BF := hidF (((RD.out.1.alloc RD.out.1.size _).grown hg9 (by have := RD.out.1.size; simp; omega) (fun b hb => (RD.out.2.row.lt b hb).1)).setCell (p := ⟨w.heap.size, 0, none⟩) (Nat.le_refl _) (.slice va (qs.length + 1) vc))
                have RF := hidF y4
                have s0 := hg9.cell (a := ⟨wr.heap.size, 0, none⟩) (v := .int .i64 xb) ((World.cell?_of_block (a := ⟨wr.heap.size, 0, none⟩) (Below.heap_alloc w2.drew _ _ (by first | omega | (show wr.heap.size < w2.heap.size; omega)))).trans c0) NI.out
                have s1 := hg9.cell (a := ⟨wr.heap.size, 1, none⟩) (v := .int .i64 xmn) ((World.cell?_of_block (a := ⟨wr.heap.size, 1, none⟩) (Below.heap_alloc w2.drew _ _ (by first | omega | (show wr.heap.size < w2.heap.size; omega)))).trans c1) NI.out
                have s2 := hg9.cell (a := ⟨wr.heap.size, 2, none⟩) (v := .int .i64 xmx) ((World.cell?_of_block (a := ⟨wr.heap.size, 2, none⟩) (Below.heap_alloc w2.drew _ _ (by first | omega | (show wr.heap.size < w2.heap.size; omega)))).trans c2) NI.out
                have s3 := hg9.cell (a := ⟨wr.heap.size, 3, none⟩) (v := .int .i64 xar) ((World.cell?_of_block (a := ⟨wr.heap.size, 3, none⟩) (Below.heap_alloc w2.drew _ _ (by first | omega | (show wr.heap.size < w2.heap.size; omega)))).trans c3) NI.out
                have s4 := hg9.cell (a := ⟨wr.heap.size, 4, none⟩) (v := .int .i64 xgr) ((World.cell?_of_block (a := ⟨wr.heap.size, 4, none⟩) (Below.heap_alloc w2.drew _ _ (by first | omega | (show wr.heap.size < w2.heap.size; omega)))).trans c4) NI.out
                have s5 := hg9.cell (a := ⟨wr.heap.size, 5, none⟩) (v := .int .i64 xsh) ((World.cell?_of_block (a := ⟨wr.heap.size, 5, none⟩) (Below.heap_alloc w2.drew _ _ (by first | omega | (show wr.heap.size < w2.heap.size; omega)))).trans c5) NI.out
                clear ho9 hg9 hat9 y4
                refine hK.out _ _ ⟨s0, s1, s2, s3, s4, s5⟩ (fun _ => ?_)
                clear hK K
                refine wpAnyH_take (i := 17) (v := ?_) rfl (by kernel_rfl) (by kernel_rfl) (by kernel_rfl) (fun _ _ _ h => h) (Or.inl ⟨by rfl, ?_⟩) (by assumption) ?_
                rotate_left
                · intro wy hSw
                  (try dsimp only at hSw)
                  go_simp
                  with_reducible rfl
                simp only [Act.put]
                refine wpAnyH_take (i := 18) (v := ?_) rfl (by kernel_rfl) (by kernel_rfl) (by kernel_rfl) (fun _ _ _ h => h) (Or.inl ⟨by rfl, ?_⟩) (by assumption) ?_
                rotate_left
                · intro wy hSw
                  (try dsimp only at hSw)
                  go_simp
                  with_reducible rfl
                simp only [Act.put]
                (try go_simp)
                refine wpAnyH_ready (rs := [19]) (by kernel_rfl) (by simp) ?_
                refine AllReadyH.cons rfl (fun K hK => ?_) AllReadyH.nil
                go_simp
                refine hK.out _ _ ?_ (fun _ => ?_)
                · (try dsimp only)
                  refine ⟨?_, ?_, ?_, ?_, ?_, ?_⟩ <;> (rw [setCell_cell _ _ _ _ (by intro e; have := congrArg Addr.block e; simp at this; omega)]; assumption)
                clear hK K
                refine wpAnyH_done (by kernel_rfl) ?_ _
                go_wp2_with fail
                go_roundw
                case rel => go_light; exact ⟨q + 1, _, by omega, by go_num, BF.out, by rw [HT.out]; exact RF.out⟩
                case measure => simp [intV]; omega
              refine AllReadyH.cons rfl (fun K hK => ?_) AllReadyH.nil
              go_simp
              refine hK.out _ _ (by (try dsimp only); go_keep) (fun _ => ?_)
              clear hK K
              (try go_simp)
              refine wpAnyH_ready (rs := [4]) (by kernel_rfl) (by simp) ?_
              refine AllReadyH.cons rfl (fun K hK => ?_) AllReadyH.nil
              go_simp
              refine hK.out _ _ (by (try dsimp only); go_keep) (fun _ => ?_)
              clear hK K
              (try go_simp)
              refine wpAnyH_ready (rs := [16]) (by kernel_rfl) (by simp) ?_
              refine AllReadyH.cons rfl (fun K hK => ?_) AllReadyH.nil
              refine step_own _ (by rfl) (.tmp 87) (.tmp 98) 71 (by rfl) w.heap.size 75 i0 _ 9 72 Try.underlying71 hi hz0 hz1 hz2 rfl (by decide) pv qs.length (prsC qs) (by simp [Act.eval]) (RD.out.2.row.alloc _) ⟨w2.drew.heap.size, 0, none⟩ 1 1 (prC ⟨⟨xb, xmn, xmx, xar, xgr, xsh⟩, sz, 0, true⟩) (by simp [Act.eval]) rfl (fun j u hj => news_six w2.drew _ _ j u hj) (by simp [Value.oneCell', prC, itC]) (by unfold maxLen; omega) (by omega) (by have := RD.out.1.size; simp; omega) ?_
              intro v9 w9 ho9 hg9 hat9
              obtain ⟨va, vc, hv9, _, _⟩ := own_shape9 ho9
              subst hv9
              obtain ⟨y1, y2, y3, y4⟩ := RwAt.app (RD.out.2.below ((Below.refl _ _).alloc (Nat.le_refl _) _)) hg9 ho9 hat9
              have BF := hidF (((RD.out.1.alloc RD.out.1.size _).grown hg9 (by have := RD.out.1.size; simp; omega) (fun b hb => (RD.out.2.row.lt b hb).1)).setCell (p := ⟨w.heap.size, 0, none⟩) (Nat.le_refl _) (.slice va (qs.length + 1) vc))
              have RF := hidF y4
              have s0 := hg9.cell (a := ⟨wr.heap.size, 0, none⟩) (v := .int .i64 xb) ((World.cell?_of_block (a := ⟨wr.heap.size, 0, none⟩) (Below.heap_alloc w2.drew _ _ (by first | omega | (show wr.heap.size < w2.heap.size; omega)))).trans c0) NI.out
              have s1 := hg9.cell (a := ⟨wr.heap.size, 1, none⟩) (v := .int .i64 xmn) ((World.cell?_of_block (a := ⟨wr.heap.size, 1, none⟩) (Below.heap_alloc w2.drew _ _ (by first | omega | (show wr.heap.size < w2.heap.size; omega)))).trans c1) NI.out
              have s2 := hg9.cell (a := ⟨wr.heap.size, 2, none⟩) (v := .int .i64 xmx) ((World.cell?_of_block (a := ⟨wr.heap.size, 2, none⟩) (Below.heap_alloc w2.drew _ _ (by first | omega | (show wr.heap.size < w2.heap.size; omega)))).trans c2) NI.out
              have s3 := hg9.cell (a := ⟨wr.heap.size, 3, none⟩) (v := .int .i64 xar) ((World.cell?_of_block (a := ⟨wr.heap.size, 3, none⟩) (Below.heap_alloc w2.drew _ _ (by first | omega | (show wr.heap.size < w2.heap.size; omega)))).trans c3) NI.out
              have s4 := hg9.cell (a := ⟨wr.heap.size, 4, none⟩) (v := .int .i64 xgr) ((World.cell?_of_block (a := ⟨wr.heap.size, 4, none⟩) (Below.heap_alloc w2.drew _ _ (by first | omega | (show wr.heap.size < w2.heap.size; omega)))).trans c4) NI.out
              have s5 := hg9.cell (a := ⟨wr.heap.size, 5, none⟩) (v := .int .i64 xsh) ((World.cell?_of_block (a := ⟨wr.heap.size, 5, none⟩) (Below.heap_alloc w2.drew _ _ (by first | omega | (show wr.heap.size < w2.heap.size; omega)))).trans c5) NI.out
              clear ho9 hg9 hat9 y4
              refine hK.out _ _ ⟨s0, s1, s2, s3, s4, s5⟩ (fun _ => ?_)
              clear hK K
              refine wpAnyH_take (i := 17) (v := ?_) rfl (by kernel_rfl) (by kernel_rfl) (by kernel_rfl) (fun _ _ _ h => h) (Or.inl ⟨by rfl, ?_⟩) (by assumption) ?_
              rotate_left
              · intro wy hSw
                (try dsimp only at hSw)
                go_simp
                with_reducible rfl
              simp only [Act.put]
              refine wpAnyH_take (i := 18) (v := ?_) rfl (by kernel_rfl) (by kernel_rfl) (by kernel_rfl) (fun _ _ _ h => h) (Or.inl ⟨by rfl, ?_⟩) (by assumption) ?_
              rotate_left
              · intro wy hSw
                (try dsimp only at hSw)
                go_simp
                with_reducible rfl
              simp only [Act.put]
              (try go_simp)
              refine wpAnyH_ready (rs := [19]) (by kernel_rfl) (by simp) ?_
              refine AllReadyH.cons rfl (fun K hK => ?_) AllReadyH.nil
              go_simp
              refine hK.out _ _ ?_ (fun _ => ?_)
              · (try dsimp only)
                refine ⟨?_, ?_, ?_, ?_, ?_, ?_⟩ <;> (rw [setCell_cell _ _ _ _ (by intro e; have := congrArg Addr.block e; simp at this; omega)]; assumption)
              clear hK K
              refine wpAnyH_done (by kernel_rfl) ?_ _
              go_wp2_with fail
              go_roundw
              case rel => go_light; exact ⟨q + 1, _, by omega, by go_num, BF.out, by rw [HT.out]; exact RF.out⟩
              case measure => simp [intV]; omega
        · obtain rfl : q = k := by omega
          have e1 : its.take q = its := List.take_of_length_le (by rw [HN.out]; exact Nat.le_refl _)
          have hR := HZ.out.2
          have hok := parts_ok HO.out gr q
          rw [e1] at hR hok
          have FR := hidF (freeR_any hR hok (by omega) (by omega))
          have HR9 := hidF hR
          have HB9 := hidF HZ.out.1
          clear hR hok HZ
          go_wp2_with fail
          refine FR.out.mono ?_
          rintro e w5 ⟨rfl, hb5⟩
          have R5 := hidF (HR9.out.below hb5)
          have B5 := hidF (HB9.out.trans (hb5.mono HB9.out.size))
          obtain ⟨n0, n1, n2, n3, n4⟩ := R5.out.cells
          have n4f : w5.frozen? ⟨w.heap.size, 3, none⟩ = false := by simp [World.frozen?, R5.out.head]
          clear hb5 FR
          obtain ⟨st, hst⟩ : ∃ t, freeN ra (its.map (mkP gr)) (its.map (mkP gr)).length = t := ⟨_, rfl⟩
          have HST : Hid (startN its room gap = st) := by
            show _ = _
            unfold startN partsN
            rw [HRO.out, HGR.out, ← hst, List.length_map]
          rw [hst]
          clear hst
          go_wp2_with fail
          go_returns
          refine ⟨w.heap.size, pv, rfl, ?_, ?_⟩
          · unfold partsN
            rw [HGR.out, HRO.out, HST.out]
            have h1 := heap_setCell_same w5 w.heap.size 3 _ _ (.int .i64 st) R5.out.head
            exact ⟨h1, Nat.le_refl _, ownsRow_setCell_other R5.out.row R5.out.ne _, R5.out.ne⟩
          · exact B5.out.setCell (Nat.le_refl _) _
end Go.Proofs.Ytdjagdifemhkpaa
