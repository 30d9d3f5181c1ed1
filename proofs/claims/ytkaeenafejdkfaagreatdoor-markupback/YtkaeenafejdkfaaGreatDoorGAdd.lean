/- The program: what a piece has made is put into the tree. -/
import Derived.Test.YtkaeenafejdkfaaGreatDoorM17
import Derived.Test.YtkaeenafejdkfaaGreatDoorM21
import Derived.Deep.RegionWith
import Derived.Deep.DeepCutAuto
namespace Go.Proofs.YtkaeenafejdkfaaGreatDoor
open Go.RowKit

theorem node_back {ps : List Pn} {ns : List Nd} {i : Nat} {n : Nd} (hn : nodesOf ps = ns) (h : ns[i]? = some n) : ∃ p, ps[i]? = some p ∧ p.n = n := by
  subst hn
  unfold nodesOf at h
  rw [List.getElem?_map] at h
  cases hp : ps[i]? with
  | none => rw [hp] at h; cases h
  | some p => rw [hp] at h; exact ⟨p, rfl, by simpa using h⟩
section
variable {w : World} {gb tb : Nat} {ns : List Nd} {op : List Nat} {tx u : Nat} {M Mo : Nat → Lab}
theorem GS.kids (h : GS w gb tb ns op tx u M Mo) {i : Nat} {n : Nd} (hn : ns[i]? = some n) (hk : n.kids.length ≤ 400) (x : Int) (hx : x = i) :
    Calls Tryz.prog 44 #[.pointer (some ⟨tb, 0, none⟩), .int .i64 x] w fun e w' => (∃ a c, e = .returned (.slice a n.kids.length c)) ∧ Below w.heap.size w w' := by
  subst hx
  obtain ⟨nv, uv, ps, us, h1, h2, h3⟩ := h.tree
  obtain ⟨p, hp, rfl⟩ := node_back h2 hn
  refine (kids_any h1 hp (by omega)).mono ?_
  rintro e w' ⟨v, rfl, ho, hB⟩
  obtain ⟨a, c, rfl⟩ := own_shape ho
  exact ⟨⟨a, c, rfl⟩, hB⟩
theorem GS.put {n : Nd} (h : GS w gb tb (ns ++ [n]) op tx u M Mo) (hW : WF ns) (hl : ns.length < 400) (hn : n.parent = -1) (hk : n.kids = []) {a : Nat} {m : Nd} (ha : ns[a]? = some m) (hkb : kidsB m.kind = true) (hu : u ≤ 1000000) (x : Int) (hx : x = a) :
    Calls Tryz.prog 43 #[.pointer (some ⟨tb, 0, none⟩), .int .i64 x, .int .i64 ns.length, .int .i64 m.kids.length] w fun e w' => e = .returned .nilIface ∧ ∃ M', GS w' gb tb (addN ns a n) op tx (u + 1) M' Mo ∧ GMv gb w M Mo w' M' Mo := by
  subst hx
  obtain ⟨nv, uv, ps, us, h1, h2, h3⟩ := h.tree
  have hlt : a < ns.length := (List.getElem?_eq_some_iff.1 ha).1
  have ha2 : (ns ++ [n])[a]? = some m := by rw [List.getElem?_append_left hlt]; exact ha
  have hnew : (ns ++ [n])[ns.length]? = some n := by simp
  obtain ⟨p, hp, hpn⟩ := node_back h2 hnew
  obtain ⟨q, hq, hqn⟩ := node_back h2 ha2
  obtain ⟨la, hup, hno⟩ := hW.chainNew ha n
  have hoth : (m.kids.length : Int) ≤ others a p q := by
    unfold others
    rw [hpn, hqn, if_neg (by rw [hn]; omega)]
    exact Int.le_refl _
  refine (putG h1 (by rw [h2]; exact hW.snoc hl n hn hk) (by omega) hp hq (by omega) (by rw [hqn]; exact hkb) (by rw [h2]; exact hup) hno hoth).mono ?_
  rintro e w' ⟨rfl, mid, fr, wz, ns', hP, hQ, hW', M', nv', uv', ps', f, hL', hn', hm'⟩
  rw [h2] at hP
  have e := add_is ha hn hP hQ rfl
  subst e
  refine ⟨rfl, M', h.change hL' hn' (by simp; omega) hm'⟩
end
/-- what is done as far as the tree goes -/
def GDone (w : World) (gb tb : Nat) (ns : List Nd) (op : List Nat) (tx u : Nat) (M Mo : Nat → Lab) (w' : World) : Prop := ∃ M' Mo', GS w' gb tb ns op tx u M' Mo' ∧ GMv gb w M Mo w' M' Mo'

set_option maxHeartbeats 4000000 in
set_option maxRecDepth 100000 in
theorem add_good {w : World} {gb tb : Nat} {ns : List Nd} {op : List Nat} {tx u : Nat} {M Mo : Nat → Lab} {n : Nd} (h : GS w gb tb (ns ++ [n]) op tx u M Mo) (hW : WF ns) (hC : Chain ns op) (hl : ns.length < 400) (hn : n.parent = -1) (hk : n.kids = []) (hu : u ≤ 1000000) (hop : op.length ≤ 1000) (k0 : Int) (i0 : Nat) (s1 s2 : ByteArray) (a0 : Option Addr) (l0 c0 : Nat) :
    Calls Tryz.prog 112 #[.pointer (some ⟨gb, 0, none⟩), pcv k0 i0 s1 s2 (.slice a0 l0 c0), .int .i64 ns.length, .nilIface] w fun e w' => e = .returned (.tuple #[]) ∧ GDone w gb tb (addN ns (inn op) n) op 0 (u + 1) M Mo w' := by
  obtain ⟨m, hm, hmk⟩ := hC.inner hW
  have hkb : kidsB m.kind = true := by unfold kidsB; rw [decide_eq_true_eq]; exact hmk
  have hkl := hW.few hm
  have hlt : inn op < ns.length := (List.getElem?_eq_some_iff.1 hm).1
  have hm2 : (ns ++ [n])[inn op]? = some m := by rw [List.getElem?_append_left hlt]; exact hm
  obtain ⟨a, cap, hg, hrow⟩ := h.head
  obtain ⟨d0, d1, d2, df⟩ := three_cells hg
  have hgl := lt_of_heap hg
  have H := hid h
  have HW := hid hW
  have HM := hid hm
  have HM2 := hid hm2
  unfold pcv
  have HB0 : Hid (∀ o, Below w.heap.size w (w.alloc o)) := fun o => (Below.refl _ _).alloc (Nat.le_refl _) _
  cases op with
  | nil =>
    clear h hC hW hm hm2 hrow hg
    go_enter Tryz.func112, Tryz.ntmps112
    go_wp2_with fail
    have H1 := hid (H.out.below (HB0.out (.cells #[.int .i64 k0, .int .i64 i0, .string s1, .string s2, .slice a0 l0 c0] 121)))
    have HV1 : Hid (GMv gb w M Mo (w.alloc (.cells #[.int .i64 k0, .int .i64 i0, .string s1, .string s2, .slice a0 l0 c0] 121)) M Mo) := GMv.below (HB0.out _)
    generalize w.alloc (.cells #[.int .i64 k0, .int .i64 i0, .string s1, .string s2, .slice a0 l0 c0] 121) = w1 at *
    obtain ⟨a1, cap1, hg1, hrow1⟩ := H1.out.head
    obtain ⟨e0, e1, e2, ef⟩ := three_cells hg1
    have hgl1 := lt_of_heap hg1
    clear hg1 hrow1 d0 d1 d2 df H HB0
    go_region_with ((first
      | (go_at_call 44; refine (GS.kids (H1.out.below ((Below.refl _ _).drew)) HM2.out hkl _ rfl).mono ?_; rintro e w2 ⟨⟨ka, kc, rfl⟩, hB2⟩
         have hb2 : w2.cell? ⟨gb, 0, none⟩ = some (.pointer (some ⟨tb, 0, none⟩)) := (((Below.refl _ w1).drew.trans hB2).cell (p := ⟨gb, 0, none⟩) hgl1).trans e0
         have H2 : Hid (GS w2 gb tb (ns ++ [n]) [] tx u M Mo ∧ GMv gb w M Mo w2 M Mo) := ⟨H1.out.below ((Below.refl _ _).drew.trans hB2), HV1.out.trans (GMv.below ((Below.refl _ _).drew.trans hB2))⟩
         clear hB2)
      | (go_at_call 43; refine (GS.put H2.out.1 HW.out hl hn hk HM.out hkb hu _ rfl).mono ?_; rintro e w3 ⟨rfl, M3, hG3, hV3⟩
         have H3 : Hid (GS w3 gb tb (addN ns (inn []) n) [] tx (u + 1) M3 Mo ∧ GMv gb w M Mo w3 M3 Mo) := ⟨hG3, H2.out.2.trans hV3⟩
         obtain ⟨a3, cap3, hg3, _⟩ := hG3.head
         obtain ⟨f0, f1, f2, ff⟩ := three_cells hg3
         clear hG3 hV3 hg3)))
    all_goals go_wp2_with fail
    all_goals
      go_end0
      obtain ⟨z1, z2⟩ := H3.out.1.text 0 0 rfl
      exact ⟨rfl, M3, Mo, z1, H3.out.2.trans z2⟩
  | cons k l =>
    obtain ⟨g0, cap0, hav, hc1, hc2, hM0, hl0⟩ := hrow.form (by simp)
    cases hav
    have hrc := hrow.cell rfl (j := l.length) (u := intV k) (by simp)
    obtain ⟨q0, q1⟩ := hrc
    unfold intV at q0
    unfold maxLen at hc2
    have hlen : (k :: l).length = l.length + 1 := rfl
    simp only [hlen] at *
    have hinn : inn (k :: l) = k := rfl
    clear h hC hW hm hm2 hrow hg
    go_enter Tryz.func112, Tryz.ntmps112
    go_wp2_with fail
    go_quiet (fail)
    go_wp2_with fail
    have H1 := hid (H.out.below (below_dr (HB0.out (.cells #[.int .i64 k0, .int .i64 i0, .string s1, .string s2, .slice a0 l0 c0] 121)) nq))
    have HV1 : Hid (GMv gb w M Mo ((w.alloc (.cells #[.int .i64 k0, .int .i64 i0, .string s1, .string s2, .slice a0 l0 c0] 121)).drewN nq) M Mo) := GMv.below (below_dr (HB0.out _) nq)
    generalize (w.alloc (.cells #[.int .i64 k0, .int .i64 i0, .string s1, .string s2, .slice a0 l0 c0] 121)).drewN nq = w1 at *
    obtain ⟨a1, cap1, hg1, hrow1⟩ := H1.out.head
    obtain ⟨e0, e1, e2, ef⟩ := three_cells hg1
    have hgl1 := lt_of_heap hg1
    clear hg1 hrow1 d0 d1 d2 df H HB0 q0 q1
    go_region_with ((first
      | (go_at_call 44; refine (GS.kids (H1.out.below ((Below.refl _ _).drew)) HM2.out hkl _ rfl).mono ?_; rintro e w2 ⟨⟨ka, kc, rfl⟩, hB2⟩
         have hb2 : w2.cell? ⟨gb, 0, none⟩ = some (.pointer (some ⟨tb, 0, none⟩)) := (((Below.refl _ w1).drew.trans hB2).cell (p := ⟨gb, 0, none⟩) hgl1).trans e0
         have H2 : Hid (GS w2 gb tb (ns ++ [n]) (k :: l) tx u M Mo ∧ GMv gb w M Mo w2 M Mo) := ⟨H1.out.below ((Below.refl _ _).drew.trans hB2), HV1.out.trans (GMv.below ((Below.refl _ _).drew.trans hB2))⟩
         clear hB2)
      | (go_at_call 43; refine (GS.put H2.out.1 HW.out hl hn hk HM.out hkb hu _ rfl).mono ?_; rintro e w3 ⟨rfl, M3, hG3, hV3⟩
         have H3 : Hid (GS w3 gb tb (addN ns (inn (k :: l)) n) (k :: l) tx (u + 1) M3 Mo ∧ GMv gb w M Mo w3 M3 Mo) := ⟨hG3, H2.out.2.trans hV3⟩
         obtain ⟨a3, cap3, hg3, _⟩ := hG3.head
         obtain ⟨f0, f1, f2, ff⟩ := three_cells hg3
         clear hG3 hV3 hg3)))
    all_goals go_wp2_with fail
    all_goals
      go_end0
      obtain ⟨z1, z2⟩ := H3.out.1.text 0 0 rfl
      exact ⟨rfl, M3, Mo, z1, H3.out.2.trans z2⟩
/-- a bound was passed at a place -/
def Thrown (i : Nat) (bv : Value) (e : Ending) (w' : World) : Prop := ∃ fb, e = .panicked [{ v := .iface 114 (.agg #[.iface 69 (.pointer (some ⟨fb, 0, none⟩))]), recovered := false }] ∧ w'.heap[fb]? = some (.cells #[.int .i64 i, bv] 71 (0, 0))
set_option maxHeartbeats 4000000 in
set_option maxRecDepth 100000 in
theorem add_bad {w : World} {gb : Nat} (t : TypeId) (x : Addr) (bv : Value) (hbv : ∃ t2 x2, bv = .iface t2 (.pointer (some x2))) (hb : w.cell? ⟨0, 0, none⟩ = some bv) (k0 : Int) (i0 : Nat) (s1 s2 : ByteArray) (a0 : Option Addr) (l0 c0 : Nat) (id : Int) :
    Calls Tryz.prog 112 #[.pointer (some ⟨gb, 0, none⟩), pcv k0 i0 s1 s2 (.slice a0 l0 c0), .int .i64 id, .iface t (.pointer (some x))] w fun e w' => Thrown i0 bv e w' ∧ Below w.heap.size w w' := by
  obtain ⟨t2, x2, rfl⟩ := hbv
  have hl := World.block_lt_of_cell? w _ hb
  unfold pcv
  go_enter Tryz.func112, Tryz.ntmps112
  go_wp2_with fail
  refine ⟨rfl, ⟨w.heap.size + 1, rfl, ?_⟩, ((Below.refl _ _).alloc (Nat.le_refl _) _).alloc (by simp) _⟩
  have := heap_alloc_new (w.alloc (.cells #[.int .i64 k0, .int .i64 i0, .string s1, .string s2, .slice a0 l0 c0] 121)) (.cells #[.int .i64 i0, .iface t2 (.pointer (some x2))] 71)
  rw [World.size_alloc] at this
  exact this
end Go.Proofs.YtkaeenafejdkfaaGreatDoor
