/- Two lists that tell the same. -/
import Derived.Test.YtiikjflaonhfdaaDoorLookL
namespace Go.Proofs.YtiikjflaonhfdaaDoor
open Go.RowKit

set_option maxHeartbeats 4000000 in
set_option maxRecDepth 100000 in
theorem sameAttrs_any {w : World} {v u : Value} {l : List (ByteArray × ByteArray)} (hv : AttrsAt w v l) (hu : AttrsAt w u l) (hl : l.length ≤ 1099511627776) :
    Calls Tryd.prog 31 #[v, u] w fun e w' => e = .returned (.bool true) ∧ Below w.heap.size w w' := by
  obtain ⟨a, c, rfl, ha⟩ := hv
  obtain ⟨b, d, rfl, hb⟩ := hu
  have HA : Hid _ := ha
  have HB : Hid _ := hb
  clear ha hb
  go_enter Tryd.func31, Tryd.ntmps31
  go_wp2
  go_loopw [5] (fun i wr => ∃ k : Nat, k ≤ l.length ∧ i = .int .i64 k ∧ Hid (Below w.heap.size w wr)) (fun i _ => l.length - (intOf i).toNat)
  case atStart => exact ⟨0, by omega, rfl, Below.refl _ _⟩
  case round =>
    obtain ⟨k, hk, rfl, hbel⟩ := hrel
    by_cases hlt : k < l.length
    · obtain ⟨⟨yn, yv⟩, hy⟩ : ∃ y, l[k]? = some y := ⟨_, List.getElem?_eq_getElem hlt⟩
      obtain ⟨g, rfl, e1, f1⟩ := HA.out k _ hy
      obtain ⟨g2, rfl, e2, f2⟩ := HB.out k _ hy
      have e1' := (hbel.out.cell (p := ⟨g, k * 2, none⟩) (World.block_lt_of_cell? w _ e1)).trans e1
      have e2' := (hbel.out.cell (p := ⟨g2, k * 2, none⟩) (World.block_lt_of_cell? w _ e2)).trans e2
      have f1' := (hbel.out.cell (p := ⟨g, k * 2 + 1, none⟩) (World.block_lt_of_cell? w _ f1)).trans f1
      have f2' := (hbel.out.cell (p := ⟨g2, k * 2 + 1, none⟩) (World.block_lt_of_cell? w _ f2)).trans f2
      dsimp only at e1' e2' f1' f2'
      clear hy e1 e2 f1 f2
      go_wp2
      go_quiet (fail)
      go_wp2
      go_roundw
      case rel => exact ⟨k + 1, by omega, by go_num, below_drewN hbel.out _⟩
      case measure => simp [intOf]; omega
    · go_wp2
      go_ret
      exact ⟨rfl, hbel.out⟩

/-- what is told, as it lies in memory -/
def TldAt (w : World) (v : Value) (l : List Tld) : Prop := ∃ a c, v = .slice a l.length c ∧ ∀ (i : Nat) (x : Tld), l[i]? = some x → (∃ g, a = some ⟨g, 0, none⟩ ∧ w.cell? ⟨g, i * 5, none⟩ = some (.int .i64 x.1.kind) ∧ w.cell? ⟨g, i * 5 + 1, none⟩ = some (.string x.1.tag) ∧ w.cell? ⟨g, i * 5 + 2, none⟩ = some (.string x.1.words) ∧ w.cell? ⟨g, i * 5 + 3, none⟩ = some x.2.1 ∧ w.cell? ⟨g, i * 5 + 4, none⟩ = some x.2.2) ∧ AttrsAt w x.2.1 x.1.attrs ∧ IntsAt w x.2.2 (x.1.kids ++ [x.1.parent])

theorem TldAt.below {w w' : World} {v : Value} {l : List Tld} (h : TldAt w v l) (hb : Below w.heap.size w w') : TldAt w' v l := by
  obtain ⟨a, c, hv, hc⟩ := h
  refine ⟨a, c, hv, fun k y hy => ?_⟩
  obtain ⟨⟨g, e, e0, e1, e2, e3, e4⟩, h1, h2⟩ := hc k y hy
  have t : ∀ {o : Nat} {u : Value}, w.cell? ⟨g, o, none⟩ = some u → w'.cell? ⟨g, o, none⟩ = some u := fun {o u} hu => (hb.cell (World.block_lt_of_cell? w _ hu)).trans hu
  exact ⟨⟨g, e, t e0, t e1, t e2, t e3, t e4⟩, h1.below hb, h2.below hb⟩

set_option maxHeartbeats 8000000 in
set_option maxRecDepth 100000 in
theorem sameTwigs_any {w : World} {v u : Value} {l m : List Tld} {ns : List Nd} (hv : TldAt w v l) (hu : TldAt w u m) (hl : l.map Prod.fst = ns) (hm : m.map Prod.fst = ns) (hn : ns.length ≤ 400) {K : Nat} (hF : Few ns K) (hK : K ≤ 1000) (hk : ∀ (j : Nat) (n : Nd), ns[j]? = some n → n.kids.length ≤ 400) :
    Calls Tryd.prog 13 #[v, u] w fun e w' => e = .returned (.bool true) ∧ Below w.heap.size w w' := by
  have hll : l.length = ns.length := by rw [← hl]; simp
  have hml : m.length = ns.length := by rw [← hm]; simp
  have HA : Hid (∀ w', Below w.heap.size w w' → TldAt w' v l ∧ TldAt w' u m) := fun w' hb => ⟨hv.below hb, hu.below hb⟩
  obtain ⟨a, c, rfl, _⟩ := hv
  obtain ⟨b, d, rfl, _⟩ := hu
  rw [hll, hml] at HA ⊢
  have HL : Hid (l.map Prod.fst = ns) := hl
  have HM : Hid (m.map Prod.fst = ns) := hm
  have HFK : Hid (Few ns K ∧ ∀ (j : Nat) (n : Nd), ns[j]? = some n → n.kids.length ≤ 400) := ⟨hF, hk⟩
  clear hl hm hF hk
  go_enter Tryd.func13, Tryd.ntmps13
  go_wp2
  go_loopw [5] (fun i wr => ∃ k : Nat, k ≤ ns.length ∧ i = .int .i64 k ∧ Hid (Below w.heap.size w wr)) (fun i _ => ns.length - (intOf i).toNat)
  case atStart => exact ⟨0, by omega, rfl, Below.refl _ _⟩
  case round =>
    obtain ⟨k, hk, rfl, hbel⟩ := hrel
    by_cases hlt : k < ns.length
    · obtain ⟨⟨n, v1, v2⟩, hy⟩ : ∃ y, l[k]? = some y := ⟨_, List.getElem?_eq_getElem (by omega)⟩
      obtain ⟨⟨n', u1, u2⟩, hz⟩ : ∃ y, m[k]? = some y := ⟨_, List.getElem?_eq_getElem (by omega)⟩
      have e1 : ns[k]? = some n := by rw [← HL.out]; simp [hy]
      have e2 : ns[k]? = some n' := by rw [← HM.out]; simp [hz]
      obtain rfl := Option.some.inj (e1.symm.trans e2)
      obtain ⟨a', c', hva, hvc⟩ := (HA.out wr hbel.out).1
      obtain ⟨b', d', hua, huc⟩ := (HA.out wr hbel.out).2
      have ha' : a' = a := by injection hva with h _ _; exact h.symm
      have hb' : b' = b := by injection hua with h _ _; exact h.symm
      subst ha' hb'
      clear hva hua
      obtain ⟨⟨g, rfl, p0, p1, p2, p3, p4⟩, p5, p6⟩ := hvc k _ hy
      obtain ⟨⟨g2, rfl, q0, q1, q2, q3, q4⟩, q5, q6⟩ := huc k _ hz
      have hna : n.attrs.length ≤ 1099511627776 := by have := HFK.out.1 k n e1; omega
      have hnk : (n.kids ++ [n.parent]).length ≤ 1099511627776 := by have := HFK.out.2 k n e1; simp; omega
      dsimp only at p6 q6
      obtain ⟨ks, hks⟩ : ∃ ks, n.kids ++ [n.parent] = ks := ⟨_, rfl⟩
      rw [hks] at p6 q6 hnk
      clear hks
      obtain ⟨xa, xc, hx1, _⟩ := id p5
      obtain ⟨ya, yc, hy1, _⟩ := id q5
      obtain ⟨xb, xd, hx2, _⟩ := id p6
      obtain ⟨yb, yd, hy2, _⟩ := id q6
      dsimp only at hx1 hy1 hx2 hy2 p0 p1 p2 p3 p4 q0 q1 q2 q3 q4
      subst hx1 hy1 hx2 hy2
      have HP : Hid (AttrsAt wr (.slice xa n.attrs.length xc) n.attrs ∧ AttrsAt wr (.slice ya n.attrs.length yc) n.attrs ∧ IntsAt wr (.slice xb ks.length xd) ks ∧ IntsAt wr (.slice yb ks.length yd) ks) := ⟨p5, q5, p6, q6⟩
      have HN : Hid _ := And.intro hna hnk
      clear hy hz e1 e2 hvc huc p5 q5 p6 q6 hna hnk
      go_wp2_with fail
      go_region_held3 (fun wx => wx.cell? ⟨g, k * 5 + 3, none⟩ = some (.slice xa n.attrs.length xc) ∧ wx.cell? ⟨g2, k * 5 + 3, none⟩ = some (.slice ya n.attrs.length yc)) (go_keep)
        (first
          | (go_at_call 31; refine (sameAttrs_any (show AttrsAt wr.drew _ _ from HP.out.1) (show AttrsAt wr.drew _ _ from HP.out.2.1) HN.out.1).mono ?_; rintro e w1 ⟨rfl, hB1⟩
             have hc1 : ∀ b o v, wr.cell? ⟨b, o, none⟩ = some v → w1.cell? ⟨b, o, none⟩ = some v := fun b o v hv => (hB1.cell (World.block_lt_of_cell? wr _ hv)).trans hv
             have p0a := hc1 _ _ _ p0
             have p1a := hc1 _ _ _ p1
             have p2a := hc1 _ _ _ p2
             have p4a := hc1 _ _ _ p4
             have q0a := hc1 _ _ _ q0
             have q1a := hc1 _ _ _ q1
             have q2a := hc1 _ _ _ q2
             have q4a := hc1 _ _ _ q4
             have p3a := hc1 _ _ _ p3
             have q3a := hc1 _ _ _ q3
             have H1 : Hid (Below w.heap.size w w1 ∧ Below wr.heap.size wr w1) := ⟨hbel.out.trans (show Below w.heap.size wr w1 from ⟨hB1.os, hB1.tape, hB1.output, hB1.size, (hB1.mono hbel.out.size).block⟩), ⟨hB1.os, hB1.tape, hB1.output, hB1.size, hB1.block⟩⟩
             clear hc1 hB1))
      all_goals go_wp2_with fail
      all_goals go_region_held3 (fun wx => wx.cell? ⟨g, k * 5 + 4, none⟩ = some (.slice xb ks.length xd) ∧ wx.cell? ⟨g2, k * 5 + 4, none⟩ = some (.slice yb ks.length yd)) (go_keep)
        (first
          | (go_at_call 32; have I1 : IntsAt w1 _ _ := HP.out.2.2.1.below H1.out.2; have I2 : IntsAt w1 _ _ := HP.out.2.2.2.below H1.out.2; refine (sameInts_any (show IntsAt w1.drew _ _ from I1) (show IntsAt w1.drew _ _ from I2) HN.out.2).mono ?_; rintro e w2 ⟨rfl, hB2⟩
             have hc2 : ∀ b o v, w1.cell? ⟨b, o, none⟩ = some v → w2.cell? ⟨b, o, none⟩ = some v := fun b o v hv => (hB2.cell (World.block_lt_of_cell? w1 _ hv)).trans hv
             have p0b := hc2 _ _ _ p0a
             have p1b := hc2 _ _ _ p1a
             have p2b := hc2 _ _ _ p2a
             have p4b := hc2 _ _ _ p4a
             have q0b := hc2 _ _ _ q0a
             have q1b := hc2 _ _ _ q1a
             have q2b := hc2 _ _ _ q2a
             have q4b := hc2 _ _ _ q4a
             have H2 : Hid (Below w.heap.size w w2) := H1.out.1.trans (show Below w.heap.size w1 w2 from ⟨hB2.os, hB2.tape, hB2.output, hB2.size, (hB2.mono H1.out.1.size).block⟩)
             clear hc2 hB2 I1 I2))
      all_goals go_wp2_with fail
      all_goals go_quiet (fail)
      all_goals go_wp2
      all_goals go_roundw
      case rel => exact ⟨k + 1, by omega, by go_num, below_drewN H2.out _⟩
      case measure => simp [intOf]; omega
    · go_wp2
      go_ret
      exact ⟨rfl, hbel.out⟩
end Go.Proofs.YtiikjflaonhfdaaDoor
