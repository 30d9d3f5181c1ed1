/- The document's builder: a text. -/
import Derived.Test.YtnoaojjljcbflaaGreatDoorM36
import Derived.BigQuiet
import Derived.Test.YtnoaojjljcbflaaGreatDoorM28
import Derived.Test.YtnoaojjljcbflaaGreatDoorM29
import Derived.Test.YtnoaojjljcbflaaGreatDoorM12
namespace Go.Proofs.YtnoaojjljcbflaaGreatDoor
open Go.RowKit

/-- what adding made of a builder -/
def BOut (B : World) (bb : Nat) (ns : List Nd) (p : Nat) (c a : Int) (U : Nat) (fr : Nat) (w : World) (M : Nat → Lab) (R : Option (List Nd)) (w' : World) : Prop :=
  ∃ M', Moved w M w' M' ∧ match R with
    | some ns' => BAt B bb ns' p c a (U + 2) w' M'
    | none => BAt B bb ns p (if c = 0 then 2 else c) (if c = 0 then (fr : Int) else a) (U + 2) w' M'
theorem bput_any {B w : World} {bb U : Nat} {ns : List Nd} {c a : Int} {M : Nat → Lab} {op : List Nat} {i : Nat} (h : BAt B bb ns (inn op) c a U w M) (hI : Inv ns op i) (hi : i ≤ 20000) (hU : U ≤ 1000000) (kind : Int) (s : ByteArray) (hk : ¬ kind = 2) (hs : s.size ≤ 20000) (fr : Nat) :
    Calls Tryz.prog 24 #[.pointer (some ⟨bb, 0, none⟩), .int .i64 kind, .string s, .int .i64 fr] w fun e w' => (∃ z : Int, e = .returned (.int .i64 z)) ∧ BOut B bb ns (inn op) c a U fr w M (if ns.length < 400 then some (addN ns (inn op) (mkN kind s)) else none) w' := by
  by_cases hl : ns.length < 400
  · rw [if_pos hl]
    refine (bput_good h hI hi hU hl kind s (.inr ⟨hk, hs⟩) fr).mono ?_
    rintro e w' ⟨rfl, M', h1, h2⟩
    exact ⟨⟨_, rfl⟩, M', h2, h1⟩
  · rw [if_neg hl]
    have := hI.wf.len
    refine (bput_bad h hI.wf (by omega) kind s (by omega) (fun e => absurd e hk) fr).mono ?_
    rintro e w' ⟨rfl, h1, h2⟩
    exact ⟨⟨_, rfl⟩, M, h2, h1.mono (by omega)⟩

theorem last_get {l : List Int} {z : Int} (h : l.getLast? = some z) : 0 < l.length ∧ l[l.length - 1]? = some z := by
  rw [List.getLast?_eq_getElem?] at h
  have := (List.getElem?_eq_some_iff.1 h).1
  exact ⟨by omega, h⟩

set_option maxHeartbeats 8000000 in
set_option maxRecDepth 100000 in
theorem btext_put {B w : World} {bb U : Nat} {ns : List Nd} {c a : Int} {M : Nat → Lab} {op : List Nat} {i : Nat} (h : BAt B bb ns (inn op) c a U w M) (hI : Inv ns op i) (hi : i ≤ 20000) (hU : U ≤ 1000000) (t : ByteArray) (hte : t ≠ ⟨#[]⟩) (ht : t.size ≤ 20000) (fr : Nat) (hx : textAt ns (inn op) = none) :
    Calls Tryz.prog 23 #[.pointer (some ⟨bb, 0, none⟩), .string t, .int .i64 fr] w fun e w' => e = .returned (.tuple #[]) ∧ BOut B bb ns (inn op) c a U fr w M (textM ns (inn op) t) w' := by
  have hR : textM ns (inn op) t = (if ns.length < 400 then some (addN ns (inn op) (mkN 3 t)) else none) := by
    unfold textM; rw [hx]; rfl
  rw [hR]
  obtain ⟨R, hRR⟩ : ∃ R, R = (if ns.length < 400 then some (addN ns (inn op) (mkN 3 t)) else none) := ⟨_, rfl⟩
  have hput := fun (w1 : World) (hb : Below w.heap.size w w1) => bput_any (h.below hb) hI hi hU 3 t (by decide) ht fr
  rw [← hRR] at hput ⊢
  obtain ⟨m, hm, hmk⟩ := hI.chain.inner hI.wf
  clear hmk
  have hW := hI.wf
  obtain ⟨nb, cap, hS⟩ := h.see hW
  have c0 := hS.c0
  have c2 := hS.c2
  have z1 := hS.le
  have z2 := hS.mx
  have z3 := hS.lt
  have z4 := hS.nlt
  obtain ⟨ka, kc, k5, k6, k7, hks⟩ := hS.ks _ _ hm
  have hpl := (List.getElem?_eq_some_iff.1 hm).1
  have i1 : (0 : Int) ≤ (inn op : Int) := by omega
  have i2 : (inn op : Int) < (ns.length : Int) := by omega
  have hq : (t.toList == []) = false := by
    rw [beq_eq_false_iff_ne]; intro e; exact hte (toList_inj' (e.trans (by rw [Lib.toList_data])))
  have HP : Hid (∀ w1, Below w.heap.size w w1 → Calls Tryz.prog 24 #[.pointer (some ⟨bb, 0, none⟩), .int .i64 3, .string t, .int .i64 fr] w1 fun e w' => (∃ z : Int, e = .returned (.int .i64 z)) ∧ BOut B bb ns (inn op) c a U fr w M R w') := hid (fun w1 hb => (hput w1 hb).mono (by
    rintro e w' ⟨h1, M', h2, h3⟩
    exact ⟨h1, M', ((Moved.refl w M).below hb).trans h2, h3⟩))
  have HB := hid hte
  have hw4 := hW.len
  rcases hkl : m.kids.getLast? with _ | z
  · have hk0 : m.kids.length = 0 := by rw [List.getLast?_eq_none_iff] at hkl; rw [hkl]; rfl
    rw [hk0] at k5
    clear h hI hx hR hRR hput hm hW hS hks hkl hte hpl hk0 k6 hw4
    generalize inn op = p at *
    go_enter Tryz.func23, Tryz.ntmps23
    go_wp2_with fail
    go_still_tail 12, (by kernel_rfl)
    go_wp2_with fail
    go_quiet (fail)
    go_wp2_with (go_at_call 24; refine (HP.out _ (below_drewN (Below.refl _ _) _)).mono ?_; rintro e w3 ⟨⟨z, rfl⟩, hO⟩; have HO := hid hO; clear hO)
    go_end0
    exact ⟨rfl, HO.out⟩
  · obtain ⟨hk0, hk1⟩ := last_get hkl
    obtain ⟨L, hL⟩ : ∃ L, m.kids.length = L + 1 := ⟨m.kids.length - 1, by omega⟩
    have hk2 : m.kids[L]? = some z := by rw [hL] at hk1; exact hk1
    obtain ⟨g, rfl, hgl, kg⟩ := hks L z hk2
    obtain ⟨kk, n, rfl, hn, _⟩ := hW.kid _ _ hm z (List.mem_of_getLast? hkl)
    have hn3 : ¬ n.kind = 3 := by
      intro e
      unfold textAt at hx
      rw [hm] at hx
      simp only [hkl, Int.toNat_natCast, hn, e, if_true] at hx
      cases hx
    have kk0 := (hS.nd _ _ hn).1
    have hkl2 := (List.getElem?_eq_some_iff.1 hn).1
    have i3 : (0 : Int) ≤ (kk : Int) := by omega
    have i4 : (kk : Int) < (ns.length : Int) := by omega
    have b3 : (n.kind == 3) = false := by rw [beq_eq_false_iff_ne]; exact hn3
    rw [hL] at k5
    obtain ⟨kd, hkd⟩ : ∃ kd, kd = n.kind := ⟨_, rfl⟩
    rw [← hkd] at kk0 b3
    have hLc : L + 1 ≤ kc := by omega
    have j1 : (0 : Int) ≤ (L : Int) := by omega
    have j2 : (L : Int) < (L : Int) + 1 := by omega
    clear h hI hx hR hRR hput hm hW hS hks hkl hte hpl hk0 k6 hw4 hk1 hk2 hn hn3 hL hkd hkl2
    generalize inn op = p at *
    go_enter Tryz.func23, Tryz.ntmps23
    go_wp2_with fail
    go_still_tail 12, (by kernel_rfl)
    go_wp2_with fail
    go_quiet (fail)
    go_wp2_with (go_at_call 24; refine (HP.out _ (below_drewN (Below.refl _ _) _)).mono ?_; rintro e w3 ⟨⟨z, rfl⟩, hO⟩; have HO := hid hO; clear hO)
    go_end0
    exact ⟨rfl, HO.out⟩

theorem BAt.join {B w : World} {bb p U : Nat} {ns : List Nd} {c a : Int} {M : Nat → Lab} (h : BAt B bb ns p c a U w M) (hW : WF ns) {nb l cap : Nat} (hS : w.cell? ⟨bb, 0, none⟩ = some (.slice (some ⟨nb, 0, none⟩) l cap)) {k : Nat} {n : Nd} (hk : ns[k]? = some n) (t : ByteArray) : BAt B bb (joinT ns k t) p c a U (w.setCell ⟨nb, k * 6 + 2, none⟩ (.string (n.words ++ t))) M ∧ Moved w M (w.setCell ⟨nb, k * 6 + 2, none⟩ (.string (n.words ++ t))) M := by
  obtain ⟨nv, uv, ps, us, h1, rfl, h3, h4⟩ := h
  obtain ⟨q, hq, rfl⟩ := nodesOf_get hk
  obtain ⟨nb2, cap2, rfl, _, _, _, _, _⟩ := RLies.form (EX := bExt p c a) h1 hq
  have e : nb2 = nb := by
    rw [RLies.cell0 (EX := bExt p c a) h1] at hS
    simp at hS
    exact hS.1
  subst e
  have hnd := RLies.node (EX := bExt p c a) h1 k q hq
  obtain ⟨r1, r2⟩ := RLies.setNode (EX := bExt p c a) h1 rfl (f := 2) (c := .string (q.n.words ++ t)) hq (by omega) (p' := ⟨{ q.n with words := q.n.words ++ t }, q.av, q.kv⟩) rfl hnd.1 hnd.2
  have mv := r2.moved (by intro e; cases e)
  refine ⟨⟨_, uv, _, us, r1, ?_, h3, h4.trans mv⟩, mv⟩
  unfold joinT
  rw [hk]
  simp [nodesOf, List.map_set]

set_option maxHeartbeats 8000000 in
set_option maxRecDepth 100000 in
theorem btext_join {B w : World} {bb U : Nat} {ns : List Nd} {c a : Int} {M : Nat → Lab} {op : List Nat} {i : Nat} (h : BAt B bb ns (inn op) c a U w M) (hI : Inv ns op i) (hi : i ≤ 20000) (t : ByteArray) (hte : t ≠ ⟨#[]⟩) (ht : t.size ≤ 20000) (fr : Nat) {k : Nat} (hx : textAt ns (inn op) = some k) :
    Calls Tryz.prog 23 #[.pointer (some ⟨bb, 0, none⟩), .string t, .int .i64 fr] w fun e w' => e = .returned (.tuple #[]) ∧ BOut B bb ns (inn op) c a U fr w M (textM ns (inn op) t) w' := by
  have hR : textM ns (inn op) t = some (joinT ns k t) := by unfold textM; rw [hx]
  rw [hR]
  obtain ⟨m, hm, hmk⟩ := hI.chain.inner hI.wf
  clear hmk
  have hW := hI.wf
  obtain ⟨z, n, hkl, hn, hn3, hzk⟩ : ∃ z n, m.kids.getLast? = some z ∧ ns[k]? = some n ∧ n.kind = 3 ∧ z.toNat = k := by
    unfold textAt at hx
    rw [hm] at hx
    simp only at hx
    split at hx
    · rename_i z hz
      split at hx
      · rename_i n hn
        split at hx
        · rename_i h3
          obtain rfl := Option.some.inj hx
          exact ⟨z, n, hz, hn, h3, rfl⟩
        · cases hx
      · cases hx
    · cases hx
  obtain ⟨kk, n', rfl, _, _⟩ := hW.kid _ _ hm z (List.mem_of_getLast? hkl)
  obtain rfl : kk = k := by simpa using hzk
  have hwn := hI.words kk n hn
  obtain ⟨nb, cap, hS⟩ := h.see hW
  have HO : Hid (∀ w1, Below w.heap.size w w1 → BAt B bb (joinT ns kk t) (inn op) c a U (w1.setCell ⟨nb, kk * 6 + 2, none⟩ (.string (n.words ++ t))) M ∧ Moved w M (w1.setCell ⟨nb, kk * 6 + 2, none⟩ (.string (n.words ++ t))) M) := hid (fun w1 hb => by
    obtain ⟨q1, q2⟩ := (h.below hb).join hW ((hb.cell (p := ⟨bb, 0, none⟩) hS.lt).trans hS.c0) hn t
    exact ⟨q1, ((Moved.refl w M).below hb).trans q2⟩)
  have c0 := hS.c0
  have c2 := hS.c2
  have z1 := hS.le
  have z2 := hS.mx
  have z3 := hS.lt
  have z4 := hS.nlt
  obtain ⟨ka, kc, k5, k6, k7, hks⟩ := hS.ks _ _ hm
  have hpl := (List.getElem?_eq_some_iff.1 hm).1
  have i1 : (0 : Int) ≤ (inn op : Int) := by omega
  have i2 : (inn op : Int) < (ns.length : Int) := by omega
  have hq : (t.toList == []) = false := by
    rw [beq_eq_false_iff_ne]; intro e; exact hte (toList_inj' (e.trans (by rw [Lib.toList_data])))
  obtain ⟨hk0, hk1⟩ := last_get hkl
  obtain ⟨L, hL⟩ : ∃ L, m.kids.length = L + 1 := ⟨m.kids.length - 1, by omega⟩
  have hk2 : m.kids[L]? = some (kk : Int) := by rw [hL] at hk1; exact hk1
  obtain ⟨g, rfl, hgl, kg⟩ := hks L _ hk2
  obtain ⟨kk0, _, kk2, _⟩ := hS.nd _ _ hn
  have kf2 := hS.nf _ _ 2 hn (by omega)
  rw [hn3] at kk0
  have hkl2 := (List.getElem?_eq_some_iff.1 hn).1
  have i3 : (0 : Int) ≤ (kk : Int) := by omega
  have i4 : (kk : Int) < (ns.length : Int) := by omega
  rw [hL] at k5
  obtain ⟨wd, hwd⟩ : ∃ wd, wd = n.words := ⟨_, rfl⟩
  rw [← hwd] at kk2 HO hwn
  have hLc : L + 1 ≤ kc := by omega
  have j1 : (0 : Int) ≤ (L : Int) := by omega
  have j2 : (L : Int) < (L : Int) + 1 := by omega
  have h9 : ¬ wd.size + t.size > 9223372036854775807 := by omega
  have HS := hid hS
  clear h hI hx hR hm hW hS hks hkl hte hpl hk0 k6 hk1 hk2 hn hn3 hL hkl2 hwd hzk
  generalize inn op = p at *
  generalize joinT ns kk t = JN at *
  go_enter Tryz.func23, Tryz.ntmps23
  go_wp2_with fail
  go_still_tail 12, (by kernel_rfl)
  go_wp2_with fail
  go_quiet (fail)
  go_wp2_with fail
  generalize hw1 : w.drewN _ = w1
  have hb : Below w.heap.size w w1 := by rw [← hw1]; exact below_drewN (Below.refl _ _) _
  have d0 := (hb.cell (p := ⟨bb, 0, none⟩) z3).trans c0
  have d2 := (hb.cell (p := ⟨nb, kk * 6 + 2, none⟩) z4).trans kk2
  have df : w1.frozen? ⟨nb, kk * 6 + 2, none⟩ = false := by
    rw [← kf2]; unfold World.frozen?; rw [hb.block nb z4]
  have y3 : bb < w1.heap.size := Nat.lt_of_lt_of_le z3 hb.size
  have y4 : nb < w1.heap.size := Nat.lt_of_lt_of_le z4 hb.size
  have HB := hid hb
  clear hw1 hb c0 c2 k5 kg kk0 kk2 kf2 z3 z4 hgl HS
  go_still_tail 19, (by kernel_rfl)
  go_wp2_with fail
  refine bodyPost_ret (results_none rfl _ _ _) rfl ?_
  obtain ⟨q1, q2⟩ := HO.out _ (HB.out.drew)
  exact ⟨rfl, M, q2, q1.mono (by omega)⟩

theorem btext_any {B w : World} {bb U : Nat} {ns : List Nd} {c a : Int} {M : Nat → Lab} {op : List Nat} {i : Nat} (h : BAt B bb ns (inn op) c a U w M) (hI : Inv ns op i) (hi : i ≤ 20000) (hU : U ≤ 1000000) (t : ByteArray) (hte : t ≠ ⟨#[]⟩) (ht : t.size ≤ 20000) (fr : Nat) :
    Calls Tryz.prog 23 #[.pointer (some ⟨bb, 0, none⟩), .string t, .int .i64 fr] w fun e w' => e = .returned (.tuple #[]) ∧ BOut B bb ns (inn op) c a U fr w M (textM ns (inn op) t) w' := by
  cases hx : textAt ns (inn op) with
  | none => exact btext_put h hI hi hU t hte ht fr hx
  | some k => exact btext_join h hI hi t hte ht fr hx

set_option maxHeartbeats 8000000 in
set_option maxRecDepth 100000 in
theorem btext_nil {B w : World} {bb U : Nat} {ns : List Nd} {c a : Int} {M : Nat → Lab} {op : List Nat} {i : Nat} (h : BAt B bb ns (inn op) c a U w M) (hI : Inv ns op i) (fr : Nat) :
    Calls Tryz.prog 23 #[.pointer (some ⟨bb, 0, none⟩), .string ⟨#[]⟩, .int .i64 fr] w fun e w' => e = .returned (.tuple #[]) ∧ BAt B bb ns (inn op) c a U w' M ∧ Moved w M w' M := by
  obtain ⟨m, hm, hmk⟩ := hI.chain.inner hI.wf
  clear hmk
  have hW := hI.wf
  obtain ⟨nb, cap, hS⟩ := h.see hW
  have c0 := hS.c0
  have c2 := hS.c2
  have z1 := hS.le
  have z2 := hS.mx
  have z3 := hS.lt
  have z4 := hS.nlt
  obtain ⟨ka, kc, k5, k6, k7, hks⟩ := hS.ks _ _ hm
  have hpl := (List.getElem?_eq_some_iff.1 hm).1
  have i1 : (0 : Int) ≤ (inn op : Int) := by omega
  have i2 : (inn op : Int) < (ns.length : Int) := by omega
  have H := hid h
  have hq : ((⟨#[]⟩ : ByteArray).toList == []) = true := by rw [Lib.toList_data]; rfl
  clear h hI hm hW hS hks hpl
  generalize inn op = p at *
  go_enter Tryz.func23, Tryz.ntmps23
  go_wp2_with fail
  go_still_tail 12, (by kernel_rfl)
  go_wp2_with fail
  refine bodyPost_ret (results_none rfl _ _ _) rfl ?_
  exact ⟨rfl, H.out.below ((Below.refl _ _).drew), (Moved.refl _ _).below ((Below.refl _ _).drew)⟩
end Go.Proofs.YtnoaojjljcbflaaGreatDoor

/- The document's builder: how many are open; an end tag. -/
namespace Go.Proofs.YtnoaojjljcbflaaGreatDoor
open Go.RowKit

set_option maxHeartbeats 4000000 in
set_option maxRecDepth 100000 in
theorem deep_any {B w : World} {bb U : Nat} {ns : List Nd} {c a : Int} {M : Nat → Lab} {op : List Nat} (h : BAt B bb ns (inn op) c a U w M) (hW : WF ns) (hc : Chain ns op) (hl : op.length ≤ 40) :
    Calls Tryz.prog 67 #[.pointer (some ⟨bb, 0, none⟩)] w fun e w' => e = .returned (.int .i64 op.length) ∧ w' = w := by
  obtain ⟨nb, cap, hS⟩ := h.see hW
  obtain ⟨L, hLe⟩ : ∃ L, L = op.length := ⟨_, rfl⟩
  rw [← hLe] at hl ⊢
  have HL := hid hLe
  obtain ⟨p, hp⟩ : ∃ p, p = inn op := ⟨_, rfl⟩
  rw [← hp] at hS
  have c0 := hS.c0
  have c2 := hS.c2
  have hle := hS.le
  have hmx := hS.mx
  have hw4 := hW.len
  have HW := hid hW
  have HN := hid hS.nd
  have HC := hid hc
  have HP := hid hp
  clear h hc hW hS hp hLe
  go_enter Tryz.func67, Tryz.ntmps67
  go_wp2
  go_loopg [3, 4] L (fun g n k wr => wr = w ∧ ∃ (l : List Nat) (x m : Nat), n = .int .i64 m ∧ k = .int .i64 x ∧ m + l.length = L ∧ l.length = g ∧ Hid (x = inn l) ∧ Hid (Chain ns l))
  case atStart => exact ⟨rfl, op, p, 0, rfl, rfl, by rw [HL.out]; omega, HL.out.symm, HP, HC⟩
  case round =>
    obtain ⟨rfl, l, x, m, rfl, rfl, hm, hg, hx, hcl⟩ := hrel
    cases l with
    | nil =>
      have ex : x = 0 := hx.out
      subst ex
      have em : m = L := by simpa using hm
      subst em
      go_wp2
      go_ret
      exact ⟨rfl, rfl⟩
    | cons y l =>
      have ex : x = y := hx.out
      subst ex
      have hpos := chain_pos HW.out hcl.out
      cases hcl.out with
      | cons hk h2 hpar hm2 hl2 hc2 =>
        rename_i n m2
        have c4 := (HN.out _ _ hk).2.2.2
        rw [hpar] at c4
        obtain ⟨y2, hy2⟩ : ∃ y2, y2 = inn l := ⟨_, rfl⟩
        rw [← hy2] at c4
        have hxl : x < ns.length := (List.getElem?_eq_some_iff.1 hk).1
        have HY := hid hy2
        have HC2 := hid hc2
        have p1 : (0 : Int) < (x : Int) := by omega
        rw [List.length_cons] at hm hg
        clear hk h2 hpar hm2 hl2 hc2 hy2 hx hcl n m2
        go_wp2
        go_roundg l.length
        case measure => omega
        case rel => exact ⟨rfl, l, y2, m + 1, by go_num, rfl, by omega, rfl, HY, HC2⟩

set_option maxHeartbeats 4000000 in
set_option maxRecDepth 100000 in
theorem bend_any {B w : World} {bb U : Nat} {ns : List Nd} {c a : Int} {M : Nat → Lab} {op : List Nat} (h : BAt B bb ns (inn op) c a U w M) (hW : WF ns) (hc : Chain ns op) (name : ByteArray) :
    Calls Tryz.prog 25 #[.pointer (some ⟨bb, 0, none⟩), .string name] w fun e w' => e = .returned (.tuple #[]) ∧ BAt B bb ns (inn (shutM ns (inL [name]) (inL []) op op)) c a U w' M ∧ Moved w M w' M := by
  obtain ⟨nb, cap, hS⟩ := h.see hW
  obtain ⟨R, hR⟩ : ∃ R, R = shutM ns (inL [name]) (inL []) op op := ⟨_, rfl⟩
  rw [← hR]
  have HR := hid hR
  obtain ⟨p, hp⟩ : ∃ p, p = inn op := ⟨_, rfl⟩
  rw [← hp] at hS h
  have c0 := hS.c0
  have c2 := hS.c2
  have hfr := hS.fr 2
  have hbl := hS.lt
  have hle := hS.le
  have hmx := hS.mx
  have hw4 := hW.len
  have HW := hid hW
  have HN := hid hS.nd
  have HC := hid hc
  have HP := hid hp
  have H := hid h
  clear h hc hW hS hp hR
  go_enter Tryz.func25, Tryz.ntmps25
  go_wp2
  go_loopg [4] op.length (fun g k wr => wr = w ∧ ∃ (l : List Nat) (x : Nat), k = .int .i64 x ∧ l.length = g ∧ Hid (x = inn l) ∧ Hid (Chain ns l) ∧ Hid (R = shutM ns (inL [name]) (inL []) op l))
  case atStart => exact ⟨rfl, op, p, rfl, rfl, HP, HC, HR⟩
  case round =>
    obtain ⟨rfl, l, x, rfl, hg, hx, hcl, hrl⟩ := hrel
    cases l with
    | nil =>
      have ex : x = 0 := hx.out
      subst ex
      have HE : Hid (inn R = p) := hid (by rw [hrl.out]; exact HP.out.symm)
      go_wp2
      go_end0
      exact ⟨rfl, by rw [HE.out]; exact H.out, Moved.refl _ _⟩
    | cons y l =>
      have ex : x = y := hx.out
      subst ex
      have hpos := chain_pos HW.out hcl.out
      cases hcl.out with
      | cons hk h2 hpar hm2 hl2 hc2 =>
        rename_i n m2
        obtain ⟨k0, k1, k2, c4⟩ := HN.out _ _ hk
        clear k2
        rw [hpar] at c4
        obtain ⟨y2, hy2⟩ : ∃ y2, y2 = inn l := ⟨_, rfl⟩
        rw [← hy2] at c4
        obtain ⟨tg, htg⟩ : ∃ tg, tg = n.tag := ⟨_, rfl⟩
        rw [← htg] at k1
        have htag : tagOf ns x = tg := by unfold tagOf; rw [hk, htg]
        have hxl : x < ns.length := (List.getElem?_eq_some_iff.1 hk).1
        have HY := hid hy2
        have HC2 := hid hc2
        have p1 : (0 : Int) < (x : Int) := by omega
        rw [List.length_cons] at hg
        have hin0 : inL [] tg = false := by
          cases e : inL [] tg
          · rfl
          · have := (Lib.containsS_iff _ _).1 e
            simp at this
        by_cases he : tg = name
        · subst he
          have HRR : Hid (R = l) := hid (by
            rw [hrl.out]
            unfold shutM
            rw [htag, if_pos (show inL [tg] tg = true from (Lib.containsS_iff _ _).2 (by simp))])
          have HRI : Hid (y2 = inn R) := hid (by rw [HRR.out]; exact HY.out)
          clear hk h2 hpar hm2 hl2 hc2 hy2 hx hcl htg htag hrl n m2 k0
          go_wp2
          refine bodyPost_ret (results_none rfl _ _ _) rfl ?_
          obtain ⟨nv, uv, ps, us, g1, g2, g3, g4⟩ := H.out
          obtain ⟨q1, q2⟩ := BL.set (q := y2) (c' := c) (a' := a) g1 (o := 2) (v := .int .i64 y2) rfl
          exact ⟨rfl, by rw [← HRI.out]; exact ⟨nv, uv, ps, us, q1, g2, g3, g4.trans q2⟩, q2⟩
        · have hbq : (tg.toList == name.toList) = false := by rw [beq_eq_false_iff_ne]; exact fun e => he (toList_inj' e)
          have HRR : Hid (R = shutM ns (inL [name]) (inL []) op l) := hid (by
            rw [hrl.out, shutM, htag, if_neg (fun e : inL [name] tg = true => he (by have := (Lib.containsS_iff _ _).1 e; simpa using this)), hin0]
            simp)
          clear hk h2 hpar hm2 hl2 hc2 hy2 hx hcl htg htag hrl n m2 k0 he
          go_wp2
          go_roundg l.length
          case measure => omega
          case rel => exact ⟨rfl, l, y2, rfl, rfl, HY, HC2, HRR⟩
end Go.Proofs.YtnoaojjljcbflaaGreatDoor

/- The document's answer: whether a text is among others; elements without kids; what a start tag closes. -/
namespace Go.Proofs.YtnoaojjljcbflaaGreatDoor
open Go.RowKit

set_option maxHeartbeats 4000000 in
set_option maxRecDepth 100000 in
theorem among_any {w : World} {v : Value} {A : List ByteArray} (h : StrsAt w v A) (x : ByteArray) :
    Calls Tryz.prog 65 #[.string x, v] w fun e w' => e = .returned (.bool (inL A x)) ∧ w' = w := by
  obtain ⟨r, hr⟩ : ∃ r, r = inL A x := ⟨_, rfl⟩
  rw [← hr]
  have hiff : r = true ↔ x ∈ A := by rw [hr]; exact Lib.containsS_iff _ _
  obtain ⟨a, n, c, rfl, hn, hcell, hcc⟩ : ∃ a n c, v = .slice a n c ∧ n = A.length ∧ (∀ j, j < n → ∃ b, a = some ⟨b, 0, none⟩ ∧ b < w.heap.size ∧ w.cell? ⟨b, j, none⟩ = some (.string (A.getD j ByteArray.empty))) ∧ n ≤ 100 := by
    rcases h with ⟨rfl, a, c, rfl⟩ | ⟨b, c, rfl, h2, h3, h4⟩
    · exact ⟨a, 0, c, rfl, rfl, fun j hj => by omega, by omega⟩
    · exact ⟨_, _, c, rfl, rfl, fun j hj => ⟨b, rfl, h3, h4 j hj⟩, h2⟩
  have HN := hid hn
  have HI := hid hiff
  have HCL := hid hcell
  clear hr h hn hiff hcell
  go_enter Tryz.func65, Tryz.ntmps65
  go_wp2
  go_loop [5] (fun i => ∃ k : Nat, k ≤ n ∧ i = .int .i64 k ∧ Hid (∀ j, j < k → A.getD j ByteArray.empty ≠ x)) (fun i => n - (intOf i).toNat)
  case atStart => exact ⟨0, by omega, rfl, hid (fun j hj => by omega)⟩
  case round =>
    obtain ⟨k, hk, rfl, hno⟩ := hrel
    by_cases hlt : k < n
    · obtain ⟨b, rfl, hbl, hcell⟩ := HCL.out k hlt
      obtain ⟨y, hy⟩ : ∃ y, y = A.getD k ByteArray.empty := ⟨_, rfl⟩
      rw [← hy] at hcell
      have HY := hid hy
      clear hy
      have i1 : (k : Int) < (n : Int) := by omega
      by_cases he : y = x
      · subst he
        have HR : Hid (r = true) := hid (HI.out.2 (by
          rw [HY.out, List.getD_eq_getElem?_getD, List.getElem?_eq_getElem (by rw [← HN.out]; exact hlt)]
          exact List.getElem_mem _))
        go_wp2
        all_goals go_light
        go_ret
        exact ⟨retb HR.out.symm, rfl⟩
      · have hbq : (y.toList == x.toList) = false := by rw [beq_eq_false_iff_ne]; exact fun e => he (toList_inj' e)
        have HX : Hid (∀ j, j < k + 1 → A.getD j ByteArray.empty ≠ x) := hid (by
          intro j hj
          by_cases e : j = k
          · subst e; rw [← HY.out]; exact he
          · exact hno.out j (by omega))
        clear he
        go_wp2
        all_goals go_light
        refine ⟨⟨k + 1, by omega, by go_num, HX⟩, ?_⟩
        simp [intOf]
        omega
    · have HR : Hid (r = false) := hid (by
        cases e : r
        · rfl
        · exfalso
          obtain ⟨j, hj, hjx⟩ := List.getElem_of_mem (HI.out.1 e)
          refine hno.out j (by have := HN.out; omega) ?_
          rw [List.getD_eq_getElem?_getD, List.getElem?_eq_getElem hj]
          exact hjx)
      go_wp2
      go_ret
      exact ⟨retb HR.out.symm, rfl⟩

def voidL : List ByteArray := [⟨#[98, 114]⟩, ⟨#[104, 114]⟩, ⟨#[105, 109, 103]⟩, ⟨#[105, 110, 112, 117, 116]⟩, ⟨#[108, 105, 110, 107]⟩, ⟨#[109, 101, 116, 97]⟩, ⟨#[119, 98, 114]⟩]
def blockL : List ByteArray := [⟨#[100, 105, 118]⟩, ⟨#[112]⟩, ⟨#[117, 108]⟩, ⟨#[111, 108]⟩, ⟨#[100, 108]⟩, ⟨#[116, 97, 98, 108, 101]⟩, ⟨#[104, 49]⟩, ⟨#[104, 50]⟩, ⟨#[104, 51]⟩, ⟨#[112, 114, 101]⟩, ⟨#[115, 101, 99, 116, 105, 111, 110]⟩, ⟨#[102, 111, 114, 109]⟩, ⟨#[104, 114]⟩]
theorem eq_list {s : ByteArray} {l : List UInt8} : s = ⟨l.toArray⟩ ↔ s.toList = l := by
  constructor
  · rintro rfl; rw [Lib.toList_data]
  · exact of_list
theorem void_same (s : ByteArray) : inL voidL s = voidB s := by
  rw [Bool.eq_iff_iff]
  unfold inL voidB
  rw [Lib.containsS_iff, decide_eq_true_eq]
  unfold voidL
  simp only [List.mem_cons, List.not_mem_nil, or_false, eq_list]
set_option maxHeartbeats 4000000 in
set_option maxRecDepth 100000 in
theorem rvoid_any (s : ByteArray) (w : World) : Calls Tryz.prog 66 #[.string s] w fun e w' => e = .returned (.bool (voidB s)) ∧ Below w.heap.size w w' := by
  have hst := StrsAt.new w voidL (by decide)
  have ham := among_any hst s
  rw [void_same] at ham
  have HB : Hid (Below w.heap.size w (w.alloc (.cells (voidL.map Value.string).toArray 9))) := hid ((Below.refl _ _).alloc (Nat.le_refl _) _)
  have HA := hid ham
  clear hst ham
  generalize voidB s = r at HA ⊢
  go_enter Tryz.func66, Tryz.ntmps66
  go_wp2_with (go_at_call 65; refine HA.out.mono ?_; rintro e w' ⟨rfl, rfl⟩)
  go_ret
  exact ⟨rfl, HB.out⟩

theorem block_close {s : ByteArray} (h : inL blockL s = true) : closeT s = ([⟨#[112]⟩], [⟨#[116, 100]⟩, ⟨#[116, 104]⟩, ⟨#[108, 105]⟩, ⟨#[100, 105, 118]⟩, ⟨#[115, 101, 99, 116, 105, 111, 110]⟩, ⟨#[98, 117, 116, 116, 111, 110]⟩]) := by
  have h := (Lib.containsS_iff _ _).1 h
  unfold blockL at h
  simp only [List.mem_cons, List.not_mem_nil, or_false] at h
  rcases h with h | h | h | h | h | h | h | h | h | h | h | h | h <;> (rw [eq_list] at h; unfold closeT; rw [h]; decide)
theorem not_block {s : ByteArray} (h : inL blockL s = false) : ¬ (s.toList = [100, 105, 118] ∨ s.toList = [112] ∨ s.toList = [117, 108] ∨ s.toList = [111, 108] ∨ s.toList = [100, 108] ∨ s.toList = [116, 97, 98, 108, 101] ∨ s.toList = [104, 49] ∨ s.toList = [104, 50] ∨ s.toList = [104, 51] ∨ s.toList = [112, 114, 101] ∨ s.toList = [115, 101, 99, 116, 105, 111, 110] ∨ s.toList = [102, 111, 114, 109] ∨ s.toList = [104, 114]) := by
  intro hh
  have : inL blockL s = true := (Lib.containsS_iff _ _).2 (by
    unfold blockL
    simp only [List.mem_cons, List.not_mem_nil, or_false, eq_list]
    exact hh)
  rw [h] at this
  cases this
theorem close_from {w w1 : World} {A B : List ByteArray} (hb : Below w.heap.size w w1) {e : Ending} {w' : World} (h : ClosePost w1 A B e w') : ClosePost w A B e w' := by
  obtain ⟨a1, n1, c1, a2, n2, c2, h1, h2, h3, h4⟩ := h
  exact ⟨a1, n1, c1, a2, n2, c2, h1, h2, h3, hb.trans (h4.mono hb.size)⟩

set_option maxHeartbeats 4000000 in
set_option maxRecDepth 100000 in
theorem table_block (s : ByteArray) (w : World) (h : inL blockL s = true) : Calls Tryz.prog 64 #[.string s] w (ClosePost w (closeT s).1 (closeT s).2) := by
  rw [block_close h]
  have hst := StrsAt.new w blockL (by decide)
  have ham := among_any hst s
  rw [h] at ham
  have HA := hid ham
  have HB : Hid (Below w.heap.size w (w.alloc (.cells (blockL.map Value.string).toArray 9))) := hid ((Below.refl _ _).alloc (Nat.le_refl _) _)
  clear hst ham h
  go_enter Tryz.func64, Tryz.ntmps64
  go_wp2_with (go_at_call 65; refine HA.out.mono ?_; rintro e w' ⟨rfl, rfl⟩)
  go_ret2
  exact close_from HB.out (by have := close_two (w.alloc (.cells (blockL.map Value.string).toArray 9)) [⟨#[112]⟩] [⟨#[116, 100]⟩, ⟨#[116, 104]⟩, ⟨#[108, 105]⟩, ⟨#[100, 105, 118]⟩, ⟨#[115, 101, 99, 116, 105, 111, 110]⟩, ⟨#[98, 117, 116, 116, 111, 110]⟩] (by decide) (by decide); rw [World.size_alloc] at this; exact this)

set_option maxHeartbeats 4000000 in
set_option maxRecDepth 100000 in
theorem table_lit (s : ByteArray) (A B : List ByteArray) (w : World) (h : inL blockL s = false) (hs : closeT s = (A, B)) (hl : s ∈ [(⟨#[108, 105]⟩ : ByteArray), ⟨#[100, 116]⟩, ⟨#[100, 100]⟩, ⟨#[111, 112, 116, 105, 111, 110]⟩, ⟨#[116, 114]⟩, ⟨#[116, 100]⟩, ⟨#[116, 104]⟩]) : Calls Tryz.prog 64 #[.string s] w (ClosePost w A B) := by
  have hst := StrsAt.new w blockL (by decide)
  have ham := among_any hst s
  rw [h] at ham
  have HA := hid ham
  have HB : Hid (Below w.heap.size w (w.alloc (.cells (blockL.map Value.string).toArray 9))) := hid ((Below.refl _ _).alloc (Nat.le_refl _) _)
  have HC := hid (fun A B (hA : A.length ≤ 100) (hB : B.length ≤ 100) => (by have := close_two (w.alloc (.cells (blockL.map Value.string).toArray 9)) A B hA hB; rw [World.size_alloc] at this; exact this : ClosePost (w.alloc (.cells (blockL.map Value.string).toArray 9)) A B (.returned (.tuple #[.slice (some ⟨w.heap.size + 1, 0, none⟩) A.length A.length, .slice (some ⟨w.heap.size + 1 + 1, 0, none⟩) B.length B.length])) _))
  clear hst ham h
  simp only [List.mem_cons, List.not_mem_nil, or_false] at hl
  rcases hl with hl | hl | hl | hl | hl | hl | hl
  all_goals (
    have hs2 := hs
    unfold closeT at hs2
    rw [eq_list.1 hl] at hs2
    simp at hs2
    obtain ⟨rfl, rfl⟩ := hs2
    subst hl
    clear hs
    go_enter Tryz.func64, Tryz.ntmps64
    go_wp2_with (go_at_call 65; refine HA.out.mono ?_; rintro e w' ⟨rfl, rfl⟩)
    go_ret2
    first
      | exact close_from HB.out (HC.out [⟨#[108, 105]⟩] [⟨#[117, 108]⟩, ⟨#[111, 108]⟩] (by decide) (by decide))
      | exact close_from HB.out (HC.out [⟨#[100, 116]⟩, ⟨#[100, 100]⟩] [⟨#[100, 108]⟩] (by decide) (by decide))
      | exact close_from HB.out (HC.out [⟨#[111, 112, 116, 105, 111, 110]⟩] [⟨#[115, 101, 108, 101, 99, 116]⟩] (by decide) (by decide))
      | exact close_from HB.out (HC.out [⟨#[116, 114]⟩] [⟨#[116, 97, 98, 108, 101]⟩] (by decide) (by decide))
      | exact close_from HB.out (HC.out [⟨#[116, 100]⟩, ⟨#[116, 104]⟩] [⟨#[116, 114]⟩, ⟨#[116, 97, 98, 108, 101]⟩] (by decide) (by decide)))

set_option maxHeartbeats 4000000 in
set_option maxRecDepth 100000 in
theorem table_none (s : ByteArray) (w : World) (h : inL blockL s = false) (h0 : ¬ s.toList = [108, 105]) (h1 : ¬ s.toList = [100, 116]) (h2 : ¬ s.toList = [100, 100]) (h3 : ¬ s.toList = [111, 112, 116, 105, 111, 110]) (h4 : ¬ s.toList = [116, 114]) (h5 : ¬ s.toList = [116, 100]) (h6 : ¬ s.toList = [116, 104]) : Calls Tryz.prog 64 #[.string s] w (ClosePost w [] []) := by
  have e0 : (s.toList == [108, 105]) = false := by rw [beq_eq_false_iff_ne]; exact h0
  have e1 : (s.toList == [100, 116]) = false := by rw [beq_eq_false_iff_ne]; exact h1
  have e2 : (s.toList == [100, 100]) = false := by rw [beq_eq_false_iff_ne]; exact h2
  have e3 : (s.toList == [111, 112, 116, 105, 111, 110]) = false := by rw [beq_eq_false_iff_ne]; exact h3
  have e4 : (s.toList == [116, 114]) = false := by rw [beq_eq_false_iff_ne]; exact h4
  have e5 : (s.toList == [116, 100]) = false := by rw [beq_eq_false_iff_ne]; exact h5
  have e6 : (s.toList == [116, 104]) = false := by rw [beq_eq_false_iff_ne]; exact h6
  have hst := StrsAt.new w blockL (by decide)
  have ham := among_any hst s
  rw [h] at ham
  have HA := hid ham
  have HB : Hid (Below w.heap.size w (w.alloc (.cells (blockL.map Value.string).toArray 9))) := hid ((Below.refl _ _).alloc (Nat.le_refl _) _)
  clear hst ham h h0 h1 h2 h3 h4 h5 h6
  go_enter Tryz.func64, Tryz.ntmps64
  go_wp2_with (go_at_call 65; refine HA.out.mono ?_; rintro e w' ⟨rfl, rfl⟩)
  go_ret2
  exact ⟨none, 0, 0, none, 0, 0, rfl, .inl ⟨rfl, _, _, rfl⟩, .inl ⟨rfl, _, _, rfl⟩, HB.out⟩

theorem table_any (s : ByteArray) (w : World) : Calls Tryz.prog 64 #[.string s] w (ClosePost w (closeT s).1 (closeT s).2) := by
  cases h : inL blockL s with
  | true => exact table_block s w h
  | false =>
    by_cases hl : s ∈ [(⟨#[108, 105]⟩ : ByteArray), ⟨#[100, 116]⟩, ⟨#[100, 100]⟩, ⟨#[111, 112, 116, 105, 111, 110]⟩, ⟨#[116, 114]⟩, ⟨#[116, 100]⟩, ⟨#[116, 104]⟩]
    · exact table_lit s _ _ w h rfl hl
    · simp only [List.mem_cons, List.not_mem_nil, or_false, eq_list, not_or] at hl
      obtain ⟨h0, h1, h2, h3, h4, h5, h6⟩ := hl
      have e : closeT s = ([], []) := by
        unfold closeT
        rw [if_neg h0, if_neg (by rintro (e | e); exact h1 e; exact h2 e), if_neg h3, if_neg h4, if_neg (by rintro (e | e); exact h5 e; exact h6 e), if_neg (not_block h)]
      rw [e]
      exact table_none s w h h0 h1 h2 h3 h4 h5 h6
end Go.Proofs.YtnoaojjljcbflaaGreatDoor
