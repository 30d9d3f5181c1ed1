/- A change in the program's tree, and then the same one in the document's: refused by both, or made by both. -/
import Derived.Test.YtoanbjdifddcoaaGreatDoorTBoth
import Derived.Test.YtoanbjdifddcoaaGreatDoorM28
import Derived.Test.YtoanbjdifddcoaaGreatDoorM30
import Derived.Test.YtoanbjdifddcoaaGreatDoorRPutB
import Derived.Test.YtoanbjdifddcoaaGreatDoorRPutK
import Derived.Test.YtoanbjdifddcoaaGreatDoorPutX
import Derived.Test.YtoanbjdifddcoaaGreatDoorM22
namespace Go.Proofs.YtoanbjdifddcoaaGreatDoor
open Go.RowKit

/-- how a change ends -/
inductive Out where
  | fail (k : Nat)
  | ok (ns' : List Nd)
/-- what the two calls answer -/
structure Shape where
  pf : Value → Value
  pv : Value
  rf : Int → Value
  rv : Value
def sh1 : Shape := ⟨fun v => v, .nilIface, fun c => .int .i64 c, .int .i64 0⟩
def shM (n : Nat) : Shape := ⟨fun v => .tuple #[.int .i64 0, v], .tuple #[.int .i64 n, .nilIface], fun c => .tuple #[.int .i64 0, .int .i64 c], .tuple #[.int .i64 n, .int .i64 0]⟩
def errV (A : Nat → Addr) (k : Nat) : Value := .iface 149 (.pointer (some (A k)))
def PS (W : World) (X : List (Nat × Obj)) (tb rb K : Nat) (ns : List Nd) (past : List (List Nd)) (A : Nat → Addr) (sh : Shape) : Out → Ending → World → Prop
  | .fail k, e, w' => k < 7 ∧ e = .returned (sh.pf (errV A k)) ∧ Both W X tb rb K ns past ns past w'
  | .ok ns', e, w' => e = .returned sh.pv ∧ Both W X tb rb (K + 1) ns' (ns :: past) ns past w'
def RS (W : World) (X : List (Nat × Obj)) (tb rb K : Nat) (ns : List Nd) (past : List (List Nd)) (sh : Shape) : Out → Ending → World → Prop
  | .fail k, e, w' => e = .returned (sh.rf ((k + 1 : Nat) : Int)) ∧ Both W X tb rb K ns past ns past w'
  | .ok ns', e, w' => e = .returned sh.rv ∧ Both W X tb rb (K + 2) ns' (ns :: past) ns' (ns :: past) w'
def Twice (W : World) (X : List (Nat × Obj)) (tb rb K : Nat) (ns : List Nd) (past : List (List Nd)) (A : Nat → Addr) (sh : Shape) (g : FuncId) (args : Array Value) (e : Ending) (w' : World) : Prop :=
  ∃ o, PS W X tb rb K ns past A sh o e w' ∧ ∀ w'', Below w'.heap.size w' w'' → Calls Tryz.prog g args w'' (RS W X tb rb K ns past sh o)

theorem Errs7.errs {W w : World} {A : Nat → Addr} (h : Errs7 W A) {M : Nat → Lab} (hb : Below W.heap.size W w) (hM : ∀ b, b < W.heap.size → M b = .other) : Errs w M := by
  have c : ∀ g, errG g = true → ∃ k, k < 7 ∧ gl k = g := by
    intro g hg
    unfold errG at hg
    simp only [Bool.or_eq_true, beq_iff_eq] at hg
    rcases hg with ((rfl | rfl) | rfl) | rfl
    · exact ⟨2, by omega, rfl⟩
    · exact ⟨1, by omega, rfl⟩
    · exact ⟨3, by omega, rfl⟩
    · exact ⟨4, by omega, rfl⟩
  refine ⟨fun g hg => ?_, fun g hg => ?_⟩
  · obtain ⟨k, hk, rfl⟩ := c g hg
    exact hM _ (lt_of_cell (h.cell k hk))
  · obtain ⟨k, hk, rfl⟩ := c g hg
    exact ⟨_, _, (h.below hb).cell k hk⟩

section
variable {W : World} {X : List (Nat × Obj)} {tb rb K : Nat} {ns : List Nd} {past : List (List Nd)} {w w' : World} {A : Nat → Addr} {sh : Shape} {g : FuncId} {args : Array Value} {e : Ending}

theorem twice_fail (h : Both W X tb rb K ns past ns past w) (hK : K ≤ 900) (hE : Errs7 W A) {k : Nat} (hk : k < 7) (ht : ∃ v, e = .returned (sh.pf v) ∧ w.cell? ⟨gl k, 0, none⟩ = some v) (hb : Below w.heap.size w w')
    (hr : ∀ {w2 : World} {N : Nat → Lab} {nv2 uv2 : Value} {qs : List Pn} {vs : List Value}, RLies w2 N rb nv2 uv2 qs vs → nodesOf qs = ns → Small qs → vs.length ≤ 1000000 → Calls Tryz.prog g args w2 fun e w3 => e = .returned (sh.rf ((k + 1 : Nat) : Int)) ∧ Below w2.heap.size w2 w3) : Twice W X tb rb K ns past A sh g args e w' := by
  obtain ⟨v, rfl, hc⟩ := ht
  have hv := (hE.below h.toW).cell k hk
  have hv2 : v = errV A k := Option.some.inj (hc.symm.trans hv)
  subst hv2
  refine ⟨.fail k, ⟨hk, rfl, h.below hb⟩, fun w'' hb2 => ?_⟩
  have h2 := (h.below hb).below hb2
  obtain ⟨M, N, nv, uv, nv2, uv2, ps, qs, us, vs, hs⟩ := id h2
  refine (hr hs.rlies hs.eqr (hs.small (by omega)) (by have := hs.lv; omega)).mono ?_
  rintro e w3 ⟨rfl, hb3⟩
  exact ⟨rfl, h2.below hb3⟩

theorem twice_ok {M N : Nat → Lab} {nv uv nv2 uv2 : Value} {ps qs : List Pn} {us vs : List Value} (h : BothS W X tb rb K ns past ns past w M N nv uv nv2 uv2 ps qs us vs) (hK : K ≤ 900) {ns' : List Nd} (he : e = .returned sh.pv) (hd : DoneX w M tb us ns ns' w') (hW : WF ns') (hKi : Kinds ns') (hF : Few ns' (K + 1))
    (hr : ∀ {w2 : World} {N : Nat → Lab} {nv2 uv2 : Value} {qs : List Pn} {vs : List Value}, RLies w2 N rb nv2 uv2 qs vs → nodesOf qs = ns → Small qs → vs.length ≤ 1000000 → Calls Tryz.prog g args w2 fun e w3 => e = .returned sh.rv ∧ RDone w2 N rb vs ns ns' w3) : Twice W X tb rb K ns past A sh g args e w' := by
  have half := h.prog hd hW hKi hF
  refine ⟨.ok ns', ⟨he, half⟩, fun w'' hb => ?_⟩
  obtain ⟨M, N, nv, uv, nv2, uv2, ps, qs, us, vs, hs⟩ := half.below hb
  refine (hr hs.rlies hs.eqr (hs.small (by omega)) (by have := hs.lv; omega)).mono ?_
  rintro e w3 ⟨rfl, hd2⟩
  exact ⟨rfl, hs.doc hd2 hW (hF.mono (by omega))⟩

theorem told_sh1 {k : Nat} (ht : Told7 w (gl k) e w') : (∃ v, e = .returned (sh1.pf v) ∧ w.cell? ⟨gl k, 0, none⟩ = some v) ∧ Below w.heap.size w w' := by
  obtain ⟨⟨v, rfl, _, hc⟩, hb⟩ := ht
  exact ⟨⟨v, rfl, hc⟩, hb⟩

theorem lenEq {ps qs : List Pn} (h1 : nodesOf ps = ns) (h2 : nodesOf qs = ns) : ps.length = qs.length := by
  have := congrArg List.length (h1.trans h2.symm)
  simpa [nodesOf] using this
theorem lenN {qs : List Pn} (h2 : nodesOf qs = ns) : qs.length = ns.length := by
  have := congrArg List.length h2
  simpa [nodesOf] using this
theorem getR {ps qs : List Pn} (h1 : nodesOf ps = ns) (h2 : nodesOf qs = ns) {i : Nat} {p : Pn} (hp : ps[i]? = some p) : ∃ q, qs[i]? = some q ∧ q.n = p.n := by
  have := nodes_get hp
  rw [h1, ← h2] at this
  exact nodesOf_get this

theorem Kinds.set (h : Kinds ns) {i : Nat} {n n' : Nd} (hn : ns[i]? = some n) (hk : n'.kind = n.kind) : Kinds (ns.set i n') := by
  intro j x hx
  by_cases e : i = j
  · subst e
    rw [List.getElem?_set_self (List.getElem?_eq_some_iff.1 hn).1] at hx
    cases hx
    rw [hk]
    exact h i n hn
  · rw [List.getElem?_set_ne e] at hx
    exact h j x hx
theorem Kinds.pulled (h : Kinds ns) {i wz : Nat} {f : Int} {mid : List Nd} (hp : Pulled ns i mid f wz) : Kinds mid := by
  cases hp with
  | root => exact h
  | @kid n m q hi hq hm hk hqi =>
    refine Kinds.set (h.set hm (n' := { m with kids := m.kids.eraseIdx (idx m.kids i) }) rfl) (n := n) ?_ rfl
    rw [List.getElem?_set_ne hqi]
    exact hi
theorem Kinds.pushed (h : Kinds ns) {i k : Nat} {a : Int} {ns' : List Nd} (hp : Pushed ns i k a ns') : Kinds ns' := by
  cases hp with
  | none => exact h
  | @kid n m a hm hi ha hk =>
    refine Kinds.set (h.set hm (n' := { m with kids := m.kids.take k ++ (i : Int) :: m.kids.drop k }) rfl) (n := n) ?_ rfl
    rw [List.getElem?_set_ne ha]
    exact hi
theorem Kinds.snoc (h : Kinds ns) {n : Nd} (hn : n.kind = 1 ∨ n.kind = 2 ∨ n.kind = 3 ∨ n.kind = 4) : Kinds (ns ++ [n]) := by
  intro j x hx
  by_cases hj : j < ns.length
  · rw [List.getElem?_append_left hj] at hx; exact h j x hx
  · rw [List.getElem?_append_right (by omega)] at hx
    rcases Nat.eq_zero_or_pos (j - ns.length) with e | e
    · rw [e] at hx; cases hx; exact hn
    · rw [List.getElem?_eq_none (by simp; omega)] at hx; cases hx

theorem Pulled.det {i : Nat} {m1 m2 : List Nd} {f1 f2 : Int} {w1 w2 : Nat} (h1 : Pulled ns i m1 f1 w1) (h2 : Pulled ns i m2 f2 w2) : m1 = m2 ∧ f1 = f2 := by
  cases h1 with
  | root a b =>
    cases h2 with
    | root => exact ⟨rfl, rfl⟩
    | kid c d => obtain rfl := Option.some.inj (a.symm.trans c); omega
  | kid a b c d e =>
    cases h2 with
    | root c' d' => obtain rfl := Option.some.inj (a.symm.trans c'); omega
    | kid a' b' c' d' e' =>
      obtain rfl := Option.some.inj (a.symm.trans a')
      have := Int.ofNat.inj (b.symm.trans b')
      subst this
      obtain rfl := Option.some.inj (c.symm.trans c')
      exact ⟨rfl, rfl⟩
theorem Pushed.det {i k : Nat} {a : Nat} {m1 m2 : List Nd} (h1 : Pushed ns i k a m1) (h2 : Pushed ns i k a m2) : m1 = m2 := by
  generalize ha : (a : Int) = z at h1 h2
  cases h1 with
  | none => omega
  | kid a1 b1 c1 d1 =>
    cases h2 with
    | kid a' b' c' d' =>
      obtain rfl := Option.some.inj (b1.symm.trans b')
      obtain rfl := Option.some.inj (a1.symm.trans a')
      rfl

/-- Take -/
theorem both_take (h : Both W X tb rb K ns past ns past w) (hE : Errs7 W A) (hK : K ≤ 900) (a : Int) :
    Calls Tryz.prog 28 #[.pointer (some ⟨tb, 0, none⟩), .int .i64 a] w (Twice W X tb rb K ns past A sh1 29 #[.pointer (some ⟨rb, 0, none⟩), .int .i64 a]) := by
  obtain ⟨M, N, nv, uv, nv2, uv2, ps, qs, us, vs, hs⟩ := id h
  refine (takeX_any hs.lies (hE.errs hs.below hs.labM) (hs.eqp ▸ hs.wf) (by have := hs.lu; omega) a).mono ?_
  rintro e w' (⟨hb, ht⟩ | ⟨i, p, rfl, hp, ⟨hr, ht⟩ | ⟨hr, he, mid, fr, wz, hP, hd⟩⟩)
  · obtain ⟨t1, t2⟩ := told_sh1 (k := 3) ht
    refine twice_fail h hK hE (by omega) t1 t2 fun hR hq _ _ => ?_
    refine (rtake_none hR (a := a) (by rw [← lenEq hs.eqp hq]; exact hb)).mono ?_
    rintro e w3 ⟨rfl, rfl⟩
    exact ⟨rfl, Below.refl _ _⟩
  · obtain ⟨t1, t2⟩ := told_sh1 (k := 4) ht
    refine twice_fail h hK hE (by omega) t1 t2 fun hR hq _ _ => ?_
    obtain ⟨q, hq1, hq2⟩ := getR hs.eqp hq hp
    refine (rtake_root hR hq1 (by rw [hq2]; exact hr)).mono ?_
    rintro e w3 ⟨rfl, rfl⟩
    exact ⟨rfl, Below.refl _ _⟩
  · rw [hs.eqp] at hP hd
    have hpn : ns[i]? = some p.n := by rw [← hs.eqp]; exact nodes_get hp
    rcases hs.wf.par i _ hpn with e0 | ⟨q, m, e1, e2, e3⟩
    · exact absurd e0 hr
    refine twice_ok hs hK he hd (hs.wf.pulled hP) (hs.kin.pulled hP) (few_of_attrs hs.few hP.attrs) (@fun w2 N2 nv3 uv3 qs2 vs2 hR hq hSm hlv => ?_)
    obtain ⟨pi, hp1, hp2⟩ := getR hs.eqp hq hp
    obtain ⟨pm, hm1, hm2⟩ := nodesOf_get (ps := qs2) (by rw [hq]; exact e2)
    have hl := hs.wf.len
    have hql := lenN hq
    refine (rtake_good hR hSm (by omega) (by omega) hp1 (by rw [hp2]; exact e1) hm1 (hs.wf.pne hpn e1) (by rw [hm2]; have := hs.wf.few e2; omega)).mono ?_
    rintro e w3 ⟨rfl, hd3⟩
    refine ⟨rfl, ?_⟩
    rw [hq, hp2, hm2] at hd3
    rw [(hP.det (take_pulled hs.wf hpn e1 e2)).1]
    exact hd3
theorem kidsB_false {k : Int} (h : kidsB k = false) (hk : k = 1 ∨ k = 2 ∨ k = 3 ∨ k = 4) : k = 3 ∨ k = 4 := by
  unfold kidsB at h
  simp at h
  omega
theorem kidsB_true {k : Int} (h : kidsB k = true) : k ≠ 3 ∧ k ≠ 4 := by
  unfold kidsB at h
  simp at h
  omega

/-- Put -/
theorem both_put (h : Both W X tb rb K ns past ns past w) (hE : Errs7 W A) (hK : K ≤ 900) (a b c : Int) :
    Calls Tryz.prog 25 #[.pointer (some ⟨tb, 0, none⟩), .int .i64 a, .int .i64 b, .int .i64 c] w (Twice W X tb rb K ns past A sh1 27 #[.pointer (some ⟨rb, 0, none⟩), .int .i64 a, .int .i64 b, .int .i64 c]) := by
  obtain ⟨M, N, nv, uv, nv2, uv2, ps, qs, us, vs, hs⟩ := id h
  refine (putX_any hs.lies (hE.errs hs.below hs.labM) (hs.eqp ▸ hs.wf) (by have := hs.lu; omega) a b c).mono ?_
  rintro e w' (⟨hb, ht⟩ | ⟨an, i, m, p, rfl, rfl, hm, hp, ⟨hbad, ht⟩ | ⟨h0, hkb, la, hup, ⟨hbad, ht⟩ | ⟨hno, he, cn, mid, fr, wz, ns', rfl, hc, hP, hQ, hW, hd⟩⟩⟩)
  · obtain ⟨t1, t2⟩ := told_sh1 (k := 3) ht
    refine twice_fail h hK hE (by omega) t1 t2 fun hR hq _ _ => ?_
    refine (rput_none hR (a := a) (b := b) c (by rw [← lenEq hs.eqp hq]; exact hb)).mono ?_
    rintro e w3 ⟨rfl, rfl⟩
    exact ⟨rfl, Below.refl _ _⟩
  · obtain ⟨t1, t2⟩ := told_sh1 (k := 4) ht
    refine twice_fail h hK hE (by omega) t1 t2 fun hR hq _ _ => ?_
    obtain ⟨pi, hp1, hp2⟩ := getR hs.eqp hq hp
    obtain ⟨pm, hm1, hm2⟩ := getR hs.eqp hq hm
    refine (rput_bad hR hp1 hm1 c ?_).mono ?_
    · rcases hbad with e0 | e0
      · exact .inl e0
      · rw [hm2]
        exact .inr (kidsB_false e0 (hs.kin an m.n (by rw [← hs.eqp]; exact nodes_get hm)))
    · rintro e w3 ⟨rfl, rfl⟩
      exact ⟨rfl, Below.refl _ _⟩
  · obtain ⟨t1, t2⟩ := told_sh1 (k := 4) ht
    refine twice_fail h hK hE (by omega) t1 t2 fun hR hq _ _ => ?_
    obtain ⟨pi, hp1, hp2⟩ := getR hs.eqp hq hp
    obtain ⟨pm, hm1, hm2⟩ := getR hs.eqp hq hm
    have hmn : ns[an]? = some m.n := by rw [← hs.eqp]; exact nodes_get hm
    have hk34 := kidsB_true hkb
    rw [← hm2] at hk34
    refine (rput_where hR hp1 hm1 h0 hk34.1 hk34.2 (la := la) (by rw [hq, ← hs.eqp]; exact hup) c (by rw [hm2]; have := hs.wf.few hmn; omega) ?_).mono ?_
    · rcases hbad with e0 | e0 | e0
      · exact .inl e0
      · exact .inr (.inl e0)
      · refine .inr (.inr ?_)
        rw [hm2]
        rw [others_out (hs.eqp ▸ hs.wf) hp hm] at e0
        exact e0
    · rintro e w3 ⟨rfl, hb3⟩
      exact ⟨rfl, hb3⟩
  · have hmn : ns[an]? = some m.n := by rw [← hs.eqp]; exact nodes_get hm
    have hpn : ns[i]? = some p.n := by rw [← hs.eqp]; exact nodes_get hp
    rw [others_out (hs.eqp ▸ hs.wf) hp hm] at hc
    rw [hs.eqp] at hP hd hup
    have hk34 := kidsB_true hkb
    have hai : an ≠ i := fun e => hno (e ▸ hup.head)
    have hl := hs.wf.len
    have hcn : cn ≤ (outOf m.n.kids i).length := by omega
    refine twice_ok hs hK he hd hW ((hs.kin.pulled hP).pushed hQ) (few_of_attrs hs.few (hQ.attrs.trans hP.attrs)) (@fun w2 N2 nv3 uv3 qs2 vs2 hR hq hSm hlv => ?_)
    obtain ⟨pi, hp1, hp2⟩ := getR hs.eqp hq hp
    obtain ⟨pm, hm1, hm2⟩ := getR hs.eqp hq hm
    have hql := lenN hq
    rcases hs.wf.par i _ hpn with e0 | ⟨q, mq, e1, e2, e3⟩
    · refine (rput_root hR hSm (by omega) (by omega) hp1 hm1 h0 (by rw [hm2]; exact hk34.1) (by rw [hm2]; exact hk34.2) (la := la) (by rw [hq]; exact hup) hno (c := cn) (by rw [hm2]; exact hcn) (by rw [hm2]; have := hs.wf.few hmn; omega) (by rw [hp2]; exact e0)).mono ?_
      rintro e w3 ⟨rfl, hd3⟩
      refine ⟨rfl, ?_⟩
      rw [hq, hp2, hm2] at hd3
      obtain ⟨k1, k2⟩ := put_root hs.wf hpn e0 hmn hai hcn
      have e4 := (hP.det k1).1
      subst e4
      rw [hQ.det k2]
      exact hd3
    · obtain ⟨pq, hq1, hq2⟩ := nodesOf_get (ps := qs2) (by rw [hq]; exact e2)
      refine (rput_kid hR hSm (by omega) (by omega) hp1 hm1 h0 (by rw [hm2]; exact hk34.1) (by rw [hm2]; exact hk34.2) (la := la) (by rw [hq]; exact hup) hno (c := cn) (by rw [hm2]; exact hcn) (by rw [hm2]; have := hs.wf.few hmn; omega) (q := q) (mq := pq) (by rw [hp2]; exact e1) hq1 (hs.wf.pne hpn e1) (by rw [hq2]; have := hs.wf.few e2; omega)).mono ?_
      rintro e w3 ⟨rfl, hd3⟩
      refine ⟨rfl, ?_⟩
      rw [hq, hp2, hm2, hq2] at hd3
      obtain ⟨mid', k1, k2⟩ := put_kid hs.wf hpn e1 e2 hmn hai hcn
      have e4 := (hP.det k1).1
      subst e4
      rw [hQ.det k2]
      exact hd3
end
end Go.Proofs.YtoanbjdifddcoaaGreatDoor

/- What Say makes of any tree, exactly, and which error it tells. -/
namespace Go.Proofs.YtoanbjdifddcoaaGreatDoor
open Go.RowKit

/-- what Say answers -/
def SayX (w : World) (M : Nat → Lab) (tb : Nat) (ps : List Pn) (us : List Value) (a : Int) (text : ByteArray) (e : Ending) (w' : World) : Prop :=
  (hasB ps.length a = false ∧ Told7 w 1 e w') ∨ ∃ (i : Nat) (p : Pn), a = i ∧ ps[i]? = some p ∧
    ((kidsB p.n.kind = true ∧ Told7 w 2 e w') ∨ (kidsB p.n.kind = false ∧ 20000 < text.size ∧ Told7 w 3 e w') ∨
      (kidsB p.n.kind = false ∧ text.size ≤ 20000 ∧ e = .returned .nilIface ∧ DoneX w M tb us (nodesOf ps) ((nodesOf ps).set i { p.n with words := text }) w'))

set_option maxHeartbeats 4000000 in
set_option maxRecDepth 100000 in
theorem sayX_any {w : World} {M : Nat → Lab} {tb : Nat} {nv uv : Value} {ps : List Pn} {us : List Value} (h : Lies w M tb nv uv ps us) (hE : Errs w M) (hu : us.length ≤ 1000000) (a : Int) (text : ByteArray) (ht : text.size ≤ 9223372036854775807) :
    Calls Tryz.prog 33 #[.pointer (some ⟨tb, 0, none⟩), .int .i64 a, .string text] w (SayX w M tb ps us a text) := by
  obtain ⟨t1, a1, hc1⟩ := hE.cell 1 (by decide)
  obtain ⟨t2, a2, hc2⟩ := hE.cell 2 (by decide)
  obtain ⟨t3, a3, hc3⟩ := hE.cell 3 (by decide)
  have l1 : 1 < w.heap.size := World.block_lt_of_cell? w _ hc1
  have l2 : 2 < w.heap.size := World.block_lt_of_cell? w _ hc2
  have l3 : 3 < w.heap.size := World.block_lt_of_cell? w _ hc3
  have l0 : ((w.alloc (.cells #[.pointer (some ⟨tb, 0, none⟩)] 23)).alloc (.cells #[.int .i64 a] 3)).cell? ⟨1, 0, none⟩ = some (Value.iface t1 (Value.pointer (some a1))) := (World.cell?_of_block (a := ⟨1, 0, none⟩) ((Below.heap_alloc _ _ 1 (by simp; omega)).trans (Below.heap_alloc _ _ 1 l1))).trans hc1
  have H : Hid (∀ o1 o2, Lies ((w.alloc o1).alloc o2) M tb nv uv ps us) := fun o1 o2 => (h.alloc o1).alloc o2
  have B0 : Hid (∀ o1 o2, Below w.heap.size w ((w.alloc o1).alloc o2)) := fun o1 o2 => ((Below.refl _ _).alloc (Nat.le_refl _) _).alloc (by simp) _
  cases hb : hasB ps.length a
  · clear h hE
    go_enter Tryz.func33, Tryz.ntmps33
    go_wp2_with (go_at_call 45; refine (has_any (H.out _ _) _).mono ?_; rintro e w' ⟨rfl, rfl⟩; rw [hb])
    all_goals go_ret
    all_goals exact .inl ⟨hb, ⟨⟨_, rfl, ⟨t1, a1, rfl⟩, hc1⟩, B0.out _ _⟩⟩
  obtain ⟨i, p, rfl, hp⟩ := hasB_get hb
  have HP : Hid (ps[i]? = some p) := hp
  cases hk : kidsB p.n.kind
  · by_cases hsz : text.size ≤ 20000
    · obtain ⟨nb, nc, rfl, hc, hm, hnM, hnl, hil⟩ := h.form hp
      have hlt : tb < w.heap.size := lt_of_heap h.head
      have c0 := h.cell0
      obtain ⟨c2, c2f⟩ := h.cellN rfl (f := 2) hp (by omega) rfl
      have hS : Hid (∀ o1 o2 o3, Lies ((((w.alloc o1).alloc o2).alloc o3).setCell ⟨nb, i * 6 + 2, none⟩ (.string text)) M tb (.slice (some ⟨nb, 0, none⟩) ps.length nc) uv (ps.set i ⟨{ p.n with words := text }, p.av, p.kv⟩) us ∧ Step (((w.alloc o1).alloc o2).alloc o3) M ((((w.alloc o1).alloc o2).alloc o3).setCell ⟨nb, i * 6 + 2, none⟩ (.string text)) M .nodes) := fun o1 o2 o3 =>
        (((h.alloc o1).alloc o2).alloc o3).setNode rfl (f := 2) (c := .string text) hp (by omega) (p' := ⟨{ p.n with words := text }, p.av, p.kv⟩) rfl ((((h.alloc o1).alloc o2).alloc o3).node i p hp).1 ((((h.alloc o1).alloc o2).alloc o3).node i p hp).2
      have c0' : ∀ o1 o2 o3, (((w.alloc o1).alloc o2).alloc o3).cell? ⟨tb, 0, none⟩ = some (.slice (some ⟨nb, 0, none⟩) ps.length nc) := fun o1 o2 o3 => (((h.alloc o1).alloc o2).alloc o3).cell0
      have c2' : ∀ o1 o2 o3, (((w.alloc o1).alloc o2).alloc o3).cell? ⟨nb, i * 6 + 2, none⟩ = some (.string p.n.words) := fun o1 o2 o3 => ((((h.alloc o1).alloc o2).alloc o3).cellN rfl (f := 2) hp (by omega) rfl).1
      have c2f' : ∀ o1 o2 o3, (((w.alloc o1).alloc o2).alloc o3).frozen? ⟨nb, i * 6 + 2, none⟩ = false := fun o1 o2 o3 => ((((h.alloc o1).alloc o2).alloc o3).cellN rfl (f := 2) hp (by omega) rfl).2
      have HFr : Hid (∀ b, w.heap.size ≤ b → M b = .other) := h.fresh
      have i1 : (0 : Int) ≤ (i : Int) := by omega
      have i2 : (i : Int) < (ps.length : Int) := by omega
      unfold maxLen at hm
      clear h hE hp
      go_enter Tryz.func33, Tryz.ntmps33
      go_wp2_with (first
        | (go_at_call 45; refine (has_any (H.out _ _) _).mono ?_; rintro e w' ⟨rfl, rfl⟩; rw [hb])
        | (go_at_call 53; refine (mayHaveKids_any (H.out _ _) HP.out).mono ?_; rintro e w' ⟨rfl, rfl⟩; rw [hk]))
      go_region
      all_goals go_wp2_with fail
      all_goals go_region
      all_goals go_wp2_with (go_at_call 55; refine (keep_any ((hS.out _ _ _).1.drew.drew) _ _ _ (by omega)).mono ?_; rintro e w3 ⟨rfl, M3, uv3, hL3, hm3⟩)
      all_goals go_ret
      all_goals
        have mv := ((hS.out (.cells #[.pointer (some ⟨tb, 0, none⟩)] 23) (.cells #[.int .i64 i] 3) (.cells #[.string p.n.words] 9)).2.moved (by intro e; cases e)).drew.drew.trans hm3
        refine .inr ⟨i, p, rfl, HP.out, .inr (.inr ⟨hk, hsz, rfl, M3, _, uv3, _, _, .say i p.n.words, hL3, (by rw [nodesOf, List.map_set]; rfl), ⟨_, _, _, rfl, Cap.moved ⟨HFr.out _ (by omega), ?_⟩ mv, Cap.moved ⟨HFr.out _ (Nat.le_refl _), ?_⟩ mv, Cap.moved ⟨HFr.out _ (by omega), ?_⟩ mv⟩, ?_, ((((Moved.refl w M).alloc _).alloc _).alloc _).trans mv, (by intro F xs cs e b hb; cases e; simp at hb; omega)⟩)⟩
        · exact (cell_three _ _ _ _ _ _ _).2.2
        · exact (cell_three _ _ _ _ _ _ _).1
        · exact (cell_three _ _ _ _ _ _ _).2.1
        · refine ⟨_, List.getElem?_set_self (by simpa [nodesOf] using hil), ?_⟩
          rw [List.set_set]
          exact (set_same (nodes_get HP.out)).symm
    · clear h hE hp
      go_enter Tryz.func33, Tryz.ntmps33
      go_wp2_with (first
        | (go_at_call 45; refine (has_any (H.out _ _) _).mono ?_; rintro e w' ⟨rfl, rfl⟩; rw [hb])
        | (go_at_call 53; refine (mayHaveKids_any (H.out _ _) HP.out).mono ?_; rintro e w' ⟨rfl, rfl⟩; rw [hk]))
      all_goals go_ret
      all_goals exact .inr ⟨i, p, rfl, HP.out, .inr (.inl ⟨hk, by omega, ⟨⟨_, rfl, ⟨t3, a3, rfl⟩, hc3⟩, B0.out _ _⟩⟩)⟩
  · clear h hE hp
    go_enter Tryz.func33, Tryz.ntmps33
    go_wp2_with (first
      | (go_at_call 45; refine (has_any (H.out _ _) _).mono ?_; rintro e w' ⟨rfl, rfl⟩; rw [hb])
      | (go_at_call 53; refine (mayHaveKids_any (H.out _ _) HP.out).mono ?_; rintro e w' ⟨rfl, rfl⟩; rw [hk]))
    all_goals go_ret
    all_goals exact .inr ⟨i, p, rfl, HP.out, .inl ⟨hk, ⟨⟨_, rfl, ⟨t2, a2, rfl⟩, hc2⟩, B0.out _ _⟩⟩⟩
end Go.Proofs.YtoanbjdifddcoaaGreatDoor
