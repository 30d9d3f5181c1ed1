/- What package plain's Tree makes of a list of twigs of which the statements speak: a tree in which every node has a way. -/
import Derived.Test.YtebnioflphafmabDoorWrap
namespace Go.Proofs.YtebnioflphafmabDoor
open Go.RowKit

def M0 : Nat → Lab := fun _ => .other
/-- the numbers from 1 on -/
def ids (n : Nat) : List Int := (List.range n).map fun (i : Nat) => (i : Int) + 1
theorem ids_succ (n : Nat) : ids (n + 1) = ids n ++ [(n : Int) + 1] := by simp [ids, List.range_succ]
theorem ids_length (n : Nat) : (ids n).length = n := by simp [ids]
theorem ids_get (n i : Nat) (h : i < n) : (ids n)[i]? = some ((i : Int) + 1) := by simp [ids, List.getElem?_range h]

/-- so many twigs are done -/
def Outer (W : World) (tb n : Nat) (v : Value) (w : World) : Prop :=
  ∃ M nv uv ps us, Lies w M tb nv uv ps us ∧ Moved W M0 w M ∧ ps.length = n + 1 ∧ us.length ≤ 100 * n ∧ Good ps (100 * n) ∧ w.ownsRow W.heap.size 3 1 v n ((ids n).map intV) ∧ ∀ k, v.ownBlock = some k → M k = .other

/-- a node was made of a twig -/
def Mid (w : World) (M : Nat → Lab) (tb : Nat) (ps : List Pn) (us : List Value) (w' : World) : Prop :=
  ∃ M' nv' uv' p f, Lies w' M' tb nv' uv' (ps ++ [p]) (us ++ [f]) ∧ Moved w M w' M' ∧ p.n.parent = -1 ∧ p.n.kids = [] ∧ p.n.attrs = []

theorem Made.mid {w : World} {M : Nat → Lab} {tb : Nat} {ps : List Pn} {us : List Value} {k : Int} {tg wd : ByteArray} {e : Ending} {w' : World} (h : Made w M tb ps us (newP k tg wd) e w') : e = .returned (.tuple #[.int .i64 ps.length, .nilIface]) ∧ Mid w M tb ps us w' := by
  obtain ⟨h1, M', nv', uv', f, h2, h3, h4⟩ := h
  exact ⟨h1, M', nv', uv', _, f, h2, h4, rfl, rfl, rfl⟩

/-- so many attributes, or kids, of a twig are done -/
def Inner (w : World) (M : Nat → Lab) (tb N U B A : Nat) (w' : World) : Prop :=
  ∃ M' nv' uv' ps' us' q, Lies w' M' tb nv' uv' ps' us' ∧ Moved w M w' M' ∧ ps'.length = N + 1 ∧ us'.length ≤ U ∧ Good ps' B ∧ ps'[N]? = some q ∧ q.n.parent = -1 ∧ q.n.attrs.length ≤ A

theorem Mid.inner {w : World} {M : Nat → Lab} {tb : Nat} {ps : List Pn} {us : List Value} {w' : World} (h : Mid w M tb ps us w') {B : Nat} (hg : Good ps B) : Inner w M tb ps.length (us.length + 1) B 0 w' := by
  obtain ⟨M', nv', uv', p, f, h1, h2, h3, h4, h5⟩ := h
  exact ⟨M', nv', uv', _, _, p, h1, h2, by simp, by simp, hg.snoc p h3 h4, by simp, h3, by simp [h5]⟩

/-- so many kids of a twig are done -/
def Inner3 (w : World) (M : Nat → Lab) (tb N U B : Nat) (w' : World) : Prop :=
  ∃ M' nv' uv' ps' us' q, Lies w' M' tb nv' uv' ps' us' ∧ Moved w M w' M' ∧ ps'.length = N + 1 ∧ us'.length ≤ U ∧ Good ps' B ∧ ps'[N]? = some q ∧ q.n.parent = -1

/-- the next number is set down -/
theorem Outer.next {W w5 w7 w8 : World} {M M2 : Nat → Lab} {tb k U B : Nat} {v v8 : Value} {o o2 : Obj} {nv uv : Value} {ps : List Pn} {us : List Value} (h : Moved W M0 w5 M) (mv : Moved (w5.alloc o) M w7 M2) (hL : Lies w7 M2 tb nv uv ps us) (hpl : ps.length = k + 1 + 1) (hu : us.length ≤ U) (hU : U ≤ 100 * (k + 1)) (hg : Good ps B) (hB : B ≤ 100 * (k + 1))
    (hown : w5.ownsRow W.heap.size 3 1 v k ((ids k).map intV)) (hol : ∀ k, v.ownBlock = some k → M k = .other)
    (hv8 : w8.ownsRow W.heap.size 3 1 v8 (k + 1) ((ids k).map intV ++ [.int .i64 ((k : Int) + 1)])) (hg8 : (w7.alloc o2).grownBy w8 v.ownBlock) (hat : v8.ownBlock = v.ownBlock ∨ v8.ownBlock = some (w7.alloc o2).heap.size) : Outer W tb (k + 1) v8 w8 := by
  obtain ⟨hown', hol'⟩ := own_moved hown (((Moved.refl w5 M).alloc o).trans mv) hol
  refine ⟨M2, nv, uv, ps, us, (hL.alloc o2).grown hg8 hol', (((h.alloc o).trans mv).alloc o2).grown hg8 (fun b hb => (hown'.lt b hb).1), hpl, Nat.le_trans hu hU, hg.mono hB, ?_, ?_⟩
  · rw [ids_succ, List.map_append]
    exact hv8
  · intro b hb
    rcases hat with e | e
    · exact hol' b (e ▸ hb)
    · rw [e] at hb
      cases hb
      exact hL.fresh _ (by simp)

/-- so many of the numbers are looked at -/
def Last (W : World) (tb k j : Nat) (v : Value) (w : World) : Prop :=
  ∃ M nv uv ps us, Lies w M tb nv uv ps us ∧ Moved W M0 w M ∧ ps.length = k + 1 ∧ us.length ≤ 100 * k + j ∧ Good ps (100 * k + j) ∧ w.ownsRow W.heap.size 3 1 v k ((ids k).map intV) ∧ ∀ b, v.ownBlock = some b → M b = .other

theorem five_cells {w : World} {b : Nat} {t : TypeId} {fr : Nat × Nat} {a0 a1 a2 a3 a4 : Value} (h : w.heap[b]? = some (.cells #[a0, a1, a2, a3, a4] t fr)) :
    w.cell? ⟨b, 0, none⟩ = some a0 ∧ w.cell? ⟨b, 1, none⟩ = some a1 ∧ w.cell? ⟨b, 2, none⟩ = some a2 ∧ w.cell? ⟨b, 3, none⟩ = some a3 ∧ w.cell? ⟨b, 4, none⟩ = some a4 := by
  refine ⟨?_, ?_, ?_, ?_, ?_⟩ <;> (rw [cell_of_row w b _ _ _ _ h]; rfl)

theorem Mid.trans {w w1 w' : World} {M M1 : Nat → Lab} {tb : Nat} {ps : List Pn} {us : List Value} (m : Moved w M w1 M1) (h : Mid w1 M1 tb ps us w') : Mid w M tb ps us w' := by
  obtain ⟨M', nv', uv', p, f, h1, h2, h3⟩ := h
  exact ⟨M', nv', uv', p, f, h1, m.trans h2, h3⟩

theorem set_at {w : World} {M : Nat → Lab} {tb : Nat} {nv uv : Value} {ps : List Pn} {us : List Value} (h : Lies w M tb nv uv ps us) (hE : Errs w M) {i : Nat} {p : Pn} (hp : ps[i]? = some p) (name value : ByteArray) (hvs : value.size ≤ 9223372036854775807) (hu : us.length ≤ 1099511627776) (ha : p.n.attrs.length ≤ 1099511627776) (x : Int) (hx : x = i) :
    Calls Tryd.prog 15 #[.pointer (some ⟨tb, 0, none⟩), .int .i64 x, .string name, .string value] w (SetPost w M tb ps us i p) := by
  subst hx
  exact set_all h hE hp name value hvs hu ha

/-- a twig's copy -/
def boxOf (kind : Int) (tag text : ByteArray) (av kv : Value) : Obj := .cells #[.int .i64 kind, .string tag, .string text, av, kv] 39

theorem box5 {wr w' : World} {M M' : Nat → Lab} {kind : Int} {tag text : ByteArray} {av kv : Value} (hM : M wr.heap.size = .other) (m : Moved (wr.alloc (boxOf kind tag text av kv)) M w' M') :
    w'.cell? ⟨wr.heap.size, 0, none⟩ = some (.int .i64 kind) ∧ w'.cell? ⟨wr.heap.size, 1, none⟩ = some (.string tag) ∧ w'.cell? ⟨wr.heap.size, 2, none⟩ = some (.string text) ∧ w'.cell? ⟨wr.heap.size, 3, none⟩ = some av ∧ w'.cell? ⟨wr.heap.size, 4, none⟩ = some kv :=
  five_cells ((m.far wr.heap.size (by simp) hM).trans (heap_alloc_new wr _))

/-- what came in lies as it lay -/
theorem came {W wr w' : World} {M M' : Nat → Lab} {o : Obj} (h : Moved W M0 wr M) (m : Moved (wr.alloc o) M w' M') : ∀ b, b < W.heap.size → w'.heap[b]? = wr.heap[b]? := fun b hb =>
  (m.far b (by simp; have := h.size; omega) ((h.lab b hb).trans rfl)).trans (Below.heap_alloc wr o b (Nat.lt_of_lt_of_le hb h.size))

def TreePost (W : World) (e : Ending) (w' : World) : Prop :=
  ∃ tb M nv uv ps us B, e = .returned (.pointer (some ⟨tb, 0, none⟩)) ∧ Lies w' M tb nv uv ps us ∧ Moved W M0 w' M ∧ Good ps B ∧ ps.length ≤ 61

set_option maxHeartbeats 20000000 in
set_option maxRecDepth 100000 in
theorem tree_any {W : World} {cap : Nat} {a : Option Addr} {ts : List Tw} (h : TwigsIn W W.heap.size a ts) (hE : Errs W M0) (hf : Few ts) :
    Calls Tryd.prog 6 #[.slice a ts.length cap] W (TreePost W) := by
  obtain ⟨i0, hi, hz0, hz1, hz2⟩ := info_parts Tryd.infoInt
  have H : Hid (TwigsIn W W.heap.size a ts) := h
  have HE : Hid (Errs W M0) := hE
  have HF : Hid (∀ (j : Nat) (t : Tw), ts[j]? = some t → FewOne t) := hf.2
  have h60 := hf.1
  clear h hE hf
  go_enter Tryd.func6, Tryd.ntmps6
  go_wp2_with (go_at_call 10; refine (new_any _).mono ?_; rintro e w0 ⟨tb, nv0, uv0, Mx, rfl, hL0, hm0⟩; have H0 : Hid (Outer W tb 0 (.slice none 0 0) w0) := ⟨Mx, nv0, uv0, _, _, hL0, hm0, rfl, Nat.le_refl _, Good.doc, World.ownsRow_nil _ _ _ _, fun k hk => by simp [Value.ownBlock] at hk⟩; clear hL0 hm0)
  go_loopw [20, 4] (fun i v wr => ∃ k : Nat, k ≤ ts.length ∧ i = .int .i64 k ∧ Hid (Outer W tb k v wr)) (fun i _ _ => ts.length - (intOf i).toNat)
  case atStart => exact ⟨0, by omega, rfl, H0⟩
  case round =>
    obtain ⟨k, hk, rfl, hO⟩ := hrel
    by_cases hlt : k < ts.length
    · obtain ⟨w5, hw5⟩ : ∃ w5, w5 = wr := ⟨_, rfl⟩
      subst hw5
      obtain ⟨t, ht⟩ : ∃ t, ts[k]? = some t := ⟨_, List.getElem?_eq_getElem hlt⟩
      obtain ⟨f1, f2, f3, f4⟩ := HF.out k t ht
      obtain ⟨b, o, rfl, hT0⟩ := H.out k t ht
      obtain ⟨M, nv, uv, ps, us, hL, hmv, hpl, hul, hg, hown, hol⟩ := hO.out
      have hT := hT0.same (w' := w5) (fun b hb => hmv.far b hb rfl)
      have c0 := hT.kind
      have c1 := hT.tag
      have c2 := hT.text
      have c3 := hT.attrs
      have c4 := hT.kids
      have bl := Nat.lt_of_lt_of_le hT.blk hmv.size
      have HLW : Hid (∀ o, Lies (w5.alloc o) M tb nv uv ps us) := fun o => hL.alloc o
      have HEr : Hid (∀ o, Errs (w5.alloc o) M) := fun o => (HE.out.moved hmv).moved ((Moved.refl w5 M).alloc o)
      have HM : Hid (M w5.heap.size = .other) := hL.fresh _ (Nat.le_refl _)
      have HI : Hid _ := And.intro hmv (And.intro hpl (And.intro hg (And.intro hown (And.intro hol hT))))
      have hps : ps.length ≤ 61 := by omega
      have hus : us.length ≤ 6100 := by omega
      clear hL hmv hown hol hT0 hT hg ht hO
      obtain ⟨kind, tag, text, attrs, kids, aa, ac, ka, kc⟩ := t
      dsimp only at c0 c1 c2 c3 c4 f1 f2 f3 f4
      cases hn : nameB tag
      all_goals cases hb2 : (kind != 2)
      all_goals cases hb4 : (kind == 4)
      case false.false.false | false.false.true | false.true.false | false.true.true =>
        go_wp2_with (first
          | (go_at_call 11; refine (element_bad (HLW.out _) (HEr.out _) (by omega) tag (.inl hn)).mono ?_; rintro e w1 ⟨v1, rfl, ⟨t1, a1, rfl⟩, hB⟩; have mv1 := (Moved.refl (w5.alloc (boxOf kind tag text (.slice aa attrs.length ac) (.slice ka kids.length kc))) M).below hB; obtain ⟨d0, d1, d2, d3, d4⟩ := box5 HM.out mv1; have H2 : Hid (Lies w1 M tb nv uv ps us ∧ Moved (w5.alloc (boxOf kind tag text (.slice aa attrs.length ac) (.slice ka kids.length kc))) M w1 M) := ⟨(HLW.out _).below hB, mv1⟩; clear hB mv1)
          | (go_at_call 13; refine (comment_good H2.out.1 (by omega) (by omega) text (by omega)).mono ?_; rintro e w3 hq; obtain ⟨rfl, hmid0⟩ := hq.mid; have hmid := Mid.trans H2.out.2 hmid0; obtain ⟨M1, nv1, uv1, p1, fx, l1, mv1, z1⟩ := id hmid; obtain ⟨d0, d1, d2, d3, d4⟩ := box5 HM.out mv1; have HMid : Hid (Mid (w5.alloc (boxOf kind tag text (.slice aa attrs.length ac) (.slice ka kids.length kc))) M tb ps us w3) := hmid; clear hq hmid hmid0 l1 mv1 z1)
          | (go_at_call 14; refine (text_good H2.out.1 (by omega) (by omega) text (by omega)).mono ?_; rintro e w3 hq; obtain ⟨rfl, hmid0⟩ := hq.mid; have hmid := Mid.trans H2.out.2 hmid0; obtain ⟨M1, nv1, uv1, p1, fx, l1, mv1, z1⟩ := id hmid; obtain ⟨d0, d1, d2, d3, d4⟩ := box5 HM.out mv1; have HMid : Hid (Mid (w5.alloc (boxOf kind tag text (.slice aa attrs.length ac) (.slice ka kids.length kc))) M tb ps us w3) := hmid; clear hq hmid hmid0 l1 mv1 z1))
        go_loopw [65] (fun i w' => ∃ j : Nat, j ≤ attrs.length ∧ i = .int .i64 j ∧ Hid (Inner (w5.alloc (boxOf kind tag text (.slice aa attrs.length ac) (.slice ka kids.length kc))) M tb (k + 1) (us.length + 1 + j) (100 * k) j w')) (fun i _ => attrs.length - (intOf i).toNat)
        case atStart => exact ⟨0, by omega, rfl, HI.out.2.1 ▸ HMid.out.inner HI.out.2.2.1⟩
        case round =>
          obtain ⟨j, hj, rfl, hin⟩ := hrel
          by_cases hjl : j < attrs.length
          · obtain ⟨⟨xn, xv⟩, hx⟩ : ∃ x, attrs[j]? = some x := ⟨_, List.getElem?_eq_getElem hjl⟩
            obtain ⟨M2, nv2, uv2, ps2, us2, q2, l2, mv2, n2, u2, g2, hq2, r2, a2⟩ := hin.out
            obtain ⟨b', o', hA, hb', e1, e2, e3, e4⟩ := HI.out.2.2.2.2.2.att j _ hx
            have hA' : aa = some ⟨b', o', none⟩ := hA
            subst hA'
            have cm := came HI.out.1 mv2
            have e1' : wr.cell? ⟨b', o' + j * 2, none⟩ = some (.string xn) := (World.cell?_of_block (a := ⟨b', o' + j * 2, none⟩) (cm b' hb')).trans e1
            have e2' : wr.cell? ⟨b', o' + j * 2 + 1, none⟩ = some (.string xv) := (World.cell?_of_block (a := ⟨b', o' + j * 2 + 1, none⟩) (cm b' hb')).trans e2
            have bl' : b' < wr.heap.size := World.block_lt_of_cell? wr _ e1'
            have b1 : us2.length ≤ 7000 := by omega
            have b2 : q2.n.attrs.length ≤ 8 := by omega
            have HX : Hid (Lies wr M2 tb nv2 uv2 ps2 us2 ∧ Moved (w5.alloc (boxOf kind tag text (.slice (some ⟨b', o', none⟩) attrs.length ac) (.slice ka kids.length kc))) M wr M2 ∧ ps2.length = k + 1 + 1 ∧ us2.length ≤ us.length + 1 + j ∧ Good ps2 (100 * k) ∧ ps2[k + 1]? = some q2 ∧ q2.n.parent = -1 ∧ q2.n.attrs.length ≤ j) := ⟨l2, mv2, n2, u2, g2, hq2, r2, a2⟩
            have HE2 : Hid (Errs wr M2) := (HEr.out _).moved mv2
            clear hA hb' e1 e2 cm l2 mv2 n2 u2 g2 hq2 r2 a2 hx hin
            go_wp2_with (go_at_call 15; refine (set_at (HX.out.1.alloc _) (HE2.out.moved ((Moved.refl _ _).alloc _)) HX.out.2.2.2.2.2.1 xn xv e4 (by omega) (by omega) _ (by omega)).mono ?_; rintro e w2 ⟨⟨v2, rfl⟩, hrest⟩; have HR : Hid _ := hrest; clear hrest)
            go_roundw
            case rel =>
              go_light
              obtain ⟨l2, mv2, n2, u2, g2, hq2, r2, a2⟩ := HX.out
              obtain ⟨M3, nv3, uv3, ps3, us3, q3, l3, mv3, n3, u3, g3, hq3, r3, k3, a3⟩ := HR.out
              exact ⟨j + 1, by omega, by go_num, M3, nv3, uv3, ps3, us3, q3, l3, (mv2.alloc _).trans mv3, by omega, by omega, g3 _ g2, hq3, r3.trans r2, by omega⟩
            case measure => go_light; simp [intOf]; omega
          · obtain ⟨w6, hw6⟩ : ∃ w6, w6 = wr := ⟨_, rfl⟩
            subst hw6
            obtain ⟨M2, nv2, uv2, ps2, us2, q2, l2, mv2, n2, u2, g2, hq2, r2, a2⟩ := hin.out
            obtain ⟨d0', d1', d2', d3', d4'⟩ := box5 HM.out mv2
            have HX : Hid (Inner (w5.alloc (boxOf kind tag text (.slice aa attrs.length ac) (.slice ka kids.length kc))) M tb (k + 1) (us.length + 10) (100 * k) 8 w6) := ⟨M2, nv2, uv2, ps2, us2, q2, l2, mv2, n2, by omega, g2, hq2, r2, by omega⟩
            clear l2 mv2 n2 u2 g2 hq2 r2 a2 hin d0 d1 d2 d3 d4
            go_wp2
            go_loopw [80] (fun i w' => ∃ j : Nat, j ≤ kids.length ∧ i = .int .i64 j ∧ Hid (Inner3 (w5.alloc (boxOf kind tag text (.slice aa attrs.length ac) (.slice ka kids.length kc))) M tb (k + 1) (us.length + 10 + j) (100 * k + j) w')) (fun i _ => kids.length - (intOf i).toNat)
            case atStart =>
              obtain ⟨M2, nv2, uv2, ps2, us2, q2, l2, mv2, n2, u2, g2, hq2, r2, a2⟩ := HX.out
              exact ⟨0, by omega, rfl, M2, nv2, uv2, ps2, us2, q2, l2, mv2, n2, u2, g2, hq2, r2⟩
            case round =>
              obtain ⟨j3, hj3, rfl, hin3⟩ := hrel
              by_cases hjl3 : j3 < kids.length
              · obtain ⟨x, hx⟩ : ∃ x, kids[j3]? = some x := ⟨_, List.getElem?_eq_getElem hjl3⟩
                obtain ⟨M3, nv3, uv3, ps3, us3, q3, l3, mv3, n3, u3, g3, hq3, r3⟩ := hin3.out
                obtain ⟨b', o', hA, hb', e1⟩ := HI.out.2.2.2.2.2.kid j3 _ hx
                have hA' : ka = some ⟨b', o', none⟩ := hA
                subst hA'
                have e1' : wr.cell? ⟨b', o' + j3, none⟩ = some (.int .i64 x) := (World.cell?_of_block (a := ⟨b', o' + j3, none⟩) (came HI.out.1 mv3 b' hb')).trans e1
                have bl' : b' < wr.heap.size := World.block_lt_of_cell? wr _ e1'
                have b1 : us3.length ≤ 7000 := by omega
                have b2 : q3.n.kids.length ≤ 7000 := by have := (g3.2 _ q3 hq3).1; omega
                have hstay : Hid (Inner3 (w5.alloc (boxOf kind tag text (.slice aa attrs.length ac) (.slice (some ⟨b', o', none⟩) kids.length kc))) M tb (k + 1) (us.length + 10 + (j3 + 1)) (100 * k + (j3 + 1)) wr) := ⟨M3, nv3, uv3, ps3, us3, q3, l3, mv3, n3, by omega, g3.mono (by omega), hq3, r3⟩
                by_cases hx0 : 0 ≤ x
                · by_cases hxk : x < (k : Int)
                  · obtain ⟨n, rfl⟩ := Int.eq_ofNat_of_zero_le hx0
                    obtain ⟨pb, hpb⟩ : ∃ pb, ps3[n + 1]? = some pb := ⟨ps3[n + 1]'(by omega), List.getElem?_eq_getElem _⟩
                    have HX3 : Hid (Lies wr M3 tb nv3 uv3 ps3 us3 ∧ Moved (w5.alloc (boxOf kind tag text (.slice aa attrs.length ac) (.slice (some ⟨b', o', none⟩) kids.length kc))) M wr M3 ∧ ps3.length = k + 1 + 1 ∧ us3.length ≤ us.length + 10 + j3 ∧ Good ps3 (100 * k + j3) ∧ ps3[k + 1]? = some q3 ∧ q3.n.parent = -1 ∧ ps3[n + 1]? = some pb) := ⟨l3, mv3, n3, u3, g3, hq3, r3, hpb⟩
                    have HE3 : Hid (Errs wr M3) := (HEr.out _).moved mv3
                    have hpar := g3.parent hpb
                    clear hA hb' e1 l3 mv3 n3 u3 g3 hq3 r3 hpb hx hin3
                    rcases hpar with hpm | hpge
                    · go_wp2_with (first
                        | (go_at_call 16; refine (parent_at HX3.out.1 HX3.out.2.2.2.2.2.2.2 _ (by omega)).mono ?_; rintro e w9 ⟨rfl, rfl⟩; rw [hpm])
                        | (go_at_call 18; refine (kids_at HX3.out.1 HX3.out.2.2.2.2.2.1 (by omega) _ (by omega)).mono ?_; rintro e w10 ⟨a10, c10, rfl, hB10⟩; have HB : Hid _ := hB10; clear hB10)
                        | (go_at_call 17; refine (put_all (HX3.out.1.below HB.out) (HE3.out.below HB.out) HX3.out.2.2.2.2.2.1 HX3.out.2.2.2.2.2.2.2 (.inl (by omega)) (by omega) (by omega) HX3.out.2.2.2.2.2.2.1 hpm (by omega) _ _ (by omega) (by omega)).mono ?_; rintro e w11 ⟨⟨v11, rfl⟩, hrest⟩; have HR : Hid _ := hrest; clear hrest))
                      go_roundw
                      case rel =>
                        go_light
                        obtain ⟨l3, mv3, n3, u3, g3, hq3, r3, _⟩ := HX3.out
                        obtain ⟨M4, nv4, uv4, ps4, us4, q4, l4, mv4, n4, u4', g4, hq4, r4⟩ := HR.out
                        exact ⟨j3 + 1, by omega, by go_num, M4, nv4, uv4, ps4, us4, q4, l4, (mv3.below HB.out).trans mv4, by omega, by omega, g4 _ g3, hq4, r4⟩
                      case measure => go_light; simp [intOf]; omega
                    · go_wp2_with (go_at_call 16; refine (parent_at HX3.out.1 HX3.out.2.2.2.2.2.2.2 _ (by omega)).mono ?_; rintro e w9 ⟨rfl, rfl⟩)
                      go_roundw
                      case rel => go_light; exact ⟨j3 + 1, by omega, by go_num, hstay⟩
                      case measure => go_light; simp [intOf]; omega
                  · clear hA hb' e1 l3 mv3 n3 u3 g3 hq3 r3 hx hin3
                    go_wp2
                    go_roundw
                    case rel => go_light; exact ⟨j3 + 1, by omega, by go_num, hstay⟩
                    case measure => go_light; simp [intOf]; omega
                · clear hA hb' e1 l3 mv3 n3 u3 g3 hq3 r3 hx hin3
                  go_wp2
                  go_roundw
                  case rel => go_light; exact ⟨j3 + 1, by omega, by go_num, hstay⟩
                  case measure => go_light; simp [intOf]; omega
              · obtain ⟨w7, hw7⟩ : ∃ w7, w7 = wr := ⟨_, rfl⟩
                subst hw7
                obtain ⟨M3, nv3, uv3, ps3, us3, q3, l3, mv3, n3, u3, g3, hq3, r3⟩ := hin3.out
                obtain ⟨hmv, _, _, hown, hol, _⟩ := HI.out
                have hown7 : Hid (w7.ownsRow W.heap.size 3 1 u4 k ((ids k).map intV)) := (own_moved hown (((Moved.refl w5 M).alloc _).trans mv3) hol).1
                have hs7 : W.heap.size ≤ w7.heap.size := Nat.le_trans hmv.size (Nat.le_trans (by simp) mv3.size)
                have HX3 : Hid (Lies w7 M3 tb nv3 uv3 ps3 us3 ∧ Moved (w5.alloc (boxOf kind tag text (.slice aa attrs.length ac) (.slice ka kids.length kc))) M w7 M3 ∧ ps3.length = k + 1 + 1 ∧ us3.length ≤ us.length + 10 + j3 ∧ Good ps3 (100 * k + j3)) := ⟨l3, mv3, n3, u3, g3⟩
                clear l3 mv3 n3 u3 g3 hq3 r3 hin3 hown hol hmv
                go_wp2_with (at_builtin; refine wpList_append_own_at _ (by rfl) (.tmp 108) (.tmp 110) 37 (by rfl) W.heap.size 3 i0 (.int .i64 0) 1 8 Tryd.underlying37 hi hz0 hz1 hz2 rfl (by decide) u4 k ((ids k).map intV) (by rfl) (hown7.out.alloc _) ⟨w7.heap.size, 0, none⟩ 1 1 [.int .i64 ((k : Int) + 1)] (by rfl) rfl (cell_one_new _ _ _) (by simp [Value.oneCell']) (by unfold maxLen; omega) (by omega) (by simp; omega) ?_; intro v8 w8 hv8 hg8 _ hat8; have HN : Hid (Outer W tb (k + 1) v8 w8) := Outer.next HI.out.1 HX3.out.2.1 HX3.out.1 HX3.out.2.2.1 HX3.out.2.2.2.1 (by omega) HX3.out.2.2.2.2 (by omega) HI.out.2.2.2.1 HI.out.2.2.2.2.1 hv8 hg8 hat8; clear hv8 hg8 hat8)
                go_roundw
                case rel => go_light; exact ⟨k + 1, by omega, by go_num, HN⟩
                case measure => go_light; simp [intOf]; omega
      case true.false.false | true.false.true =>
        go_wp2_with (go_at_call 11; refine (element_good (HLW.out _) (by omega) (by omega) tag hn).mono ?_; rintro e w1 hq; obtain ⟨rfl, hmid⟩ := hq.mid; obtain ⟨M1, nv1, uv1, p1, fx, l1, mv1, z1⟩ := id hmid; obtain ⟨d0, d1, d2, d3, d4⟩ := box5 (kind := kind) (tag := tag) (text := text) HM.out mv1; have HMid : Hid (Mid (w5.alloc (boxOf kind tag text (.slice aa attrs.length ac) (.slice ka kids.length kc))) M tb ps us w1) := hmid; clear hq hmid l1 mv1 z1)
        go_loopw [65] (fun i w' => ∃ j : Nat, j ≤ attrs.length ∧ i = .int .i64 j ∧ Hid (Inner (w5.alloc (boxOf kind tag text (.slice aa attrs.length ac) (.slice ka kids.length kc))) M tb (k + 1) (us.length + 1 + j) (100 * k) j w')) (fun i _ => attrs.length - (intOf i).toNat)
        case atStart => exact ⟨0, by omega, rfl, HI.out.2.1 ▸ HMid.out.inner HI.out.2.2.1⟩
        case round =>
          obtain ⟨j, hj, rfl, hin⟩ := hrel
          by_cases hjl : j < attrs.length
          · obtain ⟨⟨xn, xv⟩, hx⟩ : ∃ x, attrs[j]? = some x := ⟨_, List.getElem?_eq_getElem hjl⟩
            obtain ⟨M2, nv2, uv2, ps2, us2, q2, l2, mv2, n2, u2, g2, hq2, r2, a2⟩ := hin.out
            obtain ⟨b', o', hA, hb', e1, e2, e3, e4⟩ := HI.out.2.2.2.2.2.att j _ hx
            have hA' : aa = some ⟨b', o', none⟩ := hA
            subst hA'
            have cm := came HI.out.1 mv2
            have e1' : wr.cell? ⟨b', o' + j * 2, none⟩ = some (.string xn) := (World.cell?_of_block (a := ⟨b', o' + j * 2, none⟩) (cm b' hb')).trans e1
            have e2' : wr.cell? ⟨b', o' + j * 2 + 1, none⟩ = some (.string xv) := (World.cell?_of_block (a := ⟨b', o' + j * 2 + 1, none⟩) (cm b' hb')).trans e2
            have bl' : b' < wr.heap.size := World.block_lt_of_cell? wr _ e1'
            have b1 : us2.length ≤ 7000 := by omega
            have b2 : q2.n.attrs.length ≤ 8 := by omega
            have HX : Hid (Lies wr M2 tb nv2 uv2 ps2 us2 ∧ Moved (w5.alloc (boxOf kind tag text (.slice (some ⟨b', o', none⟩) attrs.length ac) (.slice ka kids.length kc))) M wr M2 ∧ ps2.length = k + 1 + 1 ∧ us2.length ≤ us.length + 1 + j ∧ Good ps2 (100 * k) ∧ ps2[k + 1]? = some q2 ∧ q2.n.parent = -1 ∧ q2.n.attrs.length ≤ j) := ⟨l2, mv2, n2, u2, g2, hq2, r2, a2⟩
            have HE2 : Hid (Errs wr M2) := (HEr.out _).moved mv2
            clear hA hb' e1 e2 cm l2 mv2 n2 u2 g2 hq2 r2 a2 hx hin
            go_wp2_with (go_at_call 15; refine (set_at (HX.out.1.alloc _) (HE2.out.moved ((Moved.refl _ _).alloc _)) HX.out.2.2.2.2.2.1 xn xv e4 (by omega) (by omega) _ (by omega)).mono ?_; rintro e w2 ⟨⟨v2, rfl⟩, hrest⟩; have HR : Hid _ := hrest; clear hrest)
            go_roundw
            case rel =>
              go_light
              obtain ⟨l2, mv2, n2, u2, g2, hq2, r2, a2⟩ := HX.out
              obtain ⟨M3, nv3, uv3, ps3, us3, q3, l3, mv3, n3, u3, g3, hq3, r3, k3, a3⟩ := HR.out
              exact ⟨j + 1, by omega, by go_num, M3, nv3, uv3, ps3, us3, q3, l3, (mv2.alloc _).trans mv3, by omega, by omega, g3 _ g2, hq3, r3.trans r2, by omega⟩
            case measure => go_light; simp [intOf]; omega
          · obtain ⟨w6, hw6⟩ : ∃ w6, w6 = wr := ⟨_, rfl⟩
            subst hw6
            obtain ⟨M2, nv2, uv2, ps2, us2, q2, l2, mv2, n2, u2, g2, hq2, r2, a2⟩ := hin.out
            obtain ⟨d0', d1', d2', d3', d4'⟩ := box5 HM.out mv2
            have HX : Hid (Inner (w5.alloc (boxOf kind tag text (.slice aa attrs.length ac) (.slice ka kids.length kc))) M tb (k + 1) (us.length + 10) (100 * k) 8 w6) := ⟨M2, nv2, uv2, ps2, us2, q2, l2, mv2, n2, by omega, g2, hq2, r2, by omega⟩
            clear l2 mv2 n2 u2 g2 hq2 r2 a2 hin d0 d1 d2 d3 d4
            go_wp2
            go_loopw [80] (fun i w' => ∃ j : Nat, j ≤ kids.length ∧ i = .int .i64 j ∧ Hid (Inner3 (w5.alloc (boxOf kind tag text (.slice aa attrs.length ac) (.slice ka kids.length kc))) M tb (k + 1) (us.length + 10 + j) (100 * k + j) w')) (fun i _ => kids.length - (intOf i).toNat)
            case atStart =>
              obtain ⟨M2, nv2, uv2, ps2, us2, q2, l2, mv2, n2, u2, g2, hq2, r2, a2⟩ := HX.out
              exact ⟨0, by omega, rfl, M2, nv2, uv2, ps2, us2, q2, l2, mv2, n2, u2, g2, hq2, r2⟩
            case round =>
              obtain ⟨j3, hj3, rfl, hin3⟩ := hrel
              by_cases hjl3 : j3 < kids.length
              · obtain ⟨x, hx⟩ : ∃ x, kids[j3]? = some x := ⟨_, List.getElem?_eq_getElem hjl3⟩
                obtain ⟨M3, nv3, uv3, ps3, us3, q3, l3, mv3, n3, u3, g3, hq3, r3⟩ := hin3.out
                obtain ⟨b', o', hA, hb', e1⟩ := HI.out.2.2.2.2.2.kid j3 _ hx
                have hA' : ka = some ⟨b', o', none⟩ := hA
                subst hA'
                have e1' : wr.cell? ⟨b', o' + j3, none⟩ = some (.int .i64 x) := (World.cell?_of_block (a := ⟨b', o' + j3, none⟩) (came HI.out.1 mv3 b' hb')).trans e1
                have bl' : b' < wr.heap.size := World.block_lt_of_cell? wr _ e1'
                have b1 : us3.length ≤ 7000 := by omega
                have b2 : q3.n.kids.length ≤ 7000 := by have := (g3.2 _ q3 hq3).1; omega
                have hstay : Hid (Inner3 (w5.alloc (boxOf kind tag text (.slice aa attrs.length ac) (.slice (some ⟨b', o', none⟩) kids.length kc))) M tb (k + 1) (us.length + 10 + (j3 + 1)) (100 * k + (j3 + 1)) wr) := ⟨M3, nv3, uv3, ps3, us3, q3, l3, mv3, n3, by omega, g3.mono (by omega), hq3, r3⟩
                by_cases hx0 : 0 ≤ x
                · by_cases hxk : x < (k : Int)
                  · obtain ⟨n, rfl⟩ := Int.eq_ofNat_of_zero_le hx0
                    obtain ⟨pb, hpb⟩ : ∃ pb, ps3[n + 1]? = some pb := ⟨ps3[n + 1]'(by omega), List.getElem?_eq_getElem _⟩
                    have HX3 : Hid (Lies wr M3 tb nv3 uv3 ps3 us3 ∧ Moved (w5.alloc (boxOf kind tag text (.slice aa attrs.length ac) (.slice (some ⟨b', o', none⟩) kids.length kc))) M wr M3 ∧ ps3.length = k + 1 + 1 ∧ us3.length ≤ us.length + 10 + j3 ∧ Good ps3 (100 * k + j3) ∧ ps3[k + 1]? = some q3 ∧ q3.n.parent = -1 ∧ ps3[n + 1]? = some pb) := ⟨l3, mv3, n3, u3, g3, hq3, r3, hpb⟩
                    have HE3 : Hid (Errs wr M3) := (HEr.out _).moved mv3
                    have hpar := g3.parent hpb
                    clear hA hb' e1 l3 mv3 n3 u3 g3 hq3 r3 hpb hx hin3
                    rcases hpar with hpm | hpge
                    · go_wp2_with (first
                        | (go_at_call 16; refine (parent_at HX3.out.1 HX3.out.2.2.2.2.2.2.2 _ (by omega)).mono ?_; rintro e w9 ⟨rfl, rfl⟩; rw [hpm])
                        | (go_at_call 18; refine (kids_at HX3.out.1 HX3.out.2.2.2.2.2.1 (by omega) _ (by omega)).mono ?_; rintro e w10 ⟨a10, c10, rfl, hB10⟩; have HB : Hid _ := hB10; clear hB10)
                        | (go_at_call 17; refine (put_all (HX3.out.1.below HB.out) (HE3.out.below HB.out) HX3.out.2.2.2.2.2.1 HX3.out.2.2.2.2.2.2.2 (.inl (by omega)) (by omega) (by omega) HX3.out.2.2.2.2.2.2.1 hpm (by omega) _ _ (by omega) (by omega)).mono ?_; rintro e w11 ⟨⟨v11, rfl⟩, hrest⟩; have HR : Hid _ := hrest; clear hrest))
                      go_roundw
                      case rel =>
                        go_light
                        obtain ⟨l3, mv3, n3, u3, g3, hq3, r3, _⟩ := HX3.out
                        obtain ⟨M4, nv4, uv4, ps4, us4, q4, l4, mv4, n4, u4', g4, hq4, r4⟩ := HR.out
                        exact ⟨j3 + 1, by omega, by go_num, M4, nv4, uv4, ps4, us4, q4, l4, (mv3.below HB.out).trans mv4, by omega, by omega, g4 _ g3, hq4, r4⟩
                      case measure => go_light; simp [intOf]; omega
                    · go_wp2_with (go_at_call 16; refine (parent_at HX3.out.1 HX3.out.2.2.2.2.2.2.2 _ (by omega)).mono ?_; rintro e w9 ⟨rfl, rfl⟩)
                      go_roundw
                      case rel => go_light; exact ⟨j3 + 1, by omega, by go_num, hstay⟩
                      case measure => go_light; simp [intOf]; omega
                  · clear hA hb' e1 l3 mv3 n3 u3 g3 hq3 r3 hx hin3
                    go_wp2
                    go_roundw
                    case rel => go_light; exact ⟨j3 + 1, by omega, by go_num, hstay⟩
                    case measure => go_light; simp [intOf]; omega
                · clear hA hb' e1 l3 mv3 n3 u3 g3 hq3 r3 hx hin3
                  go_wp2
                  go_roundw
                  case rel => go_light; exact ⟨j3 + 1, by omega, by go_num, hstay⟩
                  case measure => go_light; simp [intOf]; omega
              · obtain ⟨w7, hw7⟩ : ∃ w7, w7 = wr := ⟨_, rfl⟩
                subst hw7
                obtain ⟨M3, nv3, uv3, ps3, us3, q3, l3, mv3, n3, u3, g3, hq3, r3⟩ := hin3.out
                obtain ⟨hmv, _, _, hown, hol, _⟩ := HI.out
                have hown7 : Hid (w7.ownsRow W.heap.size 3 1 u4 k ((ids k).map intV)) := (own_moved hown (((Moved.refl w5 M).alloc _).trans mv3) hol).1
                have hs7 : W.heap.size ≤ w7.heap.size := Nat.le_trans hmv.size (Nat.le_trans (by simp) mv3.size)
                have HX3 : Hid (Lies w7 M3 tb nv3 uv3 ps3 us3 ∧ Moved (w5.alloc (boxOf kind tag text (.slice aa attrs.length ac) (.slice ka kids.length kc))) M w7 M3 ∧ ps3.length = k + 1 + 1 ∧ us3.length ≤ us.length + 10 + j3 ∧ Good ps3 (100 * k + j3)) := ⟨l3, mv3, n3, u3, g3⟩
                clear l3 mv3 n3 u3 g3 hq3 r3 hin3 hown hol hmv
                go_wp2_with (at_builtin; refine wpList_append_own_at _ (by rfl) (.tmp 108) (.tmp 110) 37 (by rfl) W.heap.size 3 i0 (.int .i64 0) 1 8 Tryd.underlying37 hi hz0 hz1 hz2 rfl (by decide) u4 k ((ids k).map intV) (by rfl) (hown7.out.alloc _) ⟨w7.heap.size, 0, none⟩ 1 1 [.int .i64 ((k : Int) + 1)] (by rfl) rfl (cell_one_new _ _ _) (by simp [Value.oneCell']) (by unfold maxLen; omega) (by omega) (by simp; omega) ?_; intro v8 w8 hv8 hg8 _ hat8; have HN : Hid (Outer W tb (k + 1) v8 w8) := Outer.next HI.out.1 HX3.out.2.1 HX3.out.1 HX3.out.2.2.1 HX3.out.2.2.2.1 (by omega) HX3.out.2.2.2.2 (by omega) HI.out.2.2.2.1 HI.out.2.2.2.2.1 hv8 hg8 hat8; clear hv8 hg8 hat8)
                go_roundw
                case rel => go_light; exact ⟨k + 1, by omega, by go_num, HN⟩
                case measure => go_light; simp [intOf]; omega
      case true.true.false | true.true.true =>
        go_wp2_with (first
          | (go_at_call 11; refine (element_good (HLW.out _) (by omega) (by omega) tag hn).mono ?_; rintro e w1 ⟨rfl, M1, nv1, uv1, fx, l1, fr1, mv1⟩; obtain ⟨d0, d1, d2, d3, d4⟩ := box5 (kind := kind) (tag := tag) (text := text) HM.out mv1; have H1 : Hid (Lies w1 M1 tb nv1 uv1 (ps ++ [newP 2 tag ⟨#[]⟩]) (us ++ [fx]) ∧ Frg w1 M1 fx tb ps.length ∧ Moved (w5.alloc (boxOf kind tag text (.slice aa attrs.length ac) (.slice ka kids.length kc))) M w1 M1) := ⟨l1, fr1, mv1⟩; clear l1 fr1 mv1)
          | (go_at_call 12; refine (undo_forget H1.out.1 H1.out.2.1).mono ?_; rintro e w2 ⟨rfl, nv2, uv2, l2, mv2⟩; have mvx := H1.out.2.2.trans mv2; obtain ⟨d0, d1, d2, d3, d4⟩ := box5 HM.out mvx; have H2 : Hid (Lies w2 M1 tb nv2 uv2 ps us ∧ Moved (w5.alloc (boxOf kind tag text (.slice aa attrs.length ac) (.slice ka kids.length kc))) M w2 M1) := ⟨l2, mvx⟩; clear l2 mv2 mvx)
          | (go_at_call 13; refine (comment_good H2.out.1 (by omega) (by omega) text (by omega)).mono ?_; rintro e w3 hq; obtain ⟨rfl, hmid0⟩ := hq.mid; have hmid := Mid.trans H2.out.2 hmid0; obtain ⟨M1, nv1, uv1, p1, fx, l1, mv1, z1⟩ := id hmid; obtain ⟨d0, d1, d2, d3, d4⟩ := box5 HM.out mv1; have HMid : Hid (Mid (w5.alloc (boxOf kind tag text (.slice aa attrs.length ac) (.slice ka kids.length kc))) M tb ps us w3) := hmid; clear hq hmid hmid0 l1 mv1 z1)
          | (go_at_call 14; refine (text_good H2.out.1 (by omega) (by omega) text (by omega)).mono ?_; rintro e w3 hq; obtain ⟨rfl, hmid0⟩ := hq.mid; have hmid := Mid.trans H2.out.2 hmid0; obtain ⟨M1, nv1, uv1, p1, fx, l1, mv1, z1⟩ := id hmid; obtain ⟨d0, d1, d2, d3, d4⟩ := box5 HM.out mv1; have HMid : Hid (Mid (w5.alloc (boxOf kind tag text (.slice aa attrs.length ac) (.slice ka kids.length kc))) M tb ps us w3) := hmid; clear hq hmid hmid0 l1 mv1 z1))
        go_loopw [65] (fun i w' => ∃ j : Nat, j ≤ attrs.length ∧ i = .int .i64 j ∧ Hid (Inner (w5.alloc (boxOf kind tag text (.slice aa attrs.length ac) (.slice ka kids.length kc))) M tb (k + 1) (us.length + 1 + j) (100 * k) j w')) (fun i _ => attrs.length - (intOf i).toNat)
        case atStart => exact ⟨0, by omega, rfl, HI.out.2.1 ▸ HMid.out.inner HI.out.2.2.1⟩
        case round =>
          obtain ⟨j, hj, rfl, hin⟩ := hrel
          by_cases hjl : j < attrs.length
          · obtain ⟨⟨xn, xv⟩, hx⟩ : ∃ x, attrs[j]? = some x := ⟨_, List.getElem?_eq_getElem hjl⟩
            obtain ⟨M2, nv2, uv2, ps2, us2, q2, l2, mv2, n2, u2, g2, hq2, r2, a2⟩ := hin.out
            obtain ⟨b', o', hA, hb', e1, e2, e3, e4⟩ := HI.out.2.2.2.2.2.att j _ hx
            have hA' : aa = some ⟨b', o', none⟩ := hA
            subst hA'
            have cm := came HI.out.1 mv2
            have e1' : wr.cell? ⟨b', o' + j * 2, none⟩ = some (.string xn) := (World.cell?_of_block (a := ⟨b', o' + j * 2, none⟩) (cm b' hb')).trans e1
            have e2' : wr.cell? ⟨b', o' + j * 2 + 1, none⟩ = some (.string xv) := (World.cell?_of_block (a := ⟨b', o' + j * 2 + 1, none⟩) (cm b' hb')).trans e2
            have bl' : b' < wr.heap.size := World.block_lt_of_cell? wr _ e1'
            have b1 : us2.length ≤ 7000 := by omega
            have b2 : q2.n.attrs.length ≤ 8 := by omega
            have HX : Hid (Lies wr M2 tb nv2 uv2 ps2 us2 ∧ Moved (w5.alloc (boxOf kind tag text (.slice (some ⟨b', o', none⟩) attrs.length ac) (.slice ka kids.length kc))) M wr M2 ∧ ps2.length = k + 1 + 1 ∧ us2.length ≤ us.length + 1 + j ∧ Good ps2 (100 * k) ∧ ps2[k + 1]? = some q2 ∧ q2.n.parent = -1 ∧ q2.n.attrs.length ≤ j) := ⟨l2, mv2, n2, u2, g2, hq2, r2, a2⟩
            have HE2 : Hid (Errs wr M2) := (HEr.out _).moved mv2
            clear hA hb' e1 e2 cm l2 mv2 n2 u2 g2 hq2 r2 a2 hx hin
            go_wp2_with (go_at_call 15; refine (set_at (HX.out.1.alloc _) (HE2.out.moved ((Moved.refl _ _).alloc _)) HX.out.2.2.2.2.2.1 xn xv e4 (by omega) (by omega) _ (by omega)).mono ?_; rintro e w2 ⟨⟨v2, rfl⟩, hrest⟩; have HR : Hid _ := hrest; clear hrest)
            go_roundw
            case rel =>
              go_light
              obtain ⟨l2, mv2, n2, u2, g2, hq2, r2, a2⟩ := HX.out
              obtain ⟨M3, nv3, uv3, ps3, us3, q3, l3, mv3, n3, u3, g3, hq3, r3, k3, a3⟩ := HR.out
              exact ⟨j + 1, by omega, by go_num, M3, nv3, uv3, ps3, us3, q3, l3, (mv2.alloc _).trans mv3, by omega, by omega, g3 _ g2, hq3, r3.trans r2, by omega⟩
            case measure => go_light; simp [intOf]; omega
          · obtain ⟨w6, hw6⟩ : ∃ w6, w6 = wr := ⟨_, rfl⟩
            subst hw6
            obtain ⟨M2, nv2, uv2, ps2, us2, q2, l2, mv2, n2, u2, g2, hq2, r2, a2⟩ := hin.out
            obtain ⟨d0', d1', d2', d3', d4'⟩ := box5 HM.out mv2
            have HX : Hid (Inner (w5.alloc (boxOf kind tag text (.slice aa attrs.length ac) (.slice ka kids.length kc))) M tb (k + 1) (us.length + 10) (100 * k) 8 w6) := ⟨M2, nv2, uv2, ps2, us2, q2, l2, mv2, n2, by omega, g2, hq2, r2, by omega⟩
            clear l2 mv2 n2 u2 g2 hq2 r2 a2 hin d0 d1 d2 d3 d4
            go_wp2
            go_loopw [80] (fun i w' => ∃ j : Nat, j ≤ kids.length ∧ i = .int .i64 j ∧ Hid (Inner3 (w5.alloc (boxOf kind tag text (.slice aa attrs.length ac) (.slice ka kids.length kc))) M tb (k + 1) (us.length + 10 + j) (100 * k + j) w')) (fun i _ => kids.length - (intOf i).toNat)
            case atStart =>
              obtain ⟨M2, nv2, uv2, ps2, us2, q2, l2, mv2, n2, u2, g2, hq2, r2, a2⟩ := HX.out
              exact ⟨0, by omega, rfl, M2, nv2, uv2, ps2, us2, q2, l2, mv2, n2, u2, g2, hq2, r2⟩
            case round =>
              obtain ⟨j3, hj3, rfl, hin3⟩ := hrel
              by_cases hjl3 : j3 < kids.length
              · obtain ⟨x, hx⟩ : ∃ x, kids[j3]? = some x := ⟨_, List.getElem?_eq_getElem hjl3⟩
                obtain ⟨M3, nv3, uv3, ps3, us3, q3, l3, mv3, n3, u3, g3, hq3, r3⟩ := hin3.out
                obtain ⟨b', o', hA, hb', e1⟩ := HI.out.2.2.2.2.2.kid j3 _ hx
                have hA' : ka = some ⟨b', o', none⟩ := hA
                subst hA'
                have e1' : wr.cell? ⟨b', o' + j3, none⟩ = some (.int .i64 x) := (World.cell?_of_block (a := ⟨b', o' + j3, none⟩) (came HI.out.1 mv3 b' hb')).trans e1
                have bl' : b' < wr.heap.size := World.block_lt_of_cell? wr _ e1'
                have b1 : us3.length ≤ 7000 := by omega
                have b2 : q3.n.kids.length ≤ 7000 := by have := (g3.2 _ q3 hq3).1; omega
                have hstay : Hid (Inner3 (w5.alloc (boxOf kind tag text (.slice aa attrs.length ac) (.slice (some ⟨b', o', none⟩) kids.length kc))) M tb (k + 1) (us.length + 10 + (j3 + 1)) (100 * k + (j3 + 1)) wr) := ⟨M3, nv3, uv3, ps3, us3, q3, l3, mv3, n3, by omega, g3.mono (by omega), hq3, r3⟩
                by_cases hx0 : 0 ≤ x
                · by_cases hxk : x < (k : Int)
                  · obtain ⟨n, rfl⟩ := Int.eq_ofNat_of_zero_le hx0
                    obtain ⟨pb, hpb⟩ : ∃ pb, ps3[n + 1]? = some pb := ⟨ps3[n + 1]'(by omega), List.getElem?_eq_getElem _⟩
                    have HX3 : Hid (Lies wr M3 tb nv3 uv3 ps3 us3 ∧ Moved (w5.alloc (boxOf kind tag text (.slice aa attrs.length ac) (.slice (some ⟨b', o', none⟩) kids.length kc))) M wr M3 ∧ ps3.length = k + 1 + 1 ∧ us3.length ≤ us.length + 10 + j3 ∧ Good ps3 (100 * k + j3) ∧ ps3[k + 1]? = some q3 ∧ q3.n.parent = -1 ∧ ps3[n + 1]? = some pb) := ⟨l3, mv3, n3, u3, g3, hq3, r3, hpb⟩
                    have HE3 : Hid (Errs wr M3) := (HEr.out _).moved mv3
                    have hpar := g3.parent hpb
                    clear hA hb' e1 l3 mv3 n3 u3 g3 hq3 r3 hpb hx hin3
                    rcases hpar with hpm | hpge
                    · go_wp2_with (first
                        | (go_at_call 16; refine (parent_at HX3.out.1 HX3.out.2.2.2.2.2.2.2 _ (by omega)).mono ?_; rintro e w9 ⟨rfl, rfl⟩; rw [hpm])
                        | (go_at_call 18; refine (kids_at HX3.out.1 HX3.out.2.2.2.2.2.1 (by omega) _ (by omega)).mono ?_; rintro e w10 ⟨a10, c10, rfl, hB10⟩; have HB : Hid _ := hB10; clear hB10)
                        | (go_at_call 17; refine (put_all (HX3.out.1.below HB.out) (HE3.out.below HB.out) HX3.out.2.2.2.2.2.1 HX3.out.2.2.2.2.2.2.2 (.inl (by omega)) (by omega) (by omega) HX3.out.2.2.2.2.2.2.1 hpm (by omega) _ _ (by omega) (by omega)).mono ?_; rintro e w11 ⟨⟨v11, rfl⟩, hrest⟩; have HR : Hid _ := hrest; clear hrest))
                      go_roundw
                      case rel =>
                        go_light
                        obtain ⟨l3, mv3, n3, u3, g3, hq3, r3, _⟩ := HX3.out
                        obtain ⟨M4, nv4, uv4, ps4, us4, q4, l4, mv4, n4, u4', g4, hq4, r4⟩ := HR.out
                        exact ⟨j3 + 1, by omega, by go_num, M4, nv4, uv4, ps4, us4, q4, l4, (mv3.below HB.out).trans mv4, by omega, by omega, g4 _ g3, hq4, r4⟩
                      case measure => go_light; simp [intOf]; omega
                    · go_wp2_with (go_at_call 16; refine (parent_at HX3.out.1 HX3.out.2.2.2.2.2.2.2 _ (by omega)).mono ?_; rintro e w9 ⟨rfl, rfl⟩)
                      go_roundw
                      case rel => go_light; exact ⟨j3 + 1, by omega, by go_num, hstay⟩
                      case measure => go_light; simp [intOf]; omega
                  · clear hA hb' e1 l3 mv3 n3 u3 g3 hq3 r3 hx hin3
                    go_wp2
                    go_roundw
                    case rel => go_light; exact ⟨j3 + 1, by omega, by go_num, hstay⟩
                    case measure => go_light; simp [intOf]; omega
                · clear hA hb' e1 l3 mv3 n3 u3 g3 hq3 r3 hx hin3
                  go_wp2
                  go_roundw
                  case rel => go_light; exact ⟨j3 + 1, by omega, by go_num, hstay⟩
                  case measure => go_light; simp [intOf]; omega
              · obtain ⟨w7, hw7⟩ : ∃ w7, w7 = wr := ⟨_, rfl⟩
                subst hw7
                obtain ⟨M3, nv3, uv3, ps3, us3, q3, l3, mv3, n3, u3, g3, hq3, r3⟩ := hin3.out
                obtain ⟨hmv, _, _, hown, hol, _⟩ := HI.out
                have hown7 : Hid (w7.ownsRow W.heap.size 3 1 u4 k ((ids k).map intV)) := (own_moved hown (((Moved.refl w5 M).alloc _).trans mv3) hol).1
                have hs7 : W.heap.size ≤ w7.heap.size := Nat.le_trans hmv.size (Nat.le_trans (by simp) mv3.size)
                have HX3 : Hid (Lies w7 M3 tb nv3 uv3 ps3 us3 ∧ Moved (w5.alloc (boxOf kind tag text (.slice aa attrs.length ac) (.slice ka kids.length kc))) M w7 M3 ∧ ps3.length = k + 1 + 1 ∧ us3.length ≤ us.length + 10 + j3 ∧ Good ps3 (100 * k + j3)) := ⟨l3, mv3, n3, u3, g3⟩
                clear l3 mv3 n3 u3 g3 hq3 r3 hin3 hown hol hmv
                go_wp2_with (at_builtin; refine wpList_append_own_at _ (by rfl) (.tmp 108) (.tmp 110) 37 (by rfl) W.heap.size 3 i0 (.int .i64 0) 1 8 Tryd.underlying37 hi hz0 hz1 hz2 rfl (by decide) u4 k ((ids k).map intV) (by rfl) (hown7.out.alloc _) ⟨w7.heap.size, 0, none⟩ 1 1 [.int .i64 ((k : Int) + 1)] (by rfl) rfl (cell_one_new _ _ _) (by simp [Value.oneCell']) (by unfold maxLen; omega) (by omega) (by simp; omega) ?_; intro v8 w8 hv8 hg8 _ hat8; have HN : Hid (Outer W tb (k + 1) v8 w8) := Outer.next HI.out.1 HX3.out.2.1 HX3.out.1 HX3.out.2.2.1 HX3.out.2.2.2.1 (by omega) HX3.out.2.2.2.2 (by omega) HI.out.2.2.2.1 HI.out.2.2.2.2.1 hv8 hg8 hat8; clear hv8 hg8 hat8)
                go_roundw
                case rel => go_light; exact ⟨k + 1, by omega, by go_num, HN⟩
                case measure => go_light; simp [intOf]; omega
    · obtain rfl : k = ts.length := by omega
      obtain ⟨M, nv, uv, ps, us, hL, hmv, hpl, hul, hg, hown, hol⟩ := hO.out
      obtain ⟨_, a4, c4, hv4, _, hc4, _⟩ := own_cell hown
      subst hv4
      have HS : Hid (Last W tb ts.length 0 (.slice a4 ts.length c4) wr) := ⟨M, nv, uv, ps, us, hL, hmv, hpl, hul, hg, hown, hol⟩
      unfold maxLen at hc4
      clear hL hmv hpl hul hg hown hol hO
      go_wp2
      go_loopw [115] (fun i w' => ∃ j : Nat, j ≤ ts.length ∧ i = .int .i64 j ∧ Hid (Last W tb ts.length j (.slice a4 ts.length c4) w')) (fun i _ => ts.length - (intOf i).toNat)
      case atStart => exact ⟨0, by omega, rfl, HS⟩
      case round =>
        obtain ⟨j, hj, rfl, hin⟩ := hrel
        obtain ⟨M, nv, uv, ps, us, hL, hmv, hpl, hul, hg, hown, hol⟩ := hin.out
        by_cases hjl : j < ts.length
        · obtain ⟨_, a5, c5, hv5, _, _, hcell⟩ := own_cell hown
          cases hv5
          obtain ⟨g, rfl, cg, _⟩ := hcell j _ (ids_get ts.length j hjl)
          obtain ⟨p0, hp0, _, hr0⟩ := hg.1
          obtain ⟨pb, hpb⟩ : ∃ pb, ps[j + 1]? = some pb := ⟨ps[j + 1]'(by omega), List.getElem?_eq_getElem _⟩
          have b1 : us.length ≤ 7000 := by omega
          have b2 : p0.n.kids.length ≤ 7000 := by have := (hg.2 0 p0 hp0).1; omega
          have hpar := hg.parent hpb
          have HE3 : Hid (Errs wr M) := HE.out.moved hmv
          have HX : Hid (Lies wr M tb nv uv ps us ∧ Moved W M0 wr M ∧ ps.length = ts.length + 1 ∧ us.length ≤ 100 * ts.length + j ∧ Good ps (100 * ts.length + j) ∧ wr.ownsRow W.heap.size 3 1 (.slice (some ⟨g, 0, none⟩) ts.length c4) ts.length ((ids ts.length).map intV) ∧ (∀ b, (Value.slice (some ⟨g, 0, none⟩) ts.length c4).ownBlock = some b → M b = .other) ∧ ps[0]? = some p0 ∧ p0.n.parent = -1 ∧ ps[j + 1]? = some pb) := ⟨hL, hmv, hpl, hul, hg, hown, hol, hp0, hr0, hpb⟩
          clear hL hmv hpl hul hg hown hol hp0 hr0 hpb hin hcell
          rcases hpar with hpm | hpge
          · go_wp2_with (first
              | (go_at_call 16; refine (parent_at HX.out.1 HX.out.2.2.2.2.2.2.2.2.2 _ (by omega)).mono ?_; rintro e w9 ⟨rfl, rfl⟩; rw [hpm])
              | (go_at_call 18; refine (kids_at HX.out.1 HX.out.2.2.2.2.2.2.2.1 (by omega) _ (by omega)).mono ?_; rintro e w10 ⟨a10, c10, rfl, hB10⟩; have HB : Hid _ := hB10; clear hB10)
              | (go_at_call 17; refine (put_all (HX.out.1.below HB.out) (HE3.out.below HB.out) HX.out.2.2.2.2.2.2.2.1 HX.out.2.2.2.2.2.2.2.2.2 (.inr ⟨rfl, by omega⟩) (by omega) (by omega) HX.out.2.2.2.2.2.2.2.2.1 hpm (by omega) _ _ (by omega) (by omega)).mono ?_; rintro e w11 ⟨⟨v11, rfl⟩, hrest⟩; have HR : Hid _ := hrest; clear hrest))
            go_roundw
            case rel =>
              go_light
              obtain ⟨hL, hmv, hpl, hul, hg, hown, hol, _⟩ := HX.out
              obtain ⟨M4, nv4, uv4, ps4, us4, q4, l4, mv4, n4, u4', g4, _⟩ := HR.out
              obtain ⟨o1, o2⟩ := own_moved hown (((Moved.refl _ M).below HB.out).trans mv4) hol
              exact ⟨j + 1, by omega, by go_num, M4, nv4, uv4, ps4, us4, l4, (hmv.below HB.out).trans mv4, by omega, by omega, g4 _ hg, o1, o2⟩
            case measure => go_light; simp [intOf]; omega
          · go_wp2_with (go_at_call 16; refine (parent_at HX.out.1 HX.out.2.2.2.2.2.2.2.2.2 _ (by omega)).mono ?_; rintro e w9 ⟨rfl, rfl⟩)
            go_roundw
            case rel =>
              go_light
              obtain ⟨hL, hmv, hpl, hul, hg, hown, hol, _⟩ := HX.out
              exact ⟨j + 1, by omega, by go_num, M, nv, uv, ps, us, hL, hmv, hpl, by omega, hg.mono (by omega), hown, hol⟩
            case measure => go_light; simp [intOf]; omega
        · have HX : Hid (Lies wr M tb nv uv ps us ∧ Moved W M0 wr M ∧ ps.length = ts.length + 1 ∧ Good ps (100 * ts.length + j)) := ⟨hL, hmv, hpl, hg⟩
          clear hL hmv hpl hul hg hown hol hin
          go_wp2_with (go_at_call 19; refine (settle_any HX.out.1).mono ?_; rintro e w9 ⟨rfl, hL9, hm9⟩)
          go_ret
          exact ⟨tb, M, nv, _, ps, [], _, rfl, hL9, HX.out.2.1.trans hm9, HX.out.2.2.2, by have := HX.out.2.2.1; omega⟩
end Go.Proofs.YtebnioflphafmabDoor
