/- What package plain's Tree makes of any list of twigs: nothing, or the document's tree. -/
import Derived.Test.YtlfepdecgfcifaaGreatDoorM31
import Derived.Test.YtlfepdecgfcifaaGreatDoorM09
import Derived.Test.YtlfepdecgfcifaaGreatDoorM10
namespace Go.Proofs.YtlfepdecgfcifaaGreatDoor
open Go.RowKit

def M0 : Nat → Lab := fun _ => .other
/-- the numbers from 1 on -/
def ids (n : Nat) : List Int := (List.range n).map fun (i : Nat) => (i : Int) + 1
theorem ids_succ (n : Nat) : ids (n + 1) = ids n ++ [(n : Int) + 1] := by simp [ids, List.range_succ]
theorem ids_get (n i : Nat) (h : i < n) : (ids n)[i]? = some ((i : Int) + 1) := by simp [ids, List.getElem?_range h]

/-- a list that can be worked through -/
def Fair (ts : List Tw) : Prop := ts.length ≤ 1048576 ∧ ∀ (j : Nat) (t : Tw), ts[j]? = some t → t.attrs.length ≤ 1048576 ∧ t.kids.length ≤ 1048576

/-- so many twigs are done -/
def GOut (W : World) (tb : Nat) (ts : List Tw) (n : Nat) (v : Value) (w : World) : Prop :=
  ∃ M nv uv ps us, Lies w M tb nv uv ps us ∧ Moved W M0 w M ∧ nodesOf ps = bodyS ts n ∧ us.length ≤ 5000000 * n ∧ SizedN (bodyS ts n) (5000000 * n) (5000000 * n) ∧ w.ownsRow W.heap.size 3 1 v n ((ids n).map intV) ∧ ∀ k, v.ownBlock = some k → M k = .other
/-- so many of the numbers are looked at -/
def GLast (W : World) (tb : Nat) (ts : List Tw) (j : Nat) (v : Value) (w : World) : Prop :=
  ∃ M nv uv ps us, Lies w M tb nv uv ps us ∧ Moved W M0 w M ∧ nodesOf ps = lastS ts j ∧ us.length ≤ 5000000 * ts.length + j ∧ SizedN (lastS ts j) (5000000 * ts.length) (5000000 * ts.length + j) ∧ w.ownsRow W.heap.size 3 1 v ts.length ((ids ts.length).map intV) ∧ ∀ k, v.ownBlock = some k → M k = .other

theorem five_cells {w : World} {b : Nat} {t : TypeId} {fr : Nat × Nat} {a0 a1 a2 a3 a4 : Value} (h : w.heap[b]? = some (.cells #[a0, a1, a2, a3, a4] t fr)) :
    w.cell? ⟨b, 0, none⟩ = some a0 ∧ w.cell? ⟨b, 1, none⟩ = some a1 ∧ w.cell? ⟨b, 2, none⟩ = some a2 ∧ w.cell? ⟨b, 3, none⟩ = some a3 ∧ w.cell? ⟨b, 4, none⟩ = some a4 := by
  refine ⟨?_, ?_, ?_, ?_, ?_⟩ <;> (rw [cell_of_row w b _ _ _ _ h]; rfl)
/-- a twig's copy -/
def boxOf (kind : Int) (tag text : ByteArray) (av kv : Value) : Obj := .cells #[.int .i64 kind, .string tag, .string text, av, kv] 45
theorem box5 {wr w' : World} {M M' : Nat → Lab} {kind : Int} {tag text : ByteArray} {av kv : Value} (hM : M wr.heap.size = .other) (m : Moved (wr.alloc (boxOf kind tag text av kv)) M w' M') :
    w'.cell? ⟨wr.heap.size, 0, none⟩ = some (.int .i64 kind) ∧ w'.cell? ⟨wr.heap.size, 1, none⟩ = some (.string tag) ∧ w'.cell? ⟨wr.heap.size, 2, none⟩ = some (.string text) ∧ w'.cell? ⟨wr.heap.size, 3, none⟩ = some av ∧ w'.cell? ⟨wr.heap.size, 4, none⟩ = some kv :=
  five_cells ((m.far wr.heap.size (by simp) hM).trans (heap_alloc_new wr _))
/-- what came in lies as it lay -/
theorem came {W wr w' : World} {M M' : Nat → Lab} {o : Obj} (h : Moved W M0 wr M) (m : Moved (wr.alloc o) M w' M') : ∀ b, b < W.heap.size → w'.heap[b]? = wr.heap[b]? := fun b hb =>
  (m.far b (by simp; have := h.size; omega) ((h.lab b hb).trans rfl)).trans (Below.heap_alloc wr o b (Nat.lt_of_lt_of_le hb h.size))

theorem GOut.next {W w5 w7 w8 : World} {M M2 : Nat → Lab} {tb k : Nat} {ts : List Tw} {v v8 : Value} {o o2 : Obj} {nv uv : Value} {ps : List Pn} {us : List Value} (h : Moved W M0 w5 M) (mv : Moved (w5.alloc o) M w7 M2) (hL : Lies w7 M2 tb nv uv ps us) (hn : nodesOf ps = bodyS ts (k + 1)) (hu : us.length ≤ 5000000 * (k + 1)) (hz : SizedN (bodyS ts (k + 1)) (5000000 * (k + 1)) (5000000 * (k + 1)))
    (hown : w5.ownsRow W.heap.size 3 1 v k ((ids k).map intV)) (hol : ∀ k, v.ownBlock = some k → M k = .other)
    (hv8 : w8.ownsRow W.heap.size 3 1 v8 (k + 1) ((ids k).map intV ++ [.int .i64 ((k : Int) + 1)])) (hg8 : (w7.alloc o2).grownBy w8 v.ownBlock) (hat : v8.ownBlock = v.ownBlock ∨ v8.ownBlock = some (w7.alloc o2).heap.size) : GOut W tb ts (k + 1) v8 w8 := by
  obtain ⟨hown', hol'⟩ := own_moved hown (((Moved.refl w5 M).alloc o).trans mv) hol
  refine ⟨M2, nv, uv, ps, us, (hL.alloc o2).grown hg8 hol', (((h.alloc o).trans mv).alloc o2).grown hg8 (fun b hb => (hown'.lt b hb).1), hn, hu, hz, ?_, ?_⟩
  · rw [ids_succ, List.map_append]
    exact hv8
  · intro b hb
    rcases hat with e | e
    · exact hol' b (e ▸ hb)
    · rw [e] at hb
      cases hb
      exact hL.fresh _ (by simp)

def GPost (W : World) (ts : List Tw) (e : Ending) (w' : World) : Prop :=
  (e = .returned (.pointer none) ∧ ¬ Few ts ∧ Below W.heap.size W w') ∨
  ∃ tb M nv uv ps us, e = .returned (.pointer (some ⟨tb, 0, none⟩)) ∧ Lies w' M tb nv uv ps us ∧ Moved W M0 w' M ∧ nodesOf ps = treeS ts ∧ ts.length ≤ 399 ∧ SizedN (treeS ts) (5000000 * ts.length) (5000000 * ts.length + ts.length)

theorem notFew {ts : List Tw} {k : Nat} {t : Tw} (ht : ts[k]? = some t) (h : 300 < t.text.size ∨ 60 < k) : ¬ Few ts := by
  intro hf
  have := (hf.2 k t ht).1
  have hk := (List.getElem?_eq_some_iff.1 ht).1
  have := hf.1
  omega

set_option maxHeartbeats 20000000 in
set_option maxRecDepth 100000 in
theorem treeG_any {W : World} {cap : Nat} {a : Option Addr} {ts : List Tw} (h : TwigsIn W W.heap.size a ts) (hE : Errs W M0) (hf : Fair ts) :
    Calls Tryz.prog 6 #[.slice a ts.length cap] W (GPost W ts) := by
  obtain ⟨i0, hi, hz0, hz1, hz2⟩ := info_parts Tryz.infoInt
  have H : Hid (TwigsIn W W.heap.size a ts) := h
  have HE : Hid (Errs W M0) := hE
  have HF : Hid (∀ (j : Nat) (t : Tw), ts[j]? = some t → t.attrs.length ≤ 1048576 ∧ t.kids.length ≤ 1048576) := hf.2
  have h60 := hf.1
  clear h hE hf
  go_enter Tryz.func6, Tryz.ntmps6
  go_wp2_with (go_at_call 16; refine (new_any _).mono ?_; rintro e w0 ⟨tb, nv0, uv0, Mx, rfl, hL0, hm0⟩; have H0 : Hid (GOut W tb ts 0 (.slice none 0 0) w0) := ⟨Mx, nv0, uv0, _, _, hL0, hm0, rfl, Nat.le_refl _, (by intro j n hj; rcases Nat.eq_zero_or_pos j with e | e; (subst e; cases hj; exact ⟨Nat.le_refl _, Nat.le_refl _⟩); (unfold bodyS at hj; rw [List.getElem?_eq_none (by simp; omega)] at hj; cases hj)), World.ownsRow_nil _ _ _ _, fun k hk => by simp [Value.ownBlock] at hk⟩; clear hL0 hm0)
  go_loopw [20, 4] (fun i v wr => ∃ k : Nat, k ≤ ts.length ∧ k ≤ 399 ∧ i = .int .i64 k ∧ Hid (GOut W tb ts k v wr)) (fun i _ _ => ts.length - (intOf i).toNat)
  case atStart => exact ⟨0, by omega, by omega, rfl, H0⟩
  case round =>
    obtain ⟨k, hk, hk9, rfl, hO⟩ := hrel
    by_cases hlt : k < ts.length
    · obtain ⟨w5, hw5⟩ : ∃ w5, w5 = wr := ⟨_, rfl⟩
      subst hw5
      obtain ⟨t, ht⟩ : ∃ t, ts[k]? = some t := ⟨_, List.getElem?_eq_getElem hlt⟩
      obtain ⟨f3, f4⟩ := HF.out k t ht
      obtain ⟨b, o, rfl, hT0⟩ := H.out k t ht
      obtain ⟨M, nv, uv, ps, us, hL, hmv, hns, hul, hsz, hown, hol⟩ := hO.out
      have hT := hT0.same (w' := w5) (fun b hb => hmv.far b hb rfl)
      have c0 := hT.kind
      have c1 := hT.tag
      have c2 := hT.text
      have c3 := hT.attrs
      have c4 := hT.kids
      have bl := Nat.lt_of_lt_of_le hT.blk hmv.size
      have HEr : Hid (∀ o, Errs (w5.alloc o) M) := fun o => (HE.out.moved hmv).moved ((Moved.refl w5 M).alloc o)
      have HM : Hid (M w5.heap.size = .other) := hL.fresh _ (Nat.le_refl _)
      have HI : Hid _ := And.intro hmv (And.intro hown (And.intro hol hT))
      have HP : Hid (∀ o, PAt (w5.alloc o) M tb (bodyS ts k) (5000000 * k) (5000000 * k) (5000000 * k) (w5.alloc o)) := fun o => ⟨M, nv, uv, ps, us, hL.alloc o, Moved.refl _ _, hns, hul, hsz⟩
      have HB5 : Hid (Below W.heap.size W w5) := ⟨hmv.os, hmv.tape, hmv.output, hmv.size, fun b hb => hmv.far b hb rfl⟩
      have hbl : (bodyS ts k).length = k + 1 := bodyS_length ts k hk
      have HNF : Hid (300 < t.text.size ∨ 60 < k → ¬ Few ts) := notFew ht
      have HBS : Hid (bodyS ts (k + 1) = twigS (bodyS ts k) k t) := by
        show bodyS ts (k + 1) = twigS (bodyS ts k) k t
        conv => lhs; unfold bodyS; rw [ht]
      clear hL hmv hown hol hT0 hT ht hO hns hul hsz
      obtain ⟨kind, tag, text, attrs, kids, aa, ac, ka, kc⟩ := t
      dsimp only at c0 c1 c2 c3 c4 f3 f4 HNF
      have HS1 : Hid (SoundAt (bodyS ts k ++ [headS kind tag text]) k) := SoundAt.head (bodyS_sound ts k hk) hbl _ _ _
      have no : ∀ w', PAt (w5.alloc (boxOf kind tag text (.slice aa attrs.length ac) (.slice ka kids.length kc))) M tb (bodyS ts k) (5000000 * k) (5000000 * k) (5000000 * k) w' → (300 < text.size ∨ 60 < k) → GPost W ts (.returned (.pointer none)) w' := by
        intro w' hp hbig
        obtain ⟨M1, _, _, _, _, _, mv1, _⟩ := hp
        exact .inl ⟨rfl, HNF.out hbig, HB5.out.trans ⟨mv1.os, mv1.tape, mv1.output, Nat.le_trans (by simp) mv1.size, fun b hb => (mv1.far b (by simp; have := HB5.out.size; omega) ((HI.out.1.lab b hb).trans rfl)).trans (Below.heap_alloc _ _ _ (by have := HB5.out.size; omega))⟩⟩
      have NO : Hid _ := no
      clear no
      by_cases hok : nameB tag = true ∧ k + 1 < 400
      · cases hb2 : (kind != 2)
        · have hk2 : kind = 2 := by simpa using hb2
          have hhd : (⟨2, tag, ⟨#[]⟩, [], -1, []⟩ : Nd) = headS kind tag text := by unfold headS; rw [if_pos ⟨hk2, hok.1⟩]
          clear hk2
          obtain ⟨hok1, hok2⟩ := id hok
          go_wp2_with (go_at_call 17; refine ((HP.out _).element (by omega) (by omega) tag hok.1).mono ?_; rintro e w3 ⟨rfl, h3⟩; rw [hbl]; have HMid : Hid (PAt (w5.alloc (boxOf kind tag text (.slice aa attrs.length ac) (.slice ka kids.length kc))) M tb (bodyS ts k ++ [headS kind tag text]) (5000000 * k + 1) (5000000 * k) (5000000 * k) w3) := (by have := h3.at rfl rfl; rw [hhd] at this; exact this); obtain ⟨M1, nv1, uv1, ps1, us1, l1, mv1, _⟩ := id HMid.out; obtain ⟨d0, d1, d2, d3, d4⟩ := box5 HM.out mv1; clear h3 l1 mv1)
          go_loopw [65] (fun i w' => ∃ j : Nat, j ≤ attrs.length ∧ i = .int .i64 j ∧ Hid (PAt (w5.alloc (boxOf kind tag text (.slice aa attrs.length ac) (.slice ka kids.length kc))) M tb (attrsS (k + 1) (bodyS ts k ++ [headS kind tag text]) (attrs.take j)) (5000000 * k + 1 + j) (5000000 * k + j) (5000000 * k) w')) (fun i _ => attrs.length - (intOf i).toNat)
          case atStart => exact ⟨0, by omega, rfl, HMid⟩
          case round =>
            obtain ⟨j, hj, rfl, hin⟩ := hrel
            by_cases hjl : j < attrs.length
            · obtain ⟨⟨xn, xv⟩, hx⟩ : ∃ x, attrs[j]? = some x := ⟨_, List.getElem?_eq_getElem hjl⟩
              obtain ⟨M2, nv2, uv2, ps2, us2, l2, mv2, _⟩ := hin.out
              obtain ⟨b', o', hA, hb', e1, e2, e3, e4⟩ := HI.out.2.2.2.att j _ hx
              have hA' : aa = some ⟨b', o', none⟩ := hA
              subst hA'
              have cm := came HI.out.1 mv2
              have e1' : wr.cell? ⟨b', o' + j * 2, none⟩ = some (.string xn) := (World.cell?_of_block (a := ⟨b', o' + j * 2, none⟩) (cm b' hb')).trans e1
              have e2' : wr.cell? ⟨b', o' + j * 2 + 1, none⟩ = some (.string xv) := (World.cell?_of_block (a := ⟨b', o' + j * 2 + 1, none⟩) (cm b' hb')).trans e2
              have bl' : b' < wr.heap.size := World.block_lt_of_cell? wr _ e1'
              have HX : Hid _ := attrsS_succ hx (k + 1) (bodyS ts k ++ [headS kind tag text])
              have hll : (attrsS (k + 1) (bodyS ts k ++ [headS kind tag text]) (attrs.take j)).length = k + 1 + 1 := by rw [attrsS_length]; simp [hbl]
              clear hA hb' e1 e2 cm l2 mv2 hx
              go_wp2_with (go_at_call 21; refine ((hin.out.below ((Below.refl _ _).alloc (Nat.le_refl _) _)).set (HEr.out _) (by omega) (by omega) (i := k + 1) (by omega) xn xv e4 _ (by omega)).mono ?_; rintro e w2 ⟨⟨v2, rfl⟩, h2'⟩; have H2' : Hid _ := h2'; clear h2')
              go_roundw
              case rel =>
                go_light
                refine ⟨j + 1, by omega, by go_num, ?_⟩
                show PAt _ _ _ _ _ _ _ _
                rw [HX.out]
                exact H2'.out
              case measure => go_light; simp [intOf]; omega
            · obtain ⟨w6, hw6⟩ : ∃ w6, w6 = wr := ⟨_, rfl⟩
              subst hw6
              obtain rfl : j = attrs.length := by omega
              rw [List.take_length] at hin
              obtain ⟨T, hTt⟩ : ∃ T, attrsS (k + 1) (bodyS ts k ++ [headS kind tag text]) attrs = T := ⟨_, rfl⟩
              rw [hTt] at hin
              have HS2 : Hid (SoundAt T k) := hTt ▸ SoundAt.attrs _ HS1.out
              have HE2 : Hid (kidsS k T kids = bodyS ts (k + 1)) := by
                show kidsS k T kids = bodyS ts (k + 1)
                rw [HBS.out]
                unfold twigS
                dsimp only
                rw [hTt]
              obtain ⟨M2, nv2, uv2, ps2, us2, l2, mv2, _⟩ := id hin.out
              obtain ⟨d0', d1', d2', d3', d4'⟩ := box5 HM.out mv2
              clear l2 mv2 hTt d0 d1 d2 d3 d4
              go_wp2
              go_loopw [80] (fun i w' => ∃ j : Nat, j ≤ kids.length ∧ i = .int .i64 j ∧ Hid (PAt (w5.alloc (boxOf kind tag text (.slice aa attrs.length ac) (.slice ka kids.length kc))) M tb (kidsS k T (kids.take j)) (5000000 * k + 1 + 1100000 + j) (5000000 * k + 1100000) (5000000 * k + j) w')) (fun i _ => kids.length - (intOf i).toNat)
              case atStart => exact ⟨0, by omega, rfl, hin.out.mono (by omega) (by omega) (by omega)⟩
              case round =>
                obtain ⟨j3, hj3, rfl, hin3⟩ := hrel
                have hSj : Hid (SoundAt (kidsS k T (kids.take j3)) k) := SoundAt.kids _ HS2.out
                by_cases hjl3 : j3 < kids.length
                · obtain ⟨x, hx⟩ : ∃ x, kids[j3]? = some x := ⟨_, List.getElem?_eq_getElem hjl3⟩
                  obtain ⟨M3, nv3, uv3, ps3, us3, l3, mv3, _⟩ := id hin3.out
                  obtain ⟨b', o', hA, hb', e1⟩ := HI.out.2.2.2.kid j3 _ hx
                  have hA' : ka = some ⟨b', o', none⟩ := hA
                  subst hA'
                  have e1' : wr.cell? ⟨b', o' + j3, none⟩ = some (.int .i64 x) := (World.cell?_of_block (a := ⟨b', o' + j3, none⟩) (came HI.out.1 mv3 b' hb')).trans e1
                  have bl' : b' < wr.heap.size := World.block_lt_of_cell? wr _ e1'
                  have HX : Hid _ := kidsS_succ hx k T
                  obtain ⟨N, hN⟩ : ∃ N, kidsS k T (kids.take j3) = N := ⟨_, rfl⟩
                  rw [hN] at hin3 hSj HX
                  obtain ⟨nn, hk1, hr1⟩ := hSj.out.2.2
                  have hNl : N.length = k + 1 + 1 := hSj.out.2.1
                  have HK1 : Hid (N[k + 1]? = some nn) := hk1
                  clear hA hb' e1 l3 mv3 hx hN hk1
                  have stay : ∀ (hno : ¬ (0 ≤ x ∧ x < (k : Int) ∧ rootB N (x.toNat + 1) = true)), Hid (PAt (w5.alloc (boxOf kind tag text (.slice aa attrs.length ac) (.slice (some ⟨b', o', none⟩) kids.length kc))) M tb (kidsS k T (kids.take (j3 + 1))) (5000000 * k + 1 + 1100000 + (j3 + 1)) (5000000 * k + 1100000) (5000000 * k + (j3 + 1)) wr) := by
                    intro hno
                    show PAt _ _ _ _ _ _ _ _
                    rw [HX.out]
                    unfold kidS
                    rw [if_neg hno]
                    exact hin3.out.mono (by omega) (by omega) (by omega)
                  by_cases hx0 : 0 ≤ x
                  · by_cases hxk : x < (k : Int)
                    · obtain ⟨n, rfl⟩ := Int.eq_ofNat_of_zero_le hx0
                      obtain ⟨mb, hmb⟩ : ∃ mb, N[n + 1]? = some mb := ⟨N[n + 1]'(by omega), List.getElem?_eq_getElem _⟩
                      have HMB : Hid (N[n + 1]? = some mb) := hmb
                      rcases hSj.out.1.par (n + 1) mb hmb with hpm | ⟨pq, hpq, _⟩
                      · have hroot : rootB N (n + 1) = true := by unfold rootB; rw [hmb]; simp [hpm]
                        clear stay hmb
                        go_wp2_with (first
                          | (go_at_call 22; refine (hin3.out.parent HMB.out _ (by omega)).mono ?_; rintro e w9 ⟨rfl, hw9⟩; have hw2 := hw9.symm; subst hw2; clear hw9; rw [hpm])
                          | (go_at_call 24; refine (hin3.out.kids (by omega) HK1.out _ (by omega)).mono ?_; rintro e w10 ⟨a10, c10, rfl, hB10⟩; have HB : Hid _ := hB10; clear hB10)
                          | (go_at_call 23; refine ((hin3.out.below HB.out).put (HEr.out _) (by omega) (by omega) HK1.out HMB.out (by omega) (by omega) hr1 hpm _ _ (by omega) (by omega)).mono ?_; rintro e w11 ⟨⟨v11, rfl⟩, h11⟩; have H11 : Hid _ := h11; clear h11))
                        go_roundw
                        case rel =>
                          go_light
                          refine ⟨j3 + 1, by omega, by go_num, ?_⟩
                          show PAt _ _ _ _ _ _ _ _
                          rw [HX.out]
                          unfold kidS
                          rw [if_pos ⟨hx0, hxk, hroot⟩]
                          exact H11.out
                        case measure => go_light; simp [intOf]; omega
                      · have hroot : rootB N (n + 1) = false := by unfold rootB; rw [hmb]; simp [hpq]
                        have HSt := stay (fun h => by rw [Int.toNat_natCast, hroot] at h; cases h.2.2)
                        clear stay hmb
                        go_wp2_with (go_at_call 22; refine (hin3.out.parent HMB.out _ (by omega)).mono ?_; rintro e w9 ⟨rfl, hw9⟩; have hw2 := hw9.symm; subst hw2; clear hw9; rw [hpq])
                        go_roundw
                        case rel => go_light; exact ⟨j3 + 1, by omega, by go_num, HSt⟩
                        case measure => go_light; simp [intOf]; omega
                    · have HSt := stay (fun h => hxk h.2.1)
                      clear stay
                      go_wp2
                      go_roundw
                      case rel => go_light; exact ⟨j3 + 1, by omega, by go_num, HSt⟩
                      case measure => go_light; simp [intOf]; omega
                  · have HSt := stay (fun h => hx0 h.1)
                    clear stay
                    go_wp2
                    go_roundw
                    case rel => go_light; exact ⟨j3 + 1, by omega, by go_num, HSt⟩
                    case measure => go_light; simp [intOf]; omega
                · obtain ⟨w7, hw7⟩ : ∃ w7, w7 = wr := ⟨_, rfl⟩
                  subst hw7
                  obtain rfl : j3 = kids.length := by omega
                  rw [List.take_length, HE2.out] at hin3
                  obtain ⟨M3, nv3, uv3, ps3, us3, l3, mv3, n3, u3, g3⟩ := hin3.out
                  obtain ⟨hmv, hown, hol, _⟩ := HI.out
                  have hown7 : Hid (w7.ownsRow W.heap.size 3 1 u4 k ((ids k).map intV)) := (own_moved hown (((Moved.refl w5 M).alloc _).trans mv3) hol).1
                  have hs7 : W.heap.size ≤ w7.heap.size := Nat.le_trans hmv.size (Nat.le_trans (by simp) mv3.size)
                  have HX3 : Hid (Lies w7 M3 tb nv3 uv3 ps3 us3 ∧ Moved (w5.alloc (boxOf kind tag text (.slice aa attrs.length ac) (.slice ka kids.length kc))) M w7 M3 ∧ nodesOf ps3 = bodyS ts (k + 1) ∧ us3.length ≤ 5000000 * (k + 1) ∧ SizedN (bodyS ts (k + 1)) (5000000 * (k + 1)) (5000000 * (k + 1))) := ⟨l3, mv3, n3, by omega, g3.mono (by omega) (by omega)⟩
                  clear l3 mv3 n3 u3 g3 hown hol hmv hin3
                  go_wp2_with (at_builtin; refine wpList_append_own_at _ (by rfl) (.tmp 108) (.tmp 110) 32 (by rfl) W.heap.size 3 i0 (.int .i64 0) 1 8 Tryz.underlying32 hi hz0 hz1 hz2 rfl (by decide) u4 k ((ids k).map intV) (by rfl) (hown7.out.alloc _) ⟨w7.heap.size, 0, none⟩ 1 1 [.int .i64 ((k : Int) + 1)] (by rfl) rfl (cell_one_new _ _ _) (by simp [Value.oneCell']) (by unfold maxLen; omega) (by omega) (by simp; omega) ?_; intro v8 w8 hv8 hg8 _ hat8; have HN : Hid (GOut W tb ts (k + 1) v8 w8) := GOut.next HI.out.1 HX3.out.2.1 HX3.out.1 HX3.out.2.2.1 HX3.out.2.2.2.1 HX3.out.2.2.2.2 HI.out.2.1 HI.out.2.2.1 hv8 hg8 hat8; clear hv8 hg8 hat8)
                  go_roundw
                  case rel => go_light; exact ⟨k + 1, by omega, by omega, by go_num, HN⟩
                  case measure => go_light; simp [intOf]; omega
        · have hk2 : ¬ kind = 2 := by simpa using hb2
          have hnE : ¬ (kind = 2 ∧ nameB tag = true) := fun h => hk2 h.1
          obtain ⟨hok1, hok2⟩ := id hok
          by_cases hsz2 : text.size ≤ 20000 ∧ k + 1 < 400
          · obtain ⟨hsz2, hl4⟩ := hsz2
            cases hb4 : (kind == 4)
            · have hk4 : ¬ kind = 4 := by simpa using hb4
              have hhd : (⟨3, ⟨#[]⟩, text, [], -1, []⟩ : Nd) = headS kind tag text := by unfold headS; rw [if_neg hnE, if_neg hk4]
              clear hk4
              go_wp2_with (first | (go_at_call 17; refine ((HP.out _).element (by omega) (by omega) tag hok.1).mono ?_; rintro e w1 ⟨rfl, h1⟩; have H1 : Hid (PFresh (w5.alloc (boxOf kind tag text (.slice aa attrs.length ac) (.slice ka kids.length kc))) M tb (bodyS ts k) ⟨2, tag, ⟨#[]⟩, [], -1, []⟩ (5000000 * k) (5000000 * k) (5000000 * k) w1) := h1; obtain ⟨M1, nv1, uv1, ps1, p1, us1, f1, l1, _, mv1, _⟩ := id h1; obtain ⟨d0, d1, d2, d3, d4⟩ := box5 HM.out mv1; clear h1 l1 mv1) | (go_at_call 18; refine H1.out.undo.mono ?_; rintro e w2 ⟨rfl, h2⟩; have H2 : Hid (PAt (w5.alloc (boxOf kind tag text (.slice aa attrs.length ac) (.slice ka kids.length kc))) M tb (bodyS ts k) (5000000 * k) (5000000 * k) (5000000 * k) w2) := h2; obtain ⟨M1, nv1, uv1, ps1, us1, l1, mv1, _⟩ := id h2; obtain ⟨d0, d1, d2, d3, d4⟩ := box5 HM.out mv1; clear h2 l1 mv1) | (go_at_call 20; refine (H2.out.text (by omega) (by omega) text hsz2).mono ?_; rintro e w3 ⟨rfl, h3⟩; rw [hbl]; have HMid : Hid (PAt (w5.alloc (boxOf kind tag text (.slice aa attrs.length ac) (.slice ka kids.length kc))) M tb (bodyS ts k ++ [headS kind tag text]) (5000000 * k + 1) (5000000 * k) (5000000 * k) w3) := (by have := h3.at rfl rfl; rw [hhd] at this; exact this); obtain ⟨M1, nv1, uv1, ps1, us1, l1, mv1, _⟩ := id HMid.out; obtain ⟨d0, d1, d2, d3, d4⟩ := box5 HM.out mv1; clear h3 l1 mv1))
              go_loopw [65] (fun i w' => ∃ j : Nat, j ≤ attrs.length ∧ i = .int .i64 j ∧ Hid (PAt (w5.alloc (boxOf kind tag text (.slice aa attrs.length ac) (.slice ka kids.length kc))) M tb (attrsS (k + 1) (bodyS ts k ++ [headS kind tag text]) (attrs.take j)) (5000000 * k + 1 + j) (5000000 * k + j) (5000000 * k) w')) (fun i _ => attrs.length - (intOf i).toNat)
              case atStart => exact ⟨0, by omega, rfl, HMid⟩
              case round =>
                obtain ⟨j, hj, rfl, hin⟩ := hrel
                by_cases hjl : j < attrs.length
                · obtain ⟨⟨xn, xv⟩, hx⟩ : ∃ x, attrs[j]? = some x := ⟨_, List.getElem?_eq_getElem hjl⟩
                  obtain ⟨M2, nv2, uv2, ps2, us2, l2, mv2, _⟩ := hin.out
                  obtain ⟨b', o', hA, hb', e1, e2, e3, e4⟩ := HI.out.2.2.2.att j _ hx
                  have hA' : aa = some ⟨b', o', none⟩ := hA
                  subst hA'
                  have cm := came HI.out.1 mv2
                  have e1' : wr.cell? ⟨b', o' + j * 2, none⟩ = some (.string xn) := (World.cell?_of_block (a := ⟨b', o' + j * 2, none⟩) (cm b' hb')).trans e1
                  have e2' : wr.cell? ⟨b', o' + j * 2 + 1, none⟩ = some (.string xv) := (World.cell?_of_block (a := ⟨b', o' + j * 2 + 1, none⟩) (cm b' hb')).trans e2
                  have bl' : b' < wr.heap.size := World.block_lt_of_cell? wr _ e1'
                  have HX : Hid _ := attrsS_succ hx (k + 1) (bodyS ts k ++ [headS kind tag text])
                  have hll : (attrsS (k + 1) (bodyS ts k ++ [headS kind tag text]) (attrs.take j)).length = k + 1 + 1 := by rw [attrsS_length]; simp [hbl]
                  clear hA hb' e1 e2 cm l2 mv2 hx
                  go_wp2_with (go_at_call 21; refine ((hin.out.below ((Below.refl _ _).alloc (Nat.le_refl _) _)).set (HEr.out _) (by omega) (by omega) (i := k + 1) (by omega) xn xv e4 _ (by omega)).mono ?_; rintro e w2 ⟨⟨v2, rfl⟩, h2'⟩; have H2' : Hid _ := h2'; clear h2')
                  go_roundw
                  case rel =>
                    go_light
                    refine ⟨j + 1, by omega, by go_num, ?_⟩
                    show PAt _ _ _ _ _ _ _ _
                    rw [HX.out]
                    exact H2'.out
                  case measure => go_light; simp [intOf]; omega
                · obtain ⟨w6, hw6⟩ : ∃ w6, w6 = wr := ⟨_, rfl⟩
                  subst hw6
                  obtain rfl : j = attrs.length := by omega
                  rw [List.take_length] at hin
                  obtain ⟨T, hTt⟩ : ∃ T, attrsS (k + 1) (bodyS ts k ++ [headS kind tag text]) attrs = T := ⟨_, rfl⟩
                  rw [hTt] at hin
                  have HS2 : Hid (SoundAt T k) := hTt ▸ SoundAt.attrs _ HS1.out
                  have HE2 : Hid (kidsS k T kids = bodyS ts (k + 1)) := by
                    show kidsS k T kids = bodyS ts (k + 1)
                    rw [HBS.out]
                    unfold twigS
                    dsimp only
                    rw [hTt]
                  obtain ⟨M2, nv2, uv2, ps2, us2, l2, mv2, _⟩ := id hin.out
                  obtain ⟨d0', d1', d2', d3', d4'⟩ := box5 HM.out mv2
                  clear l2 mv2 hTt d0 d1 d2 d3 d4
                  go_wp2
                  go_loopw [80] (fun i w' => ∃ j : Nat, j ≤ kids.length ∧ i = .int .i64 j ∧ Hid (PAt (w5.alloc (boxOf kind tag text (.slice aa attrs.length ac) (.slice ka kids.length kc))) M tb (kidsS k T (kids.take j)) (5000000 * k + 1 + 1100000 + j) (5000000 * k + 1100000) (5000000 * k + j) w')) (fun i _ => kids.length - (intOf i).toNat)
                  case atStart => exact ⟨0, by omega, rfl, hin.out.mono (by omega) (by omega) (by omega)⟩
                  case round =>
                    obtain ⟨j3, hj3, rfl, hin3⟩ := hrel
                    have hSj : Hid (SoundAt (kidsS k T (kids.take j3)) k) := SoundAt.kids _ HS2.out
                    by_cases hjl3 : j3 < kids.length
                    · obtain ⟨x, hx⟩ : ∃ x, kids[j3]? = some x := ⟨_, List.getElem?_eq_getElem hjl3⟩
                      obtain ⟨M3, nv3, uv3, ps3, us3, l3, mv3, _⟩ := id hin3.out
                      obtain ⟨b', o', hA, hb', e1⟩ := HI.out.2.2.2.kid j3 _ hx
                      have hA' : ka = some ⟨b', o', none⟩ := hA
                      subst hA'
                      have e1' : wr.cell? ⟨b', o' + j3, none⟩ = some (.int .i64 x) := (World.cell?_of_block (a := ⟨b', o' + j3, none⟩) (came HI.out.1 mv3 b' hb')).trans e1
                      have bl' : b' < wr.heap.size := World.block_lt_of_cell? wr _ e1'
                      have HX : Hid _ := kidsS_succ hx k T
                      obtain ⟨N, hN⟩ : ∃ N, kidsS k T (kids.take j3) = N := ⟨_, rfl⟩
                      rw [hN] at hin3 hSj HX
                      obtain ⟨nn, hk1, hr1⟩ := hSj.out.2.2
                      have hNl : N.length = k + 1 + 1 := hSj.out.2.1
                      have HK1 : Hid (N[k + 1]? = some nn) := hk1
                      clear hA hb' e1 l3 mv3 hx hN hk1
                      have stay : ∀ (hno : ¬ (0 ≤ x ∧ x < (k : Int) ∧ rootB N (x.toNat + 1) = true)), Hid (PAt (w5.alloc (boxOf kind tag text (.slice aa attrs.length ac) (.slice (some ⟨b', o', none⟩) kids.length kc))) M tb (kidsS k T (kids.take (j3 + 1))) (5000000 * k + 1 + 1100000 + (j3 + 1)) (5000000 * k + 1100000) (5000000 * k + (j3 + 1)) wr) := by
                        intro hno
                        show PAt _ _ _ _ _ _ _ _
                        rw [HX.out]
                        unfold kidS
                        rw [if_neg hno]
                        exact hin3.out.mono (by omega) (by omega) (by omega)
                      by_cases hx0 : 0 ≤ x
                      · by_cases hxk : x < (k : Int)
                        · obtain ⟨n, rfl⟩ := Int.eq_ofNat_of_zero_le hx0
                          obtain ⟨mb, hmb⟩ : ∃ mb, N[n + 1]? = some mb := ⟨N[n + 1]'(by omega), List.getElem?_eq_getElem _⟩
                          have HMB : Hid (N[n + 1]? = some mb) := hmb
                          rcases hSj.out.1.par (n + 1) mb hmb with hpm | ⟨pq, hpq, _⟩
                          · have hroot : rootB N (n + 1) = true := by unfold rootB; rw [hmb]; simp [hpm]
                            clear stay hmb
                            go_wp2_with (first
                              | (go_at_call 22; refine (hin3.out.parent HMB.out _ (by omega)).mono ?_; rintro e w9 ⟨rfl, hw9⟩; have hw2 := hw9.symm; subst hw2; clear hw9; rw [hpm])
                              | (go_at_call 24; refine (hin3.out.kids (by omega) HK1.out _ (by omega)).mono ?_; rintro e w10 ⟨a10, c10, rfl, hB10⟩; have HB : Hid _ := hB10; clear hB10)
                              | (go_at_call 23; refine ((hin3.out.below HB.out).put (HEr.out _) (by omega) (by omega) HK1.out HMB.out (by omega) (by omega) hr1 hpm _ _ (by omega) (by omega)).mono ?_; rintro e w11 ⟨⟨v11, rfl⟩, h11⟩; have H11 : Hid _ := h11; clear h11))
                            go_roundw
                            case rel =>
                              go_light
                              refine ⟨j3 + 1, by omega, by go_num, ?_⟩
                              show PAt _ _ _ _ _ _ _ _
                              rw [HX.out]
                              unfold kidS
                              rw [if_pos ⟨hx0, hxk, hroot⟩]
                              exact H11.out
                            case measure => go_light; simp [intOf]; omega
                          · have hroot : rootB N (n + 1) = false := by unfold rootB; rw [hmb]; simp [hpq]
                            have HSt := stay (fun h => by rw [Int.toNat_natCast, hroot] at h; cases h.2.2)
                            clear stay hmb
                            go_wp2_with (go_at_call 22; refine (hin3.out.parent HMB.out _ (by omega)).mono ?_; rintro e w9 ⟨rfl, hw9⟩; have hw2 := hw9.symm; subst hw2; clear hw9; rw [hpq])
                            go_roundw
                            case rel => go_light; exact ⟨j3 + 1, by omega, by go_num, HSt⟩
                            case measure => go_light; simp [intOf]; omega
                        · have HSt := stay (fun h => hxk h.2.1)
                          clear stay
                          go_wp2
                          go_roundw
                          case rel => go_light; exact ⟨j3 + 1, by omega, by go_num, HSt⟩
                          case measure => go_light; simp [intOf]; omega
                      · have HSt := stay (fun h => hx0 h.1)
                        clear stay
                        go_wp2
                        go_roundw
                        case rel => go_light; exact ⟨j3 + 1, by omega, by go_num, HSt⟩
                        case measure => go_light; simp [intOf]; omega
                    · obtain ⟨w7, hw7⟩ : ∃ w7, w7 = wr := ⟨_, rfl⟩
                      subst hw7
                      obtain rfl : j3 = kids.length := by omega
                      rw [List.take_length, HE2.out] at hin3
                      obtain ⟨M3, nv3, uv3, ps3, us3, l3, mv3, n3, u3, g3⟩ := hin3.out
                      obtain ⟨hmv, hown, hol, _⟩ := HI.out
                      have hown7 : Hid (w7.ownsRow W.heap.size 3 1 u4 k ((ids k).map intV)) := (own_moved hown (((Moved.refl w5 M).alloc _).trans mv3) hol).1
                      have hs7 : W.heap.size ≤ w7.heap.size := Nat.le_trans hmv.size (Nat.le_trans (by simp) mv3.size)
                      have HX3 : Hid (Lies w7 M3 tb nv3 uv3 ps3 us3 ∧ Moved (w5.alloc (boxOf kind tag text (.slice aa attrs.length ac) (.slice ka kids.length kc))) M w7 M3 ∧ nodesOf ps3 = bodyS ts (k + 1) ∧ us3.length ≤ 5000000 * (k + 1) ∧ SizedN (bodyS ts (k + 1)) (5000000 * (k + 1)) (5000000 * (k + 1))) := ⟨l3, mv3, n3, by omega, g3.mono (by omega) (by omega)⟩
                      clear l3 mv3 n3 u3 g3 hown hol hmv hin3
                      go_wp2_with (at_builtin; refine wpList_append_own_at _ (by rfl) (.tmp 108) (.tmp 110) 32 (by rfl) W.heap.size 3 i0 (.int .i64 0) 1 8 Tryz.underlying32 hi hz0 hz1 hz2 rfl (by decide) u4 k ((ids k).map intV) (by rfl) (hown7.out.alloc _) ⟨w7.heap.size, 0, none⟩ 1 1 [.int .i64 ((k : Int) + 1)] (by rfl) rfl (cell_one_new _ _ _) (by simp [Value.oneCell']) (by unfold maxLen; omega) (by omega) (by simp; omega) ?_; intro v8 w8 hv8 hg8 _ hat8; have HN : Hid (GOut W tb ts (k + 1) v8 w8) := GOut.next HI.out.1 HX3.out.2.1 HX3.out.1 HX3.out.2.2.1 HX3.out.2.2.2.1 HX3.out.2.2.2.2 HI.out.2.1 HI.out.2.2.1 hv8 hg8 hat8; clear hv8 hg8 hat8)
                      go_roundw
                      case rel => go_light; exact ⟨k + 1, by omega, by omega, by go_num, HN⟩
                      case measure => go_light; simp [intOf]; omega
            · have hk4 : kind = 4 := by simpa using hb4
              have hhd : (⟨4, ⟨#[]⟩, text, [], -1, []⟩ : Nd) = headS kind tag text := by unfold headS; rw [if_neg hnE, if_pos hk4]
              clear hk4
              go_wp2_with (first | (go_at_call 17; refine ((HP.out _).element (by omega) (by omega) tag hok.1).mono ?_; rintro e w1 ⟨rfl, h1⟩; have H1 : Hid (PFresh (w5.alloc (boxOf kind tag text (.slice aa attrs.length ac) (.slice ka kids.length kc))) M tb (bodyS ts k) ⟨2, tag, ⟨#[]⟩, [], -1, []⟩ (5000000 * k) (5000000 * k) (5000000 * k) w1) := h1; obtain ⟨M1, nv1, uv1, ps1, p1, us1, f1, l1, _, mv1, _⟩ := id h1; obtain ⟨d0, d1, d2, d3, d4⟩ := box5 HM.out mv1; clear h1 l1 mv1) | (go_at_call 18; refine H1.out.undo.mono ?_; rintro e w2 ⟨rfl, h2⟩; have H2 : Hid (PAt (w5.alloc (boxOf kind tag text (.slice aa attrs.length ac) (.slice ka kids.length kc))) M tb (bodyS ts k) (5000000 * k) (5000000 * k) (5000000 * k) w2) := h2; obtain ⟨M1, nv1, uv1, ps1, us1, l1, mv1, _⟩ := id h2; obtain ⟨d0, d1, d2, d3, d4⟩ := box5 HM.out mv1; clear h2 l1 mv1) | (go_at_call 19; refine (H2.out.comment (by omega) (by omega) text hsz2).mono ?_; rintro e w3 ⟨rfl, h3⟩; rw [hbl]; have HMid : Hid (PAt (w5.alloc (boxOf kind tag text (.slice aa attrs.length ac) (.slice ka kids.length kc))) M tb (bodyS ts k ++ [headS kind tag text]) (5000000 * k + 1) (5000000 * k) (5000000 * k) w3) := (by have := h3.at rfl rfl; rw [hhd] at this; exact this); obtain ⟨M1, nv1, uv1, ps1, us1, l1, mv1, _⟩ := id HMid.out; obtain ⟨d0, d1, d2, d3, d4⟩ := box5 HM.out mv1; clear h3 l1 mv1))
              go_loopw [65] (fun i w' => ∃ j : Nat, j ≤ attrs.length ∧ i = .int .i64 j ∧ Hid (PAt (w5.alloc (boxOf kind tag text (.slice aa attrs.length ac) (.slice ka kids.length kc))) M tb (attrsS (k + 1) (bodyS ts k ++ [headS kind tag text]) (attrs.take j)) (5000000 * k + 1 + j) (5000000 * k + j) (5000000 * k) w')) (fun i _ => attrs.length - (intOf i).toNat)
              case atStart => exact ⟨0, by omega, rfl, HMid⟩
              case round =>
                obtain ⟨j, hj, rfl, hin⟩ := hrel
                by_cases hjl : j < attrs.length
                · obtain ⟨⟨xn, xv⟩, hx⟩ : ∃ x, attrs[j]? = some x := ⟨_, List.getElem?_eq_getElem hjl⟩
                  obtain ⟨M2, nv2, uv2, ps2, us2, l2, mv2, _⟩ := hin.out
                  obtain ⟨b', o', hA, hb', e1, e2, e3, e4⟩ := HI.out.2.2.2.att j _ hx
                  have hA' : aa = some ⟨b', o', none⟩ := hA
                  subst hA'
                  have cm := came HI.out.1 mv2
                  have e1' : wr.cell? ⟨b', o' + j * 2, none⟩ = some (.string xn) := (World.cell?_of_block (a := ⟨b', o' + j * 2, none⟩) (cm b' hb')).trans e1
                  have e2' : wr.cell? ⟨b', o' + j * 2 + 1, none⟩ = some (.string xv) := (World.cell?_of_block (a := ⟨b', o' + j * 2 + 1, none⟩) (cm b' hb')).trans e2
                  have bl' : b' < wr.heap.size := World.block_lt_of_cell? wr _ e1'
                  have HX : Hid _ := attrsS_succ hx (k + 1) (bodyS ts k ++ [headS kind tag text])
                  have hll : (attrsS (k + 1) (bodyS ts k ++ [headS kind tag text]) (attrs.take j)).length = k + 1 + 1 := by rw [attrsS_length]; simp [hbl]
                  clear hA hb' e1 e2 cm l2 mv2 hx
                  go_wp2_with (go_at_call 21; refine ((hin.out.below ((Below.refl _ _).alloc (Nat.le_refl _) _)).set (HEr.out _) (by omega) (by omega) (i := k + 1) (by omega) xn xv e4 _ (by omega)).mono ?_; rintro e w2 ⟨⟨v2, rfl⟩, h2'⟩; have H2' : Hid _ := h2'; clear h2')
                  go_roundw
                  case rel =>
                    go_light
                    refine ⟨j + 1, by omega, by go_num, ?_⟩
                    show PAt _ _ _ _ _ _ _ _
                    rw [HX.out]
                    exact H2'.out
                  case measure => go_light; simp [intOf]; omega
                · obtain ⟨w6, hw6⟩ : ∃ w6, w6 = wr := ⟨_, rfl⟩
                  subst hw6
                  obtain rfl : j = attrs.length := by omega
                  rw [List.take_length] at hin
                  obtain ⟨T, hTt⟩ : ∃ T, attrsS (k + 1) (bodyS ts k ++ [headS kind tag text]) attrs = T := ⟨_, rfl⟩
                  rw [hTt] at hin
                  have HS2 : Hid (SoundAt T k) := hTt ▸ SoundAt.attrs _ HS1.out
                  have HE2 : Hid (kidsS k T kids = bodyS ts (k + 1)) := by
                    show kidsS k T kids = bodyS ts (k + 1)
                    rw [HBS.out]
                    unfold twigS
                    dsimp only
                    rw [hTt]
                  obtain ⟨M2, nv2, uv2, ps2, us2, l2, mv2, _⟩ := id hin.out
                  obtain ⟨d0', d1', d2', d3', d4'⟩ := box5 HM.out mv2
                  clear l2 mv2 hTt d0 d1 d2 d3 d4
                  go_wp2
                  go_loopw [80] (fun i w' => ∃ j : Nat, j ≤ kids.length ∧ i = .int .i64 j ∧ Hid (PAt (w5.alloc (boxOf kind tag text (.slice aa attrs.length ac) (.slice ka kids.length kc))) M tb (kidsS k T (kids.take j)) (5000000 * k + 1 + 1100000 + j) (5000000 * k + 1100000) (5000000 * k + j) w')) (fun i _ => kids.length - (intOf i).toNat)
                  case atStart => exact ⟨0, by omega, rfl, hin.out.mono (by omega) (by omega) (by omega)⟩
                  case round =>
                    obtain ⟨j3, hj3, rfl, hin3⟩ := hrel
                    have hSj : Hid (SoundAt (kidsS k T (kids.take j3)) k) := SoundAt.kids _ HS2.out
                    by_cases hjl3 : j3 < kids.length
                    · obtain ⟨x, hx⟩ : ∃ x, kids[j3]? = some x := ⟨_, List.getElem?_eq_getElem hjl3⟩
                      obtain ⟨M3, nv3, uv3, ps3, us3, l3, mv3, _⟩ := id hin3.out
                      obtain ⟨b', o', hA, hb', e1⟩ := HI.out.2.2.2.kid j3 _ hx
                      have hA' : ka = some ⟨b', o', none⟩ := hA
                      subst hA'
                      have e1' : wr.cell? ⟨b', o' + j3, none⟩ = some (.int .i64 x) := (World.cell?_of_block (a := ⟨b', o' + j3, none⟩) (came HI.out.1 mv3 b' hb')).trans e1
                      have bl' : b' < wr.heap.size := World.block_lt_of_cell? wr _ e1'
                      have HX : Hid _ := kidsS_succ hx k T
                      obtain ⟨N, hN⟩ : ∃ N, kidsS k T (kids.take j3) = N := ⟨_, rfl⟩
                      rw [hN] at hin3 hSj HX
                      obtain ⟨nn, hk1, hr1⟩ := hSj.out.2.2
                      have hNl : N.length = k + 1 + 1 := hSj.out.2.1
                      have HK1 : Hid (N[k + 1]? = some nn) := hk1
                      clear hA hb' e1 l3 mv3 hx hN hk1
                      have stay : ∀ (hno : ¬ (0 ≤ x ∧ x < (k : Int) ∧ rootB N (x.toNat + 1) = true)), Hid (PAt (w5.alloc (boxOf kind tag text (.slice aa attrs.length ac) (.slice (some ⟨b', o', none⟩) kids.length kc))) M tb (kidsS k T (kids.take (j3 + 1))) (5000000 * k + 1 + 1100000 + (j3 + 1)) (5000000 * k + 1100000) (5000000 * k + (j3 + 1)) wr) := by
                        intro hno
                        show PAt _ _ _ _ _ _ _ _
                        rw [HX.out]
                        unfold kidS
                        rw [if_neg hno]
                        exact hin3.out.mono (by omega) (by omega) (by omega)
                      by_cases hx0 : 0 ≤ x
                      · by_cases hxk : x < (k : Int)
                        · obtain ⟨n, rfl⟩ := Int.eq_ofNat_of_zero_le hx0
                          obtain ⟨mb, hmb⟩ : ∃ mb, N[n + 1]? = some mb := ⟨N[n + 1]'(by omega), List.getElem?_eq_getElem _⟩
                          have HMB : Hid (N[n + 1]? = some mb) := hmb
                          rcases hSj.out.1.par (n + 1) mb hmb with hpm | ⟨pq, hpq, _⟩
                          · have hroot : rootB N (n + 1) = true := by unfold rootB; rw [hmb]; simp [hpm]
                            clear stay hmb
                            go_wp2_with (first
                              | (go_at_call 22; refine (hin3.out.parent HMB.out _ (by omega)).mono ?_; rintro e w9 ⟨rfl, hw9⟩; have hw2 := hw9.symm; subst hw2; clear hw9; rw [hpm])
                              | (go_at_call 24; refine (hin3.out.kids (by omega) HK1.out _ (by omega)).mono ?_; rintro e w10 ⟨a10, c10, rfl, hB10⟩; have HB : Hid _ := hB10; clear hB10)
                              | (go_at_call 23; refine ((hin3.out.below HB.out).put (HEr.out _) (by omega) (by omega) HK1.out HMB.out (by omega) (by omega) hr1 hpm _ _ (by omega) (by omega)).mono ?_; rintro e w11 ⟨⟨v11, rfl⟩, h11⟩; have H11 : Hid _ := h11; clear h11))
                            go_roundw
                            case rel =>
                              go_light
                              refine ⟨j3 + 1, by omega, by go_num, ?_⟩
                              show PAt _ _ _ _ _ _ _ _
                              rw [HX.out]
                              unfold kidS
                              rw [if_pos ⟨hx0, hxk, hroot⟩]
                              exact H11.out
                            case measure => go_light; simp [intOf]; omega
                          · have hroot : rootB N (n + 1) = false := by unfold rootB; rw [hmb]; simp [hpq]
                            have HSt := stay (fun h => by rw [Int.toNat_natCast, hroot] at h; cases h.2.2)
                            clear stay hmb
                            go_wp2_with (go_at_call 22; refine (hin3.out.parent HMB.out _ (by omega)).mono ?_; rintro e w9 ⟨rfl, hw9⟩; have hw2 := hw9.symm; subst hw2; clear hw9; rw [hpq])
                            go_roundw
                            case rel => go_light; exact ⟨j3 + 1, by omega, by go_num, HSt⟩
                            case measure => go_light; simp [intOf]; omega
                        · have HSt := stay (fun h => hxk h.2.1)
                          clear stay
                          go_wp2
                          go_roundw
                          case rel => go_light; exact ⟨j3 + 1, by omega, by go_num, HSt⟩
                          case measure => go_light; simp [intOf]; omega
                      · have HSt := stay (fun h => hx0 h.1)
                        clear stay
                        go_wp2
                        go_roundw
                        case rel => go_light; exact ⟨j3 + 1, by omega, by go_num, HSt⟩
                        case measure => go_light; simp [intOf]; omega
                    · obtain ⟨w7, hw7⟩ : ∃ w7, w7 = wr := ⟨_, rfl⟩
                      subst hw7
                      obtain rfl : j3 = kids.length := by omega
                      rw [List.take_length, HE2.out] at hin3
                      obtain ⟨M3, nv3, uv3, ps3, us3, l3, mv3, n3, u3, g3⟩ := hin3.out
                      obtain ⟨hmv, hown, hol, _⟩ := HI.out
                      have hown7 : Hid (w7.ownsRow W.heap.size 3 1 u4 k ((ids k).map intV)) := (own_moved hown (((Moved.refl w5 M).alloc _).trans mv3) hol).1
                      have hs7 : W.heap.size ≤ w7.heap.size := Nat.le_trans hmv.size (Nat.le_trans (by simp) mv3.size)
                      have HX3 : Hid (Lies w7 M3 tb nv3 uv3 ps3 us3 ∧ Moved (w5.alloc (boxOf kind tag text (.slice aa attrs.length ac) (.slice ka kids.length kc))) M w7 M3 ∧ nodesOf ps3 = bodyS ts (k + 1) ∧ us3.length ≤ 5000000 * (k + 1) ∧ SizedN (bodyS ts (k + 1)) (5000000 * (k + 1)) (5000000 * (k + 1))) := ⟨l3, mv3, n3, by omega, g3.mono (by omega) (by omega)⟩
                      clear l3 mv3 n3 u3 g3 hown hol hmv hin3
                      go_wp2_with (at_builtin; refine wpList_append_own_at _ (by rfl) (.tmp 108) (.tmp 110) 32 (by rfl) W.heap.size 3 i0 (.int .i64 0) 1 8 Tryz.underlying32 hi hz0 hz1 hz2 rfl (by decide) u4 k ((ids k).map intV) (by rfl) (hown7.out.alloc _) ⟨w7.heap.size, 0, none⟩ 1 1 [.int .i64 ((k : Int) + 1)] (by rfl) rfl (cell_one_new _ _ _) (by simp [Value.oneCell']) (by unfold maxLen; omega) (by omega) (by simp; omega) ?_; intro v8 w8 hv8 hg8 _ hat8; have HN : Hid (GOut W tb ts (k + 1) v8 w8) := GOut.next HI.out.1 HX3.out.2.1 HX3.out.1 HX3.out.2.2.1 HX3.out.2.2.2.1 HX3.out.2.2.2.2 HI.out.2.1 HI.out.2.2.1 hv8 hg8 hat8; clear hv8 hg8 hat8)
                      go_roundw
                      case rel => go_light; exact ⟨k + 1, by omega, by omega, by go_num, HN⟩
                      case measure => go_light; simp [intOf]; omega
          · have HBig : Hid (20000 < text.size ∨ (bodyS ts k).length = 400) := by
                rw [hbl]
                rcases Nat.lt_or_ge 20000 text.size with q | q
                · exact .inl q
                · exact .inr (by have : ¬ (k + 1 < 400) := fun h => hsz2 ⟨q, h⟩; omega)
            have HBg2 : Hid (300 < text.size ∨ 60 < k) := by
                rcases HBig.out with q | q
                · exact .inl (by omega)
                · exact .inr (by omega)
            clear hsz2
            cases hb4 : (kind == 4)
            all_goals go_wp2_with (first | (go_at_call 17; refine ((HP.out _).element (by omega) (by omega) tag hok.1).mono ?_; rintro e w1 ⟨rfl, h1⟩; have H1 : Hid (PFresh (w5.alloc (boxOf kind tag text (.slice aa attrs.length ac) (.slice ka kids.length kc))) M tb (bodyS ts k) ⟨2, tag, ⟨#[]⟩, [], -1, []⟩ (5000000 * k) (5000000 * k) (5000000 * k) w1) := h1; obtain ⟨M1, nv1, uv1, ps1, p1, us1, f1, l1, _, mv1, _⟩ := id h1; obtain ⟨d0, d1, d2, d3, d4⟩ := box5 HM.out mv1; clear h1 l1 mv1) | (go_at_call 18; refine H1.out.undo.mono ?_; rintro e w2 ⟨rfl, h2⟩; have H2 : Hid (PAt (w5.alloc (boxOf kind tag text (.slice aa attrs.length ac) (.slice ka kids.length kc))) M tb (bodyS ts k) (5000000 * k) (5000000 * k) (5000000 * k) w2) := h2; obtain ⟨M1, nv1, uv1, ps1, us1, l1, mv1, _⟩ := id h2; obtain ⟨d0, d1, d2, d3, d4⟩ := box5 HM.out mv1; clear h2 l1 mv1) | (go_at_call 20; refine (H2.out.textBad (HEr.out _) (by omega) text HBig.out).mono ?_; rintro e w3 ⟨⟨t3, a3, rfl⟩, h3⟩; have H3 : Hid (PAt (w5.alloc (boxOf kind tag text (.slice aa attrs.length ac) (.slice ka kids.length kc))) M tb (bodyS ts k) (5000000 * k) (5000000 * k) (5000000 * k) w3) := h3; clear h3) | (go_at_call 19; refine (H2.out.commentBad (HEr.out _) (by omega) text HBig.out).mono ?_; rintro e w3 ⟨⟨t3, a3, rfl⟩, h3⟩; have H3 : Hid (PAt (w5.alloc (boxOf kind tag text (.slice aa attrs.length ac) (.slice ka kids.length kc))) M tb (bodyS ts k) (5000000 * k) (5000000 * k) (5000000 * k) w3) := h3; clear h3))
            all_goals go_ret
            all_goals exact NO.out _ H3.out HBg2.out
      · have HBadE : Hid (nameB tag = false ∨ (bodyS ts k).length = 400) := by
          rw [hbl]
          cases hq : nameB tag
          · exact .inl rfl
          · exact .inr (by have : ¬ (k + 1 < 400) := fun h => hok ⟨hq, h⟩; omega)
        cases hb2 : (kind != 2)
        · by_cases hsz2 : text.size ≤ 20000 ∧ k + 1 < 400
          · obtain ⟨hsz2, hl4⟩ := hsz2
            have hnE : ¬ (kind = 2 ∧ nameB tag = true) := fun h => hok ⟨h.2, hl4⟩
            cases hb4 : (kind == 4)
            · have hk4 : ¬ kind = 4 := by simpa using hb4
              have hhd : (⟨3, ⟨#[]⟩, text, [], -1, []⟩ : Nd) = headS kind tag text := by unfold headS; rw [if_neg hnE, if_neg hk4]
              clear hk4
              go_wp2_with (first | (go_at_call 17; refine ((HP.out _).elementBad (HEr.out _) (by omega) tag HBadE.out).mono ?_; rintro e w1 ⟨⟨t1, a1, rfl⟩, h2⟩; have H2 : Hid (PAt (w5.alloc (boxOf kind tag text (.slice aa attrs.length ac) (.slice ka kids.length kc))) M tb (bodyS ts k) (5000000 * k) (5000000 * k) (5000000 * k) w1) := h2; obtain ⟨M1, nv1, uv1, ps1, us1, l1, mv1, _⟩ := id h2; obtain ⟨d0, d1, d2, d3, d4⟩ := box5 HM.out mv1; clear h2 l1 mv1) | (go_at_call 20; refine (H2.out.text (by omega) (by omega) text hsz2).mono ?_; rintro e w3 ⟨rfl, h3⟩; rw [hbl]; have HMid : Hid (PAt (w5.alloc (boxOf kind tag text (.slice aa attrs.length ac) (.slice ka kids.length kc))) M tb (bodyS ts k ++ [headS kind tag text]) (5000000 * k + 1) (5000000 * k) (5000000 * k) w3) := (by have := h3.at rfl rfl; rw [hhd] at this; exact this); obtain ⟨M1, nv1, uv1, ps1, us1, l1, mv1, _⟩ := id HMid.out; obtain ⟨d0, d1, d2, d3, d4⟩ := box5 HM.out mv1; clear h3 l1 mv1))
              go_loopw [65] (fun i w' => ∃ j : Nat, j ≤ attrs.length ∧ i = .int .i64 j ∧ Hid (PAt (w5.alloc (boxOf kind tag text (.slice aa attrs.length ac) (.slice ka kids.length kc))) M tb (attrsS (k + 1) (bodyS ts k ++ [headS kind tag text]) (attrs.take j)) (5000000 * k + 1 + j) (5000000 * k + j) (5000000 * k) w')) (fun i _ => attrs.length - (intOf i).toNat)
              case atStart => exact ⟨0, by omega, rfl, HMid⟩
              case round =>
                obtain ⟨j, hj, rfl, hin⟩ := hrel
                by_cases hjl : j < attrs.length
                · obtain ⟨⟨xn, xv⟩, hx⟩ : ∃ x, attrs[j]? = some x := ⟨_, List.getElem?_eq_getElem hjl⟩
                  obtain ⟨M2, nv2, uv2, ps2, us2, l2, mv2, _⟩ := hin.out
                  obtain ⟨b', o', hA, hb', e1, e2, e3, e4⟩ := HI.out.2.2.2.att j _ hx
                  have hA' : aa = some ⟨b', o', none⟩ := hA
                  subst hA'
                  have cm := came HI.out.1 mv2
                  have e1' : wr.cell? ⟨b', o' + j * 2, none⟩ = some (.string xn) := (World.cell?_of_block (a := ⟨b', o' + j * 2, none⟩) (cm b' hb')).trans e1
                  have e2' : wr.cell? ⟨b', o' + j * 2 + 1, none⟩ = some (.string xv) := (World.cell?_of_block (a := ⟨b', o' + j * 2 + 1, none⟩) (cm b' hb')).trans e2
                  have bl' : b' < wr.heap.size := World.block_lt_of_cell? wr _ e1'
                  have HX : Hid _ := attrsS_succ hx (k + 1) (bodyS ts k ++ [headS kind tag text])
                  have hll : (attrsS (k + 1) (bodyS ts k ++ [headS kind tag text]) (attrs.take j)).length = k + 1 + 1 := by rw [attrsS_length]; simp [hbl]
                  clear hA hb' e1 e2 cm l2 mv2 hx
                  go_wp2_with (go_at_call 21; refine ((hin.out.below ((Below.refl _ _).alloc (Nat.le_refl _) _)).set (HEr.out _) (by omega) (by omega) (i := k + 1) (by omega) xn xv e4 _ (by omega)).mono ?_; rintro e w2 ⟨⟨v2, rfl⟩, h2'⟩; have H2' : Hid _ := h2'; clear h2')
                  go_roundw
                  case rel =>
                    go_light
                    refine ⟨j + 1, by omega, by go_num, ?_⟩
                    show PAt _ _ _ _ _ _ _ _
                    rw [HX.out]
                    exact H2'.out
                  case measure => go_light; simp [intOf]; omega
                · obtain ⟨w6, hw6⟩ : ∃ w6, w6 = wr := ⟨_, rfl⟩
                  subst hw6
                  obtain rfl : j = attrs.length := by omega
                  rw [List.take_length] at hin
                  obtain ⟨T, hTt⟩ : ∃ T, attrsS (k + 1) (bodyS ts k ++ [headS kind tag text]) attrs = T := ⟨_, rfl⟩
                  rw [hTt] at hin
                  have HS2 : Hid (SoundAt T k) := hTt ▸ SoundAt.attrs _ HS1.out
                  have HE2 : Hid (kidsS k T kids = bodyS ts (k + 1)) := by
                    show kidsS k T kids = bodyS ts (k + 1)
                    rw [HBS.out]
                    unfold twigS
                    dsimp only
                    rw [hTt]
                  obtain ⟨M2, nv2, uv2, ps2, us2, l2, mv2, _⟩ := id hin.out
                  obtain ⟨d0', d1', d2', d3', d4'⟩ := box5 HM.out mv2
                  clear l2 mv2 hTt d0 d1 d2 d3 d4
                  go_wp2
                  go_loopw [80] (fun i w' => ∃ j : Nat, j ≤ kids.length ∧ i = .int .i64 j ∧ Hid (PAt (w5.alloc (boxOf kind tag text (.slice aa attrs.length ac) (.slice ka kids.length kc))) M tb (kidsS k T (kids.take j)) (5000000 * k + 1 + 1100000 + j) (5000000 * k + 1100000) (5000000 * k + j) w')) (fun i _ => kids.length - (intOf i).toNat)
                  case atStart => exact ⟨0, by omega, rfl, hin.out.mono (by omega) (by omega) (by omega)⟩
                  case round =>
                    obtain ⟨j3, hj3, rfl, hin3⟩ := hrel
                    have hSj : Hid (SoundAt (kidsS k T (kids.take j3)) k) := SoundAt.kids _ HS2.out
                    by_cases hjl3 : j3 < kids.length
                    · obtain ⟨x, hx⟩ : ∃ x, kids[j3]? = some x := ⟨_, List.getElem?_eq_getElem hjl3⟩
                      obtain ⟨M3, nv3, uv3, ps3, us3, l3, mv3, _⟩ := id hin3.out
                      obtain ⟨b', o', hA, hb', e1⟩ := HI.out.2.2.2.kid j3 _ hx
                      have hA' : ka = some ⟨b', o', none⟩ := hA
                      subst hA'
                      have e1' : wr.cell? ⟨b', o' + j3, none⟩ = some (.int .i64 x) := (World.cell?_of_block (a := ⟨b', o' + j3, none⟩) (came HI.out.1 mv3 b' hb')).trans e1
                      have bl' : b' < wr.heap.size := World.block_lt_of_cell? wr _ e1'
                      have HX : Hid _ := kidsS_succ hx k T
                      obtain ⟨N, hN⟩ : ∃ N, kidsS k T (kids.take j3) = N := ⟨_, rfl⟩
                      rw [hN] at hin3 hSj HX
                      obtain ⟨nn, hk1, hr1⟩ := hSj.out.2.2
                      have hNl : N.length = k + 1 + 1 := hSj.out.2.1
                      have HK1 : Hid (N[k + 1]? = some nn) := hk1
                      clear hA hb' e1 l3 mv3 hx hN hk1
                      have stay : ∀ (hno : ¬ (0 ≤ x ∧ x < (k : Int) ∧ rootB N (x.toNat + 1) = true)), Hid (PAt (w5.alloc (boxOf kind tag text (.slice aa attrs.length ac) (.slice (some ⟨b', o', none⟩) kids.length kc))) M tb (kidsS k T (kids.take (j3 + 1))) (5000000 * k + 1 + 1100000 + (j3 + 1)) (5000000 * k + 1100000) (5000000 * k + (j3 + 1)) wr) := by
                        intro hno
                        show PAt _ _ _ _ _ _ _ _
                        rw [HX.out]
                        unfold kidS
                        rw [if_neg hno]
                        exact hin3.out.mono (by omega) (by omega) (by omega)
                      by_cases hx0 : 0 ≤ x
                      · by_cases hxk : x < (k : Int)
                        · obtain ⟨n, rfl⟩ := Int.eq_ofNat_of_zero_le hx0
                          obtain ⟨mb, hmb⟩ : ∃ mb, N[n + 1]? = some mb := ⟨N[n + 1]'(by omega), List.getElem?_eq_getElem _⟩
                          have HMB : Hid (N[n + 1]? = some mb) := hmb
                          rcases hSj.out.1.par (n + 1) mb hmb with hpm | ⟨pq, hpq, _⟩
                          · have hroot : rootB N (n + 1) = true := by unfold rootB; rw [hmb]; simp [hpm]
                            clear stay hmb
                            go_wp2_with (first
                              | (go_at_call 22; refine (hin3.out.parent HMB.out _ (by omega)).mono ?_; rintro e w9 ⟨rfl, hw9⟩; have hw2 := hw9.symm; subst hw2; clear hw9; rw [hpm])
                              | (go_at_call 24; refine (hin3.out.kids (by omega) HK1.out _ (by omega)).mono ?_; rintro e w10 ⟨a10, c10, rfl, hB10⟩; have HB : Hid _ := hB10; clear hB10)
                              | (go_at_call 23; refine ((hin3.out.below HB.out).put (HEr.out _) (by omega) (by omega) HK1.out HMB.out (by omega) (by omega) hr1 hpm _ _ (by omega) (by omega)).mono ?_; rintro e w11 ⟨⟨v11, rfl⟩, h11⟩; have H11 : Hid _ := h11; clear h11))
                            go_roundw
                            case rel =>
                              go_light
                              refine ⟨j3 + 1, by omega, by go_num, ?_⟩
                              show PAt _ _ _ _ _ _ _ _
                              rw [HX.out]
                              unfold kidS
                              rw [if_pos ⟨hx0, hxk, hroot⟩]
                              exact H11.out
                            case measure => go_light; simp [intOf]; omega
                          · have hroot : rootB N (n + 1) = false := by unfold rootB; rw [hmb]; simp [hpq]
                            have HSt := stay (fun h => by rw [Int.toNat_natCast, hroot] at h; cases h.2.2)
                            clear stay hmb
                            go_wp2_with (go_at_call 22; refine (hin3.out.parent HMB.out _ (by omega)).mono ?_; rintro e w9 ⟨rfl, hw9⟩; have hw2 := hw9.symm; subst hw2; clear hw9; rw [hpq])
                            go_roundw
                            case rel => go_light; exact ⟨j3 + 1, by omega, by go_num, HSt⟩
                            case measure => go_light; simp [intOf]; omega
                        · have HSt := stay (fun h => hxk h.2.1)
                          clear stay
                          go_wp2
                          go_roundw
                          case rel => go_light; exact ⟨j3 + 1, by omega, by go_num, HSt⟩
                          case measure => go_light; simp [intOf]; omega
                      · have HSt := stay (fun h => hx0 h.1)
                        clear stay
                        go_wp2
                        go_roundw
                        case rel => go_light; exact ⟨j3 + 1, by omega, by go_num, HSt⟩
                        case measure => go_light; simp [intOf]; omega
                    · obtain ⟨w7, hw7⟩ : ∃ w7, w7 = wr := ⟨_, rfl⟩
                      subst hw7
                      obtain rfl : j3 = kids.length := by omega
                      rw [List.take_length, HE2.out] at hin3
                      obtain ⟨M3, nv3, uv3, ps3, us3, l3, mv3, n3, u3, g3⟩ := hin3.out
                      obtain ⟨hmv, hown, hol, _⟩ := HI.out
                      have hown7 : Hid (w7.ownsRow W.heap.size 3 1 u4 k ((ids k).map intV)) := (own_moved hown (((Moved.refl w5 M).alloc _).trans mv3) hol).1
                      have hs7 : W.heap.size ≤ w7.heap.size := Nat.le_trans hmv.size (Nat.le_trans (by simp) mv3.size)
                      have HX3 : Hid (Lies w7 M3 tb nv3 uv3 ps3 us3 ∧ Moved (w5.alloc (boxOf kind tag text (.slice aa attrs.length ac) (.slice ka kids.length kc))) M w7 M3 ∧ nodesOf ps3 = bodyS ts (k + 1) ∧ us3.length ≤ 5000000 * (k + 1) ∧ SizedN (bodyS ts (k + 1)) (5000000 * (k + 1)) (5000000 * (k + 1))) := ⟨l3, mv3, n3, by omega, g3.mono (by omega) (by omega)⟩
                      clear l3 mv3 n3 u3 g3 hown hol hmv hin3
                      go_wp2_with (at_builtin; refine wpList_append_own_at _ (by rfl) (.tmp 108) (.tmp 110) 32 (by rfl) W.heap.size 3 i0 (.int .i64 0) 1 8 Tryz.underlying32 hi hz0 hz1 hz2 rfl (by decide) u4 k ((ids k).map intV) (by rfl) (hown7.out.alloc _) ⟨w7.heap.size, 0, none⟩ 1 1 [.int .i64 ((k : Int) + 1)] (by rfl) rfl (cell_one_new _ _ _) (by simp [Value.oneCell']) (by unfold maxLen; omega) (by omega) (by simp; omega) ?_; intro v8 w8 hv8 hg8 _ hat8; have HN : Hid (GOut W tb ts (k + 1) v8 w8) := GOut.next HI.out.1 HX3.out.2.1 HX3.out.1 HX3.out.2.2.1 HX3.out.2.2.2.1 HX3.out.2.2.2.2 HI.out.2.1 HI.out.2.2.1 hv8 hg8 hat8; clear hv8 hg8 hat8)
                      go_roundw
                      case rel => go_light; exact ⟨k + 1, by omega, by omega, by go_num, HN⟩
                      case measure => go_light; simp [intOf]; omega
            · have hk4 : kind = 4 := by simpa using hb4
              have hhd : (⟨4, ⟨#[]⟩, text, [], -1, []⟩ : Nd) = headS kind tag text := by unfold headS; rw [if_neg hnE, if_pos hk4]
              clear hk4
              go_wp2_with (first | (go_at_call 17; refine ((HP.out _).elementBad (HEr.out _) (by omega) tag HBadE.out).mono ?_; rintro e w1 ⟨⟨t1, a1, rfl⟩, h2⟩; have H2 : Hid (PAt (w5.alloc (boxOf kind tag text (.slice aa attrs.length ac) (.slice ka kids.length kc))) M tb (bodyS ts k) (5000000 * k) (5000000 * k) (5000000 * k) w1) := h2; obtain ⟨M1, nv1, uv1, ps1, us1, l1, mv1, _⟩ := id h2; obtain ⟨d0, d1, d2, d3, d4⟩ := box5 HM.out mv1; clear h2 l1 mv1) | (go_at_call 19; refine (H2.out.comment (by omega) (by omega) text hsz2).mono ?_; rintro e w3 ⟨rfl, h3⟩; rw [hbl]; have HMid : Hid (PAt (w5.alloc (boxOf kind tag text (.slice aa attrs.length ac) (.slice ka kids.length kc))) M tb (bodyS ts k ++ [headS kind tag text]) (5000000 * k + 1) (5000000 * k) (5000000 * k) w3) := (by have := h3.at rfl rfl; rw [hhd] at this; exact this); obtain ⟨M1, nv1, uv1, ps1, us1, l1, mv1, _⟩ := id HMid.out; obtain ⟨d0, d1, d2, d3, d4⟩ := box5 HM.out mv1; clear h3 l1 mv1))
              go_loopw [65] (fun i w' => ∃ j : Nat, j ≤ attrs.length ∧ i = .int .i64 j ∧ Hid (PAt (w5.alloc (boxOf kind tag text (.slice aa attrs.length ac) (.slice ka kids.length kc))) M tb (attrsS (k + 1) (bodyS ts k ++ [headS kind tag text]) (attrs.take j)) (5000000 * k + 1 + j) (5000000 * k + j) (5000000 * k) w')) (fun i _ => attrs.length - (intOf i).toNat)
              case atStart => exact ⟨0, by omega, rfl, HMid⟩
              case round =>
                obtain ⟨j, hj, rfl, hin⟩ := hrel
                by_cases hjl : j < attrs.length
                · obtain ⟨⟨xn, xv⟩, hx⟩ : ∃ x, attrs[j]? = some x := ⟨_, List.getElem?_eq_getElem hjl⟩
                  obtain ⟨M2, nv2, uv2, ps2, us2, l2, mv2, _⟩ := hin.out
                  obtain ⟨b', o', hA, hb', e1, e2, e3, e4⟩ := HI.out.2.2.2.att j _ hx
                  have hA' : aa = some ⟨b', o', none⟩ := hA
                  subst hA'
                  have cm := came HI.out.1 mv2
                  have e1' : wr.cell? ⟨b', o' + j * 2, none⟩ = some (.string xn) := (World.cell?_of_block (a := ⟨b', o' + j * 2, none⟩) (cm b' hb')).trans e1
                  have e2' : wr.cell? ⟨b', o' + j * 2 + 1, none⟩ = some (.string xv) := (World.cell?_of_block (a := ⟨b', o' + j * 2 + 1, none⟩) (cm b' hb')).trans e2
                  have bl' : b' < wr.heap.size := World.block_lt_of_cell? wr _ e1'
                  have HX : Hid _ := attrsS_succ hx (k + 1) (bodyS ts k ++ [headS kind tag text])
                  have hll : (attrsS (k + 1) (bodyS ts k ++ [headS kind tag text]) (attrs.take j)).length = k + 1 + 1 := by rw [attrsS_length]; simp [hbl]
                  clear hA hb' e1 e2 cm l2 mv2 hx
                  go_wp2_with (go_at_call 21; refine ((hin.out.below ((Below.refl _ _).alloc (Nat.le_refl _) _)).set (HEr.out _) (by omega) (by omega) (i := k + 1) (by omega) xn xv e4 _ (by omega)).mono ?_; rintro e w2 ⟨⟨v2, rfl⟩, h2'⟩; have H2' : Hid _ := h2'; clear h2')
                  go_roundw
                  case rel =>
                    go_light
                    refine ⟨j + 1, by omega, by go_num, ?_⟩
                    show PAt _ _ _ _ _ _ _ _
                    rw [HX.out]
                    exact H2'.out
                  case measure => go_light; simp [intOf]; omega
                · obtain ⟨w6, hw6⟩ : ∃ w6, w6 = wr := ⟨_, rfl⟩
                  subst hw6
                  obtain rfl : j = attrs.length := by omega
                  rw [List.take_length] at hin
                  obtain ⟨T, hTt⟩ : ∃ T, attrsS (k + 1) (bodyS ts k ++ [headS kind tag text]) attrs = T := ⟨_, rfl⟩
                  rw [hTt] at hin
                  have HS2 : Hid (SoundAt T k) := hTt ▸ SoundAt.attrs _ HS1.out
                  have HE2 : Hid (kidsS k T kids = bodyS ts (k + 1)) := by
                    show kidsS k T kids = bodyS ts (k + 1)
                    rw [HBS.out]
                    unfold twigS
                    dsimp only
                    rw [hTt]
                  obtain ⟨M2, nv2, uv2, ps2, us2, l2, mv2, _⟩ := id hin.out
                  obtain ⟨d0', d1', d2', d3', d4'⟩ := box5 HM.out mv2
                  clear l2 mv2 hTt d0 d1 d2 d3 d4
                  go_wp2
                  go_loopw [80] (fun i w' => ∃ j : Nat, j ≤ kids.length ∧ i = .int .i64 j ∧ Hid (PAt (w5.alloc (boxOf kind tag text (.slice aa attrs.length ac) (.slice ka kids.length kc))) M tb (kidsS k T (kids.take j)) (5000000 * k + 1 + 1100000 + j) (5000000 * k + 1100000) (5000000 * k + j) w')) (fun i _ => kids.length - (intOf i).toNat)
                  case atStart => exact ⟨0, by omega, rfl, hin.out.mono (by omega) (by omega) (by omega)⟩
                  case round =>
                    obtain ⟨j3, hj3, rfl, hin3⟩ := hrel
                    have hSj : Hid (SoundAt (kidsS k T (kids.take j3)) k) := SoundAt.kids _ HS2.out
                    by_cases hjl3 : j3 < kids.length
                    · obtain ⟨x, hx⟩ : ∃ x, kids[j3]? = some x := ⟨_, List.getElem?_eq_getElem hjl3⟩
                      obtain ⟨M3, nv3, uv3, ps3, us3, l3, mv3, _⟩ := id hin3.out
                      obtain ⟨b', o', hA, hb', e1⟩ := HI.out.2.2.2.kid j3 _ hx
                      have hA' : ka = some ⟨b', o', none⟩ := hA
                      subst hA'
                      have e1' : wr.cell? ⟨b', o' + j3, none⟩ = some (.int .i64 x) := (World.cell?_of_block (a := ⟨b', o' + j3, none⟩) (came HI.out.1 mv3 b' hb')).trans e1
                      have bl' : b' < wr.heap.size := World.block_lt_of_cell? wr _ e1'
                      have HX : Hid _ := kidsS_succ hx k T
                      obtain ⟨N, hN⟩ : ∃ N, kidsS k T (kids.take j3) = N := ⟨_, rfl⟩
                      rw [hN] at hin3 hSj HX
                      obtain ⟨nn, hk1, hr1⟩ := hSj.out.2.2
                      have hNl : N.length = k + 1 + 1 := hSj.out.2.1
                      have HK1 : Hid (N[k + 1]? = some nn) := hk1
                      clear hA hb' e1 l3 mv3 hx hN hk1
                      have stay : ∀ (hno : ¬ (0 ≤ x ∧ x < (k : Int) ∧ rootB N (x.toNat + 1) = true)), Hid (PAt (w5.alloc (boxOf kind tag text (.slice aa attrs.length ac) (.slice (some ⟨b', o', none⟩) kids.length kc))) M tb (kidsS k T (kids.take (j3 + 1))) (5000000 * k + 1 + 1100000 + (j3 + 1)) (5000000 * k + 1100000) (5000000 * k + (j3 + 1)) wr) := by
                        intro hno
                        show PAt _ _ _ _ _ _ _ _
                        rw [HX.out]
                        unfold kidS
                        rw [if_neg hno]
                        exact hin3.out.mono (by omega) (by omega) (by omega)
                      by_cases hx0 : 0 ≤ x
                      · by_cases hxk : x < (k : Int)
                        · obtain ⟨n, rfl⟩ := Int.eq_ofNat_of_zero_le hx0
                          obtain ⟨mb, hmb⟩ : ∃ mb, N[n + 1]? = some mb := ⟨N[n + 1]'(by omega), List.getElem?_eq_getElem _⟩
                          have HMB : Hid (N[n + 1]? = some mb) := hmb
                          rcases hSj.out.1.par (n + 1) mb hmb with hpm | ⟨pq, hpq, _⟩
                          · have hroot : rootB N (n + 1) = true := by unfold rootB; rw [hmb]; simp [hpm]
                            clear stay hmb
                            go_wp2_with (first
                              | (go_at_call 22; refine (hin3.out.parent HMB.out _ (by omega)).mono ?_; rintro e w9 ⟨rfl, hw9⟩; have hw2 := hw9.symm; subst hw2; clear hw9; rw [hpm])
                              | (go_at_call 24; refine (hin3.out.kids (by omega) HK1.out _ (by omega)).mono ?_; rintro e w10 ⟨a10, c10, rfl, hB10⟩; have HB : Hid _ := hB10; clear hB10)
                              | (go_at_call 23; refine ((hin3.out.below HB.out).put (HEr.out _) (by omega) (by omega) HK1.out HMB.out (by omega) (by omega) hr1 hpm _ _ (by omega) (by omega)).mono ?_; rintro e w11 ⟨⟨v11, rfl⟩, h11⟩; have H11 : Hid _ := h11; clear h11))
                            go_roundw
                            case rel =>
                              go_light
                              refine ⟨j3 + 1, by omega, by go_num, ?_⟩
                              show PAt _ _ _ _ _ _ _ _
                              rw [HX.out]
                              unfold kidS
                              rw [if_pos ⟨hx0, hxk, hroot⟩]
                              exact H11.out
                            case measure => go_light; simp [intOf]; omega
                          · have hroot : rootB N (n + 1) = false := by unfold rootB; rw [hmb]; simp [hpq]
                            have HSt := stay (fun h => by rw [Int.toNat_natCast, hroot] at h; cases h.2.2)
                            clear stay hmb
                            go_wp2_with (go_at_call 22; refine (hin3.out.parent HMB.out _ (by omega)).mono ?_; rintro e w9 ⟨rfl, hw9⟩; have hw2 := hw9.symm; subst hw2; clear hw9; rw [hpq])
                            go_roundw
                            case rel => go_light; exact ⟨j3 + 1, by omega, by go_num, HSt⟩
                            case measure => go_light; simp [intOf]; omega
                        · have HSt := stay (fun h => hxk h.2.1)
                          clear stay
                          go_wp2
                          go_roundw
                          case rel => go_light; exact ⟨j3 + 1, by omega, by go_num, HSt⟩
                          case measure => go_light; simp [intOf]; omega
                      · have HSt := stay (fun h => hx0 h.1)
                        clear stay
                        go_wp2
                        go_roundw
                        case rel => go_light; exact ⟨j3 + 1, by omega, by go_num, HSt⟩
                        case measure => go_light; simp [intOf]; omega
                    · obtain ⟨w7, hw7⟩ : ∃ w7, w7 = wr := ⟨_, rfl⟩
                      subst hw7
                      obtain rfl : j3 = kids.length := by omega
                      rw [List.take_length, HE2.out] at hin3
                      obtain ⟨M3, nv3, uv3, ps3, us3, l3, mv3, n3, u3, g3⟩ := hin3.out
                      obtain ⟨hmv, hown, hol, _⟩ := HI.out
                      have hown7 : Hid (w7.ownsRow W.heap.size 3 1 u4 k ((ids k).map intV)) := (own_moved hown (((Moved.refl w5 M).alloc _).trans mv3) hol).1
                      have hs7 : W.heap.size ≤ w7.heap.size := Nat.le_trans hmv.size (Nat.le_trans (by simp) mv3.size)
                      have HX3 : Hid (Lies w7 M3 tb nv3 uv3 ps3 us3 ∧ Moved (w5.alloc (boxOf kind tag text (.slice aa attrs.length ac) (.slice ka kids.length kc))) M w7 M3 ∧ nodesOf ps3 = bodyS ts (k + 1) ∧ us3.length ≤ 5000000 * (k + 1) ∧ SizedN (bodyS ts (k + 1)) (5000000 * (k + 1)) (5000000 * (k + 1))) := ⟨l3, mv3, n3, by omega, g3.mono (by omega) (by omega)⟩
                      clear l3 mv3 n3 u3 g3 hown hol hmv hin3
                      go_wp2_with (at_builtin; refine wpList_append_own_at _ (by rfl) (.tmp 108) (.tmp 110) 32 (by rfl) W.heap.size 3 i0 (.int .i64 0) 1 8 Tryz.underlying32 hi hz0 hz1 hz2 rfl (by decide) u4 k ((ids k).map intV) (by rfl) (hown7.out.alloc _) ⟨w7.heap.size, 0, none⟩ 1 1 [.int .i64 ((k : Int) + 1)] (by rfl) rfl (cell_one_new _ _ _) (by simp [Value.oneCell']) (by unfold maxLen; omega) (by omega) (by simp; omega) ?_; intro v8 w8 hv8 hg8 _ hat8; have HN : Hid (GOut W tb ts (k + 1) v8 w8) := GOut.next HI.out.1 HX3.out.2.1 HX3.out.1 HX3.out.2.2.1 HX3.out.2.2.2.1 HX3.out.2.2.2.2 HI.out.2.1 HI.out.2.2.1 hv8 hg8 hat8; clear hv8 hg8 hat8)
                      go_roundw
                      case rel => go_light; exact ⟨k + 1, by omega, by omega, by go_num, HN⟩
                      case measure => go_light; simp [intOf]; omega
          · have HBig : Hid (20000 < text.size ∨ (bodyS ts k).length = 400) := by
                rw [hbl]
                rcases Nat.lt_or_ge 20000 text.size with q | q
                · exact .inl q
                · exact .inr (by have : ¬ (k + 1 < 400) := fun h => hsz2 ⟨q, h⟩; omega)
            have HBg2 : Hid (300 < text.size ∨ 60 < k) := by
                rcases HBig.out with q | q
                · exact .inl (by omega)
                · exact .inr (by omega)
            clear hsz2
            cases hb4 : (kind == 4)
            all_goals go_wp2_with (first | (go_at_call 17; refine ((HP.out _).elementBad (HEr.out _) (by omega) tag HBadE.out).mono ?_; rintro e w1 ⟨⟨t1, a1, rfl⟩, h2⟩; have H2 : Hid (PAt (w5.alloc (boxOf kind tag text (.slice aa attrs.length ac) (.slice ka kids.length kc))) M tb (bodyS ts k) (5000000 * k) (5000000 * k) (5000000 * k) w1) := h2; obtain ⟨M1, nv1, uv1, ps1, us1, l1, mv1, _⟩ := id h2; obtain ⟨d0, d1, d2, d3, d4⟩ := box5 HM.out mv1; clear h2 l1 mv1) | (go_at_call 20; refine (H2.out.textBad (HEr.out _) (by omega) text HBig.out).mono ?_; rintro e w3 ⟨⟨t3, a3, rfl⟩, h3⟩; have H3 : Hid (PAt (w5.alloc (boxOf kind tag text (.slice aa attrs.length ac) (.slice ka kids.length kc))) M tb (bodyS ts k) (5000000 * k) (5000000 * k) (5000000 * k) w3) := h3; clear h3) | (go_at_call 19; refine (H2.out.commentBad (HEr.out _) (by omega) text HBig.out).mono ?_; rintro e w3 ⟨⟨t3, a3, rfl⟩, h3⟩; have H3 : Hid (PAt (w5.alloc (boxOf kind tag text (.slice aa attrs.length ac) (.slice ka kids.length kc))) M tb (bodyS ts k) (5000000 * k) (5000000 * k) (5000000 * k) w3) := h3; clear h3))
            all_goals go_ret
            all_goals exact NO.out _ H3.out HBg2.out
        · by_cases hsz2 : text.size ≤ 20000 ∧ k + 1 < 400
          · obtain ⟨hsz2, hl4⟩ := hsz2
            have hnE : ¬ (kind = 2 ∧ nameB tag = true) := fun h => hok ⟨h.2, hl4⟩
            cases hb4 : (kind == 4)
            · have hk4 : ¬ kind = 4 := by simpa using hb4
              have hhd : (⟨3, ⟨#[]⟩, text, [], -1, []⟩ : Nd) = headS kind tag text := by unfold headS; rw [if_neg hnE, if_neg hk4]
              clear hk4
              go_wp2_with (first | (go_at_call 17; refine ((HP.out _).elementBad (HEr.out _) (by omega) tag HBadE.out).mono ?_; rintro e w1 ⟨⟨t1, a1, rfl⟩, h2⟩; have H2 : Hid (PAt (w5.alloc (boxOf kind tag text (.slice aa attrs.length ac) (.slice ka kids.length kc))) M tb (bodyS ts k) (5000000 * k) (5000000 * k) (5000000 * k) w1) := h2; obtain ⟨M1, nv1, uv1, ps1, us1, l1, mv1, _⟩ := id h2; obtain ⟨d0, d1, d2, d3, d4⟩ := box5 HM.out mv1; clear h2 l1 mv1) | (go_at_call 20; refine (H2.out.text (by omega) (by omega) text hsz2).mono ?_; rintro e w3 ⟨rfl, h3⟩; rw [hbl]; have HMid : Hid (PAt (w5.alloc (boxOf kind tag text (.slice aa attrs.length ac) (.slice ka kids.length kc))) M tb (bodyS ts k ++ [headS kind tag text]) (5000000 * k + 1) (5000000 * k) (5000000 * k) w3) := (by have := h3.at rfl rfl; rw [hhd] at this; exact this); obtain ⟨M1, nv1, uv1, ps1, us1, l1, mv1, _⟩ := id HMid.out; obtain ⟨d0, d1, d2, d3, d4⟩ := box5 HM.out mv1; clear h3 l1 mv1))
              go_loopw [65] (fun i w' => ∃ j : Nat, j ≤ attrs.length ∧ i = .int .i64 j ∧ Hid (PAt (w5.alloc (boxOf kind tag text (.slice aa attrs.length ac) (.slice ka kids.length kc))) M tb (attrsS (k + 1) (bodyS ts k ++ [headS kind tag text]) (attrs.take j)) (5000000 * k + 1 + j) (5000000 * k + j) (5000000 * k) w')) (fun i _ => attrs.length - (intOf i).toNat)
              case atStart => exact ⟨0, by omega, rfl, HMid⟩
              case round =>
                obtain ⟨j, hj, rfl, hin⟩ := hrel
                by_cases hjl : j < attrs.length
                · obtain ⟨⟨xn, xv⟩, hx⟩ : ∃ x, attrs[j]? = some x := ⟨_, List.getElem?_eq_getElem hjl⟩
                  obtain ⟨M2, nv2, uv2, ps2, us2, l2, mv2, _⟩ := hin.out
                  obtain ⟨b', o', hA, hb', e1, e2, e3, e4⟩ := HI.out.2.2.2.att j _ hx
                  have hA' : aa = some ⟨b', o', none⟩ := hA
                  subst hA'
                  have cm := came HI.out.1 mv2
                  have e1' : wr.cell? ⟨b', o' + j * 2, none⟩ = some (.string xn) := (World.cell?_of_block (a := ⟨b', o' + j * 2, none⟩) (cm b' hb')).trans e1
                  have e2' : wr.cell? ⟨b', o' + j * 2 + 1, none⟩ = some (.string xv) := (World.cell?_of_block (a := ⟨b', o' + j * 2 + 1, none⟩) (cm b' hb')).trans e2
                  have bl' : b' < wr.heap.size := World.block_lt_of_cell? wr _ e1'
                  have HX : Hid _ := attrsS_succ hx (k + 1) (bodyS ts k ++ [headS kind tag text])
                  have hll : (attrsS (k + 1) (bodyS ts k ++ [headS kind tag text]) (attrs.take j)).length = k + 1 + 1 := by rw [attrsS_length]; simp [hbl]
                  clear hA hb' e1 e2 cm l2 mv2 hx
                  go_wp2_with (go_at_call 21; refine ((hin.out.below ((Below.refl _ _).alloc (Nat.le_refl _) _)).set (HEr.out _) (by omega) (by omega) (i := k + 1) (by omega) xn xv e4 _ (by omega)).mono ?_; rintro e w2 ⟨⟨v2, rfl⟩, h2'⟩; have H2' : Hid _ := h2'; clear h2')
                  go_roundw
                  case rel =>
                    go_light
                    refine ⟨j + 1, by omega, by go_num, ?_⟩
                    show PAt _ _ _ _ _ _ _ _
                    rw [HX.out]
                    exact H2'.out
                  case measure => go_light; simp [intOf]; omega
                · obtain ⟨w6, hw6⟩ : ∃ w6, w6 = wr := ⟨_, rfl⟩
                  subst hw6
                  obtain rfl : j = attrs.length := by omega
                  rw [List.take_length] at hin
                  obtain ⟨T, hTt⟩ : ∃ T, attrsS (k + 1) (bodyS ts k ++ [headS kind tag text]) attrs = T := ⟨_, rfl⟩
                  rw [hTt] at hin
                  have HS2 : Hid (SoundAt T k) := hTt ▸ SoundAt.attrs _ HS1.out
                  have HE2 : Hid (kidsS k T kids = bodyS ts (k + 1)) := by
                    show kidsS k T kids = bodyS ts (k + 1)
                    rw [HBS.out]
                    unfold twigS
                    dsimp only
                    rw [hTt]
                  obtain ⟨M2, nv2, uv2, ps2, us2, l2, mv2, _⟩ := id hin.out
                  obtain ⟨d0', d1', d2', d3', d4'⟩ := box5 HM.out mv2
                  clear l2 mv2 hTt d0 d1 d2 d3 d4
                  go_wp2
                  go_loopw [80] (fun i w' => ∃ j : Nat, j ≤ kids.length ∧ i = .int .i64 j ∧ Hid (PAt (w5.alloc (boxOf kind tag text (.slice aa attrs.length ac) (.slice ka kids.length kc))) M tb (kidsS k T (kids.take j)) (5000000 * k + 1 + 1100000 + j) (5000000 * k + 1100000) (5000000 * k + j) w')) (fun i _ => kids.length - (intOf i).toNat)
                  case atStart => exact ⟨0, by omega, rfl, hin.out.mono (by omega) (by omega) (by omega)⟩
                  case round =>
                    obtain ⟨j3, hj3, rfl, hin3⟩ := hrel
                    have hSj : Hid (SoundAt (kidsS k T (kids.take j3)) k) := SoundAt.kids _ HS2.out
                    by_cases hjl3 : j3 < kids.length
                    · obtain ⟨x, hx⟩ : ∃ x, kids[j3]? = some x := ⟨_, List.getElem?_eq_getElem hjl3⟩
                      obtain ⟨M3, nv3, uv3, ps3, us3, l3, mv3, _⟩ := id hin3.out
                      obtain ⟨b', o', hA, hb', e1⟩ := HI.out.2.2.2.kid j3 _ hx
                      have hA' : ka = some ⟨b', o', none⟩ := hA
                      subst hA'
                      have e1' : wr.cell? ⟨b', o' + j3, none⟩ = some (.int .i64 x) := (World.cell?_of_block (a := ⟨b', o' + j3, none⟩) (came HI.out.1 mv3 b' hb')).trans e1
                      have bl' : b' < wr.heap.size := World.block_lt_of_cell? wr _ e1'
                      have HX : Hid _ := kidsS_succ hx k T
                      obtain ⟨N, hN⟩ : ∃ N, kidsS k T (kids.take j3) = N := ⟨_, rfl⟩
                      rw [hN] at hin3 hSj HX
                      obtain ⟨nn, hk1, hr1⟩ := hSj.out.2.2
                      have hNl : N.length = k + 1 + 1 := hSj.out.2.1
                      have HK1 : Hid (N[k + 1]? = some nn) := hk1
                      clear hA hb' e1 l3 mv3 hx hN hk1
                      have stay : ∀ (hno : ¬ (0 ≤ x ∧ x < (k : Int) ∧ rootB N (x.toNat + 1) = true)), Hid (PAt (w5.alloc (boxOf kind tag text (.slice aa attrs.length ac) (.slice (some ⟨b', o', none⟩) kids.length kc))) M tb (kidsS k T (kids.take (j3 + 1))) (5000000 * k + 1 + 1100000 + (j3 + 1)) (5000000 * k + 1100000) (5000000 * k + (j3 + 1)) wr) := by
                        intro hno
                        show PAt _ _ _ _ _ _ _ _
                        rw [HX.out]
                        unfold kidS
                        rw [if_neg hno]
                        exact hin3.out.mono (by omega) (by omega) (by omega)
                      by_cases hx0 : 0 ≤ x
                      · by_cases hxk : x < (k : Int)
                        · obtain ⟨n, rfl⟩ := Int.eq_ofNat_of_zero_le hx0
                          obtain ⟨mb, hmb⟩ : ∃ mb, N[n + 1]? = some mb := ⟨N[n + 1]'(by omega), List.getElem?_eq_getElem _⟩
                          have HMB : Hid (N[n + 1]? = some mb) := hmb
                          rcases hSj.out.1.par (n + 1) mb hmb with hpm | ⟨pq, hpq, _⟩
                          · have hroot : rootB N (n + 1) = true := by unfold rootB; rw [hmb]; simp [hpm]
                            clear stay hmb
                            go_wp2_with (first
                              | (go_at_call 22; refine (hin3.out.parent HMB.out _ (by omega)).mono ?_; rintro e w9 ⟨rfl, hw9⟩; have hw2 := hw9.symm; subst hw2; clear hw9; rw [hpm])
                              | (go_at_call 24; refine (hin3.out.kids (by omega) HK1.out _ (by omega)).mono ?_; rintro e w10 ⟨a10, c10, rfl, hB10⟩; have HB : Hid _ := hB10; clear hB10)
                              | (go_at_call 23; refine ((hin3.out.below HB.out).put (HEr.out _) (by omega) (by omega) HK1.out HMB.out (by omega) (by omega) hr1 hpm _ _ (by omega) (by omega)).mono ?_; rintro e w11 ⟨⟨v11, rfl⟩, h11⟩; have H11 : Hid _ := h11; clear h11))
                            go_roundw
                            case rel =>
                              go_light
                              refine ⟨j3 + 1, by omega, by go_num, ?_⟩
                              show PAt _ _ _ _ _ _ _ _
                              rw [HX.out]
                              unfold kidS
                              rw [if_pos ⟨hx0, hxk, hroot⟩]
                              exact H11.out
                            case measure => go_light; simp [intOf]; omega
                          · have hroot : rootB N (n + 1) = false := by unfold rootB; rw [hmb]; simp [hpq]
                            have HSt := stay (fun h => by rw [Int.toNat_natCast, hroot] at h; cases h.2.2)
                            clear stay hmb
                            go_wp2_with (go_at_call 22; refine (hin3.out.parent HMB.out _ (by omega)).mono ?_; rintro e w9 ⟨rfl, hw9⟩; have hw2 := hw9.symm; subst hw2; clear hw9; rw [hpq])
                            go_roundw
                            case rel => go_light; exact ⟨j3 + 1, by omega, by go_num, HSt⟩
                            case measure => go_light; simp [intOf]; omega
                        · have HSt := stay (fun h => hxk h.2.1)
                          clear stay
                          go_wp2
                          go_roundw
                          case rel => go_light; exact ⟨j3 + 1, by omega, by go_num, HSt⟩
                          case measure => go_light; simp [intOf]; omega
                      · have HSt := stay (fun h => hx0 h.1)
                        clear stay
                        go_wp2
                        go_roundw
                        case rel => go_light; exact ⟨j3 + 1, by omega, by go_num, HSt⟩
                        case measure => go_light; simp [intOf]; omega
                    · obtain ⟨w7, hw7⟩ : ∃ w7, w7 = wr := ⟨_, rfl⟩
                      subst hw7
                      obtain rfl : j3 = kids.length := by omega
                      rw [List.take_length, HE2.out] at hin3
                      obtain ⟨M3, nv3, uv3, ps3, us3, l3, mv3, n3, u3, g3⟩ := hin3.out
                      obtain ⟨hmv, hown, hol, _⟩ := HI.out
                      have hown7 : Hid (w7.ownsRow W.heap.size 3 1 u4 k ((ids k).map intV)) := (own_moved hown (((Moved.refl w5 M).alloc _).trans mv3) hol).1
                      have hs7 : W.heap.size ≤ w7.heap.size := Nat.le_trans hmv.size (Nat.le_trans (by simp) mv3.size)
                      have HX3 : Hid (Lies w7 M3 tb nv3 uv3 ps3 us3 ∧ Moved (w5.alloc (boxOf kind tag text (.slice aa attrs.length ac) (.slice ka kids.length kc))) M w7 M3 ∧ nodesOf ps3 = bodyS ts (k + 1) ∧ us3.length ≤ 5000000 * (k + 1) ∧ SizedN (bodyS ts (k + 1)) (5000000 * (k + 1)) (5000000 * (k + 1))) := ⟨l3, mv3, n3, by omega, g3.mono (by omega) (by omega)⟩
                      clear l3 mv3 n3 u3 g3 hown hol hmv hin3
                      go_wp2_with (at_builtin; refine wpList_append_own_at _ (by rfl) (.tmp 108) (.tmp 110) 32 (by rfl) W.heap.size 3 i0 (.int .i64 0) 1 8 Tryz.underlying32 hi hz0 hz1 hz2 rfl (by decide) u4 k ((ids k).map intV) (by rfl) (hown7.out.alloc _) ⟨w7.heap.size, 0, none⟩ 1 1 [.int .i64 ((k : Int) + 1)] (by rfl) rfl (cell_one_new _ _ _) (by simp [Value.oneCell']) (by unfold maxLen; omega) (by omega) (by simp; omega) ?_; intro v8 w8 hv8 hg8 _ hat8; have HN : Hid (GOut W tb ts (k + 1) v8 w8) := GOut.next HI.out.1 HX3.out.2.1 HX3.out.1 HX3.out.2.2.1 HX3.out.2.2.2.1 HX3.out.2.2.2.2 HI.out.2.1 HI.out.2.2.1 hv8 hg8 hat8; clear hv8 hg8 hat8)
                      go_roundw
                      case rel => go_light; exact ⟨k + 1, by omega, by omega, by go_num, HN⟩
                      case measure => go_light; simp [intOf]; omega
            · have hk4 : kind = 4 := by simpa using hb4
              have hhd : (⟨4, ⟨#[]⟩, text, [], -1, []⟩ : Nd) = headS kind tag text := by unfold headS; rw [if_neg hnE, if_pos hk4]
              clear hk4
              go_wp2_with (first | (go_at_call 17; refine ((HP.out _).elementBad (HEr.out _) (by omega) tag HBadE.out).mono ?_; rintro e w1 ⟨⟨t1, a1, rfl⟩, h2⟩; have H2 : Hid (PAt (w5.alloc (boxOf kind tag text (.slice aa attrs.length ac) (.slice ka kids.length kc))) M tb (bodyS ts k) (5000000 * k) (5000000 * k) (5000000 * k) w1) := h2; obtain ⟨M1, nv1, uv1, ps1, us1, l1, mv1, _⟩ := id h2; obtain ⟨d0, d1, d2, d3, d4⟩ := box5 HM.out mv1; clear h2 l1 mv1) | (go_at_call 19; refine (H2.out.comment (by omega) (by omega) text hsz2).mono ?_; rintro e w3 ⟨rfl, h3⟩; rw [hbl]; have HMid : Hid (PAt (w5.alloc (boxOf kind tag text (.slice aa attrs.length ac) (.slice ka kids.length kc))) M tb (bodyS ts k ++ [headS kind tag text]) (5000000 * k + 1) (5000000 * k) (5000000 * k) w3) := (by have := h3.at rfl rfl; rw [hhd] at this; exact this); obtain ⟨M1, nv1, uv1, ps1, us1, l1, mv1, _⟩ := id HMid.out; obtain ⟨d0, d1, d2, d3, d4⟩ := box5 HM.out mv1; clear h3 l1 mv1))
              go_loopw [65] (fun i w' => ∃ j : Nat, j ≤ attrs.length ∧ i = .int .i64 j ∧ Hid (PAt (w5.alloc (boxOf kind tag text (.slice aa attrs.length ac) (.slice ka kids.length kc))) M tb (attrsS (k + 1) (bodyS ts k ++ [headS kind tag text]) (attrs.take j)) (5000000 * k + 1 + j) (5000000 * k + j) (5000000 * k) w')) (fun i _ => attrs.length - (intOf i).toNat)
              case atStart => exact ⟨0, by omega, rfl, HMid⟩
              case round =>
                obtain ⟨j, hj, rfl, hin⟩ := hrel
                by_cases hjl : j < attrs.length
                · obtain ⟨⟨xn, xv⟩, hx⟩ : ∃ x, attrs[j]? = some x := ⟨_, List.getElem?_eq_getElem hjl⟩
                  obtain ⟨M2, nv2, uv2, ps2, us2, l2, mv2, _⟩ := hin.out
                  obtain ⟨b', o', hA, hb', e1, e2, e3, e4⟩ := HI.out.2.2.2.att j _ hx
                  have hA' : aa = some ⟨b', o', none⟩ := hA
                  subst hA'
                  have cm := came HI.out.1 mv2
                  have e1' : wr.cell? ⟨b', o' + j * 2, none⟩ = some (.string xn) := (World.cell?_of_block (a := ⟨b', o' + j * 2, none⟩) (cm b' hb')).trans e1
                  have e2' : wr.cell? ⟨b', o' + j * 2 + 1, none⟩ = some (.string xv) := (World.cell?_of_block (a := ⟨b', o' + j * 2 + 1, none⟩) (cm b' hb')).trans e2
                  have bl' : b' < wr.heap.size := World.block_lt_of_cell? wr _ e1'
                  have HX : Hid _ := attrsS_succ hx (k + 1) (bodyS ts k ++ [headS kind tag text])
                  have hll : (attrsS (k + 1) (bodyS ts k ++ [headS kind tag text]) (attrs.take j)).length = k + 1 + 1 := by rw [attrsS_length]; simp [hbl]
                  clear hA hb' e1 e2 cm l2 mv2 hx
                  go_wp2_with (go_at_call 21; refine ((hin.out.below ((Below.refl _ _).alloc (Nat.le_refl _) _)).set (HEr.out _) (by omega) (by omega) (i := k + 1) (by omega) xn xv e4 _ (by omega)).mono ?_; rintro e w2 ⟨⟨v2, rfl⟩, h2'⟩; have H2' : Hid _ := h2'; clear h2')
                  go_roundw
                  case rel =>
                    go_light
                    refine ⟨j + 1, by omega, by go_num, ?_⟩
                    show PAt _ _ _ _ _ _ _ _
                    rw [HX.out]
                    exact H2'.out
                  case measure => go_light; simp [intOf]; omega
                · obtain ⟨w6, hw6⟩ : ∃ w6, w6 = wr := ⟨_, rfl⟩
                  subst hw6
                  obtain rfl : j = attrs.length := by omega
                  rw [List.take_length] at hin
                  obtain ⟨T, hTt⟩ : ∃ T, attrsS (k + 1) (bodyS ts k ++ [headS kind tag text]) attrs = T := ⟨_, rfl⟩
                  rw [hTt] at hin
                  have HS2 : Hid (SoundAt T k) := hTt ▸ SoundAt.attrs _ HS1.out
                  have HE2 : Hid (kidsS k T kids = bodyS ts (k + 1)) := by
                    show kidsS k T kids = bodyS ts (k + 1)
                    rw [HBS.out]
                    unfold twigS
                    dsimp only
                    rw [hTt]
                  obtain ⟨M2, nv2, uv2, ps2, us2, l2, mv2, _⟩ := id hin.out
                  obtain ⟨d0', d1', d2', d3', d4'⟩ := box5 HM.out mv2
                  clear l2 mv2 hTt d0 d1 d2 d3 d4
                  go_wp2
                  go_loopw [80] (fun i w' => ∃ j : Nat, j ≤ kids.length ∧ i = .int .i64 j ∧ Hid (PAt (w5.alloc (boxOf kind tag text (.slice aa attrs.length ac) (.slice ka kids.length kc))) M tb (kidsS k T (kids.take j)) (5000000 * k + 1 + 1100000 + j) (5000000 * k + 1100000) (5000000 * k + j) w')) (fun i _ => kids.length - (intOf i).toNat)
                  case atStart => exact ⟨0, by omega, rfl, hin.out.mono (by omega) (by omega) (by omega)⟩
                  case round =>
                    obtain ⟨j3, hj3, rfl, hin3⟩ := hrel
                    have hSj : Hid (SoundAt (kidsS k T (kids.take j3)) k) := SoundAt.kids _ HS2.out
                    by_cases hjl3 : j3 < kids.length
                    · obtain ⟨x, hx⟩ : ∃ x, kids[j3]? = some x := ⟨_, List.getElem?_eq_getElem hjl3⟩
                      obtain ⟨M3, nv3, uv3, ps3, us3, l3, mv3, _⟩ := id hin3.out
                      obtain ⟨b', o', hA, hb', e1⟩ := HI.out.2.2.2.kid j3 _ hx
                      have hA' : ka = some ⟨b', o', none⟩ := hA
                      subst hA'
                      have e1' : wr.cell? ⟨b', o' + j3, none⟩ = some (.int .i64 x) := (World.cell?_of_block (a := ⟨b', o' + j3, none⟩) (came HI.out.1 mv3 b' hb')).trans e1
                      have bl' : b' < wr.heap.size := World.block_lt_of_cell? wr _ e1'
                      have HX : Hid _ := kidsS_succ hx k T
                      obtain ⟨N, hN⟩ : ∃ N, kidsS k T (kids.take j3) = N := ⟨_, rfl⟩
                      rw [hN] at hin3 hSj HX
                      obtain ⟨nn, hk1, hr1⟩ := hSj.out.2.2
                      have hNl : N.length = k + 1 + 1 := hSj.out.2.1
                      have HK1 : Hid (N[k + 1]? = some nn) := hk1
                      clear hA hb' e1 l3 mv3 hx hN hk1
                      have stay : ∀ (hno : ¬ (0 ≤ x ∧ x < (k : Int) ∧ rootB N (x.toNat + 1) = true)), Hid (PAt (w5.alloc (boxOf kind tag text (.slice aa attrs.length ac) (.slice (some ⟨b', o', none⟩) kids.length kc))) M tb (kidsS k T (kids.take (j3 + 1))) (5000000 * k + 1 + 1100000 + (j3 + 1)) (5000000 * k + 1100000) (5000000 * k + (j3 + 1)) wr) := by
                        intro hno
                        show PAt _ _ _ _ _ _ _ _
                        rw [HX.out]
                        unfold kidS
                        rw [if_neg hno]
                        exact hin3.out.mono (by omega) (by omega) (by omega)
                      by_cases hx0 : 0 ≤ x
                      · by_cases hxk : x < (k : Int)
                        · obtain ⟨n, rfl⟩ := Int.eq_ofNat_of_zero_le hx0
                          obtain ⟨mb, hmb⟩ : ∃ mb, N[n + 1]? = some mb := ⟨N[n + 1]'(by omega), List.getElem?_eq_getElem _⟩
                          have HMB : Hid (N[n + 1]? = some mb) := hmb
                          rcases hSj.out.1.par (n + 1) mb hmb with hpm | ⟨pq, hpq, _⟩
                          · have hroot : rootB N (n + 1) = true := by unfold rootB; rw [hmb]; simp [hpm]
                            clear stay hmb
                            go_wp2_with (first
                              | (go_at_call 22; refine (hin3.out.parent HMB.out _ (by omega)).mono ?_; rintro e w9 ⟨rfl, hw9⟩; have hw2 := hw9.symm; subst hw2; clear hw9; rw [hpm])
                              | (go_at_call 24; refine (hin3.out.kids (by omega) HK1.out _ (by omega)).mono ?_; rintro e w10 ⟨a10, c10, rfl, hB10⟩; have HB : Hid _ := hB10; clear hB10)
                              | (go_at_call 23; refine ((hin3.out.below HB.out).put (HEr.out _) (by omega) (by omega) HK1.out HMB.out (by omega) (by omega) hr1 hpm _ _ (by omega) (by omega)).mono ?_; rintro e w11 ⟨⟨v11, rfl⟩, h11⟩; have H11 : Hid _ := h11; clear h11))
                            go_roundw
                            case rel =>
                              go_light
                              refine ⟨j3 + 1, by omega, by go_num, ?_⟩
                              show PAt _ _ _ _ _ _ _ _
                              rw [HX.out]
                              unfold kidS
                              rw [if_pos ⟨hx0, hxk, hroot⟩]
                              exact H11.out
                            case measure => go_light; simp [intOf]; omega
                          · have hroot : rootB N (n + 1) = false := by unfold rootB; rw [hmb]; simp [hpq]
                            have HSt := stay (fun h => by rw [Int.toNat_natCast, hroot] at h; cases h.2.2)
                            clear stay hmb
                            go_wp2_with (go_at_call 22; refine (hin3.out.parent HMB.out _ (by omega)).mono ?_; rintro e w9 ⟨rfl, hw9⟩; have hw2 := hw9.symm; subst hw2; clear hw9; rw [hpq])
                            go_roundw
                            case rel => go_light; exact ⟨j3 + 1, by omega, by go_num, HSt⟩
                            case measure => go_light; simp [intOf]; omega
                        · have HSt := stay (fun h => hxk h.2.1)
                          clear stay
                          go_wp2
                          go_roundw
                          case rel => go_light; exact ⟨j3 + 1, by omega, by go_num, HSt⟩
                          case measure => go_light; simp [intOf]; omega
                      · have HSt := stay (fun h => hx0 h.1)
                        clear stay
                        go_wp2
                        go_roundw
                        case rel => go_light; exact ⟨j3 + 1, by omega, by go_num, HSt⟩
                        case measure => go_light; simp [intOf]; omega
                    · obtain ⟨w7, hw7⟩ : ∃ w7, w7 = wr := ⟨_, rfl⟩
                      subst hw7
                      obtain rfl : j3 = kids.length := by omega
                      rw [List.take_length, HE2.out] at hin3
                      obtain ⟨M3, nv3, uv3, ps3, us3, l3, mv3, n3, u3, g3⟩ := hin3.out
                      obtain ⟨hmv, hown, hol, _⟩ := HI.out
                      have hown7 : Hid (w7.ownsRow W.heap.size 3 1 u4 k ((ids k).map intV)) := (own_moved hown (((Moved.refl w5 M).alloc _).trans mv3) hol).1
                      have hs7 : W.heap.size ≤ w7.heap.size := Nat.le_trans hmv.size (Nat.le_trans (by simp) mv3.size)
                      have HX3 : Hid (Lies w7 M3 tb nv3 uv3 ps3 us3 ∧ Moved (w5.alloc (boxOf kind tag text (.slice aa attrs.length ac) (.slice ka kids.length kc))) M w7 M3 ∧ nodesOf ps3 = bodyS ts (k + 1) ∧ us3.length ≤ 5000000 * (k + 1) ∧ SizedN (bodyS ts (k + 1)) (5000000 * (k + 1)) (5000000 * (k + 1))) := ⟨l3, mv3, n3, by omega, g3.mono (by omega) (by omega)⟩
                      clear l3 mv3 n3 u3 g3 hown hol hmv hin3
                      go_wp2_with (at_builtin; refine wpList_append_own_at _ (by rfl) (.tmp 108) (.tmp 110) 32 (by rfl) W.heap.size 3 i0 (.int .i64 0) 1 8 Tryz.underlying32 hi hz0 hz1 hz2 rfl (by decide) u4 k ((ids k).map intV) (by rfl) (hown7.out.alloc _) ⟨w7.heap.size, 0, none⟩ 1 1 [.int .i64 ((k : Int) + 1)] (by rfl) rfl (cell_one_new _ _ _) (by simp [Value.oneCell']) (by unfold maxLen; omega) (by omega) (by simp; omega) ?_; intro v8 w8 hv8 hg8 _ hat8; have HN : Hid (GOut W tb ts (k + 1) v8 w8) := GOut.next HI.out.1 HX3.out.2.1 HX3.out.1 HX3.out.2.2.1 HX3.out.2.2.2.1 HX3.out.2.2.2.2 HI.out.2.1 HI.out.2.2.1 hv8 hg8 hat8; clear hv8 hg8 hat8)
                      go_roundw
                      case rel => go_light; exact ⟨k + 1, by omega, by omega, by go_num, HN⟩
                      case measure => go_light; simp [intOf]; omega
          · have HBig : Hid (20000 < text.size ∨ (bodyS ts k).length = 400) := by
                rw [hbl]
                rcases Nat.lt_or_ge 20000 text.size with q | q
                · exact .inl q
                · exact .inr (by have : ¬ (k + 1 < 400) := fun h => hsz2 ⟨q, h⟩; omega)
            have HBg2 : Hid (300 < text.size ∨ 60 < k) := by
                rcases HBig.out with q | q
                · exact .inl (by omega)
                · exact .inr (by omega)
            clear hsz2
            cases hb4 : (kind == 4)
            all_goals go_wp2_with (first | (go_at_call 17; refine ((HP.out _).elementBad (HEr.out _) (by omega) tag HBadE.out).mono ?_; rintro e w1 ⟨⟨t1, a1, rfl⟩, h2⟩; have H2 : Hid (PAt (w5.alloc (boxOf kind tag text (.slice aa attrs.length ac) (.slice ka kids.length kc))) M tb (bodyS ts k) (5000000 * k) (5000000 * k) (5000000 * k) w1) := h2; obtain ⟨M1, nv1, uv1, ps1, us1, l1, mv1, _⟩ := id h2; obtain ⟨d0, d1, d2, d3, d4⟩ := box5 HM.out mv1; clear h2 l1 mv1) | (go_at_call 20; refine (H2.out.textBad (HEr.out _) (by omega) text HBig.out).mono ?_; rintro e w3 ⟨⟨t3, a3, rfl⟩, h3⟩; have H3 : Hid (PAt (w5.alloc (boxOf kind tag text (.slice aa attrs.length ac) (.slice ka kids.length kc))) M tb (bodyS ts k) (5000000 * k) (5000000 * k) (5000000 * k) w3) := h3; clear h3) | (go_at_call 19; refine (H2.out.commentBad (HEr.out _) (by omega) text HBig.out).mono ?_; rintro e w3 ⟨⟨t3, a3, rfl⟩, h3⟩; have H3 : Hid (PAt (w5.alloc (boxOf kind tag text (.slice aa attrs.length ac) (.slice ka kids.length kc))) M tb (bodyS ts k) (5000000 * k) (5000000 * k) (5000000 * k) w3) := h3; clear h3))
            all_goals go_ret
            all_goals exact NO.out _ H3.out HBg2.out
    · obtain rfl : k = ts.length := by omega
      obtain ⟨M, nv, uv, ps, us, hL, hmv, hpl, hul, hg, hown, hol⟩ := hO.out
      obtain ⟨_, a4, c4, hv4, _, hc4, _⟩ := own_cell hown
      subst hv4
      have HS : Hid (GLast W tb ts 0 (.slice a4 ts.length c4) wr) := ⟨M, nv, uv, ps, us, hL, hmv, hpl, hul, hg, hown, hol⟩
      unfold maxLen at hc4
      clear hL hmv hpl hul hg hown hol hO
      go_wp2
      go_loopw [115] (fun i w' => ∃ j : Nat, j ≤ ts.length ∧ i = .int .i64 j ∧ Hid (GLast W tb ts j (.slice a4 ts.length c4) w')) (fun i _ => ts.length - (intOf i).toNat)
      case atStart => exact ⟨0, by omega, rfl, HS⟩
      case round =>
        obtain ⟨j, hj, rfl, hin⟩ := hrel
        obtain ⟨M, nv, uv, ps, us, hL, hmv, hpl, hul, hg, hown, hol⟩ := hin.out
        by_cases hjl : j < ts.length
        · obtain ⟨_, a5, c5, hv5, _, _, hcell⟩ := own_cell hown
          cases hv5
          obtain ⟨g, rfl, cg, _⟩ := hcell j _ (ids_get ts.length j hjl)
          have hSj : Hid (Sound (lastS ts j)) := lastS_sound ts j
          have hNl : (lastS ts j).length = ts.length + 1 := lastS_length ts j
          have HX : Hid (lastS ts (j + 1) = rootS (lastS ts j) j) := rfl
          have HP : Hid (PAt wr M tb (lastS ts j) (5000000 * ts.length + j) (5000000 * ts.length) (5000000 * ts.length + j) wr) := ⟨M, nv, uv, ps, us, hL, Moved.refl _ _, hpl, hul, hg⟩
          have HG : Hid (wr.ownsRow W.heap.size 3 1 (.slice (some ⟨g, 0, none⟩) ts.length c4) ts.length ((ids ts.length).map intV) ∧ (∀ b, (Value.slice (some ⟨g, 0, none⟩) ts.length c4).ownBlock = some b → M b = .other) ∧ Moved W M0 wr M) := ⟨hown, hol, hmv⟩
          have HE3 : Hid (Errs wr M) := HE.out.moved hmv
          obtain ⟨N, hN⟩ : ∃ N, lastS ts j = N := ⟨_, rfl⟩
          rw [hN] at hSj hNl HX HP
          obtain ⟨nd, hd1, hd2, hd3⟩ := hSj.out.doc
          obtain ⟨mb, hmb⟩ : ∃ mb, N[j + 1]? = some mb := ⟨N[j + 1]'(by omega), List.getElem?_eq_getElem _⟩
          have HD : Hid (N[0]? = some nd) := hd1
          have HMB : Hid (N[j + 1]? = some mb) := hmb
          clear hL hmv hpl hul hg hown hol hin hcell hd1 hN
          rcases hSj.out.par (j + 1) mb hmb with hpm | ⟨pq, hpq, _⟩
          · have hroot : rootB N (j + 1) = true := by unfold rootB; rw [hmb]; simp [hpm]
            clear hmb
            go_wp2_with (first
              | (go_at_call 22; refine (HP.out.parent HMB.out _ (by omega)).mono ?_; rintro e w9 ⟨rfl, hw9⟩; have hw2 := hw9.symm; subst hw2; clear hw9; rw [hpm])
              | (go_at_call 24; refine (HP.out.kids (by omega) HD.out _ (by omega)).mono ?_; rintro e w10 ⟨a10, c10, rfl, hB10⟩; have HB : Hid _ := hB10; clear hB10)
              | (go_at_call 23; refine ((HP.out.below HB.out).put HE3.out (by omega) (by omega) HD.out HMB.out (by omega) (by omega) hd3 hpm _ _ (by omega) (by omega)).mono ?_; rintro e w11 ⟨⟨v11, rfl⟩, h11⟩; have H11 : Hid _ := h11; clear h11))
            go_roundw
            case rel =>
              go_light
              obtain ⟨M4, nv4, uv4, ps4, us4, l4, mv4, n4, u4', g4⟩ := H11.out
              obtain ⟨o1, o2⟩ := own_moved HG.out.1 mv4 HG.out.2.1
              refine ⟨j + 1, by omega, by go_num, M4, nv4, uv4, ps4, us4, l4, HG.out.2.2.trans mv4, ?_, by omega, ?_, o1, o2⟩
              · rw [n4, HX.out]
                unfold rootS
                rw [if_pos hroot]
              · rw [HX.out]
                unfold rootS
                rw [if_pos hroot]
                exact g4
            case measure => go_light; simp [intOf]; omega
          · have hroot : ¬ rootB N (j + 1) = true := by unfold rootB; rw [hmb]; simp [hpq]
            clear hmb
            go_wp2_with (go_at_call 22; refine (HP.out.parent HMB.out _ (by omega)).mono ?_; rintro e w9 ⟨rfl, hw9⟩; have hw2 := hw9.symm; subst hw2; clear hw9; rw [hpq])
            go_roundw
            case rel =>
              go_light
              obtain ⟨M4, nv4, uv4, ps4, us4, l4, mv4, n4, u4', g4⟩ := HP.out
              obtain ⟨o1, o2⟩ := own_moved HG.out.1 mv4 HG.out.2.1
              refine ⟨j + 1, by omega, by go_num, M4, nv4, uv4, ps4, us4, l4, HG.out.2.2.trans mv4, ?_, by omega, ?_, o1, o2⟩
              · rw [n4, HX.out]
                unfold rootS
                rw [if_neg hroot]
              · rw [HX.out]
                unfold rootS
                rw [if_neg hroot]
                exact g4.mono (by omega) (by omega)
            case measure => go_light; simp [intOf]; omega
        · obtain rfl : j = ts.length := by omega
          have HX : Hid (Lies wr M tb nv uv ps us ∧ Moved W M0 wr M ∧ nodesOf ps = lastS ts ts.length ∧ SizedN (lastS ts ts.length) (5000000 * ts.length) (5000000 * ts.length + ts.length)) := ⟨hL, hmv, hpl, hg⟩
          clear hL hmv hpl hul hg hown hol hin
          go_wp2_with (go_at_call 25; refine (settle_any HX.out.1).mono ?_; rintro e w9 ⟨rfl, hL9, hm9⟩)
          go_ret
          exact .inr ⟨tb, M, nv, _, ps, [], rfl, hL9, HX.out.2.1.trans hm9, HX.out.2.2.1, by omega, HX.out.2.2.2⟩
end Go.Proofs.YtlfepdecgfcifaaGreatDoor
