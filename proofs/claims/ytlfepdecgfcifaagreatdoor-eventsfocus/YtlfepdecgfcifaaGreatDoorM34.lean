/- The document's answer: the tree of a list of twigs. -/
import Derived.Test.YtlfepdecgfcifaaGreatDoorM33
import Derived.StillTailTactics
import Derived.Deep.DeepCutAuto
namespace Go.Proofs.YtlfepdecgfcifaaGreatDoor
open Go.RowKit

/-- what Make is asked for makes the twig's node -/
def Fits (kind : Int) (tag text : ByteArray) (K : Int) (S : ByteArray) : Prop := ((K = 2 ∧ nameB S = true) ∨ (¬ K = 2 ∧ S.size ≤ 20000)) ∧ makeN K S = headS kind tag text
theorem Fits.elem {kind : Int} {tag text : ByteArray} (h : kind = 2) (hn : nameB tag = true) : Fits kind tag text 2 tag := ⟨.inl ⟨rfl, hn⟩, by unfold makeN headS; rw [if_pos rfl, if_pos ⟨h, hn⟩]⟩
theorem Fits.comment {kind : Int} {tag text : ByteArray} (h : kind = 4) (ht : text.size ≤ 20000) : Fits kind tag text 4 text := ⟨.inr ⟨by decide, ht⟩, by subst h; unfold makeN headS; simp⟩
theorem Fits.text {kind : Int} {tag text : ByteArray} (h : ¬ (kind = 2 ∧ nameB tag = true)) (h4 : ¬ kind = 4) (ht : text.size ≤ 20000) : Fits kind tag text 3 text := ⟨.inr ⟨by decide, ht⟩, by unfold makeN headS; rw [if_neg h, if_neg h4]; simp⟩

def FromPost (W : World) (ts : List Tw) (e : Ending) (w' : World) : Prop :=
  ∃ a n c M tb ps, e = .returned (.agg #[.slice a n c, .slice none 0 0]) ∧ RLies w' M tb (.slice a n c) (.slice none 0 0) ps [] ∧ nodesOf ps = treeS ts ∧ Below W.heap.size W w'

theorem RAt.mono {B : World} {tb : Nat} {ns : List Nd} {U A K U' A' K' : Nat} {w : World} (h : RAt B tb ns U A K w) (h1 : U ≤ U') (h2 : A ≤ A') (h3 : K ≤ K') : RAt B tb ns U' A' K' w := by
  obtain ⟨M, nv, uv, ps, us, g1, g2, g3, g4, g5⟩ := h
  exact ⟨M, nv, uv, ps, us, g1, g2, g3, Nat.le_trans g4 h1, g5.mono h2 h3⟩

set_option maxHeartbeats 20000000 in
set_option maxRecDepth 100000 in
theorem fromTwigs_any {W : World} {cap : Nat} {a : Option Addr} {ts : List Tw} (h : TwigsIn W W.heap.size a ts) (hf : Few ts) :
    Calls Tryz.prog 7 #[.slice a ts.length cap] W (FromPost W ts) := by
  have H : Hid (TwigsIn W W.heap.size a ts) := h
  have HF : Hid (∀ (j : Nat) (t : Tw), ts[j]? = some t → FewOne t) := hf.2
  have h60 := hf.1
  clear h hf
  go_enter Tryz.func7, Tryz.ntmps7
  go_wp2_with (go_at_call 26; refine (newTree_any _).mono ?_; rintro e w1 ⟨nb, rfl, hn1, hn2, hn3, hB1⟩
               have H1 : Hid _ := And.intro hn1 (And.intro hn2 (And.intro hn3 hB1))
               clear hn1 hn2 hn3 hB1)
  generalize hBB : (W.alloc (.cells #[.slice none 0 0, .slice none 0 0] 29)) = B at H1
  have bW : Hid (Below W.heap.size W B ∧ B.heap[W.heap.size]? = some (.cells #[.slice none 0 0, .slice none 0 0] 29 (0, 0)) ∧ B.heap.size = W.heap.size + 1) := by
    subst hBB
    exact ⟨(Below.refl _ _).alloc (Nat.le_refl _) _, heap_alloc_new W _, by simp⟩
  have H0 : Hid (RAt B w1.heap.size (bodyS ts 0) 0 0 0 (w1.alloc (.cells #[.slice (some ⟨nb, 0, none⟩) 1 1, .slice none 0 0] 29))) := by
    obtain ⟨g1, g2, g3, g4⟩ := H1.out
    obtain ⟨M, q1, q2⟩ := rlies_doc (w0 := B) (w := w1.alloc (.cells #[.slice (some ⟨nb, 0, none⟩) 1 1, .slice none 0 0] 29)) (tb := w1.heap.size) (nb := nb) (g4.alloc g4.size _) (heap_alloc_new w1 _) ((Below.heap_alloc _ _ _ g3).trans g1) (by omega) g4.size g2
    refine ⟨M, _, _, _, _, q1, q2, rfl, Nat.le_refl _, ?_⟩
    intro j n hj
    rcases Nat.eq_zero_or_pos j with e | e
    · subst e; cases hj; exact ⟨Nat.le_refl _, Nat.le_refl _⟩
    · unfold bodyS at hj; rw [List.getElem?_eq_none (by simp; omega)] at hj; cases hj
  obtain ⟨tb, htb⟩ : ∃ tb, w1.heap.size = tb := ⟨_, rfl⟩
  rw [htb] at H0 ⊢
  have hWB : W.heap.size < B.heap.size := by have := bW.out.2.2; omega
  clear H1 hBB
  go_loopw [4] (fun i wr => ∃ k : Nat, k ≤ ts.length ∧ i = .int .i64 k ∧ Hid (RAt B tb (bodyS ts k) (100 * k) (100 * k) (100 * k) wr)) (fun i _ => ts.length - (intOf i).toNat)
  case atStart => exact ⟨0, by omega, rfl, H0⟩
  case round =>
    obtain ⟨k, hk, rfl, hO⟩ := hrel
    by_cases hlt : k < ts.length
    · obtain ⟨w5, hw5⟩ : ∃ w5, w5 = wr := ⟨_, rfl⟩
      subst hw5
      obtain ⟨t, ht⟩ : ∃ t, ts[k]? = some t := ⟨_, List.getElem?_eq_getElem hlt⟩
      obtain ⟨f1, f2, f3, f4⟩ := HF.out k t ht
      obtain ⟨b, o, rfl, hT0⟩ := H.out k t ht
      have HT : Hid (∀ w', Below B.heap.size B w' → TwAt w' W.heap.size b (o + k * 5) t) := fun w' hb => hT0.same (fun q hq => (hb.block q (by omega)).trans (bW.out.1.block q hq))
      have hT := HT.out w5 hO.out.old
      have c0 := hT.kind
      have c1 := hT.tag
      have c2 := hT.text
      have c3 := hT.attrs
      have c4 := hT.kids
      have hb1 := hT.blk
      have hbs : bodyS ts (k + 1) = twigS (bodyS ts k) k t := by conv => lhs; unfold bodyS; rw [ht]
      have HBS : Hid _ := hbs
      clear hT0 hT ht hbs
      obtain ⟨kind, tag, text, attrs, kids, aa, ac, ka, kc⟩ := t
      dsimp only at c0 c1 c2 c3 c4 f1 f2 f3 f4
      go_upto_region 8 with (go_at_call 27; refine (isName_any _ _).mono ?_; rintro e w' ⟨rfl, hw'⟩; have hw2 := hw'.symm; subst hw2; clear hw')
      go_cut [40] (fun s40 wx => s40 = .bool (decide (kind = 2) && nameB tag) ∧ wx = w5)
      case first =>
        by_cases e2 : kind = 2
        all_goals go_wp2_with fail
        all_goals go_meet
        all_goals simp [e2]
      case rest =>
      obtain ⟨hs40, hwc⟩ := hcut
      subst hs40
      have hw2 := hwc.symm
      subst hw2
      clear hwc
      go_upto_if 40 with fail
      go_cut [6, 7] (fun s6 s7 wx => ∃ K S, s6 = .int .i64 K ∧ s7 = .string S ∧ Hid (Fits kind tag text K S) ∧ wx = w5)
      case first =>
        cases hq : (decide (kind = 2) && nameB tag)
        · by_cases e4 : kind = 4
          · have e4b : (kind == 4) = true := by simp [e4]
            go_wp2_with fail
            go_meet
            exact ⟨4, text, rfl, rfl, Fits.comment e4 (by omega), rfl⟩
          · have e4b : (kind == 4) = false := by simp [e4]
            go_wp2_with fail
            go_meet
            exact ⟨3, text, rfl, rfl, Fits.text (fun h => by simp [h.1, h.2] at hq) e4 (by omega), rfl⟩
        · go_wp2_with fail
          go_meet
          have hq' : kind = 2 ∧ nameB tag = true := by simpa using hq
          exact ⟨2, tag, rfl, rfl, Fits.elem hq'.1 hq'.2, rfl⟩
      case rest =>
      obtain ⟨K, S, hs6, hs7, hfit, hwc⟩ := hcut
      subst hs6
      subst hs7
      have hw2 := hwc.symm
      subst hw2
      clear hwc
      have hbl : (bodyS ts k).length = k + 1 := bodyS_length ts k hk
      have HS1 : Hid (SoundAt (bodyS ts k ++ [headS kind tag text]) k ∧ Neat (bodyS ts k ++ [headS kind tag text])) := ⟨SoundAt.head (bodyS_sound ts k hk) hbl _ _ _, (bodyS_neat ts k hk).snoc _ (headS_root ..).2.1 (headS_kind ..)⟩
      go_wp2_with (go_at_call 28; refine (hO.out.make (by omega) (by omega) (by omega) (by omega) K S hfit.out.1).mono ?_; rintro e w6 ⟨rfl, h6⟩; rw [hfit.out.2] at h6; rw [hbl]; have H6 : Hid _ := h6; clear h6)
      clear hO
      go_loopw [10] (fun iv w' => ∃ j : Nat, j ≤ attrs.length ∧ iv = .int .i64 j ∧ Hid (RAt B tb (attrsS (k + 1) (bodyS ts k ++ [headS kind tag text]) (attrs.take j)) (100 * k + 1 + j) (100 * k + j) (100 * k) w')) (fun iv _ => attrs.length - (intOf iv).toNat)
      case atStart => exact ⟨0, by omega, rfl, H6⟩
      case round =>
        obtain ⟨j, hj, rfl, hin⟩ := hrel
        have hT := HT.out wr hin.out.old
        have d3 := hT.attrs
        have d4 := hT.kids
        by_cases hjl : j < attrs.length
        · obtain ⟨⟨xn, xv⟩, hx⟩ : ∃ x, attrs[j]? = some x := ⟨_, List.getElem?_eq_getElem hjl⟩
          obtain ⟨b', o', hA, hb', e1, e2, e3, e4⟩ := hT.att j _ hx
          have hA' : aa = some ⟨b', o', none⟩ := hA
          subst hA'
          have HX : Hid _ := attrsS_succ hx (k + 1) (bodyS ts k ++ [headS kind tag text])
          have i1 : (0 : Int) ≤ (k : Int) := by omega
          have i2 : (k : Int) < (ts.length : Int) := by omega
          have i3 : (0 : Int) ≤ (j : Int) := by omega
          have i4 : (j : Int) < (attrs.length : Int) := by omega
          have hll : (attrsS (k + 1) (bodyS ts k ++ [headS kind tag text]) (attrs.take j)).length = k + 1 + 1 := by rw [attrsS_length]; simp [hbl]
          dsimp only at d3 e1 e2 e4
          clear hT hA hx
          go_wp2_with fail
          go_still_tail 19, (by kernel_rfl)
          go_wp2_with (go_at_call 29; refine ((hin.out.below (Below.refl _ _).drew).set (by omega) (by omega) (by omega) (by omega) (i := k + 1) (by omega) xn xv e4 _ (by omega)).mono ?_; rintro e w7 ⟨⟨c, rfl⟩, h7⟩; have H7 : Hid _ := h7; clear h7)
          go_roundw
          case rel =>
            go_light
            refine ⟨j + 1, by omega, by go_num, ?_⟩
            show RAt _ _ _ _ _ _ _
            rw [HX.out]
            exact H7.out
          case measure => go_light; simp [intOf]; omega
        · obtain rfl : j = attrs.length := by omega
          rw [List.take_length] at hin
          obtain ⟨w8, hw8⟩ : ∃ w8, w8 = wr := ⟨_, rfl⟩
          subst hw8
          obtain ⟨T, hTt⟩ : ∃ T, attrsS (k + 1) (bodyS ts k ++ [headS kind tag text]) attrs = T := ⟨_, rfl⟩
          rw [hTt] at hin
          have HS2 : Hid (SoundAt T k ∧ Neat T) := hTt ▸ ⟨SoundAt.attrs _ HS1.out.1, Neat.attrs _ HS1.out.2⟩
          have HE2 : Hid (kidsS k T kids = bodyS ts (k + 1)) := by
            show kidsS k T kids = bodyS ts (k + 1)
            rw [HBS.out]
            unfold twigS
            dsimp only
            rw [hTt]
          clear hT hTt
          go_wp2_with fail
          go_loopw [11] (fun iv w' => ∃ j : Nat, j ≤ kids.length ∧ iv = .int .i64 j ∧ Hid (RAt B tb (kidsS k T (kids.take j)) (100 * k + 20 + j) (100 * k + 10) (100 * k + j) w')) (fun iv _ => kids.length - (intOf iv).toNat)
          case atStart => exact ⟨0, by omega, rfl, hin.out.mono (by omega) (by omega) (by omega)⟩
          case round =>
            obtain ⟨j, hj3, rfl, hin3⟩ := hrel
            have hT := HT.out wr hin3.out.old
            have d4' := hT.kids
            have hSj : Hid (SoundAt (kidsS k T (kids.take j)) k ∧ Neat (kidsS k T (kids.take j))) := ⟨SoundAt.kids _ HS2.out.1, Neat.kids _ HS2.out.2 HS2.out.1⟩
            by_cases hjl : j < kids.length
            · obtain ⟨x, hx⟩ : ∃ x, kids[j]? = some x := ⟨_, List.getElem?_eq_getElem hjl⟩
              obtain ⟨b', o', hA, hb', e1⟩ := hT.kid j _ hx
              have hA' : ka = some ⟨b', o', none⟩ := hA
              subst hA'
              have HX : Hid _ := kidsS_succ hx k T
              obtain ⟨N, hN⟩ : ∃ N, kidsS k T (kids.take j) = N := ⟨_, rfl⟩
              rw [hN] at hin3 hSj HX
              obtain ⟨nn, hk1, hr1⟩ := hSj.out.1.2.2
              have hNl : N.length = k + 1 + 1 := hSj.out.1.2.1
              obtain ⟨nb1, cap1, ka1, kc1, r0, r1, r2, r4, r5⟩ := hin3.out.read hk1
              have HK1 : Hid (N[k + 1]? = some nn) := hk1
              dsimp only at d4' e1
              clear hT hA hx hN hk1
              have stay : ∀ (hno : ¬ (0 ≤ x ∧ x < (k : Int) ∧ rootB N (x.toNat + 1) = true)), Hid (RAt B tb (kidsS k T (kids.take (j + 1))) (100 * k + 20 + (j + 1)) (100 * k + 10) (100 * k + (j + 1)) wr) := by
                intro hno
                show RAt _ _ _ _ _ _ _
                rw [HX.out]
                unfold kidS
                rw [if_neg hno]
                exact hin3.out.mono (by omega) (by omega) (by omega)
              by_cases hx0 : 0 ≤ x
              · by_cases hxk : x < (k : Int)
                · obtain ⟨n, rfl⟩ := Int.eq_ofNat_of_zero_le hx0
                  obtain ⟨mb, hmb⟩ : ∃ mb, N[n + 1]? = some mb := ⟨N[n + 1]'(by omega), List.getElem?_eq_getElem _⟩
                  obtain ⟨nb2, cap2, ka2, kc2, q0, q1, q2, q4, q5⟩ := hin3.out.read hmb
                  have eq1 : nb2 = nb1 ∧ cap2 = cap1 := by
                    rw [r0] at q0
                    injection q0 with q0
                    injection q0 with q0 _ q0'
                    injection q0 with q0
                    injection q0 with q0
                    exact ⟨q0.symm, q0'.symm⟩
                  obtain ⟨rfl, rfl⟩ := eq1
                  have j1 : (0 : Int) ≤ (n : Int) + 1 := by omega
                  have j2 : (n : Int) + 1 < (N.length : Int) := by omega
                  rcases hSj.out.1.1.par (n + 1) mb hmb with hpm | ⟨pq, hpq, _⟩
                  · have hroot : rootB N (n + 1) = true := by unfold rootB; rw [hmb]; simp [hpm]
                    rw [hpm] at q4
                    have HMB : Hid (N[n + 1]? = some mb) := hmb
                    have CP : Hid (∀ y z : Int, y = ((k + 1 : Nat) : Int) → z = ((n + 1 : Nat) : Int) → Calls Tryz.prog 30 #[.pointer (some ⟨tb, 0, none⟩), .int .i64 y, .int .i64 z, .int .i64 nn.kids.length] wr fun e w' => (∃ c, e = .returned (.int .i64 c)) ∧ RAt B tb (putS N (k + 1) (n + 1)) (100 * k + 20 + j + 1) (100 * k + 10) (100 * k + j + 1) w') := fun y z hy hz => hin3.out.put (by omega) (by omega) (by omega) (by omega) hSj.out.1.1 hSj.out.2 HK1.out HMB.out (by omega) (by omega) hr1 hpm y z hy hz
                    clear stay hmb q1 q2 q5
                    go_wp2_with (go_at_call 30; refine (CP.out _ _ (by omega) (by omega)).mono ?_; rintro e w9 ⟨⟨c, rfl⟩, h9⟩; have H9 : Hid _ := h9; clear h9)
                    go_roundw
                    case rel =>
                      go_light
                      refine ⟨j + 1, by omega, by go_num, ?_⟩
                      show RAt _ _ _ _ _ _ _
                      rw [HX.out]
                      unfold kidS
                      rw [if_pos ⟨hx0, hxk, hroot⟩]
                      exact H9.out
                    case measure => go_light; simp [intOf]; omega
                  · have hroot : rootB N (n + 1) = false := by unfold rootB; rw [hmb]; simp [hpq]
                    have HSt := stay (fun h => by rw [Int.toNat_natCast, hroot] at h; cases h.2.2)
                    rw [hpq] at q4
                    clear stay hmb q1 q2 q5
                    go_wp2_with fail
                    go_roundw
                    case rel => go_light; exact ⟨j + 1, by omega, by go_num, HSt⟩
                    case measure => go_light; simp [intOf]; omega
                · have HSt := stay (fun h => hxk h.2.1)
                  clear stay
                  go_wp2_with fail
                  go_roundw
                  case rel => go_light; exact ⟨j + 1, by omega, by go_num, HSt⟩
                  case measure => go_light; simp [intOf]; omega
              · have HSt := stay (fun h => hx0 h.1)
                clear stay
                go_wp2_with fail
                go_roundw
                case rel => go_light; exact ⟨j + 1, by omega, by go_num, HSt⟩
                case measure => go_light; simp [intOf]; omega
            · obtain rfl : j = kids.length := by omega
              rw [List.take_length, HE2.out] at hin3
              go_wp2_with fail
              go_roundw
              case rel => go_light; exact ⟨k + 1, by omega, by go_num, hin3.out.mono (by omega) (by omega) (by omega)⟩
              case measure => go_light; simp [intOf]; omega
    · obtain rfl : k = ts.length := by omega
      go_wp2_with fail
      have hlast : Hid (RAt B tb (lastS ts 0) (100 * ts.length) (100 * ts.length) (100 * ts.length) wr) := hO
      clear hO
      go_loopw [13] (fun iv w' => ∃ j : Nat, j ≤ ts.length ∧ iv = .int .i64 ((j : Int) + 1) ∧ Hid (RAt B tb (lastS ts j) (100 * ts.length + j) (100 * ts.length) (100 * ts.length + j) w')) (fun iv _ => ts.length + 1 - (intOf iv).toNat)
      case atStart => exact ⟨0, by omega, rfl, hlast⟩
      case round =>
        obtain ⟨j, hj, rfl, hin⟩ := hrel
        have hSj : Hid (Sound (lastS ts j) ∧ Neat (lastS ts j)) := ⟨lastS_sound ts j, lastS_neat ts j⟩
        have hNl : (lastS ts j).length = ts.length + 1 := lastS_length ts j
        have HX : Hid (lastS ts (j + 1) = rootS (lastS ts j) j) := rfl
        obtain ⟨N, hN⟩ : ∃ N, lastS ts j = N := ⟨_, rfl⟩
        rw [hN] at hin hSj HX hNl
        obtain ⟨nd, hd1, hd2, hd3⟩ := hSj.out.1.doc
        obtain ⟨nb1, cap1, ka1, kc1, r0, r1, r2, r4, r5⟩ := hin.out.read hd1
        rw [Nat.zero_mul, Nat.zero_add] at r4 r5
        rw [hNl] at r0
        by_cases hjl : j < ts.length
        · obtain ⟨mb, hmb⟩ : ∃ mb, N[j + 1]? = some mb := ⟨N[j + 1]'(by omega), List.getElem?_eq_getElem _⟩
          obtain ⟨nb2, cap2, ka2, kc2, q0, q1, q2, q4, q5⟩ := hin.out.read hmb
          rw [hNl] at q0
          have eq1 : nb2 = nb1 ∧ cap2 = cap1 := by
            rw [r0] at q0
            injection q0 with q0
            injection q0 with q0 _ q0'
            injection q0 with q0
            injection q0 with q0
            exact ⟨q0.symm, q0'.symm⟩
          obtain ⟨rfl, rfl⟩ := eq1
          have j1 : (0 : Int) ≤ (j : Int) + 1 := by omega
          have j2 : (j : Int) + 1 < ((ts.length + 1 : Nat) : Int) := by omega
          have j2' : (j : Int) + 1 < (ts.length : Int) + 1 := by omega
          have HD : Hid (N[0]? = some nd) := hd1
          rcases hSj.out.1.par (j + 1) mb hmb with hpm | ⟨pq, hpq, _⟩
          · have hroot : rootB N (j + 1) = true := by unfold rootB; rw [hmb]; simp [hpm]
            rw [hpm] at q4
            have HMB : Hid (N[j + 1]? = some mb) := hmb
            have CP : Hid (∀ y z : Int, y = ((0 : Nat) : Int) → z = ((j + 1 : Nat) : Int) → Calls Tryz.prog 30 #[.pointer (some ⟨tb, 0, none⟩), .int .i64 y, .int .i64 z, .int .i64 nd.kids.length] wr fun e w' => (∃ c, e = .returned (.int .i64 c)) ∧ RAt B tb (putS N 0 (j + 1)) (100 * ts.length + j + 1) (100 * ts.length) (100 * ts.length + j + 1) w') := fun y z hy hz => hin.out.put (by omega) (by omega) (by omega) (by omega) hSj.out.1 hSj.out.2 HD.out HMB.out (by omega) (by omega) hd3 hpm y z hy hz
            clear hmb q1 q2 q5 hd1 hN
            go_wp2_with (go_at_call 30; refine (CP.out _ _ (by omega) (by omega)).mono ?_; rintro e w9 ⟨⟨c, rfl⟩, h9⟩; have H9 : Hid _ := h9; clear h9)
            go_roundw
            case rel =>
              go_light
              refine ⟨j + 1, by omega, by go_num, ?_⟩
              show RAt _ _ _ _ _ _ _
              rw [HX.out]
              unfold rootS
              rw [if_pos hroot]
              exact H9.out
            case measure => go_light; simp [intOf]; omega
          · have hroot : ¬ rootB N (j + 1) = true := by unfold rootB; rw [hmb]; simp [hpq]
            rw [hpq] at q4
            have HSt : Hid (RAt B tb (lastS ts (j + 1)) (100 * ts.length + (j + 1)) (100 * ts.length) (100 * ts.length + (j + 1)) wr) := by
              show RAt _ _ _ _ _ _ _
              rw [HX.out]
              unfold rootS
              rw [if_neg hroot]
              exact hin.out.mono (by omega) (by omega) (by omega)
            clear hmb q1 q2 q5 hd1 hN
            go_wp2_with fail
            go_roundw
            case rel => go_light; exact ⟨j + 1, by omega, by go_num, HSt⟩
            case measure => go_light; simp [intOf]; omega
        · obtain rfl : j = ts.length := by omega
          obtain ⟨M, nv, uv, ps, us, g1, g2, g3, g4, g5, g6⟩ := hin.out.parts
          obtain ⟨a9, c9, hv9, _, _⟩ := g1.nodes.shape
          subst hv9
          have z0 := g1.cell0
          have z1 := g1.cell1
          have zf := g1.frozen 1
          obtain ⟨q1, q2⟩ := g1.headUndos (Step.refl g1.fresh .undos) (uv' := .slice none 0 0) (us' := []) (Row.nil _ _ _ _ _)
          have y0 := q1.cell0
          have y1 := q1.cell1
          have hres := (q2.far W.heap.size (Nat.lt_of_lt_of_le hWB g2.size) ((g2.lab _ hWB).trans rfl)).trans ((g2.far W.heap.size hWB rfl).trans bW.out.2.1)
          obtain ⟨x0, x1⟩ := head_cell hres
          have HR : Hid (RLies (wr.setCell ⟨tb, 1, none⟩ (.slice none 0 0)) M tb (.slice a9 ps.length c9) (.slice none 0 0) ps [] ∧ nodesOf ps = treeS ts ∧ Moved B (fun _ => .other) (wr.setCell ⟨tb, 1, none⟩ (.slice none 0 0)) M) := ⟨q1, by rw [g3, ← hN]; rfl, g2.trans q2⟩
          have htw : tb ≠ W.heap.size := by
            intro e
            have := g1.tree
            rw [e, g2.lab _ hWB] at this
            cases this
          obtain ⟨x2, x3, x4⟩ := x1
          have hMW : M W.heap.size = .other := (g2.lab _ hWB).trans rfl
          have hpl : ps.length = ts.length + 1 := by omega
          clear q1 q2 g1 g2 g3 g4 g5 hin hd1 hN hSj
          go_wp2_with fail
          refine bodyPost_ret (v := .agg #[.slice a9 (ts.length + 1) c9, .slice none 0 0]) ?_ rfl ⟨a9, ts.length + 1, c9, M, tb, ps, rfl, ?_, HR.out.2.1, ?_⟩
          · simp [results, Tryz.results7, go_sem, x0, x2]
          · have := (HR.out.1.setOther hMW 0 (.slice a9 (ts.length + 1) c9)).setOther hMW 1 (.slice none 0 0)
            rw [hpl] at this
            exact this
          · have mb := HR.out.2.2
            have b1 : Below W.heap.size B (wr.setCell ⟨tb, 1, none⟩ (.slice none 0 0)) := ⟨mb.os, mb.tape, mb.output, mb.size, fun b hb => mb.far b (by omega) rfl⟩
            exact ((bW.out.1.trans b1).setCell (Nat.le_refl _) _).setCell (Nat.le_refl _) _
end Go.Proofs.YtlfepdecgfcifaaGreatDoor
