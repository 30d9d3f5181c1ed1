/- Set, Unset and Say, in both trees. -/
import Derived.Test.YtoanbjdifddcoaaGreatDoorM33
import Derived.Test.YtoanbjdifddcoaaGreatDoorM34
import Derived.Test.YtoanbjdifddcoaaGreatDoorM35
import Derived.Test.YtoanbjdifddcoaaGreatDoorRSetE
import Derived.Test.YtoanbjdifddcoaaGreatDoorM37
import Derived.Test.YtoanbjdifddcoaaGreatDoorM23
import Derived.Test.YtoanbjdifddcoaaGreatDoorRMake3
namespace Go.Proofs.YtoanbjdifddcoaaGreatDoor
open Go.RowKit

section
variable {W : World} {X : List (Nat × Obj)} {tb rb K : Nat} {ns : List Nd} {past : List (List Nd)} {w w' : World} {A : Nat → Addr} {e : Ending}

theorem setAttr_len (l : List (ByteArray × ByteArray)) (name value : ByteArray) : (setAttr l name value).length ≤ l.length + 1 := by
  unfold setAttr
  split <;> simp

theorem setAttr_old {l : List (ByteArray × ByteArray)} {name value : ByteArray} {k : Nat} (hf : findA l name = some k) : l.set k ((l.getD k (⟨#[]⟩, ⟨#[]⟩)).1, value) = setAttr l name value := by
  have hkl : k < l.length := by
    unfold findA at hf
    rw [List.findIdx?_eq_some_iff_getElem] at hf
    exact hf.1
  unfold setAttr
  rw [hf]
  simp only [List.getD_eq_getElem?_getD, List.getElem?_eq_getElem hkl, Option.getD_some]

/-- Say -/
theorem both_say (h : Both W X tb rb K ns past ns past w) (hE : Errs7 W A) (hK : K ≤ 900) (a : Int) (s : ByteArray) (hz : s.size ≤ 9223372036854775807) :
    Calls Tryz.prog 33 #[.pointer (some ⟨tb, 0, none⟩), .int .i64 a, .string s] w (Twice W X tb rb K ns past A sh1 34 #[.pointer (some ⟨rb, 0, none⟩), .int .i64 a, .string s]) := by
  obtain ⟨M, N, nv, uv, nv2, uv2, ps, qs, us, vs, hs⟩ := id h
  refine (sayX_any hs.lies (hE.errs hs.below hs.labM) (by have := hs.lu; omega) a s hz).mono ?_
  rintro e w' (⟨hb, ht⟩ | ⟨i, p, rfl, hp, ⟨hk, ht⟩ | ⟨hk, hl, ht⟩ | ⟨hk, hl, he, hd⟩⟩)
  · obtain ⟨t1, t2⟩ := told_sh1 (k := 3) ht
    refine twice_fail h hK hE (by omega) t1 t2 fun hR hq _ _ => ?_
    refine (rsay_none hR (a := a) (by rw [← lenEq hs.eqp hq]; exact hb) s).mono ?_
    rintro e w3 ⟨rfl, rfl⟩
    exact ⟨rfl, Below.refl _ _⟩
  · obtain ⟨t1, t2⟩ := told_sh1 (k := 4) ht
    refine twice_fail h hK hE (by omega) t1 t2 fun hR hq _ _ => ?_
    obtain ⟨pi, hp1, hp2⟩ := getR hs.eqp hq hp
    have hk34 := kidsB_true hk
    refine (rsay_bad hR hp1 s (by rw [hp2]; rintro (e0 | e0) <;> omega)).mono ?_
    rintro e w3 ⟨rfl, rfl⟩
    exact ⟨rfl, Below.refl _ _⟩
  · have hpn : ns[i]? = some p.n := by rw [← hs.eqp]; exact nodes_get hp
    obtain ⟨t1, t2⟩ := told_sh1 (k := 1) ht
    refine twice_fail h hK hE (by omega) t1 t2 fun hR hq _ _ => ?_
    obtain ⟨pi, hp1, hp2⟩ := getR hs.eqp hq hp
    refine (rsay_long hR hp1 s (by rw [hp2]; exact kidsB_false hk (hs.kin i _ hpn)) hl hz).mono ?_
    rintro e w3 ⟨rfl, rfl⟩
    exact ⟨rfl, Below.refl _ _⟩
  · have hpn : ns[i]? = some p.n := by rw [← hs.eqp]; exact nodes_get hp
    rw [hs.eqp] at hd
    have hlen := hs.wf.len
    refine twice_ok hs hK he hd (hs.wf.turn hpn rfl rfl rfl) (hs.kin.set hpn rfl) (few_set hs.few (show p.n.attrs.length ≤ K + 1 from Nat.le_succ_of_le (hs.few i p.n hpn))) (@fun w2 N2 nv3 uv3 qs2 vs2 hR hq hSm hlv => ?_)
    obtain ⟨pi, hp1, hp2⟩ := getR hs.eqp hq hp
    have hql := lenN hq
    refine (rsay_good hR hSm (by omega) (by omega) hp1 (by rw [hp2]; exact kidsB_false hk (hs.kin i _ hpn)) s hl).mono ?_
    rintro e w3 ⟨rfl, hd3⟩
    rw [hq, hp2] at hd3
    exact ⟨rfl, hd3⟩

/-- Unset -/
theorem both_unset (h : Both W X tb rb K ns past ns past w) (hE : Errs7 W A) (hK : K ≤ 900) (a : Int) (s : ByteArray) :
    Calls Tryz.prog 32 #[.pointer (some ⟨tb, 0, none⟩), .int .i64 a, .string s] w (Twice W X tb rb K ns past A sh1 31 #[.pointer (some ⟨rb, 0, none⟩), .int .i64 a, .string s, .string ⟨#[]⟩, .bool true]) := by
  obtain ⟨M, N, nv, uv, nv2, uv2, ps, qs, us, vs, hs⟩ := id h
  have hlen := hs.wf.len
  refine (unsetX_any hs.lies (hE.errs hs.below hs.labM) (by have := hs.lu; omega) a s).mono ?_
  rintro e w' (⟨hb, ht⟩ | ⟨i, p, rfl, hp, hcase⟩)
  · obtain ⟨t1, t2⟩ := told_sh1 (k := 3) ht
    refine twice_fail h hK hE (by omega) t1 t2 fun hR hq _ _ => ?_
    refine (rset_none hR (a := a) (by rw [← lenEq hs.eqp hq]; exact hb) s _ true).mono ?_
    rintro e w3 ⟨rfl, rfl⟩
    exact ⟨rfl, Below.refl _ _⟩
  have hpn : ns[i]? = some p.n := by rw [← hs.eqp]; exact nodes_get hp
  have hfa := hs.few i _ hpn
  rcases hcase with ⟨hk, ht⟩ | ⟨hk, hf, ht⟩ | ⟨hk, k, hf, he, hd⟩
  · obtain ⟨t1, t2⟩ := told_sh1 (k := 4) ht
    refine twice_fail h hK hE (by omega) t1 t2 (@fun w2 N2 nv3 uv3 qs2 vs2 hR hq hSm hlv => ?_)
    obtain ⟨pi, hp1, hp2⟩ := getR hs.eqp hq hp
    have hql := lenN hq
    refine (rdrop_any hR hSm (by omega) (by omega) hp1 (by rw [hp2]; omega) s _).mono ?_
    rw [hp2]
    rintro e w3 (⟨rfl, _, rfl⟩ | ⟨_, h2, _⟩ | ⟨_, h2, _⟩)
    · exact ⟨rfl, Below.refl _ _⟩
    · exact absurd h2 hk
    · exact absurd h2 hk
  · obtain ⟨t1, t2⟩ := told_sh1 (k := 2) ht
    refine twice_fail h hK hE (by omega) t1 t2 (@fun w2 N2 nv3 uv3 qs2 vs2 hR hq hSm hlv => ?_)
    obtain ⟨pi, hp1, hp2⟩ := getR hs.eqp hq hp
    have hql := lenN hq
    refine (rdrop_any hR hSm (by omega) (by omega) hp1 (by rw [hp2]; omega) s _).mono ?_
    rw [hp2]
    rintro e w3 (⟨_, h2, _⟩ | ⟨rfl, _, _, rfl⟩ | ⟨_, _, k, h2, _⟩)
    · exact absurd hk h2
    · exact ⟨rfl, Below.refl _ _⟩
    · rw [hf] at h2; cases h2
  · rw [hs.eqp] at hd
    refine twice_ok hs hK he hd (hs.wf.turn hpn rfl rfl rfl) (hs.kin.set hpn rfl) (few_set hs.few (show (p.n.attrs.eraseIdx k).length ≤ K + 1 by have := List.length_eraseIdx_le p.n.attrs k; omega)) (@fun w2 N2 nv3 uv3 qs2 vs2 hR hq hSm hlv => ?_)
    obtain ⟨pi, hp1, hp2⟩ := getR hs.eqp hq hp
    have hql := lenN hq
    refine (rdrop_any hR hSm (by omega) (by omega) hp1 (by rw [hp2]; omega) s _).mono ?_
    rw [hp2]
    rintro e w3 (⟨_, h2, _⟩ | ⟨_, _, h2, _⟩ | ⟨rfl, _, k', h2, hd3⟩)
    · exact absurd hk h2
    · rw [hf] at h2; cases h2
    · obtain rfl := Option.some.inj (hf.symm.trans h2)
      rw [hq] at hd3
      exact ⟨rfl, hd3⟩

/-- Set -/
theorem both_set (h : Both W X tb rb K ns past ns past w) (hE : Errs7 W A) (hK : K ≤ 900) (a : Int) (s t : ByteArray) (hz : t.size ≤ 9223372036854775807) :
    Calls Tryz.prog 30 #[.pointer (some ⟨tb, 0, none⟩), .int .i64 a, .string s, .string t] w (Twice W X tb rb K ns past A sh1 31 #[.pointer (some ⟨rb, 0, none⟩), .int .i64 a, .string s, .string t, .bool false]) := by
  obtain ⟨M, N, nv, uv, nv2, uv2, ps, qs, us, vs, hs⟩ := id h
  have hlen := hs.wf.len
  have hEr := hE.errs hs.below hs.labM
  have hlu := hs.lu
  cases hb : hasB ps.length a with
  | false =>
    refine (setX_none hs.lies hEr hb s t).mono fun e w' ht => ?_
    obtain ⟨t1, t2⟩ := told_sh1 (k := 3) ht
    refine twice_fail h hK hE (by omega) t1 t2 fun hR hq _ _ => ?_
    refine (rset_none hR (a := a) (by rw [← lenEq hs.eqp hq]; exact hb) s t false).mono ?_
    rintro e w3 ⟨rfl, rfl⟩
    exact ⟨rfl, Below.refl _ _⟩
  | true =>
    obtain ⟨i, p, rfl, hp⟩ := hasB_get hb
    have hpn : ns[i]? = some p.n := by rw [← hs.eqp]; exact nodes_get hp
    have hfa := hs.few i _ hpn
    have bad : ∀ {k : Nat} {e : Ending} {w' : World}, k < 7 → SetBad p.n s t ((k + 1 : Nat) : Int) → (∀ c, SetBad p.n s t c → c = ((k + 1 : Nat) : Int)) → ¬ (p.n.kind = 2 ∧ nameB s = true ∧ t.size ≤ 20000) → Told7 w (gl k) e w' → Twice W X tb rb K ns past A sh1 31 #[.pointer (some ⟨rb, 0, none⟩), .int .i64 i, .string s, .string t, .bool false] e w' := by
      intro k e w' hk7 hB hBu hno ht
      obtain ⟨t1, t2⟩ := told_sh1 ht
      refine twice_fail h hK hE hk7 t1 t2 (@fun w2 N2 nv3 uv3 qs2 vs2 hR hq hSm hlv => ?_)
      obtain ⟨pi, hp1, hp2⟩ := getR hs.eqp hq hp
      have hql := lenN hq
      refine (rsetE_any hR hSm (by omega) (by omega) hp1 (by rw [hp2]; omega) s t hz).mono ?_
      rw [hp2]
      rintro e w3 (⟨c, rfl, hc, rfl⟩ | ⟨_, h1, h2, h3, _⟩)
      · rw [hBu c hc]
        exact ⟨rfl, Below.refl _ _⟩
      · exact absurd ⟨h1, h2, h3⟩ hno
    by_cases hk : p.n.kind = 2
    case neg =>
      refine (setX_kind hs.lies hEr hp hk s t).mono fun e w' ht => ?_
      refine bad (k := 4) (by omega) (.kind hk) (fun c hc => ?_) (fun hh => hk hh.1) ht
      cases hc with
      | kind => rfl
      | name h' => exact absurd h' hk
      | long h' => exact absurd h' hk
    by_cases hn : nameB s = true
    case neg =>
      have hn' : nameB s = false := by simpa using hn
      refine (setX_name hs.lies hEr hp hk s t hn').mono fun e w' ht => ?_
      refine bad (k := 2) (by omega) (.name hk hn') (fun c hc => ?_) (fun hh => hn hh.2.1) ht
      cases hc with
      | kind h' => exact absurd hk h'
      | name => rfl
      | long _ h' => exact absurd h' hn
    by_cases hv : t.size ≤ 20000
    case neg =>
      refine (setX_long hs.lies hEr hp hk s t hn (by omega) hz).mono fun e w' ht => ?_
      refine bad (k := 1) (by omega) (.long hk hn (by omega)) (fun c hc => ?_) (fun hh => hv hh.2.2) ht
      cases hc with
      | kind h' => exact absurd hk h'
      | name _ h' => rw [hn] at h'; cases h'
      | long => rfl
    have good : ∀ {e : Ending} {w' : World}, e = .returned .nilIface → DoneX w M tb us ns (ns.set i { p.n with attrs := setAttr p.n.attrs s t }) w' → Twice W X tb rb K ns past A sh1 31 #[.pointer (some ⟨rb, 0, none⟩), .int .i64 i, .string s, .string t, .bool false] e w' := by
      intro e w' he hd
      refine twice_ok hs hK he hd (hs.wf.turn hpn rfl rfl rfl) (hs.kin.set hpn rfl) (few_set hs.few (show (setAttr p.n.attrs s t).length ≤ K + 1 by have := setAttr_len p.n.attrs s t; omega)) (@fun w2 N2 nv3 uv3 qs2 vs2 hR hq hSm hlv => ?_)
      obtain ⟨pi, hp1, hp2⟩ := getR hs.eqp hq hp
      have hql := lenN hq
      refine (rsetE_any hR hSm (by omega) (by omega) hp1 (by rw [hp2]; omega) s t hz).mono ?_
      rw [hp2]
      rintro e w3 (⟨c, rfl, hc, rfl⟩ | ⟨rfl, _, _, _, hd3⟩)
      · cases hc with
        | kind h' => exact absurd hk h'
        | name _ h' => rw [hn] at h'; cases h'
        | long _ _ h' => omega
      · rw [hq] at hd3
        exact ⟨rfl, hd3⟩
    cases hf : findA p.n.attrs s with
    | none =>
      refine (setX_new hs.lies hEr hp s t hk hn hv (by omega) (by omega) hf).mono ?_
      rintro e w' ⟨he, hd⟩
      refine good he ?_
      rw [hs.eqp] at hd
      have : setAttr p.n.attrs s t = p.n.attrs ++ [(s, t)] := by unfold setAttr; rw [hf]
      rw [this]
      exact hd
    | some k =>
      refine (setX_old hs.lies hEr hp s t hk hn hv (by omega) hf).mono ?_
      rintro e w' ⟨he, hd⟩
      refine good he ?_
      rw [hs.eqp, setAttr_old hf] at hd
      exact hd
end
end Go.Proofs.YtoanbjdifddcoaaGreatDoor

/- Which error a node that cannot be made has. -/
namespace Go.Proofs.YtoanbjdifddcoaaGreatDoor
open Go.RowKit

set_option maxHeartbeats 2000000 in
set_option maxRecDepth 100000 in
theorem createX_bad {w : World} {M : Nat → Lab} {tb : Nat} {nv uv : Value} {ps : List Pn} {us : List Value} (h : Lies w M tb nv uv ps us) (hE : Errs w M) (hn : ps.length ≤ 400) (kind : Int) (tag words : ByteArray) (hbad : 20000 < words.size ∨ ps.length = 400) :
    Calls Tryz.prog 50 #[.pointer (some ⟨tb, 0, none⟩), .agg #[.int .i64 kind, .string tag, .string words, .slice none 0 0, .int .i64 0, .slice none 0 0]] w fun e w' =>
      ∃ v, e = .returned (.tuple #[.int .i64 0, v]) ∧ isErr v ∧ w.cell? ⟨3, 0, none⟩ = some v ∧ Below w.heap.size w w' := by
  obtain ⟨t, a, hc⟩ := hE.cell 3 (by decide)
  have hlt : 3 < w.heap.size := World.block_lt_of_cell? w _ hc
  have H : Hid (Lies w M tb nv uv ps us) := h
  clear h hE
  by_cases h2 : 20000 < words.size
  · go_enter Tryz.func50, Tryz.ntmps50
    go_wp2
    go_quiet (fail)
    go_wp2
    go_ret2
    exact ⟨_, rfl, ⟨t, a, rfl⟩, hc, below_drewN ((Below.refl _ _).alloc (Nat.le_refl _) _) _⟩
  · have hr : decide (ps.length < 400) = false := by simp; omega
    go_enter Tryz.func50, Tryz.ntmps50
    go_wp2_with (go_at_call 68; refine (room_any (H.out.alloc _) hn).mono ?_; rintro e w' ⟨rfl, rfl⟩; rw [hr])
    go_quiet (fail)
    go_wp2
    go_ret2
    exact ⟨_, rfl, ⟨t, a, rfl⟩, hc, below_drewN ((Below.refl _ _).alloc (Nat.le_refl _) _) _⟩

set_option maxHeartbeats 2000000 in
theorem elementX_name {w : World} {M : Nat → Lab} {tb : Nat} (hE : Errs w M) (tag : ByteArray) (ht : nameB tag = false) :
    Calls Tryz.prog 20 #[.pointer (some ⟨tb, 0, none⟩), .string tag] w fun e w' => ∃ v, e = .returned (.tuple #[.int .i64 0, v]) ∧ isErr v ∧ w.cell? ⟨0, 0, none⟩ = some v ∧ Below w.heap.size w w' := by
  obtain ⟨t, a, hc⟩ := hE.cell 0 (by decide)
  clear hE
  go_enter Tryz.func20, Tryz.ntmps20
  go_wp2_with (go_at_call 49; refine (name_any _ _).mono ?_; rintro e w' ⟨rfl, rfl⟩; rw [ht])
  go_quiet (fail)
  go_wp2
  go_ret2
  exact ⟨_, rfl, ⟨t, a, rfl⟩, hc, below_drewN (Below.refl _ _) _⟩

set_option maxHeartbeats 2000000 in
theorem elementX_full {w : World} {M : Nat → Lab} {tb : Nat} {nv uv : Value} {ps : List Pn} {us : List Value} (h : Lies w M tb nv uv ps us) (hE : Errs w M) (hn : ps.length ≤ 400) (tag : ByteArray) (ht : nameB tag = true) (h4 : ps.length = 400) :
    Calls Tryz.prog 20 #[.pointer (some ⟨tb, 0, none⟩), .string tag] w fun e w' => ∃ v, e = .returned (.tuple #[.int .i64 0, v]) ∧ isErr v ∧ w.cell? ⟨3, 0, none⟩ = some v ∧ Below w.heap.size w w' := by
  have H : Hid (Lies w M tb nv uv ps us) := h
  have HE : Hid (Errs w M) := hE
  clear h hE
  go_enter Tryz.func20, Tryz.ntmps20
  go_wp2_with (first
    | (go_at_call 49; refine (name_any _ _).mono ?_; rintro e w' ⟨rfl, rfl⟩; rw [ht])
    | (go_at_call 50; refine (createX_bad H.out HE.out hn 2 tag ⟨#[]⟩ (.inr h4)).mono ?_; rintro e w' ⟨v, rfl, ⟨t2, a2, rfl⟩, hcv, hB⟩; have HV : Hid _ := hcv; clear hcv))
  go_ret2
  exact ⟨_, rfl, ⟨t2, a2, rfl⟩, HV.out, hB⟩


set_option maxHeartbeats 2000000 in
theorem textX_bad {w : World} {M : Nat → Lab} {tb : Nat} {nv uv : Value} {ps : List Pn} {us : List Value} (h : Lies w M tb nv uv ps us) (hE : Errs w M) (hn : ps.length ≤ 400) (words : ByteArray) (hbad : 20000 < words.size ∨ ps.length = 400) :
    Calls Tryz.prog 23 #[.pointer (some ⟨tb, 0, none⟩), .string words] w fun e w' => ∃ v, e = .returned (.tuple #[.int .i64 0, v]) ∧ isErr v ∧ w.cell? ⟨3, 0, none⟩ = some v ∧ Below w.heap.size w w' := by
  have H : Hid (Lies w M tb nv uv ps us) := h
  have HE : Hid (Errs w M) := hE
  have HB : Hid (20000 < words.size ∨ ps.length = 400) := hbad
  clear h hE hbad
  go_enter Tryz.func23, Tryz.ntmps23
  go_wp2_with (go_at_call 50; refine (createX_bad H.out HE.out hn 3 ⟨#[]⟩ words HB.out).mono ?_; rintro e w' ⟨v, rfl, ⟨t2, a2, rfl⟩, hcv, hB⟩; have HV : Hid _ := hcv; clear hcv)
  go_ret2
  exact ⟨_, rfl, ⟨t2, a2, rfl⟩, HV.out, hB⟩

set_option maxHeartbeats 2000000 in
theorem commentX_bad {w : World} {M : Nat → Lab} {tb : Nat} {nv uv : Value} {ps : List Pn} {us : List Value} (h : Lies w M tb nv uv ps us) (hE : Errs w M) (hn : ps.length ≤ 400) (words : ByteArray) (hbad : 20000 < words.size ∨ ps.length = 400) :
    Calls Tryz.prog 24 #[.pointer (some ⟨tb, 0, none⟩), .string words] w fun e w' => ∃ v, e = .returned (.tuple #[.int .i64 0, v]) ∧ isErr v ∧ w.cell? ⟨3, 0, none⟩ = some v ∧ Below w.heap.size w w' := by
  have H : Hid (Lies w M tb nv uv ps us) := h
  have HE : Hid (Errs w M) := hE
  have HB : Hid (20000 < words.size ∨ ps.length = 400) := hbad
  clear h hE hbad
  go_enter Tryz.func24, Tryz.ntmps24
  go_wp2_with (go_at_call 50; refine (createX_bad H.out HE.out hn 4 ⟨#[]⟩ words HB.out).mono ?_; rintro e w' ⟨v, rfl, ⟨t2, a2, rfl⟩, hcv, hB⟩; have HV : Hid _ := hcv; clear hcv)
  go_ret2
  exact ⟨_, rfl, ⟨t2, a2, rfl⟩, HV.out, hB⟩

end Go.Proofs.YtoanbjdifddcoaaGreatDoor

/- The document's answer: which error, where a node cannot be made. -/
namespace Go.Proofs.YtoanbjdifddcoaaGreatDoor
open Go.RowKit

set_option maxHeartbeats 4000000 in
set_option maxRecDepth 100000 in
theorem rmake_bound {w : World} {M : Nat → Lab} {tb : Nat} {nv uv : Value} {ps : List Pn} {us : List Value} (h : RLies w M tb nv uv ps us) (s : ByteArray) (hs : s.size ≤ 9223372036854775807) {kind : Int} (hk : kind ≠ 2) (hl : ps.length ≤ 400) (hf : ps.length = 400 ∨ 20000 < s.size) :
    Calls Tryz.prog 21 #[.pointer (some ⟨tb, 0, none⟩), .int .i64 kind, .string s] w fun e w' => e = .returned (.tuple #[.int .i64 0, .int .i64 2]) ∧ w' = w := by
  obtain ⟨a, cap, rfl, hc, hm⟩ := h.nodes.shape
  have c0 := h.cell0
  have hkb : (kind == 2) = false := by rw [beq_eq_false_iff_ne]; exact hk
  have hkn : (kind != 2) = true := by simp [bne, hkb]
  unfold maxLen at hm
  clear h
  by_cases h4 : ps.length = 400
  · rw [h4] at c0
    clear hf
    go_enter Tryz.func21, Tryz.ntmps21
    go_wp2_with (go_at_call 51; refine (isName_any _ _).mono ?_; rintro e w' ⟨rfl, rfl⟩; cases hq : nameB s)
    all_goals go_ret2
    all_goals exact ⟨rfl, rfl⟩
  · have h5 : ps.length < 400 := by omega
    have h6 : 20000 < s.size := by omega
    have h7 : (20000 : Int) < (s.size : Int) := by omega
    have h8 : ¬ ((400 : Int) ≤ (ps.length : Int)) := by omega
    clear hf
    go_enter Tryz.func21, Tryz.ntmps21
    go_wp2_with (go_at_call 51; refine (isName_any _ _).mono ?_; rintro e w' ⟨rfl, rfl⟩; cases hq : nameB s)
    all_goals go_ret2
    all_goals exact ⟨rfl, rfl⟩
end Go.Proofs.YtoanbjdifddcoaaGreatDoor
