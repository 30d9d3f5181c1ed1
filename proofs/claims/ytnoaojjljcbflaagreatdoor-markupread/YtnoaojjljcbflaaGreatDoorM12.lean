/- What Put, Say and Attr make of any tree, exactly. -/
import Derived.Test.YtnoaojjljcbflaaGreatDoorM10
import Derived.Test.YtnoaojjljcbflaaGreatDoorM11
import Derived.Test.YtnoaojjljcbflaaGreatDoorM06
import Derived.Test.YtnoaojjljcbflaaGreatDoorChecked
import Derived.WalkKit
import Derived.WalkSmall
import Derived.Deep.Light
import Derived.Deep.QuietTactic
import Derived.BigQuiet
import Derived.Laws.DeepStrings4
import Derived.Lib.Strings
import Derived.Laws.IdiomStrings
namespace Go.Proofs.YtnoaojjljcbflaaGreatDoor
open Go.RowKit

/-- a change was made: into which nodes -/
def DoneG (w : World) (M : Nat → Lab) (tb : Nat) (us : List Value) (ns' : List Nd) (w' : World) : Prop :=
  ∃ M' nv' uv' ps' f, Lies w' M' tb nv' uv' ps' (us ++ [f]) ∧ nodesOf ps' = ns' ∧ Moved w M w' M'

set_option maxHeartbeats 8000000 in
set_option maxRecDepth 100000 in
theorem putG {w : World} {M : Nat → Lab} {tb : Nat} {nv uv : Value} {ps : List Pn} {us : List Value} (h : Lies w M tb nv uv ps us) (hW : WF (nodesOf ps)) (hu : us.length ≤ 1099511627776) {a i c : Nat} {p m : Pn} (hp : ps[i]? = some p) (hm : ps[a]? = some m) (h0 : i ≠ 0) (hk : kidsB m.n.kind = true) {la : List Nat} (hup : Up (nodesOf ps) a la) (hno : i ∉ la) (hc : (c : Int) ≤ others a p m) :
    Calls Tryz.prog 43 #[.pointer (some ⟨tb, 0, none⟩), .int .i64 a, .int .i64 i, .int .i64 c] w fun e w' => e = .returned .nilIface ∧ ∃ mid fr wz ns', Pulled (nodesOf ps) i mid fr wz ∧ Pushed mid i c a ns' ∧ WF ns' ∧ DoneG w M tb us ns' w' := by
  have hai : a ≠ i := fun e => hno (e ▸ hup.head)
  obtain ⟨mid, fr, wz, hP⟩ := hW.pulls (nodes_get hp)
  obtain ⟨m', hm', hl'⟩ := others_mid hP (nodes_get hp) (nodes_get hm) hai
  obtain ⟨n', hn', hr'⟩ := hP.isRoot
  have hcl : c ≤ m'.kids.length := by unfold others at hc; omega
  have HP : Hid (Pulled (nodesOf ps) i mid fr wz) := hP
  have HQ : Hid (Pushed mid i c a _) := Pushed.kid hm' hn' hai hcl
  have HWm : Hid (WF mid) := hW.pulled hP
  have HWf : Hid (WF ((mid.set a { m' with kids := m'.kids.take c ++ (i : Int) :: m'.kids.drop c }).set i { n' with parent := a })) := (hW.pulled hP).pushed hn' hr' h0 hm' (hP.chain hup hno) hno
  have hb1 := hasB_of hm
  have hb2 := hasB_of hp
  have hwi : decide (i ∈ la) = false := by simpa using hno
  have hi0 : ((i : Int) == 0) = false := by simp; omega
  have hi0' : ¬ ((i : Int) = 0) := by omega
  obtain ⟨nb, cap, rfl, hcp, hmx, _, _, hil⟩ := h.form hp
  have hal := (List.getElem?_eq_some_iff.1 hm).1
  have c0 := h.cell0
  have c4 := (h.cellN rfl (f := 4) hp (by omega) rfl).1
  have c5 := (h.cellN rfl (f := 5) hm (by omega) rfl).1
  obtain ⟨ka, kc, hkv, hk1, hk2⟩ := (h.node a m hm).2.shape
  rw [hkv] at c5
  have hfew := hW.few (nodes_get hm)
  have H : Hid (Lies w M tb (.slice (some ⟨nb, 0, none⟩) ps.length cap) uv ps us) := h
  have HM : Hid (ps[a]? = some m) := hm
  have HU : Hid (Up (nodesOf ps) a la) := hup
  have i1 : (0 : Int) ≤ (i : Int) := by omega
  have i2 : (i : Int) < (ps.length : Int) := by omega
  have i3 : (0 : Int) ≤ (a : Int) := by omega
  have i4 : (a : Int) < (ps.length : Int) := by omega
  have i5 : (0 : Int) ≤ (c : Int) := by omega
  unfold maxLen at hmx hk2
  unfold others at hc
  clear h hW hp hm hup hP hm' hn' hkv hl' hcl hr'
  by_cases hpa : p.n.parent = (a : Int)
  all_goals (first | rw [if_pos hpa] at hc | rw [if_neg hpa] at hc)
  all_goals
    go_enter Tryz.func43, Tryz.ntmps43
    go_wp2_with (first
      | (go_at_call 73; refine (has_any H.out _).mono ?_; rintro e w' ⟨rfl, rfl⟩; simp only [hb1, hb2])
      | (go_at_call 88; refine (mayHaveKids_any H.out HM.out).mono ?_; rintro e w' ⟨rfl, rfl⟩; rw [hk])
      | (go_at_call 89; refine (within_any H.out HU.out i).mono ?_; rintro e w' ⟨rfl, rfl⟩; rw [hwi])
      | (go_at_call 90; refine (move_any H.out HP.out HQ.out HWm.out.kidsFew).mono ?_; rintro e w1 ⟨ca, rfl, M1, ps1, hL1, hn1, hm1, hv1⟩; have H1 : Hid _ := And.intro hL1 (And.intro hn1 (And.intro hm1 hv1)); clear hL1 hn1 hm1 hv1)
      | (go_at_call 84; refine (keep_any H1.out.1 _ _ ca hu).mono ?_; rintro e w2 ⟨rfl, M2, uv2, hL2, hm2⟩; have H2 : Hid _ := And.intro hL2 hm2; clear hL2 hm2))
  all_goals go_ret
  all_goals exact ⟨rfl, mid, fr, wz, _, HP.out, HQ.out, HWf.out, M2, _, uv2, ps1, _, H2.out.1, H1.out.2.1, H1.out.2.2.1.trans H2.out.2⟩

set_option maxHeartbeats 4000000 in
set_option maxRecDepth 100000 in
theorem sayG {w : World} {M : Nat → Lab} {tb : Nat} {nv uv : Value} {ps : List Pn} {us : List Value} (h : Lies w M tb nv uv ps us) (hu : us.length ≤ 1000000) {i : Nat} {p : Pn} (hp : ps[i]? = some p) (hk : kidsB p.n.kind = false) (text : ByteArray) (hsz : text.size ≤ 20000) :
    Calls Tryz.prog 139 #[.pointer (some ⟨tb, 0, none⟩), .int .i64 i, .string text] w fun e w' => e = .returned .nilIface ∧ DoneG w M tb us ((nodesOf ps).set i { p.n with words := text }) w' := by
  have hb := hasB_of hp
  have H : Hid (∀ o1 o2, Lies ((w.alloc o1).alloc o2) M tb nv uv ps us) := fun o1 o2 => (h.alloc o1).alloc o2
  have HP : Hid (ps[i]? = some p) := hp
  obtain ⟨nb, nc, rfl, hc, hm, hnM, hnl, hil⟩ := h.form hp
  have hlt : tb < w.heap.size := lt_of_heap h.head
  have c0 := h.cell0
  obtain ⟨c2, c2f⟩ := h.cellN rfl (f := 2) hp (by omega) rfl
  have hS : Hid (∀ o1 o2 o3, Lies ((((w.alloc o1).alloc o2).alloc o3).setCell ⟨nb, i * 6 + 2, none⟩ (.string text)) M tb (.slice (some ⟨nb, 0, none⟩) ps.length nc) uv (ps.set i ⟨{ p.n with words := text }, p.av, p.kv⟩) us ∧ Step (((w.alloc o1).alloc o2).alloc o3) M ((((w.alloc o1).alloc o2).alloc o3).setCell ⟨nb, i * 6 + 2, none⟩ (.string text)) M .nodes) := fun o1 o2 o3 =>
    (((h.alloc o1).alloc o2).alloc o3).setNode rfl (f := 2) (c := .string text) hp (by omega) (p' := ⟨{ p.n with words := text }, p.av, p.kv⟩) rfl ((((h.alloc o1).alloc o2).alloc o3).node i p hp).1 ((((h.alloc o1).alloc o2).alloc o3).node i p hp).2
  have c0' : ∀ o1 o2 o3, (((w.alloc o1).alloc o2).alloc o3).cell? ⟨tb, 0, none⟩ = some (.slice (some ⟨nb, 0, none⟩) ps.length nc) := fun o1 o2 o3 => (((h.alloc o1).alloc o2).alloc o3).cell0
  have c2' : ∀ o1 o2 o3, (((w.alloc o1).alloc o2).alloc o3).cell? ⟨nb, i * 6 + 2, none⟩ = some (.string p.n.words) := fun o1 o2 o3 => ((((h.alloc o1).alloc o2).alloc o3).cellN rfl (f := 2) hp (by omega) rfl).1
  have c2f' : ∀ o1 o2 o3, (((w.alloc o1).alloc o2).alloc o3).frozen? ⟨nb, i * 6 + 2, none⟩ = false := fun o1 o2 o3 => ((((h.alloc o1).alloc o2).alloc o3).cellN rfl (f := 2) hp (by omega) rfl).2
  have HFr : Hid (∀ b, w.heap.size ≤ b → M b = .other) := h.fresh
  have i1 : (0 : Int) ≤ (i : Int) := by omega
  have i2 : (i : Int) < (ps.length : Int) := by omega
  unfold maxLen at hm
  clear h hp
  go_enter Tryz.func139, Tryz.ntmps139
  go_wp2_with (first
    | (go_at_call 73; refine (has_any (H.out _ _) _).mono ?_; rintro e w' ⟨rfl, rfl⟩; rw [hb])
    | (go_at_call 88; refine (mayHaveKids_any (H.out _ _) HP.out).mono ?_; rintro e w' ⟨rfl, rfl⟩; rw [hk]))
  go_region
  all_goals go_wp2_with fail
  all_goals go_region
  all_goals go_wp2_with (go_at_call 84; refine (keep_any ((hS.out _ _ _).1.drew.drew) _ _ _ (by omega)).mono ?_; rintro e w3 ⟨rfl, M3, uv3, hL3, hm3⟩)
  all_goals go_ret
  all_goals
    have mv := ((hS.out (.cells #[.pointer (some ⟨tb, 0, none⟩)] 31) (.cells #[.int .i64 i] 3) (.cells #[.string p.n.words] 9)).2.moved (by intro e; cases e)).drew.drew.trans hm3
    exact ⟨rfl, M3, _, uv3, _, _, hL3, (by rw [nodesOf, List.map_set]; rfl), ((((Moved.refl w M).alloc _).alloc _).alloc _).trans mv⟩
/-- what Attr answers -/
def attrW (l : List (ByteArray × ByteArray)) (name : ByteArray) : Value := match findA l name with
  | some k => .tuple #[.string (l.getD k (⟨#[]⟩, ⟨#[]⟩)).2, .bool true]
  | none => .tuple #[.string ⟨#[]⟩, .bool false]
set_option maxHeartbeats 4000000 in
set_option maxRecDepth 100000 in
theorem attr_some {w : World} {M : Nat → Lab} {tb : Nat} {nv uv : Value} {ps : List Pn} {us : List Value} (h : Lies w M tb nv uv ps us) {i : Nat} {p : Pn} (hp : ps[i]? = some p) (ha : p.n.attrs.length ≤ 1000000) (name : ByteArray) : Calls Tryz.prog 141 #[.pointer (some ⟨tb, 0, none⟩), .int .i64 i, .string name] w fun e w' => e = .returned (attrW p.n.attrs name) ∧ Below w.heap.size w w' := by
  have hb := hasB_of hp
  obtain ⟨nb, cap, rfl, hc, hm, _, hnl, hil⟩ := h.form hp
  obtain ⟨xa, xc, hav, hx1, hx2⟩ := (h.node i p hp).1.shape
  have c0 := h.cell0
  have hlt : tb < w.heap.size := lt_of_heap h.head
  have c3 := (h.cellN rfl (f := 3) hp (by omega) rfl).1
  rw [hav] at c3
  have H : Hid (Lies w M tb (.slice (some ⟨nb, 0, none⟩) ps.length cap) uv ps us) := h
  have HP : Hid (ps[i]? = some p) := hp
  have i1 : (0 : Int) ≤ (i : Int) := by omega
  have i2 : (i : Int) < (ps.length : Int) := by omega
  unfold maxLen at hm hx2
  cases hf : findA p.n.attrs name with
  | none =>
    have hfi : findI p.n.attrs name = -1 := by simp only [findI, hf]
    have E : Hid (attrW p.n.attrs name = .tuple #[.string ⟨#[]⟩, .bool false]) := by show attrW _ _ = _; unfold attrW; rw [hf]
    clear h hp hf
    go_enter Tryz.func141, Tryz.ntmps141
    go_wp2_with (first
      | (go_at_call 73; refine (has_any H.out _).mono ?_; rintro e w' ⟨rfl, rfl⟩; rw [hb])
      | (go_at_call 83; refine (find_any H.out HP.out name).mono ?_; rintro e w1 ⟨rfl, hB1⟩; rw [hfi]; have HB1 : Hid _ := hB1; clear hB1))
    go_ret2
    exact ⟨by rw [E.out]; rfl, HB1.out⟩
  | some k =>
    have hfi : findI p.n.attrs name = k := by simp only [findI, hf]
    have hkl : k < p.n.attrs.length := by
      unfold findA at hf
      rw [List.findIdx?_eq_some_iff_getElem] at hf
      exact hf.1
    obtain ⟨x, hx⟩ : ∃ x, p.n.attrs[k]? = some x := ⟨_, List.getElem?_eq_getElem hkl⟩
    have E : Hid (attrW p.n.attrs name = .tuple #[.string x.2, .bool true]) := by
      show attrW _ _ = _
      unfold attrW
      rw [hf]
      simp only [List.getD_eq_getElem?_getD, hx, Option.getD_some]
    obtain ⟨ag, ac', hav', _, _, _, hagl⟩ := (h.node i p hp).1.form (by omega)
    have cx := ((h.node i p hp).1.cell hav' (attrCells_get p.n.attrs k x hx).2).1
    rw [hav] at hav'
    cases hav'
    have i3 : (0 : Int) ≤ (k : Int) := by omega
    have i4 : (k : Int) < (p.n.attrs.length : Int) := by omega
    clear h hp hf hx
    go_enter Tryz.func141, Tryz.ntmps141
    go_wp2_with (first
      | (go_at_call 73; refine (has_any H.out _).mono ?_; rintro e w' ⟨rfl, rfl⟩; rw [hb])
      | (go_at_call 83; refine (find_any H.out HP.out name).mono ?_; rintro e w1 ⟨rfl, hB1⟩; rw [hfi]
         have d3 := (hB1.cell (p := ⟨nb, i * 6 + 3, none⟩) hnl).trans c3
         have dx := (hB1.cell (p := ⟨ag, k * 2 + 1, none⟩) hagl).trans cx
         have HB1 : Hid _ := hB1
         clear hB1))
    all_goals first
      | (go_ret2; exact ⟨by rw [E.out]; rfl, HB1.out⟩)
      | (go_quiet (fail); go_wp2; go_ret2; exact ⟨by rw [E.out]; rfl, below_drewN HB1.out _⟩)
end Go.Proofs.YtnoaojjljcbflaaGreatDoor

/- Bytes of texts: which are blank, letters, may stand in tags; how far bytes of a sort go. -/
namespace Go.Proofs.YtnoaojjljcbflaaGreatDoor
open Go.RowKit

def blankB (c : Nat) : Bool := decide (c = 32 ∨ c = 9 ∨ c = 10 ∨ c = 12 ∨ c = 13)
def alphaB (c : Nat) : Bool := decide ((97 ≤ c ∧ c ≤ 122) ∨ (65 ≤ c ∧ c ≤ 90))
def betwB (c : Nat) : Bool := blankB c || decide (c = 47)
def inTagB (c : Nat) : Bool := !betwB c && decide (c ≠ 62)
def inAttrB (c : Nat) : Bool := inTagB c && decide (c ≠ 61)
def inValB (c : Nat) : Bool := !blankB c && decide (c ≠ 62)
def lowerB (c : UInt8) : UInt8 := if 65 ≤ c.toNat ∧ c.toNat ≤ 90 then c + 32 else c

theorem retb {a b : Bool} (h : a = b) : Ending.returned (.bool a) = .returned (.bool b) := by rw [h]
theorem retn {a b : Int} (h : a = b) : Ending.returned (.int .i64 a) = .returned (.int .i64 b) := by rw [h]
theorem rets {a b : ByteArray} (h : a = b) : Ending.returned (.string a) = .returned (.string b) := by rw [h]

/-- the byte at a place; 256: there is none -/
def bt (s : ByteArray) (i : Nat) : Nat := if h : i < s.size then s[i].toNat else 256
theorem bt_lt {s : ByteArray} {i : Nat} (h : i < s.size) : bt s i = s[i].toNat := by unfold bt; simp [h]
theorem bt_ge {s : ByteArray} {i : Nat} (h : s.size ≤ i) : bt s i = 256 := by unfold bt; simp [show ¬ i < s.size by omega]
/-- a piece that is no text begins there -/
def startB (s : ByteArray) (i : Nat) : Bool := bt s i == 60 && (bt s (i + 1) == 33 || bt s (i + 1) == 63 || (bt s (i + 1) == 47 && alphaB (bt s (i + 2))) || alphaB (bt s (i + 1)))

/-- how far bytes of a sort go from a place on -/
def spanE (p : Nat → Bool) (s : ByteArray) (i : Nat) : Nat := if h : i < s.size then (if p s[i].toNat then spanE p s (i + 1) else i) else i
  termination_by s.size - i

theorem spanE_step {p : Nat → Bool} {s : ByteArray} {i : Nat} (h : i < s.size) (hp : p s[i].toNat = true) : spanE p s i = spanE p s (i + 1) := by
  rw [spanE]; simp [h, hp]
theorem spanE_stop {p : Nat → Bool} {s : ByteArray} {i : Nat} (h : i < s.size) (hp : p s[i].toNat = false) : spanE p s i = i := by
  rw [spanE]; simp [h, hp]
theorem spanE_end {p : Nat → Bool} {s : ByteArray} {i : Nat} (h : s.size ≤ i) : spanE p s i = i := by
  rw [spanE]; simp [show ¬ i < s.size by omega]
theorem spanE_le (p : Nat → Bool) (s : ByteArray) (i : Nat) : i ≤ spanE p s i := by
  by_cases h : i < s.size
  · cases hp : p s[i].toNat
    · rw [spanE_stop h hp]; exact Nat.le_refl _
    · rw [spanE_step h hp]
      have := spanE_le p s (i + 1)
      omega
  · rw [spanE_end (by omega)]; exact Nat.le_refl _
  termination_by s.size - i
theorem spanE_size (p : Nat → Bool) (s : ByteArray) (i : Nat) (hi : i ≤ s.size) : spanE p s i ≤ s.size := by
  by_cases h : i < s.size
  · cases hp : p s[i].toNat
    · rw [spanE_stop h hp]; exact hi
    · rw [spanE_step h hp]
      exact spanE_size p s (i + 1) h
  · rw [spanE_end (by omega)]; exact hi
  termination_by s.size - i
/-- where it stops there is none -/
theorem spanE_none (p : Nat → Bool) (s : ByteArray) (i : Nat) (h : spanE p s i < s.size) : p s[spanE p s i].toNat = false := by
  by_cases hi : i < s.size
  · cases hp : p s[i].toNat
    · have e := spanE_stop hi hp
      simp only [e]
      exact hp
    · have e := spanE_step hi hp
      simp only [e]
      exact spanE_none p s (i + 1) (by rw [← e]; exact h)
  · have e : spanE p s i = i := spanE_end (by omega)
    omega
  termination_by s.size - i

/-- a text stands at a place -/
def standsAt (what s : ByteArray) (i : Nat) : Prop := i + what.size ≤ s.size ∧ s.extract i (i + what.size) = what
instance (what s : ByteArray) (i : Nat) : Decidable (standsAt what s i) := by unfold standsAt; infer_instance
/-- where a text is found, from a place on -/
def findE (what s : ByteArray) (i : Nat) : Option Nat := if i + what.size ≤ s.size then (if standsAt what s i then some i else if i < s.size then findE what s (i + 1) else none) else none
  termination_by s.size - i
theorem findE_none {what s : ByteArray} {i : Nat} (h : ¬ i + what.size ≤ s.size) : findE what s i = none := by rw [findE]; simp [h]
theorem findE_hit {what s : ByteArray} {i : Nat} (h : standsAt what s i) : findE what s i = some i := by rw [findE]; simp [h, h.1]
theorem findE_step {what s : ByteArray} {i : Nat} (h : i + what.size ≤ s.size) (hn : ¬ standsAt what s i) (hw : 0 < what.size) : findE what s i = findE what s (i + 1) := by
  rw [findE]; simp [h, hn, show i < s.size by omega]
theorem findE_some {what s : ByteArray} {i k : Nat} (h : findE what s i = some k) : i ≤ k ∧ standsAt what s k ∧ ∀ j, i ≤ j → j < k → ¬ standsAt what s j := by
  rw [findE] at h
  split at h
  · rename_i h1
    split at h
    · rename_i h2
      obtain rfl : i = k := by simpa using h
      exact ⟨Nat.le_refl _, h2, fun j a b => absurd b (by omega)⟩
    · rename_i h2
      split at h
      · obtain ⟨a, b, c⟩ := findE_some h
        refine ⟨by omega, b, fun j u v => ?_⟩
        by_cases hj : j = i
        · subst hj; exact h2
        · exact c j (by omega) v
      · cases h
  · cases h
  termination_by s.size - i
theorem findE_no {what s : ByteArray} {i : Nat} (hw : 0 < what.size) (h : findE what s i = none) : ∀ j, i ≤ j → ¬ standsAt what s j := by
  intro j hj hs
  by_cases hi : i + what.size ≤ s.size
  · by_cases h0 : standsAt what s i
    · rw [findE_hit h0] at h; cases h
    · rw [findE_step hi h0 hw] at h
      by_cases hij : j = i
      · subst hij; exact h0 hs
      · exact findE_no hw h j (by omega) hs
  · have := hs.1; omega
  termination_by s.size - i

/-- small letters -/
def smallL (l : List UInt8) : List UInt8 := l.map lowerB
def smallS (s : ByteArray) : ByteArray := ⟨(smallL s.data.toList).toArray⟩
end Go.Proofs.YtnoaojjljcbflaaGreatDoor

/- The document's answer: bytes of a sort; small letters; a text found in another one. -/
namespace Go.Proofs.YtnoaojjljcbflaaGreatDoor
open Go.RowKit

theorem rblank_any (c : Nat) (w : World) : Calls Tryz.prog 69 #[.int .u8 c] w fun e w' => e = .returned (.bool (blankB c)) ∧ w' = w := by
  go_enter Tryz.func69, Tryz.ntmps69
  go_wp2
  all_goals go_ret
  all_goals refine ⟨retb ?_, rfl⟩
  all_goals (rw [Bool.eq_iff_iff]; unfold blankB; simp; try omega)
theorem ralpha_any (c : Nat) (w : World) : Calls Tryz.prog 104 #[.int .u8 c] w fun e w' => e = .returned (.bool (alphaB c)) ∧ w' = w := by
  go_enter Tryz.func104, Tryz.ntmps104
  go_wp2
  all_goals go_ret
  all_goals refine ⟨retb ?_, rfl⟩
  all_goals (rw [Bool.eq_iff_iff]; unfold alphaB; simp; try omega)

theorem toList_inj' {a b : ByteArray} (h : a.toList = b.toList) : a = b := by
  rw [Lib.toList_data, Lib.toList_data] at h
  exact ByteArray.ext (Array.toList_inj.mp h)

set_option maxHeartbeats 4000000 in
set_option maxRecDepth 100000 in
theorem rfind_any (s what : ByteArray) (i0 : Nat) (hs : s.size ≤ 100000) (hw : 0 < what.size) (hw2 : what.size ≤ 100) (hi : i0 ≤ s.size) (w : World) :
    Calls Tryz.prog 61 #[.string s, .string what, .int .i64 i0] w fun e w' => e = .returned (.int .i64 (match findE what s i0 with | some k => (k : Int) | none => -1)) ∧ w' = w := by
  obtain ⟨r, hr⟩ : ∃ r : Int, r = (match findE what s i0 with | some k => (k : Int) | none => -1) := ⟨_, rfl⟩
  rw [← hr]
  have HR : Hid (r = (match findE what s i0 with | some k => (k : Int) | none => -1)) := hr
  clear hr
  go_enter Tryz.func61, Tryz.ntmps61
  go_wp2
  go_loop [7] (fun i => ∃ k : Nat, k ≤ s.size ∧ i = .int .i64 k ∧ Hid (findE what s i0 = findE what s k)) (fun i => s.size - (intOf i).toNat)
  case atStart => exact ⟨i0, hi, rfl, (rfl : findE what s i0 = findE what s i0)⟩
  case round =>
    obtain ⟨k, hk, rfl, ha⟩ := hrel
    by_cases hlt : k + what.size ≤ s.size
    · by_cases hst : s.extract k (k + what.size) = what
      · have H : Hid (r = k) := by
          show r = k
          rw [HR.out, ha.out, findE_hit ⟨hlt, hst⟩]
        go_wp2
        all_goals go_light
        go_ret
        exact ⟨retn H.out.symm, rfl⟩
      · have H : Hid (findE what s i0 = findE what s (k + 1)) := by
          show findE what s i0 = findE what s (k + 1)
          rw [ha.out, findE_step hlt (fun h => hst h.2) hw]
        go_wp2
        all_goals go_light
        · rename_i h0 _
          exact absurd (toList_inj' (eq_of_beq h0)) hst
        · refine ⟨⟨k + 1, by omega, by go_num, H⟩, ?_⟩
          simp [intOf]
          omega
    · have H : Hid (r = -1) := by
        show r = -1
        rw [HR.out, ha.out, findE_none hlt]
      go_wp2
      go_ret
      exact ⟨retn H.out.symm, rfl⟩

set_option maxHeartbeats 4000000 in
set_option maxRecDepth 100000 in
theorem nameEnd_any (s : ByteArray) (i0 : Nat) (hs : s.size ≤ 100000) (hi : i0 ≤ s.size) (w : World) :
    Calls Tryz.prog 107 #[.string s, .int .i64 i0] w fun e w' => e = .returned (.int .i64 (spanE inTagB s i0)) ∧ w' = w := by
  obtain ⟨r, hr⟩ : ∃ r : Nat, r = spanE inTagB s i0 := ⟨_, rfl⟩
  rw [← hr]
  have HR : Hid (r = spanE inTagB s i0) := hr
  clear hr
  go_enter Tryz.func107, Tryz.ntmps107
  go_wp2
  go_loop [1] (fun i => ∃ k : Nat, k ≤ s.size ∧ i = .int .i64 k ∧ Hid (r = spanE inTagB s k)) (fun i => s.size - (intOf i).toNat)
  case atStart => exact ⟨i0, hi, rfl, HR⟩
  case round =>
    obtain ⟨k, hk, rfl, ha⟩ := hrel
    by_cases hlt : k < s.size
    · obtain ⟨c, hc⟩ : ∃ c, s[k].toNat = c := ⟨_, rfl⟩
      cases hb : inTagB c
      · have H : Hid (r = k) := ha.out.trans (spanE_stop hlt (by rw [hc]; exact hb))
        have HB : Hid (inTagB c = false) := hb
        clear hb
        go_wp2_with (go_at_call 69; refine (rblank_any c _).mono ?_; rintro e w' ⟨rfl, rfl⟩; cases hq : blankB c)
        all_goals go_light
        all_goals first
          | (go_ret; exact ⟨retn (by rw [H.out]), rfl⟩)
          | (exfalso; have h2 := HB.out; unfold inTagB betwB at h2; simp_all; done)
          | (exfalso; have h2 := HB.out; unfold inTagB betwB at h2; simp_all; omega)
      · have H : Hid (r = spanE inTagB s (k + 1)) := ha.out.trans (spanE_step hlt (by rw [hc]; exact hb))
        have HB : Hid (inTagB c = true) := hb
        clear hb
        go_wp2_with (go_at_call 69; refine (rblank_any c _).mono ?_; rintro e w' ⟨rfl, rfl⟩; cases hq : blankB c)
        all_goals go_light
        all_goals first
          | (refine ⟨⟨k + 1, by omega, by go_num, H⟩, ?_⟩; simp [intOf]; omega)
          | (exfalso; have h2 := HB.out; unfold inTagB betwB at h2; simp_all; done)
          | (exfalso; have h2 := HB.out; unfold inTagB betwB at h2; simp_all; omega)
    · have H : Hid (r = k) := ha.out.trans (spanE_end (by omega))
      go_wp2
      go_ret
      exact ⟨retn (by rw [H.out]), rfl⟩
end Go.Proofs.YtnoaojjljcbflaaGreatDoor

/- The document's answer: small letters; where a piece begins that is no text. -/
namespace Go.Proofs.YtnoaojjljcbflaaGreatDoor
open Go.RowKit
theorem alpha256 : alphaB 256 = false := rfl
theorem alpha47 : alphaB 47 = false := rfl
theorem hid {p : Prop} (h : p) : Hid p := h

theorem cast_ne {c : Nat} {k : Nat} (h : c ≠ k) : ¬ (c : Int) = (k : Int) := by omega
set_option maxHeartbeats 4000000 in
set_option maxRecDepth 100000 in
theorem begins_any (s : ByteArray) (i : Nat) (hs : s.size ≤ 100000) (hi : i < s.size) (w : World) :
    Calls Tryz.prog 59 #[.string s, .int .i64 i] w fun e w' => e = .returned (.bool (startB s i)) ∧ w' = w := by
  obtain ⟨r, hr⟩ : ∃ r, r = startB s i := ⟨_, rfl⟩
  rw [← hr]
  unfold startB at hr
  rw [bt_lt hi] at hr
  by_cases h60 : s[i].toNat = 60
  rotate_left
  · have HR := hid (show r = false by rw [hr]; simp [h60])
    clear hr
    have h60' := cast_ne h60
    go_enter Tryz.func59, Tryz.ntmps59
    go_wp2_with (go_at_call 104; refine (ralpha_any _ _).mono ?_; rintro e w' ⟨rfl, rfl⟩)
    all_goals go_light
    all_goals first
      | (go_ret; exact ⟨retb HR.out.symm, rfl⟩)
      | (exfalso; simp_all; done)
      | (exfalso; simp_all; omega)
  by_cases h1 : i + 1 < s.size
  rotate_left
  · rw [bt_ge (show s.size ≤ i + 1 by omega)] at hr
    have HR := hid (show r = false by rw [hr]; simp [alpha256])
    clear hr
    go_enter Tryz.func59, Tryz.ntmps59
    go_wp2_with (go_at_call 104; refine (ralpha_any _ _).mono ?_; rintro e w' ⟨rfl, rfl⟩)
    all_goals go_light
    all_goals first
      | (go_ret; exact ⟨retb HR.out.symm, rfl⟩)
      | (exfalso; simp_all; done)
      | (exfalso; simp_all; omega)
  rw [bt_lt h1, h60] at hr
  obtain ⟨c1, hc1⟩ : ∃ c, s[i + 1].toNat = c := ⟨_, rfl⟩
  rw [hc1] at hr
  by_cases h33 : c1 = 33 ∨ c1 = 63
  · have HR := hid (show r = true by rw [hr]; rcases h33 with h | h <;> subst h <;> rfl)
    clear hr
    rcases h33 with h | h <;> subst h
    all_goals
      go_enter Tryz.func59, Tryz.ntmps59
      go_wp2
      go_ret
      exact ⟨retb HR.out.symm, rfl⟩
  have g1 := cast_ne (show c1 ≠ 33 by omega)
  have g2 := cast_ne (show c1 ≠ 63 by omega)
  by_cases h47 : c1 = 47
  rotate_left
  · have HR := hid (show r = alphaB c1 by rw [hr]; simp [h47, show c1 ≠ 33 by omega, show c1 ≠ 63 by omega])
    clear hr
    have g3 := cast_ne h47
    go_enter Tryz.func59, Tryz.ntmps59
    go_wp2_with (go_at_call 104; refine (ralpha_any _ _).mono ?_; rintro e w' ⟨rfl, rfl⟩)
    all_goals go_light
    all_goals first
      | (go_ret; exact ⟨retb HR.out.symm, rfl⟩)
      | (exfalso; simp_all; done)
      | (exfalso; simp_all; omega)
  subst h47
  by_cases h2 : i + 2 < s.size
  · rw [bt_lt h2] at hr
    obtain ⟨c2, hc2⟩ : ∃ c, s[i + 2].toNat = c := ⟨_, rfl⟩
    rw [hc2] at hr
    have HR := hid (show r = alphaB c2 by rw [hr]; simp [alpha47])
    clear hr
    go_enter Tryz.func59, Tryz.ntmps59
    go_wp2_with (go_at_call 104; refine (ralpha_any _ _).mono ?_; rintro e w' ⟨rfl, rfl⟩)
    all_goals go_light
    all_goals first
      | (go_ret; exact ⟨retb HR.out.symm, rfl⟩)
      | (exfalso; simp_all; done)
      | (exfalso; simp_all; omega)
  · rw [bt_ge (show s.size ≤ i + 2 by omega)] at hr
    have HR := hid (show r = false by rw [hr]; simp [alpha256, alpha47])
    clear hr
    go_enter Tryz.func59, Tryz.ntmps59
    go_wp2_with (go_at_call 104; refine (ralpha_any _ _).mono ?_; rintro e w' ⟨rfl, rfl⟩)
    all_goals go_light
    all_goals first
      | (go_ret; exact ⟨retb HR.out.symm, rfl⟩)
      | (exfalso; simp_all; done)
      | (exfalso; simp_all; omega)

set_option maxRecDepth 100000 in
/-- one byte as a text -/
theorem conv_one (wr : World) (c : Nat) (h : c < 256) (i : Int) (hi : i = c) : (convert 128 9 (.slice (some ⟨wr.heap.size, 0, none⟩) 1 1)).run Tryz.prog (wr.alloc (.cells #[.int .u8 i] 5)) = .ok (.string ⟨#[UInt8.ofNat c]⟩) (wr.alloc (.cells #[.int .u8 i] 5)) := by
  subst hi
  have := run_convert_bytes_back (P := Tryz.prog) (wr.alloc (.cells #[.int .u8 (c : Int)] 5)) 128 9 5 ⟨wr.heap.size, 0, none⟩ 1 [UInt8.ofNat c] (by rfl) (by rfl) (by rfl) (fun j hj => by
    obtain rfl : j = 0 := by simpa using hj
    have h1 := World.cell?_alloc_mark wr #[.int .u8 (c : Int)] 5 (0, 0) 0
    have h2 : (UInt8.ofNat c).toNat = c := by simp; omega
    show _ = some (Value.int .u8 (((UInt8.ofNat c).toNat : Nat) : Int))
    rw [h2]
    exact h1)
  simpa using this
theorem app_one (l : List UInt8) (a b : UInt8) (h : a = b) : (⟨l.toArray⟩ : ByteArray) ++ ⟨#[a]⟩ = ⟨(l ++ [b]).toArray⟩ := by
  subst h
  apply ByteArray.ext
  simp
theorem low_up {x : UInt8} {c : Nat} (hc : x.toNat = c) (h : 65 ≤ c ∧ c ≤ 90) : UInt8.ofNat c + 32 = lowerB x := by
  unfold lowerB
  rw [hc, if_pos h, ← hc]
  simp
theorem low_no {x : UInt8} {c : Nat} (hc : x.toNat = c) (h : ¬ (65 ≤ c ∧ c ≤ 90)) : UInt8.ofNat c = lowerB x := by
  unfold lowerB
  rw [hc, if_neg h, ← hc]
  simp
theorem smallL_snoc (s : ByteArray) (k : Nat) (h : k < s.size) : smallL (s.data.toList.take (k + 1)) = smallL (s.data.toList.take k) ++ [lowerB s[k]] := by
  unfold smallL
  rw [List.take_succ_eq_append_getElem (by simpa using h), List.map_append]
  rfl

set_option maxHeartbeats 4000000 in
set_option maxRecDepth 100000 in
theorem rsmall_any (s : ByteArray) (hs : s.size ≤ 100000) (w : World) :
    Calls Tryz.prog 68 #[.string s] w fun e w' => e = .returned (.string (smallS s)) ∧ Below w.heap.size w w' := by
  go_enter Tryz.func68, Tryz.ntmps68
  go_wp2
  go_loopw [3, 4] (fun ov iv wr => ∃ k : Nat, k ≤ s.size ∧ iv = .int .i64 k ∧ ov = .string ⟨(smallL (s.data.toList.take k)).toArray⟩ ∧ Hid (Below w.heap.size w wr)) (fun _ iv _ => s.size - (intOf iv).toNat)
  case atStart => exact ⟨0, by omega, rfl, rfl, hid (Below.refl _ _)⟩
  case round =>
    obtain ⟨k, hk, rfl, rfl, hB⟩ := hrel
    by_cases hlt : k < s.size
    · obtain ⟨c, hc⟩ : ∃ c, s[k].toNat = c := ⟨_, rfl⟩
      have hc256 : c < 256 := by rw [← hc]; exact s[k].toNat_lt
      have hl : (smallL (s.data.toList.take k)).length = k := by unfold smallL; simp; omega
      by_cases hup : 65 ≤ c ∧ c ≤ 90
      · have hcv := conv_one wr (c + 32) (by omega) ((c : Int) - 65 + 97) (by omega)
        have hup1 : (65 : Int) ≤ c := by omega
        have hup2 : (c : Int) ≤ 90 := by omega
        go_wp2
        all_goals go_light
        · refine ⟨⟨k + 1, by omega, by go_num, ?_, hid (hB.out.alloc hB.out.size _)⟩, ?_⟩
          · rw [smallL_snoc s k hlt]
            exact congrArg Value.string (app_one _ _ _ (low_up hc hup))
          · simp [intOf]
            omega
      · have hcv := conv_one wr c hc256 c rfl
        by_cases hup1 : c < 65
        · have hup2 : (c : Int) < 65 := by omega
          go_wp2
          all_goals go_light
          · refine ⟨⟨k + 1, by omega, by go_num, ?_, hid (hB.out.alloc hB.out.size _)⟩, ?_⟩
            · rw [smallL_snoc s k hlt]
              exact congrArg Value.string (app_one _ _ _ (low_no hc hup))
            · simp [intOf]
              omega
        · have hup2 : (65 : Int) ≤ c := by omega
          have hup3 : (90 : Int) < c := by omega
          go_wp2
          all_goals go_light
          · refine ⟨⟨k + 1, by omega, by go_num, ?_, hid (hB.out.alloc hB.out.size _)⟩, ?_⟩
            · rw [smallL_snoc s k hlt]
              exact congrArg Value.string (app_one _ _ _ (low_no hc hup))
            · simp [intOf]
              omega
    · have hke : k = s.size := by omega
      go_wp2
      go_ret
      refine ⟨rets ?_, hB.out⟩
      unfold smallS
      rw [hke, List.take_of_length_le (by simp)]
end Go.Proofs.YtnoaojjljcbflaaGreatDoor
