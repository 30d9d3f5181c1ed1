/- Events as plain mathematics: ways, ears, sending; the document's stops give the same. -/
import Derived.Test.YtlfepdecgfcifaaGreatDoorM08
namespace Go.Proofs.YtlfepdecgfcifaaGreatDoor

/-! ### ways -/
def parOf (ns : List Nd) (p : Int) : Int := match ns[p.toNat]? with
  | some n => n.parent
  | none => -1
def upL (ns : List Nd) : Nat → Int → List Int
  | 0, _ => []
  | f + 1, p => if p < 0 then [] else p :: upL ns f (parOf ns p)
/-- a parent stands behind its kid, or is the document -/
structure Asc (ns : List Nd) : Prop where
  doc : ∃ n, ns[0]? = some n ∧ n.parent = -1
  par : ∀ (j : Nat) (n : Nd), ns[j]? = some n → n.parent = -1 ∨ ∃ q : Nat, n.parent = q ∧ q < ns.length ∧ (q = 0 ∨ j < q)
def rkI (ns : List Nd) (p : Int) : Nat := if p < 0 then 0 else if p = 0 then 1 else ns.length + 1 - p.toNat
theorem Asc.parI {ns : List Nd} (h : Asc ns) {p : Int} (h0 : 0 ≤ p) (h1 : p < ns.length) : rkI ns (parOf ns p) < rkI ns p ∧ -1 ≤ parOf ns p ∧ parOf ns p < ns.length ∧ parOf ns p ≠ p := by
  obtain ⟨j, rfl⟩ : ∃ j : Nat, p = j := ⟨p.toNat, by omega⟩
  have hj : j < ns.length := by omega
  have e : parOf ns (j : Int) = ns[j].parent := by
    unfold parOf
    rw [Int.toNat_natCast, List.getElem?_eq_getElem hj]
  rw [e]
  rcases h.par j _ (List.getElem?_eq_getElem hj) with e1 | ⟨q, e1, e2, e3⟩
  · rw [e1]
    refine ⟨?_, by omega, by omega, by omega⟩
    have e2 : rkI ns (-1) = 0 := rfl
    rw [e2]
    unfold rkI
    rw [if_neg (by omega), Int.toNat_natCast]
    split <;> omega
  · rw [e1]
    have hj0 : j ≠ 0 := by
      rintro rfl
      obtain ⟨n, f1, f2⟩ := h.doc
      rw [List.getElem?_eq_getElem hj] at f1
      cases f1
      omega
    have e4 : q = 0 ∨ j < q := e3
    have e5 : (q : Int) ≠ j := by rcases e4 with e4 | e4 <;> omega
    refine ⟨?_, by omega, by omega, e5⟩
    have ej : rkI ns (j : Int) = ns.length + 1 - j := by
      unfold rkI
      rw [if_neg (by omega), if_neg (by omega), Int.toNat_natCast]
    rw [ej]
    rcases e4 with e4 | e4
    · subst e4
      show (1 : Nat) < _
      omega
    · unfold rkI
      rw [if_neg (by omega), if_neg (by omega), Int.toNat_natCast]
      omega
theorem upL_over {ns : List Nd} (h : Asc ns) : ∀ (f g : Nat) (p : Int), p < ns.length → rkI ns p ≤ f → rkI ns p ≤ g → upL ns f p = upL ns g p := by
  intro f
  induction f with
  | zero =>
    intro g p hp hf hg
    have : p < 0 := by
      unfold rkI at hf
      by_cases h0 : p < 0
      · exact h0
      · rw [if_neg h0] at hf; split at hf <;> omega
    cases g with
    | zero => rfl
    | succ g => rw [upL, upL, if_pos this]
  | succ f ih =>
    intro g p hp hf hg
    cases g with
    | zero =>
      have : p < 0 := by
        unfold rkI at hg
        by_cases h0 : p < 0
        · exact h0
        · rw [if_neg h0] at hg; split at hg <;> omega
      rw [upL, upL, if_pos this]
    | succ g =>
      rw [upL, upL]
      by_cases h0 : p < 0
      · rw [if_pos h0, if_pos h0]
      · rw [if_neg h0, if_neg h0]
        obtain ⟨h2, h3, h4, _⟩ := h.parI (by omega) hp
        rw [ih g _ h4 (by omega) (by omega)]
/-- a node, its parent, and so on -/
def upA (ns : List Nd) (p : Int) : List Int := upL ns (rkI ns p) p
theorem upA_neg {ns : List Nd} {p : Int} (h : p < 0) : upA ns p = [] := by
  unfold upA
  cases rkI ns p with
  | zero => rfl
  | succ f => rw [upL, if_pos h]
theorem upA_cons {ns : List Nd} (h : Asc ns) {p : Int} (h0 : 0 ≤ p) (h1 : p < ns.length) : upA ns p = p :: upA ns (parOf ns p) := by
  obtain ⟨h2, h3, h4, _⟩ := h.parI h0 h1
  unfold upA
  obtain ⟨f, hf⟩ : ∃ f, rkI ns p = f + 1 := ⟨rkI ns p - 1, by omega⟩
  rw [hf, upL, if_neg (by omega), upL_over h f (rkI ns (parOf ns p)) _ h4 (by omega) (Nat.le_refl _)]
theorem rkI_le (ns : List Nd) (p : Int) : rkI ns p ≤ ns.length + 1 := by
  unfold rkI; split
  · omega
  · split <;> omega
theorem upL_len (ns : List Nd) : ∀ f p, (upL ns f p).length ≤ f
  | 0, _ => by simp [upL]
  | f + 1, p => by
    rw [upL]; split
    · simp
    · simp only [List.length_cons]; have := upL_len ns f (parOf ns p); omega
theorem upA_len (ns : List Nd) (p : Int) : (upA ns p).length ≤ ns.length + 1 := Nat.le_trans (upL_len ns _ p) (rkI_le ns p)

theorem Asc.start : Asc [⟨1, ⟨#[]⟩, ⟨#[]⟩, [], -1, []⟩] := by
  refine ⟨⟨_, rfl, rfl⟩, fun j n h => ?_⟩
  rcases Nat.eq_zero_or_pos j with e | e
  · subst e; cases h; exact .inl rfl
  · rw [List.getElem?_eq_none (by simp; omega)] at h; cases h
theorem Asc.snoc {ns : List Nd} (h : Asc ns) (n : Nd) (hp : n.parent = -1) : Asc (ns ++ [n]) := by
  obtain ⟨d, h0, h1⟩ := h.doc
  refine ⟨⟨d, by rw [List.getElem?_append_left (List.getElem?_eq_some_iff.1 h0).1]; exact h0, h1⟩, fun j x hx => ?_⟩
  by_cases hj : j < ns.length
  · rw [List.getElem?_append_left hj] at hx
    rcases h.par j x hx with e | ⟨q, e1, e2, e3⟩
    · exact .inl e
    · exact .inr ⟨q, e1, by simp; omega, e3⟩
  · rw [List.getElem?_append_right (by omega)] at hx
    cases hq : j - ns.length with
    | zero => rw [hq] at hx; cases hx; exact .inl hp
    | succ q => rw [hq] at hx; simp at hx
theorem Asc.setS {ns : List Nd} (h : Asc ns) (i : Nat) (a b : ByteArray) : Asc (setS ns i a b) := by
  obtain ⟨d, h0, h1⟩ := h.doc
  obtain ⟨d', e1, e2, _⟩ := setS_parent h0 a b (i := i)
  refine ⟨⟨d', e1, e2.trans h1⟩, fun j x hx => ?_⟩
  have hj : j < ns.length := by have := (List.getElem?_eq_some_iff.1 hx).1; rw [setS_length] at this; exact this
  obtain ⟨x', f1, f2, _⟩ := setS_parent (List.getElem?_eq_getElem hj) a b (i := i)
  obtain rfl := Option.some.inj (f1.symm.trans hx)
  rw [f2, setS_length]
  exact h.par j _ (List.getElem?_eq_getElem hj)
theorem Asc.put {ns : List Nd} (h : Asc ns) {a b : Nat} (hab : b < a ∨ a = 0) (hb0 : 0 < b) : Asc (putS ns a b) := by
  obtain ⟨d, h0, h1⟩ := h.doc
  obtain ⟨d', e1, e2, _⟩ := putS_parent (a := a) (b := b) h0 (by omega)
  refine ⟨⟨d', e1, e2.trans h1⟩, fun j x hx => ?_⟩
  have hj : j < ns.length := by have := (List.getElem?_eq_some_iff.1 hx).1; rw [putS_length] at this; exact this
  rw [putS_length]
  by_cases hjb : j = b
  · subst hjb
    unfold putS at hx
    split at hx
    · rename_i na nb ha hb
      split at hx
      · rw [List.getElem?_set_self (by rw [List.length_set]; exact hj)] at hx
        cases hx
        exact .inr ⟨a, rfl, (List.getElem?_eq_some_iff.1 ha).1, by omega⟩
      · exact h.par j x hx
    · exact h.par j x hx
  · obtain ⟨x', f1, f2, _⟩ := putS_parent (a := a) (b := b) (List.getElem?_eq_getElem hj) hjb
    obtain rfl := Option.some.inj (f1.symm.trans hx)
    rw [f2]
    exact h.par j _ (List.getElem?_eq_getElem hj)
theorem Asc.attrs {i : Nat} (l : List (ByteArray × ByteArray)) : ∀ {ns : List Nd}, Asc ns → Asc (attrsS i ns l) := by
  induction l with
  | nil => intro ns h; exact h
  | cons x l ih => intro ns h; exact ih (h.setS i x.1 x.2)
theorem Asc.kids {k : Nat} (l : List Int) : ∀ {ns : List Nd}, Asc ns → Asc (kidsS k ns l) := by
  induction l with
  | nil => intro ns h; exact h
  | cons x l ih =>
    intro ns h
    refine ih ?_
    unfold kidS
    split
    · exact h.put (.inl (by omega)) (by omega)
    · exact h
theorem bodyS_asc (ts : List Tw) : ∀ k, k ≤ ts.length → Asc (bodyS ts k)
  | 0, _ => Asc.start
  | k + 1, h => by
    have e : ts[k]? = some ts[k] := List.getElem?_eq_getElem (by omega)
    unfold bodyS
    simp only [e]
    exact Asc.kids _ (Asc.attrs _ ((bodyS_asc ts k (by omega)).snoc _ (headS_root ..).1))
theorem lastS_asc (ts : List Tw) : ∀ j, Asc (lastS ts j)
  | 0 => bodyS_asc ts _ (Nat.le_refl _)
  | j + 1 => by
    unfold lastS rootS
    split
    · exact (lastS_asc ts j).put (.inr rfl) (by omega)
    · exact lastS_asc ts j
theorem treeS_asc (ts : List Tw) : Asc (treeS ts) := lastS_asc ts _

/-! ### ears -/
structure EvE where
  node : Int
  name : ByteArray
  down : Bool
  once : Bool
  calm : Bool
  stop : Bool
  now : Bool
  bar : Bool
structure EvS where
  e : EvE
  gone : Bool
structure EvC where
  ear : Int
  node : Int
  phase : Int
structure EvT where
  E : List EvS
  calls : List EvC
  barred : Bool
  ended : Bool
def hitE (x : EvS) (node : Int) (name : ByteArray) (down : Bool) : Bool := !x.gone && (decide (x.e.node = node) && (decide (x.e.name = name) && (x.e.down == down)))
def hearT (st : EvT) (k : Nat) (node ph : Int) (x : EvE) : EvT :=
  { E := if x.once then st.E.set k ⟨x, true⟩ else st.E, calls := st.calls ++ [⟨k, node, ph⟩], barred := st.barred || (x.bar && !x.calm), ended := st.ended || x.stop || x.now }
def visF (node ph : Int) (name : ByteArray) (down : Bool) : Nat → Nat → EvT → EvT × Bool
  | 0, _, st => (st, false)
  | f + 1, k, st => match st.E[k]? with
    | none => (st, false)
    | some x => if hitE x node name down then (if x.e.now then (hearT st k node ph x.e, true) else visF node ph name down f (k + 1) (hearT st k node ph x.e)) else visF node ph name down f (k + 1) st
def visD (node ph : Int) (name : ByteArray) : List Bool → EvT → EvT
  | [], st => st
  | d :: ds, st => if (visF node ph name d st.E.length 0 st).2 then (visF node ph name d st.E.length 0 st).1 else visD node ph name ds (visF node ph name d st.E.length 0 st).1
def visP (node ph : Int) (name : ByteArray) (ds : List Bool) (st : EvT) : EvT := if st.ended then st else visD node ph name ds st
def downT (name : ByteArray) (l : List Int) (st : EvT) : EvT := l.foldl (fun st z => visP z 1 name [true] st) st
def upT (name : ByteArray) (l : List Int) (st : EvT) : EvT := l.foldl (fun st z => visP z 3 name [false] st) st
def sendT (name : ByteArray) (rises : Bool) (way : List Int) (st : EvT) : EvT := match way with
  | [] => st
  | id :: up => if rises then upT name up (visP id 2 name [true, false] (downT name up.reverse st)) else visP id 2 name [true, false] (downT name up.reverse st)

theorem hearT_len (st : EvT) (k : Nat) (node ph : Int) (x : EvE) : (hearT st k node ph x).E.length = st.E.length := by
  unfold hearT; dsimp only; split <;> simp
theorem visF_len (node ph : Int) (name : ByteArray) (down : Bool) : ∀ f k st, (visF node ph name down f k st).1.E.length = st.E.length
  | 0, _, _ => rfl
  | f + 1, k, st => by
    rw [visF]
    split
    · rfl
    · split
      · split
        · exact hearT_len ..
        · exact (visF_len node ph name down f _ _).trans (hearT_len ..)
      · exact visF_len node ph name down f _ _
theorem visF_calls (node ph : Int) (name : ByteArray) (down : Bool) : ∀ f k st, (visF node ph name down f k st).1.calls.length ≤ st.calls.length + f
  | 0, _, _ => by simp [visF]
  | f + 1, k, st => by
    rw [visF]
    split
    · simp
    · rename_i x hx
      have h1 : (hearT st k node ph x.e).calls.length = st.calls.length + 1 := by simp [hearT]
      have h2 := visF_calls node ph name down f (k + 1) (hearT st k node ph x.e)
      have h3 := visF_calls node ph name down f (k + 1) st
      split
      · split
        · dsimp only; omega
        · omega
      · omega
theorem visF_now {node ph : Int} {name : ByteArray} {down : Bool} : ∀ {f k : Nat} {st : EvT}, (visF node ph name down f k st).2 = true → (visF node ph name down f k st).1.ended = true
  | 0, _, _, h => by cases h
  | f + 1, k, st, h => by
    rw [visF] at h ⊢
    split at h
    · cases h
    · rename_i x hx
      split at h
      · rename_i hh
        simp only [hh, if_true]
        split at h
        · rename_i hn
          simp only [hn, if_true, hearT, Bool.or_true]
        · rename_i hn
          simp only [hn]
          exact visF_now h
      · rename_i hh
        simp only [hh]
        exact visF_now h
theorem visD_len (node ph : Int) (name : ByteArray) : ∀ ds st, (visD node ph name ds st).E.length = st.E.length
  | [], _ => rfl
  | d :: ds, st => by
    rw [visD]; split
    · exact visF_len ..
    · exact (visD_len node ph name ds _).trans (visF_len ..)
theorem visP_len (node ph : Int) (name : ByteArray) (ds : List Bool) (st : EvT) : (visP node ph name ds st).E.length = st.E.length := by
  unfold visP; split
  · rfl
  · exact visD_len ..
theorem visD_calls (node ph : Int) (name : ByteArray) : ∀ ds st, (visD node ph name ds st).calls.length ≤ st.calls.length + ds.length * st.E.length
  | [], _ => by simp [visD]
  | d :: ds, st => by
    have h1 := visF_calls node ph name d st.E.length 0 st
    rw [visD]; split
    · simp only [List.length_cons, Nat.succ_mul]; omega
    · have h2 := visD_calls node ph name ds (visF node ph name d st.E.length 0 st).1
      rw [visF_len] at h2
      simp only [List.length_cons, Nat.succ_mul]; omega
theorem visP_calls (node ph : Int) (name : ByteArray) (ds : List Bool) (st : EvT) : (visP node ph name ds st).calls.length ≤ st.calls.length + ds.length * st.E.length := by
  unfold visP; split
  · omega
  · exact visD_calls ..
theorem foldP_len (name : ByteArray) (ph : Int) (ds : List Bool) (l : List Int) : ∀ st : EvT, (l.foldl (fun st z => visP z ph name ds st) st).E.length = st.E.length := by
  induction l with
  | nil => intro st; rfl
  | cons z l ih => intro st; exact (ih _).trans (visP_len ..)
theorem sendT_len (name : ByteArray) (rises : Bool) (way : List Int) (st : EvT) : (sendT name rises way st).E.length = st.E.length := by
  unfold sendT
  split
  · rfl
  · split
    · exact (foldP_len ..).trans ((visP_len ..).trans (foldP_len ..))
    · exact (visP_len ..).trans (foldP_len ..)
theorem foldP_ended (name : ByteArray) (ph : Int) (ds : List Bool) (l : List Int) : ∀ st : EvT, st.ended = true → l.foldl (fun st z => visP z ph name ds st) st = st := by
  induction l with
  | nil => intro st _; rfl
  | cons z l ih =>
    intro st h
    have e : visP z ph name ds st = st := by unfold visP; rw [if_pos h]
    rw [List.foldl_cons, e]
    exact ih st h

/-! ### the document's stops -/
structure EvP where
  node : Int
  phase : Int
  down : Bool
def docF (name : ByteArray) : List EvP → EvP → EvT → EvT
  | [], _, st => st
  | s :: l, prev, st => if st.ended = true ∧ (s.node ≠ prev.node ∨ s.phase ≠ prev.phase) then st else
      if (visF s.node s.phase name s.down st.E.length 0 st).2 then (visF s.node s.phase name s.down st.E.length 0 st).1 else docF name l s (visF s.node s.phase name s.down st.E.length 0 st).1
def stopsP (rises : Bool) (way : List Int) : List EvP := match way with
  | [] => []
  | id :: up => up.reverse.map (fun z => ⟨z, 1, true⟩) ++ (⟨id, 2, true⟩ :: ⟨id, 2, false⟩ :: if rises then up.map (fun z => ⟨z, 3, false⟩) else [])
/-- the next stop is at another node, or of another phase -/
def parts (prev : EvP) (l : List EvP) : Prop := ∀ s, l.head? = some s → s.node ≠ prev.node ∨ s.phase ≠ prev.phase
theorem docF_ended {name : ByteArray} {l : List EvP} {prev : EvP} {st : EvT} (h : parts prev l) (he : st.ended = true) : docF name l prev st = st := by
  cases l with
  | nil => rfl
  | cons s l => rw [docF, if_pos ⟨he, h s rfl⟩]
theorem docF_one {name : ByteArray} {l : List EvP} {prev s : EvP} {st : EvT} (h : parts prev (s :: l)) (hn : parts s l) : docF name (s :: l) prev st = docF name l s (visP s.node s.phase name [s.down] st) := by
  by_cases he : st.ended = true
  · rw [docF_ended h he]
    unfold visP
    rw [if_pos he, docF_ended hn he]
  · rw [docF, if_neg (fun q => he q.1)]
    unfold visP
    rw [if_neg he, visD]
    by_cases hq : (visF s.node s.phase name s.down st.E.length 0 st).2 = true
    · rw [if_pos hq, if_pos hq, docF_ended hn (visF_now hq)]
    · rw [if_neg hq, if_neg hq]
      rfl
theorem docF_two {name : ByteArray} {l : List EvP} {prev : EvP} {id ph : Int} {st : EvT} (h : id ≠ prev.node ∨ ph ≠ prev.phase) (hn : parts ⟨id, ph, false⟩ l) :
    docF name (⟨id, ph, true⟩ :: ⟨id, ph, false⟩ :: l) prev st = docF name l ⟨id, ph, false⟩ (visP id ph name [true, false] st) := by
  by_cases he : st.ended = true
  · rw [docF, if_pos ⟨he, h⟩]
    unfold visP
    rw [if_pos he, docF_ended hn he]
  · rw [docF, if_neg (fun q => he q.1)]
    unfold visP
    rw [if_neg he, visD]
    dsimp only
    by_cases hq : (visF id ph name true st.E.length 0 st).2 = true
    · rw [if_pos hq, if_pos hq, docF_ended hn (visF_now hq)]
    · rw [if_neg hq, if_neg hq, docF, if_neg (fun q => by rcases q.2 with q | q <;> exact q rfl), visD]
      dsimp only
      by_cases hr : (visF id ph name false (visF id ph name true st.E.length 0 st).1.E.length 0 (visF id ph name true st.E.length 0 st).1).2 = true
      · rw [if_pos hr, if_pos hr, docF_ended hn (visF_now hr)]
      · rw [if_neg hr, if_neg hr]
        rfl
/-- neighbours differ -/
def NextNe : List Int → Prop
  | [] => True
  | [_] => True
  | a :: b :: l => a ≠ b ∧ NextNe (b :: l)
theorem docF_map (name : ByteArray) (ph : Int) (d : Bool) : ∀ (l : List Int) (rest : List EvP) (prev : EvP) (st : EvT), NextNe l → (∀ z, l.head? = some z → z ≠ prev.node ∨ ph ≠ prev.phase) → (l = [] → parts prev rest) → (∀ s, rest.head? = some s → s.phase ≠ ph) →
    ∃ prev', docF name (l.map (fun z => (⟨z, ph, d⟩ : EvP)) ++ rest) prev st = docF name rest prev' (l.foldl (fun st z => visP z ph name [d] st) st) ∧ parts prev' rest ∧ (l = [] → prev' = prev) := by
  intro l
  induction l with
  | nil => intro rest prev st _ _ h2 _; exact ⟨prev, rfl, h2 rfl, fun _ => rfl⟩
  | cons z l ih =>
    intro rest prev st hne h1 _ h3
    have hp : parts (⟨z, ph, d⟩ : EvP) (l.map (fun z => (⟨z, ph, d⟩ : EvP)) ++ rest) := by
      intro s hs
      cases l with
      | nil => exact .inr (h3 s hs)
      | cons y l => simp at hs; subst hs; exact .inl (Ne.symm hne.1)
    obtain ⟨prev', e1, e2, _⟩ := ih rest ⟨z, ph, d⟩ (visP z ph name [d] st) (by cases l with | nil => trivial | cons y l => exact hne.2)
      (fun y hy => by cases l with
        | nil => simp at hy
        | cons w l => simp at hy; subst hy; exact .inl (Ne.symm hne.1))
      (fun hl s hs => .inr (h3 s hs)) h3
    refine ⟨prev', ?_, e2, fun h => by cases h⟩
    rw [List.map_cons, List.cons_append, docF_one (fun s hs => by simp at hs; subst hs; exact h1 z rfl) hp]
    exact e1
theorem NextNe.upA {ns : List Nd} (h : Asc ns) : ∀ (f : Nat) (p : Int), p < ns.length → NextNe (upL ns f p)
  | 0, _, _ => trivial
  | 1, p, _ => by
    rw [upL]; split
    · trivial
    · trivial
  | f + 2, p, hp => by
    rw [upL]
    by_cases h0 : p < 0
    · rw [if_pos h0]; trivial
    · rw [if_neg h0]
      obtain ⟨_, _, h4, h5⟩ := h.parI (by omega) hp
      have ih := NextNe.upA h (f + 1) (parOf ns p) h4
      rw [upL] at ih ⊢
      by_cases h1 : parOf ns p < 0
      · rw [if_pos h1]; trivial
      · rw [if_neg h1] at ih ⊢
        exact ⟨Ne.symm h5, ih⟩
theorem NextNe.snoc : ∀ (l : List Int) (a : Int), NextNe l → (∀ y, l.getLast? = some y → y ≠ a) → NextNe (l ++ [a])
  | [], _, _, _ => trivial
  | [b], a, _, h => ⟨h b rfl, trivial⟩
  | b :: c :: l, a, hn, h => ⟨hn.1, NextNe.snoc (c :: l) a hn.2 (fun y hy => h y (by rw [List.getLast?_cons_cons]; exact hy))⟩
theorem NextNe.rev : ∀ (l : List Int), NextNe l → NextNe l.reverse
  | [], _ => trivial
  | [b], _ => trivial
  | b :: c :: l, h => by
    rw [List.reverse_cons]
    exact NextNe.snoc _ _ (NextNe.rev (c :: l) h.2) (fun y hy => by
      rw [List.getLast?_reverse] at hy
      simp at hy
      subst hy
      exact Ne.symm h.1)
/-- THE DOCUMENT's STOPS ARE THE PROGRAM's WAY -/
theorem docF_send {ns : List Nd} (h : Asc ns) (name : ByteArray) (rises : Bool) (p : Int) (hp : p < ns.length) (st : EvT) (hs : st.ended = false) (prev : EvP) : docF name (stopsP rises (upA ns p)) prev st = sendT name rises (upA ns p) st := by
  by_cases h0 : p < 0
  · rw [upA_neg h0]; rfl
  · rw [upA_cons h (by omega) hp]
    obtain ⟨_, _, h4, h5⟩ := h.parI (by omega) hp
    obtain ⟨up, hup⟩ : ∃ up, upA ns (parOf ns p) = up := ⟨_, rfl⟩
    have hne : NextNe up := by rw [← hup]; exact NextNe.upA h _ _ h4
    rw [hup]
    unfold stopsP sendT
    dsimp only
    -- the first stop: nothing has ended, so what was ahead of it doesn't matter
    have hfree : ∀ (l : List EvP) (q : EvP), docF name l prev st = docF name l q st := fun l q => by
      cases l with
      | nil => rfl
      | cons s l => simp only [docF, hs, Bool.false_eq_true, false_and, if_false]
    rw [hfree _ ⟨0, 0, true⟩]
    obtain ⟨prev', e1, e2, e3⟩ := docF_map name 1 true up.reverse (⟨p, 2, true⟩ :: ⟨p, 2, false⟩ :: if rises then up.map (fun z => ⟨z, 3, false⟩) else []) ⟨0, 0, true⟩ st (NextNe.rev _ hne) (fun z _ => .inr (by simp)) (fun _ s hs => by simp at hs; subst hs; exact .inr (by simp)) (fun s hs => by simp at hs; subst hs; simp)
    rw [e1, docF_two (e2 _ rfl) (fun s hs => by
      cases rises
      · simp at hs
      · cases up with
        | nil => simp at hs
        | cons y l => simp at hs; subst hs; exact .inr (by simp))]
    cases rises
    · rfl
    · simp only [if_true]
      obtain ⟨_, f1, _, _⟩ := docF_map name 3 false up [] ⟨p, 2, false⟩ (visP p 2 name [true, false] (up.reverse.foldl (fun st z => visP z 1 name [true] st) st)) hne (fun z _ => .inr (by simp)) (fun _ s hs => by simp at hs) (fun s hs => by simp at hs)
      rw [List.append_nil] at f1
      rw [f1]
      rfl
end Go.Proofs.YtlfepdecgfcifaaGreatDoor
