/- What pieces make of a tree: texts, and what is known of a tree that grows. -/
import Derived.Test.YtkaeenafejdkfaaGreatDoorM11
import Derived.Test.YtkaeenafejdkfaaGreatDoorGAdd
import Derived.StillTailTactics
import Derived.Test.YtkaeenafejdkfaaGreatDoorM12
import Derived.Test.YtkaeenafejdkfaaGreatDoorM06
namespace Go.Proofs.YtkaeenafejdkfaaGreatDoor

def txOf (ns : List Nd) (op : List Nat) : Nat := (textAt ns (inn op)).getD 0
theorem textAt_new {ns : List Nd} {p : Nat} {m : Nd} (hp : ns[p]? = some m) (n : Nd) : textAt (addN ns p n) p = if n.kind = 3 then some ns.length else none := by
  have hlt : p < ns.length := (List.getElem?_eq_some_iff.1 hp).1
  unfold textAt
  rw [add_get hp, if_neg (by omega), if_pos rfl]
  simp only [List.getLast?_append, List.getLast?_singleton, Option.some_or, Int.toNat_natCast]
  rw [add_get hp, if_pos rfl]
theorem textAt_some {ns : List Nd} (hW : WF ns) {p k : Nat} (h : textAt ns p = some k) : ∃ n, ns[k]? = some n ∧ n.kind = 3 ∧ k ≠ 0 := by
  unfold textAt at h
  split at h
  · rename_i m hm
    split at h
    · rename_i z hz
      split at h
      · rename_i n hn
        split at h
        · rename_i hk
          obtain rfl := Option.some.inj h
          refine ⟨n, hn, hk, fun e => ?_⟩
          obtain ⟨c, m', e1, e2, e3⟩ := hW.kid p m hm z (List.mem_of_getLast? hz)
          obtain ⟨r, r1, _, r3⟩ := hW.root
          have : c = 0 := by omega
          subst this
          rw [r1] at e2
          obtain rfl := Option.some.inj e2
          omega
        · cases h
      · cases h
    · cases h
  · cases h
/-- kinds, parents and kids alone tell where a text is joined -/
theorem textAt_same {ns ns' : List Nd} (hl : ns'.length = ns.length) (hs : ∀ (j : Nat) (n : Nd), ns[j]? = some n → ∃ n' : Nd, ns'[j]? = some n' ∧ n'.kind = n.kind ∧ n'.parent = n.parent ∧ n'.kids = n.kids) (p : Nat) : textAt ns' p = textAt ns p := by
  have hn : ∀ j, ns[j]? = none → ns'[j]? = none := fun j h => by
    rw [List.getElem?_eq_none_iff] at h ⊢; omega
  unfold textAt
  cases h : ns[p]? with
  | none => rw [hn p h]
  | some m =>
    obtain ⟨m', a1, _, _, a4⟩ := hs p m h
    rw [a1]
    simp only [a4]
    cases hk : m.kids.getLast? with
    | none => rfl
    | some z =>
      simp only
      cases hz : ns[z.toNat]? with
      | none => rw [hn _ hz]
      | some n =>
        obtain ⟨n', b1, b2, _, _⟩ := hs _ n hz
        rw [b1]
        simp only [b2]

/-- what is known of a tree that grows -/
structure Inv (ns : List Nd) (op : List Nat) (i : Nat) : Prop where
  wf : WF ns
  chain : Chain ns op
  few : op.length ≤ 40
  words : ∀ (j : Nat) (n : Nd), ns[j]? = some n → n.words.size ≤ i
  attrs : ∀ (j : Nat) (n : Nd), ns[j]? = some n → n.attrs.length ≤ i
theorem Inv.mono {ns : List Nd} {op : List Nat} {i j : Nat} (h : Inv ns op i) (hij : i ≤ j) : Inv ns op j := ⟨h.wf, h.chain, h.few, fun k n hn => Nat.le_trans (h.words k n hn) hij, fun k n hn => Nat.le_trans (h.attrs k n hn) hij⟩
theorem Inv.add {ns : List Nd} {op : List Nat} {i : Nat} (h : Inv ns op i) (hl : ns.length < 400) (n : Nd) (hn : n.parent = -1) (hk : n.kids = []) (hw : n.words.size ≤ i) (ha : n.attrs.length ≤ i) : Inv (addN ns (inn op) n) op i := by
  obtain ⟨m, hm, _⟩ := h.chain.inner h.wf
  refine ⟨h.wf.added hl hm n hn hk, h.chain.add h.wf hm n, h.few, fun j x hx => ?_, fun j x hx => ?_⟩
  · rw [add_get hm] at hx
    split at hx
    · obtain rfl := Option.some.inj hx; exact hw
    · split at hx
      · obtain rfl := Option.some.inj hx; exact h.words _ m hm
      · exact h.words j x hx
  · rw [add_get hm] at hx
    split at hx
    · obtain rfl := Option.some.inj hx; exact ha
    · split at hx
      · obtain rfl := Option.some.inj hx; exact h.attrs _ m hm
      · exact h.attrs j x hx
theorem Inv.open {ns : List Nd} {op : List Nat} {i : Nat} (h : Inv ns op i) (hl : ns.length < 400) (n : Nd) (hn : n.parent = -1) (hk : n.kids = []) (hw : n.words.size ≤ i) (ha : n.attrs.length ≤ i) (h2 : n.kind = 2) (hf : op.length < 40) : Inv (addN ns (inn op) n) (ns.length :: op) i := by
  obtain ⟨m, hm, _⟩ := h.chain.inner h.wf
  have := h.add hl n hn hk hw ha
  exact ⟨this.wf, h.chain.open h.wf hm n h2, by simp; omega, this.words, this.attrs⟩
theorem Inv.join {ns : List Nd} {op : List Nat} {i e k : Nat} (h : Inv ns op i) (t : ByteArray) {n : Nd} (hk : ns[k]? = some n) (hie : i ≤ e) (ht : t.size ≤ e - i) : Inv (joinT ns k t) op e ∧ joinT ns k t = ns.set k { n with words := n.words ++ t } := by
  have e1 : joinT ns k t = ns.set k { n with words := n.words ++ t } := by unfold joinT; rw [hk]
  refine ⟨?_, e1⟩
  rw [e1]
  have hkl := (List.getElem?_eq_some_iff.1 hk).1
  refine ⟨h.wf.turn hk rfl rfl rfl, h.chain.same (set_same3 (n' := { n with words := n.words ++ t }) hk rfl rfl rfl), h.few, fun j x hx => ?_, fun j x hx => ?_⟩
  · by_cases hj : k = j
    · subst hj
      rw [List.getElem?_set_self hkl] at hx
      obtain rfl := Option.some.inj hx
      have := h.words k n hk
      rw [ByteArray.size_append]
      omega
    · rw [List.getElem?_set_ne hj] at hx
      exact Nat.le_trans (h.words j x hx) hie
  · by_cases hj : k = j
    · subst hj
      rw [List.getElem?_set_self hkl] at hx
      obtain rfl := Option.some.inj hx
      exact Nat.le_trans (h.attrs k n hk) hie
    · rw [List.getElem?_set_ne hj] at hx
      exact Nat.le_trans (h.attrs j x hx) hie
theorem join_tx {ns : List Nd} {op : List Nat} {k : Nat} {t : ByteArray} {n : Nd} (hk : ns[k]? = some n) : txOf (joinT ns k t) op = txOf ns op := by
  have e1 : joinT ns k t = ns.set k { n with words := n.words ++ t } := by unfold joinT; rw [hk]
  unfold txOf
  rw [e1, textAt_same (by simp) (set_same3 (n' := { n with words := n.words ++ t }) hk rfl rfl rfl)]
theorem Inv.shut {ns : List Nd} {op : List Nat} {i : Nat} (h : Inv ns op i) (A B : ByteArray → Bool) : Inv ns (shutM ns A B op op) i := by
  obtain ⟨a, b, _⟩ := shut_chain (A := A) (B := B) h.chain h.chain (Nat.le_refl _)
  exact ⟨h.wf, a, Nat.le_trans b h.few, h.words, h.attrs⟩
end Go.Proofs.YtkaeenafejdkfaaGreatDoor

/- The program: a text is joined, or put into the tree. -/
namespace Go.Proofs.YtkaeenafejdkfaaGreatDoor
open Go.RowKit

/-- what a piece makes of a grower -/
def GOut (w : World) (gb tb : Nat) (r : Option (List Nd × List Nat)) (u : Nat) (M Mo : Nat → Lab) (i : Nat) (bv : Value) (e : Ending) (w' : World) : Prop := match r with
  | some (ns, op) => e = .returned (.tuple #[]) ∧ GDone w gb tb ns op (txOf ns op) u M Mo w'
  | none => Thrown i bv e w' ∧ ∃ M' Mo', GMv gb w M Mo w' M' Mo'
section
variable {w : World} {gb tb : Nat} {ns : List Nd} {op : List Nat} {tx u : Nat} {M Mo : Nat → Lab}
theorem GS.words (h : GS w gb tb ns op tx u M Mo) {i : Nat} {n : Nd} (hn : ns[i]? = some n) :
    Calls Tryz.prog 51 #[.pointer (some ⟨tb, 0, none⟩), .int .i64 i] w fun e w' => e = .returned (.string n.words) ∧ w' = w := by
  obtain ⟨nv, uv, ps, us, h1, h2, h3⟩ := h.tree
  obtain ⟨p, hp, rfl⟩ := node_back h2 hn
  exact words_any h1 hp
theorem GS.say (h : GS w gb tb ns op tx u M Mo) (hu : u ≤ 1000000) {i : Nat} {n : Nd} (hn : ns[i]? = some n) (hk : n.kind = 3) (t : ByteArray) (ht : t.size ≤ 20000) :
    Calls Tryz.prog 139 #[.pointer (some ⟨tb, 0, none⟩), .int .i64 i, .string t] w fun e w' => e = .returned .nilIface ∧ ∃ M', GS w' gb tb (ns.set i { n with words := t }) op tx (u + 1) M' Mo ∧ GMv gb w M Mo w' M' Mo := by
  obtain ⟨nv, uv, ps, us, h1, h2, h3⟩ := h.tree
  obtain ⟨p, hp, rfl⟩ := node_back h2 hn
  refine (sayG h1 (by omega) hp (by unfold kidsB; rw [decide_eq_false_iff_not]; omega) t ht).mono ?_
  rintro e w' ⟨rfl, M', nv', uv', ps', f, hL, hn', hm⟩
  exact ⟨rfl, M', h.change hL (by rw [hn', h2]) (by simp; omega) hm⟩
theorem GS.made {n : Nd} {p : Pn} {e : Ending} {w' : World} {ps : List Pn} {us : List Value} (h : GS w gb tb ns op tx u M Mo) (h2 : nodesOf ps = ns) (h3 : us.length ≤ u) (hm : Made w M tb ps us p e w') (hp : p.n = n) : e = .returned (.tuple #[.int .i64 ns.length, .nilIface]) ∧ ∃ M', GS w' gb tb (ns ++ [n]) op tx (u + 1) M' Mo ∧ GMv gb w M Mo w' M' Mo := by
  obtain ⟨rfl, M', nv', uv', f, hL, _, hmv⟩ := hm
  refine ⟨by rw [← h2]; simp [nodesOf], M', h.change hL (by rw [← h2, ← hp]; simp [nodesOf]) (by simp; omega) hmv⟩
theorem GS.mkText (h : GS w gb tb ns op tx u M Mo) (hu : u ≤ 1000000) (hl : ns.length < 400) (t : ByteArray) (ht : t.size ≤ 20000) :
    Calls Tryz.prog 40 #[.pointer (some ⟨tb, 0, none⟩), .string t] w fun e w' => e = .returned (.tuple #[.int .i64 ns.length, .nilIface]) ∧ ∃ M', GS w' gb tb (ns ++ [textN t]) op tx (u + 1) M' Mo ∧ GMv gb w M Mo w' M' Mo := by
  obtain ⟨nv, uv, ps, us, h1, h2, h3⟩ := h.tree
  have hpl : ps.length = ns.length := by rw [← h2]; simp [nodesOf]
  exact (text_good h1 (by omega) (by omega) t ht).mono fun e w' hm => h.made h2 h3 hm rfl
theorem GS.mkComment (h : GS w gb tb ns op tx u M Mo) (hu : u ≤ 1000000) (hl : ns.length < 400) (t : ByteArray) (ht : t.size ≤ 20000) :
    Calls Tryz.prog 39 #[.pointer (some ⟨tb, 0, none⟩), .string t] w fun e w' => e = .returned (.tuple #[.int .i64 ns.length, .nilIface]) ∧ ∃ M', GS w' gb tb (ns ++ [comN t]) op tx (u + 1) M' Mo ∧ GMv gb w M Mo w' M' Mo := by
  obtain ⟨nv, uv, ps, us, h1, h2, h3⟩ := h.tree
  have hpl : ps.length = ns.length := by rw [← h2]; simp [nodesOf]
  exact (comment_good h1 (by omega) (by omega) t ht).mono fun e w' hm => h.made h2 h3 hm rfl
theorem GS.mkElement (h : GS w gb tb ns op tx u M Mo) (hu : u ≤ 1000000) (hl : ns.length < 400) (t : ByteArray) (ht : nameB t = true) :
    Calls Tryz.prog 38 #[.pointer (some ⟨tb, 0, none⟩), .string t] w fun e w' => e = .returned (.tuple #[.int .i64 ns.length, .nilIface]) ∧ ∃ M', GS w' gb tb (ns ++ [elN t []]) op tx (u + 1) M' Mo ∧ GMv gb w M Mo w' M' Mo := by
  obtain ⟨nv, uv, ps, us, h1, h2, h3⟩ := h.tree
  have hpl : ps.length = ns.length := by rw [← h2]; simp [nodesOf]
  exact (element_good h1 (by omega) (by omega) t ht).mono fun e w' hm => h.made h2 h3 hm rfl
theorem GS.noText (h : GS w gb tb ns op tx u M Mo) (hl : ns.length = 400) (t : ByteArray) :
    Calls Tryz.prog 40 #[.pointer (some ⟨tb, 0, none⟩), .string t] w fun e w' => ∃ v, e = .returned (.tuple #[.int .i64 0, v]) ∧ isErr v ∧ w.cell? ⟨0, 0, none⟩ = some v ∧ Below w.heap.size w w' := by
  obtain ⟨nv, uv, ps, us, h1, h2, h3⟩ := h.tree
  have hpl : ps.length = ns.length := by rw [← h2]; simp [nodesOf]
  exact textX_bad h1 h.errs (by omega) t (.inr (by omega))
theorem GS.noComment (h : GS w gb tb ns op tx u M Mo) (hl : ns.length = 400) (t : ByteArray) :
    Calls Tryz.prog 39 #[.pointer (some ⟨tb, 0, none⟩), .string t] w fun e w' => ∃ v, e = .returned (.tuple #[.int .i64 0, v]) ∧ isErr v ∧ w.cell? ⟨0, 0, none⟩ = some v ∧ Below w.heap.size w w' := by
  obtain ⟨nv, uv, ps, us, h1, h2, h3⟩ := h.tree
  have hpl : ps.length = ns.length := by rw [← h2]; simp [nodesOf]
  exact commentX_bad h1 h.errs (by omega) t (.inr (by omega))
theorem GS.noElement (h : GS w gb tb ns op tx u M Mo) (hl : ns.length = 400) (t : ByteArray) (ht : nameB t = true) :
    Calls Tryz.prog 38 #[.pointer (some ⟨tb, 0, none⟩), .string t] w fun e w' => ∃ v, e = .returned (.tuple #[.int .i64 0, v]) ∧ isErr v ∧ w.cell? ⟨0, 0, none⟩ = some v ∧ Below w.heap.size w w' := by
  obtain ⟨nv, uv, ps, us, h1, h2, h3⟩ := h.tree
  have hpl : ps.length = ns.length := by rw [← h2]; simp [nodesOf]
  exact elementX_full h1 h.errs (by omega) t ht (by omega)
end

set_option maxHeartbeats 4000000 in
set_option maxRecDepth 100000 in
theorem say_join {w : World} {gb tb : Nat} {ns : List Nd} {op : List Nat} {u : Nat} {M Mo : Nat → Lab} {k : Nat} {n : Nd} (h : GS w gb tb ns op k u M Mo) (hk : ns[k]? = some n) (h3 : n.kind = 3) (h0 : k ≠ 0) (hu : u ≤ 1000000) (i0 : Nat) (t : ByteArray) (ht : (n.words ++ t).size ≤ 20000) :
    Calls Tryz.prog 111 #[.pointer (some ⟨gb, 0, none⟩), pcv 1 i0 ⟨#[]⟩ t (.slice none 0 0)] w fun e w' => e = .returned (.tuple #[]) ∧ GDone w gb tb (joinT ns k t) op k (u + 1) M Mo w' := by
  have hj : joinT ns k t = ns.set k { n with words := n.words ++ t } := by unfold joinT; rw [hk]
  rw [hj]
  have HB0 : Hid (∀ o, Below w.heap.size w (w.alloc o)) := fun o => (Below.refl _ _).alloc (Nat.le_refl _) _
  have H1 := hid (h.below (HB0.out (.cells #[.int .i64 1, .int .i64 i0, .string ⟨#[]⟩, .string t, .slice none 0 0] 121)))
  have HV1 : Hid (GMv gb w M Mo (w.alloc (.cells #[.int .i64 1, .int .i64 i0, .string ⟨#[]⟩, .string t, .slice none 0 0] 121)) M Mo) := GMv.below (HB0.out _)
  obtain ⟨a, cap, hg, hrow⟩ := h.head
  obtain ⟨d0, d1, d2, df⟩ := three_cells hg
  have hgl := lt_of_heap hg
  have hk0 : ¬ (k : Int) = 0 := by omega
  have ht2 : n.words.size + t.size ≤ 20000 := by rw [ByteArray.size_append] at ht; exact ht
  have ht3 : (n.words.size : Int) + (t.size : Int) ≤ 20000 := by omega
  have HK := hid hk
  unfold pcv
  clear h hrow hg hk hj
  go_enter Tryz.func111, Tryz.ntmps111
  go_wp2_with fail
  have hpb := heap_alloc_new w (.cells #[.int .i64 1, .int .i64 i0, .string ⟨#[]⟩, .string t, .slice none 0 0] 121)
  obtain ⟨p0, p1, p2, p3, p4, pf⟩ := five_cells hpb
  generalize w.alloc (.cells #[.int .i64 1, .int .i64 i0, .string ⟨#[]⟩, .string t, .slice none 0 0] 121) = w1 at *
  obtain ⟨a1, cap1, hg1, hrow1⟩ := H1.out.head
  obtain ⟨e0, e1, e2, ef⟩ := three_cells hg1
  clear hg1 hrow1 d0 d1 d2 df HB0 hpb
  have h9 : ¬ n.words.size + t.size > 9223372036854775807 := by omega
  go_still_tail 20, (by kernel_rfl)
  still_call (GS.words (H1.out.below ((Below.refl _ _).drew)) HK.out)
  repeat still_step
  refine wpStill_nil ?_
  go_wp2_with ((go_at_call 139; refine (GS.say (H1.out.below ((Below.refl _ _).drew)) hu HK.out h3 _ ht).mono ?_; rintro e w3 ⟨rfl, M3, hG3, hV3⟩; have H3 : Hid (GS w3 gb tb (ns.set k { n with words := n.words ++ t }) op k (u + 1) M3 Mo ∧ GMv gb w M Mo w3 M3 Mo) := ⟨hG3, HV1.out.trans ((GMv.below ((Below.refl _ _).drew)).trans hV3)⟩; clear hG3 hV3))
  refine bodyPost_ret (results_none rfl _ _ _) rfl ?_
  exact ⟨rfl, M3, Mo, H3.out.1, H3.out.2⟩

set_option maxHeartbeats 4000000 in
set_option maxRecDepth 100000 in
theorem say_new {w : World} {gb tb : Nat} {ns : List Nd} {op : List Nat} {u : Nat} {M Mo : Nat → Lab} (h : GS w gb tb ns op 0 u M Mo) (hW : WF ns) (hC : Chain ns op) (hl : ns.length < 400) (hop : op.length ≤ 1000) (hu : u + 1 ≤ 1000000) (i0 : Nat) (t : ByteArray) (ht : t.size ≤ 20000) :
    Calls Tryz.prog 111 #[.pointer (some ⟨gb, 0, none⟩), pcv 1 i0 ⟨#[]⟩ t (.slice none 0 0)] w fun e w' => e = .returned (.tuple #[]) ∧ GDone w gb tb (addN ns (inn op) (textN t)) op ns.length (u + 1 + 1) M Mo w' := by
  have HB0 : Hid (∀ o, Below w.heap.size w (w.alloc o)) := fun o => (Below.refl _ _).alloc (Nat.le_refl _) _
  have H1 := hid (h.below (HB0.out (.cells #[.int .i64 1, .int .i64 i0, .string ⟨#[]⟩, .string t, .slice none 0 0] 121)))
  have HV1 : Hid (GMv gb w M Mo (w.alloc (.cells #[.int .i64 1, .int .i64 i0, .string ⟨#[]⟩, .string t, .slice none 0 0] 121)) M Mo) := GMv.below (HB0.out _)
  obtain ⟨a, cap, hg, hrow⟩ := h.head
  obtain ⟨d0, d1, d2, df⟩ := three_cells hg
  have hgl := lt_of_heap hg
  have HW := hid hW
  have HC := hid hC
  have HMP : Hid (M w.heap.size = .other ∧ Mo w.heap.size = .other) := by
    obtain ⟨_, _, _, _, hL, _, _⟩ := h.tree
    exact ⟨hL.fresh _ (Nat.le_refl _), h.fresh _ (Nat.le_refl _)⟩
  unfold pcv
  clear h hrow hg hW hC
  go_enter Tryz.func111, Tryz.ntmps111
  go_wp2_with fail
  have hpb := heap_alloc_new w (.cells #[.int .i64 1, .int .i64 i0, .string ⟨#[]⟩, .string t, .slice none 0 0] 121)
  obtain ⟨p0, p1, p2, p3, p4, pf⟩ := five_cells hpb
  have hwl : w.heap.size < (w.alloc (.cells #[.int .i64 1, .int .i64 i0, .string ⟨#[]⟩, .string t, .slice none 0 0] 121)).heap.size := by simp
  generalize w.alloc (.cells #[.int .i64 1, .int .i64 i0, .string ⟨#[]⟩, .string t, .slice none 0 0] 121) = w1 at *
  obtain ⟨a1, cap1, hg1, hrow1⟩ := H1.out.head
  obtain ⟨e0, e1, e2, ef⟩ := three_cells hg1
  have HPB := hid hpb
  clear hg1 hrow1 d0 d1 d2 df HB0 hpb
  go_region_with ((go_at_call 40; refine (GS.mkText (H1.out.below ((Below.refl _ _).drew)) (by omega) hl t ht).mono ?_; rintro e w3 ⟨rfl, M3, hG3, hV3⟩; have H3 : Hid (GS w3 gb tb (ns ++ [textN t]) op 0 (u + 1) M3 Mo ∧ GMv gb w M Mo w3 M3 Mo) := ⟨hG3, HV1.out.trans ((GMv.below ((Below.refl _ _).drew)).trans hV3)⟩; have hp3 := (hV3.keep w.heap.size hwl HMP.out.1 HMP.out.2 (by omega)).1.trans HPB.out; obtain ⟨r0, r1, r2, r3, r4, rf⟩ := five_cells hp3; clear hG3 hV3 hp3))
  all_goals (
    go_wp2_with fail
    refine (add_good H3.out.1 HW.out HC.out hl rfl rfl hu hop 1 i0 ⟨#[]⟩ t none 0 0).mono ?_
    rintro e w4 ⟨rfl, M4, Mo4, hG4, hV4⟩
    obtain ⟨a4, cap4, hg4, _⟩ := hG4.head
    obtain ⟨f0, f1, f2, ff⟩ := three_cells hg4
    obtain ⟨z1, z2⟩ := hG4.text ns.length ns.length rfl
    have H4 := hid (And.intro z1 (H3.out.2.trans (hV4.trans z2)))
    clear hG4 hV4 hg4 z1 z2
    go_wp2_with fail
    go_end0
    exact ⟨rfl, M4, Mo4, H4.out.1, H4.out.2⟩)

set_option maxHeartbeats 4000000 in
set_option maxRecDepth 100000 in
theorem say_bad {w : World} {gb tb : Nat} {ns : List Nd} {op : List Nat} {u : Nat} {M Mo : Nat → Lab} (h : GS w gb tb ns op 0 u M Mo) (hl : ns.length = 400) (i0 : Nat) (t : ByteArray) (bv : Value) (hbv : w.cell? ⟨0, 0, none⟩ = some bv) :
    Calls Tryz.prog 111 #[.pointer (some ⟨gb, 0, none⟩), pcv 1 i0 ⟨#[]⟩ t (.slice none 0 0)] w fun e w' => Thrown i0 bv e w' ∧ Below w.heap.size w w' := by
  have HB0 : Hid (∀ o, Below w.heap.size w (w.alloc o)) := fun o => (Below.refl _ _).alloc (Nat.le_refl _) _
  have H1 := hid (h.below (HB0.out (.cells #[.int .i64 1, .int .i64 i0, .string ⟨#[]⟩, .string t, .slice none 0 0] 121)))
  have HV1 := hid (HB0.out (.cells #[.int .i64 1, .int .i64 i0, .string ⟨#[]⟩, .string t, .slice none 0 0] 121))
  obtain ⟨a, cap, hg, hrow⟩ := h.head
  obtain ⟨d0, d1, d2, df⟩ := three_cells hg
  have hgl := lt_of_heap hg
  have hel := World.block_lt_of_cell? w _ hbv
  have HE : Hid ((w.alloc (.cells #[.int .i64 1, .int .i64 i0, .string ⟨#[]⟩, .string t, .slice none 0 0] 121)).cell? ⟨0, 0, none⟩ = some bv) := (HV1.out.cell (p := ⟨0, 0, none⟩) hel).trans hbv
  unfold pcv
  clear h hrow hg hbv
  go_enter Tryz.func111, Tryz.ntmps111
  go_wp2_with fail
  have hpb := heap_alloc_new w (.cells #[.int .i64 1, .int .i64 i0, .string ⟨#[]⟩, .string t, .slice none 0 0] 121)
  obtain ⟨p0, p1, p2, p3, p4, pf⟩ := five_cells hpb
  have hwl : w.heap.size < (w.alloc (.cells #[.int .i64 1, .int .i64 i0, .string ⟨#[]⟩, .string t, .slice none 0 0] 121)).heap.size := by simp
  generalize w.alloc (.cells #[.int .i64 1, .int .i64 i0, .string ⟨#[]⟩, .string t, .slice none 0 0] 121) = w1 at *
  obtain ⟨a1, cap1, hg1, hrow1⟩ := H1.out.head
  obtain ⟨e0, e1, e2, ef⟩ := three_cells hg1
  have HPB := hid hpb
  clear hg1 hrow1 d0 d1 d2 df HB0 hpb
  go_region_with ((go_at_call 40; refine (GS.noText (H1.out.below ((Below.refl _ _).drew)) hl t).mono ?_; rintro e w3 ⟨v, rfl, ⟨vt, vx, rfl⟩, hvc, hB3⟩; have H3 : Hid (Below w1.heap.size w1 w3 ∧ w1.cell? ⟨0, 0, none⟩ = some (.iface vt (.pointer (some vx)))) := ⟨(Below.refl _ _).drew.trans hB3, hvc⟩; have hp3 := (H3.out.1.block w.heap.size hwl).trans HPB.out; obtain ⟨r0, r1, r2, r3, r4, rf⟩ := five_cells hp3; clear hB3 hvc hp3))
  all_goals (
    go_wp2_with fail
    obtain rfl := Option.some.inj (HE.out.symm.trans H3.out.2)
    refine (add_bad (gb := gb) vt vx _ ⟨vt, vx, rfl⟩ ((H3.out.1.cell (p := ⟨0, 0, none⟩) (by have := HV1.out.size; show 0 < w1.heap.size; omega)).trans H3.out.2) 1 i0 ⟨#[]⟩ t none 0 0 0).mono ?_
    rintro e w4 ⟨⟨fb, rfl, hfb⟩, hB4⟩
    exact ⟨rfl, ⟨fb, rfl, hfb⟩, HV1.out.trans ((H3.out.1.trans (hB4.mono H3.out.1.size)).mono HV1.out.size)⟩)

/-- what a text makes of a grower -/
theorem say_any {w : World} {gb tb : Nat} {ns : List Nd} {op : List Nat} {u i0 e0 : Nat} {M Mo : Nat → Lab} (h : GS w gb tb ns op (txOf ns op) u M Mo) (hI : Inv ns op i0) (hu : u + 1 ≤ 1000000) (t : ByteArray) (he : i0 ≤ e0) (he2 : e0 ≤ 20000) (ht : t.size ≤ e0 - i0) (bv : Value) (hbv : w.cell? ⟨0, 0, none⟩ = some bv) :
    Calls Tryz.prog 111 #[.pointer (some ⟨gb, 0, none⟩), pcv 1 i0 ⟨#[]⟩ t (.slice none 0 0)] w (GOut w gb tb ((textM ns (inn op) t).map fun x => (x, op)) (u + 1 + 1) M Mo i0 bv) := by
  unfold textM
  cases hx : textAt ns (inn op) with
  | some k =>
    have htx : txOf ns op = k := by unfold txOf; rw [hx]; rfl
    rw [htx] at h
    obtain ⟨n, hn, h3, h0⟩ := textAt_some hI.wf hx
    have hw := hI.words k n hn
    refine (say_join h hn h3 h0 (by omega) i0 t (by rw [ByteArray.size_append]; omega)).mono ?_
    rintro e w' ⟨rfl, M', Mo', hG, hV⟩
    refine ⟨rfl, M', Mo', ?_, hV⟩
    rw [join_tx hn, htx]
    obtain ⟨nv, uv, ps, us, h1, h2, h3⟩ := hG.tree
    exact ⟨⟨nv, uv, ps, us, h1, h2, by omega⟩, hG.head, hG.gm, hG.gO, hG.apart, hG.fresh, hG.errs, hG.errO⟩
  | none =>
    have htx : txOf ns op = 0 := by unfold txOf; rw [hx]; rfl
    rw [htx] at h
    simp only
    by_cases hl : ns.length < 400
    · rw [if_pos hl]
      obtain ⟨m, hm, _⟩ := hI.chain.inner hI.wf
      refine (say_new h hI.wf hI.chain hl (by have := hI.few; omega) hu i0 t (by omega)).mono ?_
      rintro e w' ⟨rfl, M', Mo', hG, hV⟩
      refine ⟨rfl, M', Mo', ?_, hV⟩
      have : txOf (addN ns (inn op) (textN t)) op = ns.length := by unfold txOf; rw [textAt_new hm]; rfl
      rw [this]
      exact hG
    · rw [if_neg hl]
      refine (say_bad h (by have := hI.wf.len; omega) i0 t bv hbv).mono ?_
      rintro e w' ⟨hT, hB⟩
      exact ⟨hT, M, Mo, GMv.below hB⟩
end Go.Proofs.YtkaeenafejdkfaaGreatDoor

/- The program: which elements have nothing in them, and what a start tag closes. -/
namespace Go.Proofs.YtkaeenafejdkfaaGreatDoor
open Go.RowKit

def voidB (s : ByteArray) : Bool := decide (s.toList = [98, 114] ∨ s.toList = [104, 114] ∨ s.toList = [105, 109, 103] ∨ s.toList = [105, 110, 112, 117, 116] ∨ s.toList = [108, 105, 110, 107] ∨ s.toList = [109, 101, 116, 97] ∨ s.toList = [119, 98, 114])
def closeT (s : ByteArray) : List ByteArray × List ByteArray :=
  if s.toList = [108, 105] then ([⟨#[108, 105]⟩], [⟨#[117, 108]⟩, ⟨#[111, 108]⟩])
  else if s.toList = [100, 116] ∨ s.toList = [100, 100] then ([⟨#[100, 116]⟩, ⟨#[100, 100]⟩], [⟨#[100, 108]⟩])
  else if s.toList = [111, 112, 116, 105, 111, 110] then ([⟨#[111, 112, 116, 105, 111, 110]⟩], [⟨#[115, 101, 108, 101, 99, 116]⟩])
  else if s.toList = [116, 114] then ([⟨#[116, 114]⟩], [⟨#[116, 97, 98, 108, 101]⟩])
  else if s.toList = [116, 100] ∨ s.toList = [116, 104] then ([⟨#[116, 100]⟩, ⟨#[116, 104]⟩], [⟨#[116, 114]⟩, ⟨#[116, 97, 98, 108, 101]⟩])
  else if s.toList = [100, 105, 118] ∨ s.toList = [112] ∨ s.toList = [117, 108] ∨ s.toList = [111, 108] ∨ s.toList = [100, 108] ∨ s.toList = [116, 97, 98, 108, 101] ∨ s.toList = [104, 49] ∨ s.toList = [104, 50] ∨ s.toList = [104, 51] ∨ s.toList = [112, 114, 101] ∨ s.toList = [115, 101, 99, 116, 105, 111, 110] ∨ s.toList = [102, 111, 114, 109] ∨ s.toList = [104, 114] then ([⟨#[112]⟩], [⟨#[116, 100]⟩, ⟨#[116, 104]⟩, ⟨#[108, 105]⟩, ⟨#[100, 105, 118]⟩, ⟨#[115, 101, 99, 116, 105, 111, 110]⟩, ⟨#[98, 117, 116, 116, 111, 110]⟩])
  else ([], [])
set_option maxHeartbeats 4000000 in
set_option maxRecDepth 100000 in
theorem void_any (s : ByteArray) (w : World) : Calls Tryz.prog 166 #[.string s] w fun e w' => e = .returned (.bool (voidB s)) ∧ w' = w := by
  go_enter Tryz.func166, Tryz.ntmps166
  go_wp2
  all_goals go_light
  all_goals (
    go_ret
    refine ⟨retb ?_, rfl⟩
    unfold voidB
    simp_all)
set_option maxHeartbeats 4000000 in
set_option maxRecDepth 100000 in
theorem staysOpen_any (s : ByteArray) (n : Nat) (w : World) : Calls Tryz.prog 142 #[.string s, .int .i64 n] w fun e w' => e = .returned (.bool (!voidB s && decide (n < 40))) ∧ w' = w := by
  cases hv : voidB s
  all_goals (
    go_enter Tryz.func142, Tryz.ntmps142
    go_wp2_with (go_at_call 166; refine (void_any _ _).mono ?_; rintro e w' ⟨rfl, rfl⟩; rw [hv])
    all_goals go_light
    all_goals (
      go_ret
      refine ⟨retb ?_, rfl⟩
      simp
      try omega))
theorem StrsAt.new (w : World) (A : List ByteArray) (hA : A.length ≤ 100) : StrsAt (w.alloc (.cells (A.map Value.string).toArray 9)) (.slice (some ⟨w.heap.size, 0, none⟩) A.length A.length) A := by
  refine .inr ⟨w.heap.size, A.length, rfl, hA, by simp, fun j hj => ?_⟩
  rw [cell_of_row _ w.heap.size j _ 9 (0, 0) (heap_alloc_new w _)]
  simp [hj]
theorem StrsAt.al {w : World} {v : Value} {A : List ByteArray} (h : StrsAt w v A) (o : Obj) : StrsAt (w.alloc o) v A := h.below ((Below.refl _ _).alloc (Nat.le_refl _) _)
/-- what closing tells -/
def ClosePost (w : World) (A B : List ByteArray) (e : Ending) (w' : World) : Prop := ∃ a1 n1 c1 a2 n2 c2, e = .returned (.tuple #[.slice a1 n1 c1, .slice a2 n2 c2]) ∧ StrsAt w' (.slice a1 n1 c1) A ∧ StrsAt w' (.slice a2 n2 c2) B ∧ Below w.heap.size w w'
theorem close_two (w : World) (A B : List ByteArray) (hA : A.length ≤ 100) (hB : B.length ≤ 100) : ClosePost w A B (.returned (.tuple #[.slice (some ⟨w.heap.size, 0, none⟩) A.length A.length, .slice (some ⟨w.heap.size + 1, 0, none⟩) B.length B.length])) ((w.alloc (.cells (A.map Value.string).toArray 9)).alloc (.cells (B.map Value.string).toArray 9)) := by
  refine ⟨_, _, _, _, _, _, rfl, (StrsAt.new w A hA).al _, ?_, ((Below.refl _ _).alloc (Nat.le_refl _) _).alloc (by simp) _⟩
  have := StrsAt.new (w.alloc (.cells (A.map Value.string).toArray 9)) B hB
  rw [World.size_alloc] at this
  exact this
theorem of_list {s : ByteArray} {l : List UInt8} (h : s.toList = l) : s = ⟨l.toArray⟩ := by
  rw [Lib.toList_data] at h
  exact ByteArray.ext (by rw [← h])
set_option maxHeartbeats 4000000 in
set_option maxRecDepth 100000 in
theorem closing_li (w : World) : Calls Tryz.prog 140 #[.string ⟨#[108, 105]⟩] w (ClosePost w [⟨#[108, 105]⟩] [⟨#[117, 108]⟩, ⟨#[111, 108]⟩]) := by
  go_enter Tryz.func140, Tryz.ntmps140
  go_wp2_with fail
  go_ret2
  exact close_two w [⟨#[108, 105]⟩] [⟨#[117, 108]⟩, ⟨#[111, 108]⟩] (by decide) (by decide)
set_option maxHeartbeats 4000000 in
set_option maxRecDepth 100000 in
theorem closing_dt (w : World) : Calls Tryz.prog 140 #[.string ⟨#[100, 116]⟩] w (ClosePost w [⟨#[100, 116]⟩, ⟨#[100, 100]⟩] [⟨#[100, 108]⟩]) := by
  go_enter Tryz.func140, Tryz.ntmps140
  go_wp2_with fail
  go_ret2
  exact close_two w [⟨#[100, 116]⟩, ⟨#[100, 100]⟩] [⟨#[100, 108]⟩] (by decide) (by decide)
set_option maxHeartbeats 4000000 in
set_option maxRecDepth 100000 in
theorem closing_dd (w : World) : Calls Tryz.prog 140 #[.string ⟨#[100, 100]⟩] w (ClosePost w [⟨#[100, 116]⟩, ⟨#[100, 100]⟩] [⟨#[100, 108]⟩]) := by
  go_enter Tryz.func140, Tryz.ntmps140
  go_wp2_with fail
  go_ret2
  exact close_two w [⟨#[100, 116]⟩, ⟨#[100, 100]⟩] [⟨#[100, 108]⟩] (by decide) (by decide)
set_option maxHeartbeats 4000000 in
set_option maxRecDepth 100000 in
theorem closing_option (w : World) : Calls Tryz.prog 140 #[.string ⟨#[111, 112, 116, 105, 111, 110]⟩] w (ClosePost w [⟨#[111, 112, 116, 105, 111, 110]⟩] [⟨#[115, 101, 108, 101, 99, 116]⟩]) := by
  go_enter Tryz.func140, Tryz.ntmps140
  go_wp2_with fail
  go_ret2
  exact close_two w [⟨#[111, 112, 116, 105, 111, 110]⟩] [⟨#[115, 101, 108, 101, 99, 116]⟩] (by decide) (by decide)
set_option maxHeartbeats 4000000 in
set_option maxRecDepth 100000 in
theorem closing_tr (w : World) : Calls Tryz.prog 140 #[.string ⟨#[116, 114]⟩] w (ClosePost w [⟨#[116, 114]⟩] [⟨#[116, 97, 98, 108, 101]⟩]) := by
  go_enter Tryz.func140, Tryz.ntmps140
  go_wp2_with fail
  go_ret2
  exact close_two w [⟨#[116, 114]⟩] [⟨#[116, 97, 98, 108, 101]⟩] (by decide) (by decide)
set_option maxHeartbeats 4000000 in
set_option maxRecDepth 100000 in
theorem closing_td (w : World) : Calls Tryz.prog 140 #[.string ⟨#[116, 100]⟩] w (ClosePost w [⟨#[116, 100]⟩, ⟨#[116, 104]⟩] [⟨#[116, 114]⟩, ⟨#[116, 97, 98, 108, 101]⟩]) := by
  go_enter Tryz.func140, Tryz.ntmps140
  go_wp2_with fail
  go_ret2
  exact close_two w [⟨#[116, 100]⟩, ⟨#[116, 104]⟩] [⟨#[116, 114]⟩, ⟨#[116, 97, 98, 108, 101]⟩] (by decide) (by decide)
set_option maxHeartbeats 4000000 in
set_option maxRecDepth 100000 in
theorem closing_th (w : World) : Calls Tryz.prog 140 #[.string ⟨#[116, 104]⟩] w (ClosePost w [⟨#[116, 100]⟩, ⟨#[116, 104]⟩] [⟨#[116, 114]⟩, ⟨#[116, 97, 98, 108, 101]⟩]) := by
  go_enter Tryz.func140, Tryz.ntmps140
  go_wp2_with fail
  go_ret2
  exact close_two w [⟨#[116, 100]⟩, ⟨#[116, 104]⟩] [⟨#[116, 114]⟩, ⟨#[116, 97, 98, 108, 101]⟩] (by decide) (by decide)
set_option maxHeartbeats 4000000 in
set_option maxRecDepth 100000 in
theorem closing_div (w : World) : Calls Tryz.prog 140 #[.string ⟨#[100, 105, 118]⟩] w (ClosePost w [⟨#[112]⟩] [⟨#[116, 100]⟩, ⟨#[116, 104]⟩, ⟨#[108, 105]⟩, ⟨#[100, 105, 118]⟩, ⟨#[115, 101, 99, 116, 105, 111, 110]⟩, ⟨#[98, 117, 116, 116, 111, 110]⟩]) := by
  go_enter Tryz.func140, Tryz.ntmps140
  go_wp2_with fail
  go_ret2
  exact close_two w [⟨#[112]⟩] [⟨#[116, 100]⟩, ⟨#[116, 104]⟩, ⟨#[108, 105]⟩, ⟨#[100, 105, 118]⟩, ⟨#[115, 101, 99, 116, 105, 111, 110]⟩, ⟨#[98, 117, 116, 116, 111, 110]⟩] (by decide) (by decide)
set_option maxHeartbeats 4000000 in
set_option maxRecDepth 100000 in
theorem closing_p (w : World) : Calls Tryz.prog 140 #[.string ⟨#[112]⟩] w (ClosePost w [⟨#[112]⟩] [⟨#[116, 100]⟩, ⟨#[116, 104]⟩, ⟨#[108, 105]⟩, ⟨#[100, 105, 118]⟩, ⟨#[115, 101, 99, 116, 105, 111, 110]⟩, ⟨#[98, 117, 116, 116, 111, 110]⟩]) := by
  go_enter Tryz.func140, Tryz.ntmps140
  go_wp2_with fail
  go_ret2
  exact close_two w [⟨#[112]⟩] [⟨#[116, 100]⟩, ⟨#[116, 104]⟩, ⟨#[108, 105]⟩, ⟨#[100, 105, 118]⟩, ⟨#[115, 101, 99, 116, 105, 111, 110]⟩, ⟨#[98, 117, 116, 116, 111, 110]⟩] (by decide) (by decide)
set_option maxHeartbeats 4000000 in
set_option maxRecDepth 100000 in
theorem closing_ul (w : World) : Calls Tryz.prog 140 #[.string ⟨#[117, 108]⟩] w (ClosePost w [⟨#[112]⟩] [⟨#[116, 100]⟩, ⟨#[116, 104]⟩, ⟨#[108, 105]⟩, ⟨#[100, 105, 118]⟩, ⟨#[115, 101, 99, 116, 105, 111, 110]⟩, ⟨#[98, 117, 116, 116, 111, 110]⟩]) := by
  go_enter Tryz.func140, Tryz.ntmps140
  go_wp2_with fail
  go_ret2
  exact close_two w [⟨#[112]⟩] [⟨#[116, 100]⟩, ⟨#[116, 104]⟩, ⟨#[108, 105]⟩, ⟨#[100, 105, 118]⟩, ⟨#[115, 101, 99, 116, 105, 111, 110]⟩, ⟨#[98, 117, 116, 116, 111, 110]⟩] (by decide) (by decide)
set_option maxHeartbeats 4000000 in
set_option maxRecDepth 100000 in
theorem closing_ol (w : World) : Calls Tryz.prog 140 #[.string ⟨#[111, 108]⟩] w (ClosePost w [⟨#[112]⟩] [⟨#[116, 100]⟩, ⟨#[116, 104]⟩, ⟨#[108, 105]⟩, ⟨#[100, 105, 118]⟩, ⟨#[115, 101, 99, 116, 105, 111, 110]⟩, ⟨#[98, 117, 116, 116, 111, 110]⟩]) := by
  go_enter Tryz.func140, Tryz.ntmps140
  go_wp2_with fail
  go_ret2
  exact close_two w [⟨#[112]⟩] [⟨#[116, 100]⟩, ⟨#[116, 104]⟩, ⟨#[108, 105]⟩, ⟨#[100, 105, 118]⟩, ⟨#[115, 101, 99, 116, 105, 111, 110]⟩, ⟨#[98, 117, 116, 116, 111, 110]⟩] (by decide) (by decide)
set_option maxHeartbeats 4000000 in
set_option maxRecDepth 100000 in
theorem closing_dl (w : World) : Calls Tryz.prog 140 #[.string ⟨#[100, 108]⟩] w (ClosePost w [⟨#[112]⟩] [⟨#[116, 100]⟩, ⟨#[116, 104]⟩, ⟨#[108, 105]⟩, ⟨#[100, 105, 118]⟩, ⟨#[115, 101, 99, 116, 105, 111, 110]⟩, ⟨#[98, 117, 116, 116, 111, 110]⟩]) := by
  go_enter Tryz.func140, Tryz.ntmps140
  go_wp2_with fail
  go_ret2
  exact close_two w [⟨#[112]⟩] [⟨#[116, 100]⟩, ⟨#[116, 104]⟩, ⟨#[108, 105]⟩, ⟨#[100, 105, 118]⟩, ⟨#[115, 101, 99, 116, 105, 111, 110]⟩, ⟨#[98, 117, 116, 116, 111, 110]⟩] (by decide) (by decide)
set_option maxHeartbeats 4000000 in
set_option maxRecDepth 100000 in
theorem closing_table (w : World) : Calls Tryz.prog 140 #[.string ⟨#[116, 97, 98, 108, 101]⟩] w (ClosePost w [⟨#[112]⟩] [⟨#[116, 100]⟩, ⟨#[116, 104]⟩, ⟨#[108, 105]⟩, ⟨#[100, 105, 118]⟩, ⟨#[115, 101, 99, 116, 105, 111, 110]⟩, ⟨#[98, 117, 116, 116, 111, 110]⟩]) := by
  go_enter Tryz.func140, Tryz.ntmps140
  go_wp2_with fail
  go_ret2
  exact close_two w [⟨#[112]⟩] [⟨#[116, 100]⟩, ⟨#[116, 104]⟩, ⟨#[108, 105]⟩, ⟨#[100, 105, 118]⟩, ⟨#[115, 101, 99, 116, 105, 111, 110]⟩, ⟨#[98, 117, 116, 116, 111, 110]⟩] (by decide) (by decide)
set_option maxHeartbeats 4000000 in
set_option maxRecDepth 100000 in
theorem closing_h1 (w : World) : Calls Tryz.prog 140 #[.string ⟨#[104, 49]⟩] w (ClosePost w [⟨#[112]⟩] [⟨#[116, 100]⟩, ⟨#[116, 104]⟩, ⟨#[108, 105]⟩, ⟨#[100, 105, 118]⟩, ⟨#[115, 101, 99, 116, 105, 111, 110]⟩, ⟨#[98, 117, 116, 116, 111, 110]⟩]) := by
  go_enter Tryz.func140, Tryz.ntmps140
  go_wp2_with fail
  go_ret2
  exact close_two w [⟨#[112]⟩] [⟨#[116, 100]⟩, ⟨#[116, 104]⟩, ⟨#[108, 105]⟩, ⟨#[100, 105, 118]⟩, ⟨#[115, 101, 99, 116, 105, 111, 110]⟩, ⟨#[98, 117, 116, 116, 111, 110]⟩] (by decide) (by decide)
set_option maxHeartbeats 4000000 in
set_option maxRecDepth 100000 in
theorem closing_h2 (w : World) : Calls Tryz.prog 140 #[.string ⟨#[104, 50]⟩] w (ClosePost w [⟨#[112]⟩] [⟨#[116, 100]⟩, ⟨#[116, 104]⟩, ⟨#[108, 105]⟩, ⟨#[100, 105, 118]⟩, ⟨#[115, 101, 99, 116, 105, 111, 110]⟩, ⟨#[98, 117, 116, 116, 111, 110]⟩]) := by
  go_enter Tryz.func140, Tryz.ntmps140
  go_wp2_with fail
  go_ret2
  exact close_two w [⟨#[112]⟩] [⟨#[116, 100]⟩, ⟨#[116, 104]⟩, ⟨#[108, 105]⟩, ⟨#[100, 105, 118]⟩, ⟨#[115, 101, 99, 116, 105, 111, 110]⟩, ⟨#[98, 117, 116, 116, 111, 110]⟩] (by decide) (by decide)
set_option maxHeartbeats 4000000 in
set_option maxRecDepth 100000 in
theorem closing_h3 (w : World) : Calls Tryz.prog 140 #[.string ⟨#[104, 51]⟩] w (ClosePost w [⟨#[112]⟩] [⟨#[116, 100]⟩, ⟨#[116, 104]⟩, ⟨#[108, 105]⟩, ⟨#[100, 105, 118]⟩, ⟨#[115, 101, 99, 116, 105, 111, 110]⟩, ⟨#[98, 117, 116, 116, 111, 110]⟩]) := by
  go_enter Tryz.func140, Tryz.ntmps140
  go_wp2_with fail
  go_ret2
  exact close_two w [⟨#[112]⟩] [⟨#[116, 100]⟩, ⟨#[116, 104]⟩, ⟨#[108, 105]⟩, ⟨#[100, 105, 118]⟩, ⟨#[115, 101, 99, 116, 105, 111, 110]⟩, ⟨#[98, 117, 116, 116, 111, 110]⟩] (by decide) (by decide)
set_option maxHeartbeats 4000000 in
set_option maxRecDepth 100000 in
theorem closing_pre (w : World) : Calls Tryz.prog 140 #[.string ⟨#[112, 114, 101]⟩] w (ClosePost w [⟨#[112]⟩] [⟨#[116, 100]⟩, ⟨#[116, 104]⟩, ⟨#[108, 105]⟩, ⟨#[100, 105, 118]⟩, ⟨#[115, 101, 99, 116, 105, 111, 110]⟩, ⟨#[98, 117, 116, 116, 111, 110]⟩]) := by
  go_enter Tryz.func140, Tryz.ntmps140
  go_wp2_with fail
  go_ret2
  exact close_two w [⟨#[112]⟩] [⟨#[116, 100]⟩, ⟨#[116, 104]⟩, ⟨#[108, 105]⟩, ⟨#[100, 105, 118]⟩, ⟨#[115, 101, 99, 116, 105, 111, 110]⟩, ⟨#[98, 117, 116, 116, 111, 110]⟩] (by decide) (by decide)
set_option maxHeartbeats 4000000 in
set_option maxRecDepth 100000 in
theorem closing_section (w : World) : Calls Tryz.prog 140 #[.string ⟨#[115, 101, 99, 116, 105, 111, 110]⟩] w (ClosePost w [⟨#[112]⟩] [⟨#[116, 100]⟩, ⟨#[116, 104]⟩, ⟨#[108, 105]⟩, ⟨#[100, 105, 118]⟩, ⟨#[115, 101, 99, 116, 105, 111, 110]⟩, ⟨#[98, 117, 116, 116, 111, 110]⟩]) := by
  go_enter Tryz.func140, Tryz.ntmps140
  go_wp2_with fail
  go_ret2
  exact close_two w [⟨#[112]⟩] [⟨#[116, 100]⟩, ⟨#[116, 104]⟩, ⟨#[108, 105]⟩, ⟨#[100, 105, 118]⟩, ⟨#[115, 101, 99, 116, 105, 111, 110]⟩, ⟨#[98, 117, 116, 116, 111, 110]⟩] (by decide) (by decide)
set_option maxHeartbeats 4000000 in
set_option maxRecDepth 100000 in
theorem closing_form (w : World) : Calls Tryz.prog 140 #[.string ⟨#[102, 111, 114, 109]⟩] w (ClosePost w [⟨#[112]⟩] [⟨#[116, 100]⟩, ⟨#[116, 104]⟩, ⟨#[108, 105]⟩, ⟨#[100, 105, 118]⟩, ⟨#[115, 101, 99, 116, 105, 111, 110]⟩, ⟨#[98, 117, 116, 116, 111, 110]⟩]) := by
  go_enter Tryz.func140, Tryz.ntmps140
  go_wp2_with fail
  go_ret2
  exact close_two w [⟨#[112]⟩] [⟨#[116, 100]⟩, ⟨#[116, 104]⟩, ⟨#[108, 105]⟩, ⟨#[100, 105, 118]⟩, ⟨#[115, 101, 99, 116, 105, 111, 110]⟩, ⟨#[98, 117, 116, 116, 111, 110]⟩] (by decide) (by decide)
set_option maxHeartbeats 4000000 in
set_option maxRecDepth 100000 in
theorem closing_hr (w : World) : Calls Tryz.prog 140 #[.string ⟨#[104, 114]⟩] w (ClosePost w [⟨#[112]⟩] [⟨#[116, 100]⟩, ⟨#[116, 104]⟩, ⟨#[108, 105]⟩, ⟨#[100, 105, 118]⟩, ⟨#[115, 101, 99, 116, 105, 111, 110]⟩, ⟨#[98, 117, 116, 116, 111, 110]⟩]) := by
  go_enter Tryz.func140, Tryz.ntmps140
  go_wp2_with fail
  go_ret2
  exact close_two w [⟨#[112]⟩] [⟨#[116, 100]⟩, ⟨#[116, 104]⟩, ⟨#[108, 105]⟩, ⟨#[100, 105, 118]⟩, ⟨#[115, 101, 99, 116, 105, 111, 110]⟩, ⟨#[98, 117, 116, 116, 111, 110]⟩] (by decide) (by decide)
set_option maxHeartbeats 4000000 in
set_option maxRecDepth 100000 in
theorem closing_none (s : ByteArray) (h0 : ¬ s.toList = [108, 105]) (h1 : ¬ s.toList = [100, 116]) (h2 : ¬ s.toList = [100, 100]) (h3 : ¬ s.toList = [111, 112, 116, 105, 111, 110]) (h4 : ¬ s.toList = [116, 114]) (h5 : ¬ s.toList = [116, 100]) (h6 : ¬ s.toList = [116, 104]) (h7 : ¬ s.toList = [100, 105, 118]) (h8 : ¬ s.toList = [112]) (h9 : ¬ s.toList = [117, 108]) (h10 : ¬ s.toList = [111, 108]) (h11 : ¬ s.toList = [100, 108]) (h12 : ¬ s.toList = [116, 97, 98, 108, 101]) (h13 : ¬ s.toList = [104, 49]) (h14 : ¬ s.toList = [104, 50]) (h15 : ¬ s.toList = [104, 51]) (h16 : ¬ s.toList = [112, 114, 101]) (h17 : ¬ s.toList = [115, 101, 99, 116, 105, 111, 110]) (h18 : ¬ s.toList = [102, 111, 114, 109]) (h19 : ¬ s.toList = [104, 114]) (w : World) : Calls Tryz.prog 140 #[.string s] w (ClosePost w [] []) := by
  have e0 : (s.toList == [108, 105]) = false := by rw [beq_eq_false_iff_ne]; exact h0
  have e1 : (s.toList == [100, 116]) = false := by rw [beq_eq_false_iff_ne]; exact h1
  have e2 : (s.toList == [100, 100]) = false := by rw [beq_eq_false_iff_ne]; exact h2
  have e3 : (s.toList == [111, 112, 116, 105, 111, 110]) = false := by rw [beq_eq_false_iff_ne]; exact h3
  have e4 : (s.toList == [116, 114]) = false := by rw [beq_eq_false_iff_ne]; exact h4
  have e5 : (s.toList == [116, 100]) = false := by rw [beq_eq_false_iff_ne]; exact h5
  have e6 : (s.toList == [116, 104]) = false := by rw [beq_eq_false_iff_ne]; exact h6
  have e7 : (s.toList == [100, 105, 118]) = false := by rw [beq_eq_false_iff_ne]; exact h7
  have e8 : (s.toList == [112]) = false := by rw [beq_eq_false_iff_ne]; exact h8
  have e9 : (s.toList == [117, 108]) = false := by rw [beq_eq_false_iff_ne]; exact h9
  have e10 : (s.toList == [111, 108]) = false := by rw [beq_eq_false_iff_ne]; exact h10
  have e11 : (s.toList == [100, 108]) = false := by rw [beq_eq_false_iff_ne]; exact h11
  have e12 : (s.toList == [116, 97, 98, 108, 101]) = false := by rw [beq_eq_false_iff_ne]; exact h12
  have e13 : (s.toList == [104, 49]) = false := by rw [beq_eq_false_iff_ne]; exact h13
  have e14 : (s.toList == [104, 50]) = false := by rw [beq_eq_false_iff_ne]; exact h14
  have e15 : (s.toList == [104, 51]) = false := by rw [beq_eq_false_iff_ne]; exact h15
  have e16 : (s.toList == [112, 114, 101]) = false := by rw [beq_eq_false_iff_ne]; exact h16
  have e17 : (s.toList == [115, 101, 99, 116, 105, 111, 110]) = false := by rw [beq_eq_false_iff_ne]; exact h17
  have e18 : (s.toList == [102, 111, 114, 109]) = false := by rw [beq_eq_false_iff_ne]; exact h18
  have e19 : (s.toList == [104, 114]) = false := by rw [beq_eq_false_iff_ne]; exact h19
  clear h0 h1 h2 h3 h4 h5 h6 h7 h8 h9 h10 h11 h12 h13 h14 h15 h16 h17 h18 h19
  go_enter Tryz.func140, Tryz.ntmps140
  go_wp2_with fail
  go_ret2
  exact ⟨none, 0, 0, none, 0, 0, rfl, .inl ⟨rfl, _, _, rfl⟩, .inl ⟨rfl, _, _, rfl⟩, Below.refl _ _⟩
theorem closing_any (s : ByteArray) (w : World) : Calls Tryz.prog 140 #[.string s] w (ClosePost w (closeT s).1 (closeT s).2) := by
  unfold closeT
  by_cases g0 : s.toList = [108, 105]
  · rw [if_pos g0]
    rw [of_list g0]; exact closing_li w
  by_cases g1 : s.toList = [100, 116] ∨ s.toList = [100, 100]
  · rw [if_neg g0, if_pos g1]
    rcases g1 with h | h
    · rw [of_list h]; exact closing_dt w
    · rw [of_list h]; exact closing_dd w
  by_cases g2 : s.toList = [111, 112, 116, 105, 111, 110]
  · rw [if_neg g0, if_neg g1, if_pos g2]
    rw [of_list g2]; exact closing_option w
  by_cases g3 : s.toList = [116, 114]
  · rw [if_neg g0, if_neg g1, if_neg g2, if_pos g3]
    rw [of_list g3]; exact closing_tr w
  by_cases g4 : s.toList = [116, 100] ∨ s.toList = [116, 104]
  · rw [if_neg g0, if_neg g1, if_neg g2, if_neg g3, if_pos g4]
    rcases g4 with h | h
    · rw [of_list h]; exact closing_td w
    · rw [of_list h]; exact closing_th w
  by_cases g5 : s.toList = [100, 105, 118] ∨ s.toList = [112] ∨ s.toList = [117, 108] ∨ s.toList = [111, 108] ∨ s.toList = [100, 108] ∨ s.toList = [116, 97, 98, 108, 101] ∨ s.toList = [104, 49] ∨ s.toList = [104, 50] ∨ s.toList = [104, 51] ∨ s.toList = [112, 114, 101] ∨ s.toList = [115, 101, 99, 116, 105, 111, 110] ∨ s.toList = [102, 111, 114, 109] ∨ s.toList = [104, 114]
  · rw [if_neg g0, if_neg g1, if_neg g2, if_neg g3, if_neg g4, if_pos g5]
    rcases g5 with h | h | h | h | h | h | h | h | h | h | h | h | h
    · rw [of_list h]; exact closing_div w
    · rw [of_list h]; exact closing_p w
    · rw [of_list h]; exact closing_ul w
    · rw [of_list h]; exact closing_ol w
    · rw [of_list h]; exact closing_dl w
    · rw [of_list h]; exact closing_table w
    · rw [of_list h]; exact closing_h1 w
    · rw [of_list h]; exact closing_h2 w
    · rw [of_list h]; exact closing_h3 w
    · rw [of_list h]; exact closing_pre w
    · rw [of_list h]; exact closing_section w
    · rw [of_list h]; exact closing_form w
    · rw [of_list h]; exact closing_hr w
  rw [if_neg g0, if_neg g1, if_neg g2, if_neg g3, if_neg g4, if_neg g5]
  exact closing_none s g0 (fun h => g1 (.inl h)) (fun h => g1 (.inr h)) g2 g3 (fun h => g4 (.inl h)) (fun h => g4 (.inr h)) (fun h => g5 (.inl h)) (fun h => g5 (.inr (.inl h))) (fun h => g5 (.inr (.inr (.inl h)))) (fun h => g5 (.inr (.inr (.inr (.inl h))))) (fun h => g5 (.inr (.inr (.inr (.inr (.inl h)))))) (fun h => g5 (.inr (.inr (.inr (.inr (.inr (.inl h))))))) (fun h => g5 (.inr (.inr (.inr (.inr (.inr (.inr (.inl h)))))))) (fun h => g5 (.inr (.inr (.inr (.inr (.inr (.inr (.inr (.inl h))))))))) (fun h => g5 (.inr (.inr (.inr (.inr (.inr (.inr (.inr (.inr (.inl h)))))))))) (fun h => g5 (.inr (.inr (.inr (.inr (.inr (.inr (.inr (.inr (.inr (.inl h))))))))))) (fun h => g5 (.inr (.inr (.inr (.inr (.inr (.inr (.inr (.inr (.inr (.inr (.inl h)))))))))))) (fun h => g5 (.inr (.inr (.inr (.inr (.inr (.inr (.inr (.inr (.inr (.inr (.inr (.inl h))))))))))))) (fun h => g5 (.inr (.inr (.inr (.inr (.inr (.inr (.inr (.inr (.inr (.inr (.inr (.inr h))))))))))))) w
end Go.Proofs.YtkaeenafejdkfaaGreatDoor
