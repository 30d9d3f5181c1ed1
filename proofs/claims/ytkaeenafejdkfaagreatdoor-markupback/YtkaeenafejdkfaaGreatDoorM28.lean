/- What pieces make of a tree: texts, and what is known of a tree that grows. -/
import Derived.Test.YtkaeenafejdkfaaGreatDoorM15
import Derived.Test.YtkaeenafejdkfaaGreatDoorGAdd
import Derived.StillTailTactics
namespace Go.Proofs.YtkaeenafejdkfaaGreatDoor

def txOf (ns : List Nd) (op : List Nat) : Nat := (textAt ns (inn op)).getD 0
theorem textAt_new {ns : List Nd} {p : Nat} {m : Nd} (hp : ns[p]? = some m) (n : Nd) : textAt (addN ns p n) p = if n.kind = 3 then some ns.length else none := by
  have hlt : p < ns.length := (List.getElem?_eq_some_iff.1 hp).1
  unfold textAt
  rw [add_get hp, if_neg (by omega), if_pos rfl]
  simp only [List.getLast?_append, List.getLast?_singleton, Option.some_or, Int.toNat_natCast]
  rw [add_get hp, if_pos rfl]
theorem textAt_some {ns : List Nd} (hW : WF ns) {p k : Nat} (h : textAt ns p = some k) : ∃ n, ns[k]? = some n ∧ n.kind = 3 ∧ k ≠ 0 := by
  unfold textAt at h
  split at h
  · rename_i m hm
    split at h
    · rename_i z hz
      split at h
      · rename_i n hn
        split at h
        · rename_i hk
          obtain rfl := Option.some.inj h
          refine ⟨n, hn, hk, fun e => ?_⟩
          obtain ⟨c, m', e1, e2, e3⟩ := hW.kid p m hm z (List.mem_of_getLast? hz)
          obtain ⟨r, r1, _, r3⟩ := hW.root
          have : c = 0 := by omega
          subst this
          rw [r1] at e2
          obtain rfl := Option.some.inj e2
          omega
        · cases h
      · cases h
    · cases h
  · cases h
/-- kinds, parents and kids alone tell where a text is joined -/
theorem textAt_same {ns ns' : List Nd} (hl : ns'.length = ns.length) (hs : ∀ (j : Nat) (n : Nd), ns[j]? = some n → ∃ n' : Nd, ns'[j]? = some n' ∧ n'.kind = n.kind ∧ n'.parent = n.parent ∧ n'.kids = n.kids) (p : Nat) : textAt ns' p = textAt ns p := by
  have hn : ∀ j, ns[j]? = none → ns'[j]? = none := fun j h => by
    rw [List.getElem?_eq_none_iff] at h ⊢; omega
  unfold textAt
  cases h : ns[p]? with
  | none => rw [hn p h]
  | some m =>
    obtain ⟨m', a1, _, _, a4⟩ := hs p m h
    rw [a1]
    simp only [a4]
    cases hk : m.kids.getLast? with
    | none => rfl
    | some z =>
      simp only
      cases hz : ns[z.toNat]? with
      | none => rw [hn _ hz]
      | some n =>
        obtain ⟨n', b1, b2, _, _⟩ := hs _ n hz
        rw [b1]
        simp only [b2]

/-- what is known of a tree that grows -/
structure Inv (ns : List Nd) (op : List Nat) (i : Nat) : Prop where
  wf : WF ns
  chain : Chain ns op
  few : op.length ≤ 40
  words : ∀ (j : Nat) (n : Nd), ns[j]? = some n → n.words.size ≤ i
  attrs : ∀ (j : Nat) (n : Nd), ns[j]? = some n → n.attrs.length ≤ i
theorem Inv.mono {ns : List Nd} {op : List Nat} {i j : Nat} (h : Inv ns op i) (hij : i ≤ j) : Inv ns op j := ⟨h.wf, h.chain, h.few, fun k n hn => Nat.le_trans (h.words k n hn) hij, fun k n hn => Nat.le_trans (h.attrs k n hn) hij⟩
theorem Inv.add {ns : List Nd} {op : List Nat} {i : Nat} (h : Inv ns op i) (hl : ns.length < 400) (n : Nd) (hn : n.parent = -1) (hk : n.kids = []) (hw : n.words.size ≤ i) (ha : n.attrs.length ≤ i) : Inv (addN ns (inn op) n) op i := by
  obtain ⟨m, hm, _⟩ := h.chain.inner h.wf
  refine ⟨h.wf.added hl hm n hn hk, h.chain.add h.wf hm n, h.few, fun j x hx => ?_, fun j x hx => ?_⟩
  · rw [add_get hm] at hx
    split at hx
    · obtain rfl := Option.some.inj hx; exact hw
    · split at hx
      · obtain rfl := Option.some.inj hx; exact h.words _ m hm
      · exact h.words j x hx
  · rw [add_get hm] at hx
    split at hx
    · obtain rfl := Option.some.inj hx; exact ha
    · split at hx
      · obtain rfl := Option.some.inj hx; exact h.attrs _ m hm
      · exact h.attrs j x hx
theorem Inv.open {ns : List Nd} {op : List Nat} {i : Nat} (h : Inv ns op i) (hl : ns.length < 400) (n : Nd) (hn : n.parent = -1) (hk : n.kids = []) (hw : n.words.size ≤ i) (ha : n.attrs.length ≤ i) (h2 : n.kind = 2) (hf : op.length < 40) : Inv (addN ns (inn op) n) (ns.length :: op) i := by
  obtain ⟨m, hm, _⟩ := h.chain.inner h.wf
  have := h.add hl n hn hk hw ha
  exact ⟨this.wf, h.chain.open h.wf hm n h2, by simp; omega, this.words, this.attrs⟩
theorem Inv.join {ns : List Nd} {op : List Nat} {i e k : Nat} (h : Inv ns op i) (t : ByteArray) {n : Nd} (hk : ns[k]? = some n) (hie : i ≤ e) (ht : t.size ≤ e - i) : Inv (joinT ns k t) op e ∧ joinT ns k t = ns.set k { n with words := n.words ++ t } := by
  have e1 : joinT ns k t = ns.set k { n with words := n.words ++ t } := by unfold joinT; rw [hk]
  refine ⟨?_, e1⟩
  rw [e1]
  have hkl := (List.getElem?_eq_some_iff.1 hk).1
  refine ⟨h.wf.turn hk rfl rfl rfl, h.chain.same (set_same3 (n' := { n with words := n.words ++ t }) hk rfl rfl rfl), h.few, fun j x hx => ?_, fun j x hx => ?_⟩
  · by_cases hj : k = j
    · subst hj
      rw [List.getElem?_set_self hkl] at hx
      obtain rfl := Option.some.inj hx
      have := h.words k n hk
      rw [ByteArray.size_append]
      omega
    · rw [List.getElem?_set_ne hj] at hx
      exact Nat.le_trans (h.words j x hx) hie
  · by_cases hj : k = j
    · subst hj
      rw [List.getElem?_set_self hkl] at hx
      obtain rfl := Option.some.inj hx
      exact Nat.le_trans (h.attrs k n hk) hie
    · rw [List.getElem?_set_ne hj] at hx
      exact Nat.le_trans (h.attrs j x hx) hie
theorem join_tx {ns : List Nd} {op : List Nat} {k : Nat} {t : ByteArray} {n : Nd} (hk : ns[k]? = some n) : txOf (joinT ns k t) op = txOf ns op := by
  have e1 : joinT ns k t = ns.set k { n with words := n.words ++ t } := by unfold joinT; rw [hk]
  unfold txOf
  rw [e1, textAt_same (by simp) (set_same3 (n' := { n with words := n.words ++ t }) hk rfl rfl rfl)]
theorem Inv.shut {ns : List Nd} {op : List Nat} {i : Nat} (h : Inv ns op i) (A B : ByteArray → Bool) : Inv ns (shutM ns A B op op) i := by
  obtain ⟨a, b, _⟩ := shut_chain (A := A) (B := B) h.chain h.chain (Nat.le_refl _)
  exact ⟨h.wf, a, Nat.le_trans b h.few, h.words, h.attrs⟩
end Go.Proofs.YtkaeenafejdkfaaGreatDoor

/- The program: a text is joined, or put into the tree. -/
namespace Go.Proofs.YtkaeenafejdkfaaGreatDoor
open Go.RowKit

/-- what a piece makes of a grower -/
def GOut (w : World) (gb tb : Nat) (r : Option (List Nd × List Nat)) (u : Nat) (M Mo : Nat → Lab) (i : Nat) (bv : Value) (e : Ending) (w' : World) : Prop := match r with
  | some (ns, op) => e = .returned (.tuple #[]) ∧ GDone w gb tb ns op (txOf ns op) u M Mo w'
  | none => Thrown i bv e w' ∧ ∃ M' Mo', GMv gb w M Mo w' M' Mo'
section
variable {w : World} {gb tb : Nat} {ns : List Nd} {op : List Nat} {tx u : Nat} {M Mo : Nat → Lab}
theorem GS.words (h : GS w gb tb ns op tx u M Mo) {i : Nat} {n : Nd} (hn : ns[i]? = some n) :
    Calls Tryz.prog 51 #[.pointer (some ⟨tb, 0, none⟩), .int .i64 i] w fun e w' => e = .returned (.string n.words) ∧ w' = w := by
  obtain ⟨nv, uv, ps, us, h1, h2, h3⟩ := h.tree
  obtain ⟨p, hp, rfl⟩ := node_back h2 hn
  exact words_any h1 hp
theorem GS.say (h : GS w gb tb ns op tx u M Mo) (hu : u ≤ 1000000) {i : Nat} {n : Nd} (hn : ns[i]? = some n) (hk : n.kind = 3) (t : ByteArray) (ht : t.size ≤ 20000) :
    Calls Tryz.prog 139 #[.pointer (some ⟨tb, 0, none⟩), .int .i64 i, .string t] w fun e w' => e = .returned .nilIface ∧ ∃ M', GS w' gb tb (ns.set i { n with words := t }) op tx (u + 1) M' Mo ∧ GMv gb w M Mo w' M' Mo := by
  obtain ⟨nv, uv, ps, us, h1, h2, h3⟩ := h.tree
  obtain ⟨p, hp, rfl⟩ := node_back h2 hn
  refine (sayG h1 (by omega) hp (by unfold kidsB; rw [decide_eq_false_iff_not]; omega) t ht).mono ?_
  rintro e w' ⟨rfl, M', nv', uv', ps', f, hL, hn', hm⟩
  exact ⟨rfl, M', h.change hL (by rw [hn', h2]) (by simp; omega) hm⟩
theorem GS.made {n : Nd} {p : Pn} {e : Ending} {w' : World} {ps : List Pn} {us : List Value} (h : GS w gb tb ns op tx u M Mo) (h2 : nodesOf ps = ns) (h3 : us.length ≤ u) (hm : Made w M tb ps us p e w') (hp : p.n = n) : e = .returned (.tuple #[.int .i64 ns.length, .nilIface]) ∧ ∃ M', GS w' gb tb (ns ++ [n]) op tx (u + 1) M' Mo ∧ GMv gb w M Mo w' M' Mo := by
  obtain ⟨rfl, M', nv', uv', f, hL, _, hmv⟩ := hm
  refine ⟨by rw [← h2]; simp [nodesOf], M', h.change hL (by rw [← h2, ← hp]; simp [nodesOf]) (by simp; omega) hmv⟩
theorem GS.mkText (h : GS w gb tb ns op tx u M Mo) (hu : u ≤ 1000000) (hl : ns.length < 400) (t : ByteArray) (ht : t.size ≤ 20000) :
    Calls Tryz.prog 40 #[.pointer (some ⟨tb, 0, none⟩), .string t] w fun e w' => e = .returned (.tuple #[.int .i64 ns.length, .nilIface]) ∧ ∃ M', GS w' gb tb (ns ++ [textN t]) op tx (u + 1) M' Mo ∧ GMv gb w M Mo w' M' Mo := by
  obtain ⟨nv, uv, ps, us, h1, h2, h3⟩ := h.tree
  have hpl : ps.length = ns.length := by rw [← h2]; simp [nodesOf]
  exact (text_good h1 (by omega) (by omega) t ht).mono fun e w' hm => h.made h2 h3 hm rfl
theorem GS.mkComment (h : GS w gb tb ns op tx u M Mo) (hu : u ≤ 1000000) (hl : ns.length < 400) (t : ByteArray) (ht : t.size ≤ 20000) :
    Calls Tryz.prog 39 #[.pointer (some ⟨tb, 0, none⟩), .string t] w fun e w' => e = .returned (.tuple #[.int .i64 ns.length, .nilIface]) ∧ ∃ M', GS w' gb tb (ns ++ [comN t]) op tx (u + 1) M' Mo ∧ GMv gb w M Mo w' M' Mo := by
  obtain ⟨nv, uv, ps, us, h1, h2, h3⟩ := h.tree
  have hpl : ps.length = ns.length := by rw [← h2]; simp [nodesOf]
  exact (comment_good h1 (by omega) (by omega) t ht).mono fun e w' hm => h.made h2 h3 hm rfl
theorem GS.mkElement (h : GS w gb tb ns op tx u M Mo) (hu : u ≤ 1000000) (hl : ns.length < 400) (t : ByteArray) (ht : nameB t = true) :
    Calls Tryz.prog 38 #[.pointer (some ⟨tb, 0, none⟩), .string t] w fun e w' => e = .returned (.tuple #[.int .i64 ns.length, .nilIface]) ∧ ∃ M', GS w' gb tb (ns ++ [elN t []]) op tx (u + 1) M' Mo ∧ GMv gb w M Mo w' M' Mo := by
  obtain ⟨nv, uv, ps, us, h1, h2, h3⟩ := h.tree
  have hpl : ps.length = ns.length := by rw [← h2]; simp [nodesOf]
  exact (element_good h1 (by omega) (by omega) t ht).mono fun e w' hm => h.made h2 h3 hm rfl
theorem GS.noText (h : GS w gb tb ns op tx u M Mo) (hl : ns.length = 400) (t : ByteArray) :
    Calls Tryz.prog 40 #[.pointer (some ⟨tb, 0, none⟩), .string t] w fun e w' => ∃ v, e = .returned (.tuple #[.int .i64 0, v]) ∧ isErr v ∧ w.cell? ⟨0, 0, none⟩ = some v ∧ Below w.heap.size w w' := by
  obtain ⟨nv, uv, ps, us, h1, h2, h3⟩ := h.tree
  have hpl : ps.length = ns.length := by rw [← h2]; simp [nodesOf]
  exact textX_bad h1 h.errs (by omega) t (.inr (by omega))
theorem GS.noComment (h : GS w gb tb ns op tx u M Mo) (hl : ns.length = 400) (t : ByteArray) :
    Calls Tryz.prog 39 #[.pointer (some ⟨tb, 0, none⟩), .string t] w fun e w' => ∃ v, e = .returned (.tuple #[.int .i64 0, v]) ∧ isErr v ∧ w.cell? ⟨0, 0, none⟩ = some v ∧ Below w.heap.size w w' := by
  obtain ⟨nv, uv, ps, us, h1, h2, h3⟩ := h.tree
  have hpl : ps.length = ns.length := by rw [← h2]; simp [nodesOf]
  exact commentX_bad h1 h.errs (by omega) t (.inr (by omega))
theorem GS.noElement (h : GS w gb tb ns op tx u M Mo) (hl : ns.length = 400) (t : ByteArray) (ht : nameB t = true) :
    Calls Tryz.prog 38 #[.pointer (some ⟨tb, 0, none⟩), .string t] w fun e w' => ∃ v, e = .returned (.tuple #[.int .i64 0, v]) ∧ isErr v ∧ w.cell? ⟨0, 0, none⟩ = some v ∧ Below w.heap.size w w' := by
  obtain ⟨nv, uv, ps, us, h1, h2, h3⟩ := h.tree
  have hpl : ps.length = ns.length := by rw [← h2]; simp [nodesOf]
  exact elementX_full h1 h.errs (by omega) t ht (by omega)
end

set_option maxHeartbeats 4000000 in
set_option maxRecDepth 100000 in
theorem say_join {w : World} {gb tb : Nat} {ns : List Nd} {op : List Nat} {u : Nat} {M Mo : Nat → Lab} {k : Nat} {n : Nd} (h : GS w gb tb ns op k u M Mo) (hk : ns[k]? = some n) (h3 : n.kind = 3) (h0 : k ≠ 0) (hu : u ≤ 1000000) (i0 : Nat) (t : ByteArray) (ht : (n.words ++ t).size ≤ 20000) :
    Calls Tryz.prog 111 #[.pointer (some ⟨gb, 0, none⟩), pcv 1 i0 ⟨#[]⟩ t (.slice none 0 0)] w fun e w' => e = .returned (.tuple #[]) ∧ GDone w gb tb (joinT ns k t) op k (u + 1) M Mo w' := by
  have hj : joinT ns k t = ns.set k { n with words := n.words ++ t } := by unfold joinT; rw [hk]
  rw [hj]
  have HB0 : Hid (∀ o, Below w.heap.size w (w.alloc o)) := fun o => (Below.refl _ _).alloc (Nat.le_refl _) _
  have H1 := hid (h.below (HB0.out (.cells #[.int .i64 1, .int .i64 i0, .string ⟨#[]⟩, .string t, .slice none 0 0] 121)))
  have HV1 : Hid (GMv gb w M Mo (w.alloc (.cells #[.int .i64 1, .int .i64 i0, .string ⟨#[]⟩, .string t, .slice none 0 0] 121)) M Mo) := GMv.below (HB0.out _)
  obtain ⟨a, cap, hg, hrow⟩ := h.head
  obtain ⟨d0, d1, d2, df⟩ := three_cells hg
  have hgl := lt_of_heap hg
  have hk0 : ¬ (k : Int) = 0 := by omega
  have ht2 : n.words.size + t.size ≤ 20000 := by rw [ByteArray.size_append] at ht; exact ht
  have ht3 : (n.words.size : Int) + (t.size : Int) ≤ 20000 := by omega
  have HK := hid hk
  unfold pcv
  clear h hrow hg hk hj
  go_enter Tryz.func111, Tryz.ntmps111
  go_wp2_with fail
  have hpb := heap_alloc_new w (.cells #[.int .i64 1, .int .i64 i0, .string ⟨#[]⟩, .string t, .slice none 0 0] 121)
  obtain ⟨p0, p1, p2, p3, p4, pf⟩ := five_cells hpb
  generalize w.alloc (.cells #[.int .i64 1, .int .i64 i0, .string ⟨#[]⟩, .string t, .slice none 0 0] 121) = w1 at *
  obtain ⟨a1, cap1, hg1, hrow1⟩ := H1.out.head
  obtain ⟨e0, e1, e2, ef⟩ := three_cells hg1
  clear hg1 hrow1 d0 d1 d2 df HB0 hpb
  have h9 : ¬ n.words.size + t.size > 9223372036854775807 := by omega
  go_still_tail 20, (by kernel_rfl)
  still_call (GS.words (H1.out.below ((Below.refl _ _).drew)) HK.out)
  repeat still_step
  refine wpStill_nil ?_
  go_wp2_with ((go_at_call 139; refine (GS.say (H1.out.below ((Below.refl _ _).drew)) hu HK.out h3 _ ht).mono ?_; rintro e w3 ⟨rfl, M3, hG3, hV3⟩; have H3 : Hid (GS w3 gb tb (ns.set k { n with words := n.words ++ t }) op k (u + 1) M3 Mo ∧ GMv gb w M Mo w3 M3 Mo) := ⟨hG3, HV1.out.trans ((GMv.below ((Below.refl _ _).drew)).trans hV3)⟩; clear hG3 hV3))
  refine bodyPost_ret (results_none rfl _ _ _) rfl ?_
  exact ⟨rfl, M3, Mo, H3.out.1, H3.out.2⟩

set_option maxHeartbeats 4000000 in
set_option maxRecDepth 100000 in
theorem say_new {w : World} {gb tb : Nat} {ns : List Nd} {op : List Nat} {u : Nat} {M Mo : Nat → Lab} (h : GS w gb tb ns op 0 u M Mo) (hW : WF ns) (hC : Chain ns op) (hl : ns.length < 400) (hop : op.length ≤ 1000) (hu : u + 1 ≤ 1000000) (i0 : Nat) (t : ByteArray) (ht : t.size ≤ 20000) :
    Calls Tryz.prog 111 #[.pointer (some ⟨gb, 0, none⟩), pcv 1 i0 ⟨#[]⟩ t (.slice none 0 0)] w fun e w' => e = .returned (.tuple #[]) ∧ GDone w gb tb (addN ns (inn op) (textN t)) op ns.length (u + 1 + 1) M Mo w' := by
  have HB0 : Hid (∀ o, Below w.heap.size w (w.alloc o)) := fun o => (Below.refl _ _).alloc (Nat.le_refl _) _
  have H1 := hid (h.below (HB0.out (.cells #[.int .i64 1, .int .i64 i0, .string ⟨#[]⟩, .string t, .slice none 0 0] 121)))
  have HV1 : Hid (GMv gb w M Mo (w.alloc (.cells #[.int .i64 1, .int .i64 i0, .string ⟨#[]⟩, .string t, .slice none 0 0] 121)) M Mo) := GMv.below (HB0.out _)
  obtain ⟨a, cap, hg, hrow⟩ := h.head
  obtain ⟨d0, d1, d2, df⟩ := three_cells hg
  have hgl := lt_of_heap hg
  have HW := hid hW
  have HC := hid hC
  have HMP : Hid (M w.heap.size = .other ∧ Mo w.heap.size = .other) := by
    obtain ⟨_, _, _, _, hL, _, _⟩ := h.tree
    exact ⟨hL.fresh _ (Nat.le_refl _), h.fresh _ (Nat.le_refl _)⟩
  unfold pcv
  clear h hrow hg hW hC
  go_enter Tryz.func111, Tryz.ntmps111
  go_wp2_with fail
  have hpb := heap_alloc_new w (.cells #[.int .i64 1, .int .i64 i0, .string ⟨#[]⟩, .string t, .slice none 0 0] 121)
  obtain ⟨p0, p1, p2, p3, p4, pf⟩ := five_cells hpb
  have hwl : w.heap.size < (w.alloc (.cells #[.int .i64 1, .int .i64 i0, .string ⟨#[]⟩, .string t, .slice none 0 0] 121)).heap.size := by simp
  generalize w.alloc (.cells #[.int .i64 1, .int .i64 i0, .string ⟨#[]⟩, .string t, .slice none 0 0] 121) = w1 at *
  obtain ⟨a1, cap1, hg1, hrow1⟩ := H1.out.head
  obtain ⟨e0, e1, e2, ef⟩ := three_cells hg1
  have HPB := hid hpb
  clear hg1 hrow1 d0 d1 d2 df HB0 hpb
  go_region_with ((go_at_call 40; refine (GS.mkText (H1.out.below ((Below.refl _ _).drew)) (by omega) hl t ht).mono ?_; rintro e w3 ⟨rfl, M3, hG3, hV3⟩; have H3 : Hid (GS w3 gb tb (ns ++ [textN t]) op 0 (u + 1) M3 Mo ∧ GMv gb w M Mo w3 M3 Mo) := ⟨hG3, HV1.out.trans ((GMv.below ((Below.refl _ _).drew)).trans hV3)⟩; have hp3 := (hV3.keep w.heap.size hwl HMP.out.1 HMP.out.2 (by omega)).1.trans HPB.out; obtain ⟨r0, r1, r2, r3, r4, rf⟩ := five_cells hp3; clear hG3 hV3 hp3))
  all_goals (
    go_wp2_with fail
    refine (add_good H3.out.1 HW.out HC.out hl rfl rfl hu hop 1 i0 ⟨#[]⟩ t none 0 0).mono ?_
    rintro e w4 ⟨rfl, M4, Mo4, hG4, hV4⟩
    obtain ⟨a4, cap4, hg4, _⟩ := hG4.head
    obtain ⟨f0, f1, f2, ff⟩ := three_cells hg4
    obtain ⟨z1, z2⟩ := hG4.text ns.length ns.length rfl
    have H4 := hid (And.intro z1 (H3.out.2.trans (hV4.trans z2)))
    clear hG4 hV4 hg4 z1 z2
    go_wp2_with fail
    go_end0
    exact ⟨rfl, M4, Mo4, H4.out.1, H4.out.2⟩)

set_option maxHeartbeats 4000000 in
set_option maxRecDepth 100000 in
theorem say_bad {w : World} {gb tb : Nat} {ns : List Nd} {op : List Nat} {u : Nat} {M Mo : Nat → Lab} (h : GS w gb tb ns op 0 u M Mo) (hl : ns.length = 400) (i0 : Nat) (t : ByteArray) (bv : Value) (hbv : w.cell? ⟨0, 0, none⟩ = some bv) :
    Calls Tryz.prog 111 #[.pointer (some ⟨gb, 0, none⟩), pcv 1 i0 ⟨#[]⟩ t (.slice none 0 0)] w fun e w' => Thrown i0 bv e w' ∧ Below w.heap.size w w' := by
  have HB0 : Hid (∀ o, Below w.heap.size w (w.alloc o)) := fun o => (Below.refl _ _).alloc (Nat.le_refl _) _
  have H1 := hid (h.below (HB0.out (.cells #[.int .i64 1, .int .i64 i0, .string ⟨#[]⟩, .string t, .slice none 0 0] 121)))
  have HV1 := hid (HB0.out (.cells #[.int .i64 1, .int .i64 i0, .string ⟨#[]⟩, .string t, .slice none 0 0] 121))
  obtain ⟨a, cap, hg, hrow⟩ := h.head
  obtain ⟨d0, d1, d2, df⟩ := three_cells hg
  have hgl := lt_of_heap hg
  have hel := World.block_lt_of_cell? w _ hbv
  have HE : Hid ((w.alloc (.cells #[.int .i64 1, .int .i64 i0, .string ⟨#[]⟩, .string t, .slice none 0 0] 121)).cell? ⟨0, 0, none⟩ = some bv) := (HV1.out.cell (p := ⟨0, 0, none⟩) hel).trans hbv
  unfold pcv
  clear h hrow hg hbv
  go_enter Tryz.func111, Tryz.ntmps111
  go_wp2_with fail
  have hpb := heap_alloc_new w (.cells #[.int .i64 1, .int .i64 i0, .string ⟨#[]⟩, .string t, .slice none 0 0] 121)
  obtain ⟨p0, p1, p2, p3, p4, pf⟩ := five_cells hpb
  have hwl : w.heap.size < (w.alloc (.cells #[.int .i64 1, .int .i64 i0, .string ⟨#[]⟩, .string t, .slice none 0 0] 121)).heap.size := by simp
  generalize w.alloc (.cells #[.int .i64 1, .int .i64 i0, .string ⟨#[]⟩, .string t, .slice none 0 0] 121) = w1 at *
  obtain ⟨a1, cap1, hg1, hrow1⟩ := H1.out.head
  obtain ⟨e0, e1, e2, ef⟩ := three_cells hg1
  have HPB := hid hpb
  clear hg1 hrow1 d0 d1 d2 df HB0 hpb
  go_region_with ((go_at_call 40; refine (GS.noText (H1.out.below ((Below.refl _ _).drew)) hl t).mono ?_; rintro e w3 ⟨v, rfl, ⟨vt, vx, rfl⟩, hvc, hB3⟩; have H3 : Hid (Below w1.heap.size w1 w3 ∧ w1.cell? ⟨0, 0, none⟩ = some (.iface vt (.pointer (some vx)))) := ⟨(Below.refl _ _).drew.trans hB3, hvc⟩; have hp3 := (H3.out.1.block w.heap.size hwl).trans HPB.out; obtain ⟨r0, r1, r2, r3, r4, rf⟩ := five_cells hp3; clear hB3 hvc hp3))
  all_goals (
    go_wp2_with fail
    obtain rfl := Option.some.inj (HE.out.symm.trans H3.out.2)
    refine (add_bad (gb := gb) vt vx _ ⟨vt, vx, rfl⟩ ((H3.out.1.cell (p := ⟨0, 0, none⟩) (by have := HV1.out.size; show 0 < w1.heap.size; omega)).trans H3.out.2) 1 i0 ⟨#[]⟩ t none 0 0 0).mono ?_
    rintro e w4 ⟨⟨fb, rfl, hfb⟩, hB4⟩
    exact ⟨rfl, ⟨fb, rfl, hfb⟩, HV1.out.trans ((H3.out.1.trans (hB4.mono H3.out.1.size)).mono HV1.out.size)⟩)

/-- what a text makes of a grower -/
theorem say_any {w : World} {gb tb : Nat} {ns : List Nd} {op : List Nat} {u i0 e0 : Nat} {M Mo : Nat → Lab} (h : GS w gb tb ns op (txOf ns op) u M Mo) (hI : Inv ns op i0) (hu : u + 1 ≤ 1000000) (t : ByteArray) (he : i0 ≤ e0) (he2 : e0 ≤ 20000) (ht : t.size ≤ e0 - i0) (bv : Value) (hbv : w.cell? ⟨0, 0, none⟩ = some bv) :
    Calls Tryz.prog 111 #[.pointer (some ⟨gb, 0, none⟩), pcv 1 i0 ⟨#[]⟩ t (.slice none 0 0)] w (GOut w gb tb ((textM ns (inn op) t).map fun x => (x, op)) (u + 1 + 1) M Mo i0 bv) := by
  unfold textM
  cases hx : textAt ns (inn op) with
  | some k =>
    have htx : txOf ns op = k := by unfold txOf; rw [hx]; rfl
    rw [htx] at h
    obtain ⟨n, hn, h3, h0⟩ := textAt_some hI.wf hx
    have hw := hI.words k n hn
    refine (say_join h hn h3 h0 (by omega) i0 t (by rw [ByteArray.size_append]; omega)).mono ?_
    rintro e w' ⟨rfl, M', Mo', hG, hV⟩
    refine ⟨rfl, M', Mo', ?_, hV⟩
    rw [join_tx hn, htx]
    obtain ⟨nv, uv, ps, us, h1, h2, h3⟩ := hG.tree
    exact ⟨⟨nv, uv, ps, us, h1, h2, by omega⟩, hG.head, hG.gm, hG.gO, hG.apart, hG.fresh, hG.errs, hG.errO⟩
  | none =>
    have htx : txOf ns op = 0 := by unfold txOf; rw [hx]; rfl
    rw [htx] at h
    simp only
    by_cases hl : ns.length < 400
    · rw [if_pos hl]
      obtain ⟨m, hm, _⟩ := hI.chain.inner hI.wf
      refine (say_new h hI.wf hI.chain hl (by have := hI.few; omega) hu i0 t (by omega)).mono ?_
      rintro e w' ⟨rfl, M', Mo', hG, hV⟩
      refine ⟨rfl, M', Mo', ?_, hV⟩
      have : txOf (addN ns (inn op) (textN t)) op = ns.length := by unfold txOf; rw [textAt_new hm]; rfl
      rw [this]
      exact hG
    · rw [if_neg hl]
      refine (say_bad h (by have := hI.wf.len; omega) i0 t bv hbv).mono ?_
      rintro e w' ⟨hT, hB⟩
      exact ⟨hT, M, Mo, GMv.below hB⟩
end Go.Proofs.YtkaeenafejdkfaaGreatDoor
