/- The program: what shutting makes of a grower. -/
import Derived.Test.YtkaeenafejdkfaaGreatDoorM23
import Derived.Test.YtkaeenafejdkfaaGreatDoorM04
import Derived.Test.YtkaeenafejdkfaaGreatDoorM11
import Derived.Test.YtkaeenafejdkfaaGreatDoorM08
import Derived.Test.YtkaeenafejdkfaaGreatDoorM03
namespace Go.Proofs.YtkaeenafejdkfaaGreatDoor
open Go.RowKit

def inL (A : List ByteArray) (t : ByteArray) : Bool := Lib.containsS A t
theorem shutI_M {ns : List Nd} {A B : List ByteArray} {op0 : List Nat} : ∀ (l : List Nat), (match shutI (hitT ns A) (hitT ns B) (l.map fun (k : Nat) => (k : Int)) with
    | some m => m < l.length ∧ shutM ns (inL A) (inL B) op0 l = l.drop (l.length - m)
    | none => shutM ns (inL A) (inL B) op0 l = op0)
  | [] => rfl
  | k :: l => by
    have ih := shutI_M (ns := ns) (A := A) (B := B) (op0 := op0) l
    rw [List.map_cons, shutI, shutM]
    have e1 : hitT ns A (k : Int) = inL A (tagOf ns k) := by unfold hitT inL; rw [Int.toNat_natCast]
    have e2 : hitT ns B (k : Int) = inL B (tagOf ns k) := by unfold hitT inL; rw [Int.toNat_natCast]
    rw [e1, e2]
    by_cases hA : inL A (tagOf ns k) = true
    · rw [if_pos hA, if_pos hA]
      simp
    · rw [if_neg hA, if_neg hA]
      by_cases hB : inL B (tagOf ns k) = true
      · rw [if_pos hB, if_pos hB]
      · rw [if_neg hB, if_neg hB]
        cases hs : shutI (hitT ns A) (hitT ns B) (l.map fun (k : Nat) => (k : Int)) with
        | none => rw [hs] at ih; exact ih
        | some m =>
          rw [hs] at ih
          obtain ⟨h1, h2⟩ := ih
          refine ⟨by simp; omega, ?_⟩
          rw [h2]
          have : (k :: l).length - m = (l.length - m) + 1 := by simp; omega
          rw [this, List.drop_succ_cons]
theorem Row.intsIn {w : World} {M : Nat → Lab} {l : Lab} {a : Option Addr} {cap n : Nat} {xs : List Int} (h : Row w M l 3 1 (.slice a n cap) n (xs.map intV)) (hn : n = xs.length) : IntsIn w.heap.size w (.slice a xs.length cap) xs := by
  subst hn
  by_cases h0 : xs.length = 0
  · have : xs = [] := List.eq_nil_of_length_eq_zero h0
    subst this
    exact .inl ⟨rfl, a, cap, rfl⟩
  · obtain ⟨g, c, hv, _, _, _, hg⟩ := h.form (by omega)
    cases hv
    refine .inr ⟨g, cap, rfl, hg, fun j hj => ?_⟩
    have := (h.cell rfl (j := j) (u := intV xs[j]) (by rw [List.getElem?_map, List.getElem?_eq_getElem hj]; rfl)).1
    rw [this, List.getElem?_eq_getElem hj]
    rfl
theorem Chain.all {ns : List Nd} : ∀ {op : List Nat}, Chain ns op → ∀ k ∈ op, ∃ n, ns[k]? = some n
  | _, .nil, _, h => by cases h
  | _, .cons hk _ _ _ _ hc, k, h => by
    rcases List.mem_cons.1 h with rfl | h
    · exact ⟨_, hk⟩
    · exact hc.all k h
/-- what shutting makes of a grower -/
theorem GS.shut {w : World} {gb tb : Nat} {ns : List Nd} {op : List Nat} {u i : Nat} {M Mo : Nat → Lab} (h : GS w gb tb ns op (txOf ns op) u M Mo) (hI : Inv ns op i) {a1 a2 : Option Addr} {n1 c1 n2 c2 : Nat} {A B : List ByteArray} (hA : StrsAt w (.slice a1 n1 c1) A) (hB : StrsAt w (.slice a2 n2 c2) B) :
    Calls Tryz.prog 114 #[.pointer (some ⟨gb, 0, none⟩), .slice a1 n1 c1, .slice a2 n2 c2] w fun e w' => e = .returned (.tuple #[]) ∧ GDone w gb tb ns (shutM ns (inL A) (inL B) op op) (txOf ns (shutM ns (inL A) (inL B) op op)) u M Mo w' := by
  obtain ⟨nv, uv, ps, us, h1, h2, h3⟩ := h.tree
  obtain ⟨a, cap, hg, hrow⟩ := h.head
  obtain ⟨zs, hzs⟩ : ∃ zs : List Int, zs = op.reverse.map fun (k : Nat) => (k : Int) := ⟨_, rfl⟩
  have hzl : zs.length = op.length := by rw [hzs]; simp
  have hzr : zs.reverse = op.map fun (k : Nat) => (k : Int) := by rw [hzs, ← List.map_reverse, List.reverse_reverse]
  rw [← hzs] at hrow
  obtain ⟨_, _, hsh, hc1, hc2⟩ := hrow.shape
  cases hsh
  unfold maxLen at hc2
  have hint := hrow.intsIn (xs := zs) hzl.symm
  have hg2 := hg
  rw [← hzl] at hg2
  have hsm := shutI_M (ns := ns) (A := A) (B := B) (op0 := op) op
  rw [← hzr] at hsm
  have hsc := (shut_chain (A := inL A) (B := inL B) hI.chain hI.chain (Nat.le_refl _)).2.2
  refine (shut_any h1 hg2 hint (fun z hz => ?_) (by have := hI.few; omega) ⟨by omega, hc2⟩ hA hB ⟨_, _, _, rfl⟩ ⟨_, _, _, rfl⟩).mono ?_
  · rw [hzs, List.mem_map] at hz
    obtain ⟨k, hk, rfl⟩ := hz
    obtain ⟨n, hn⟩ := hI.chain.all k (List.mem_reverse.1 hk)
    obtain ⟨p, hp, _⟩ := node_back h2 hn
    exact ⟨k, p, rfl, hp⟩
  · rintro e w' ⟨rfl, hpost⟩
    rw [h2] at hpost
    refine ⟨rfl, ?_⟩
    cases hs : shutI (hitT ns A) (hitT ns B) zs.reverse with
    | none =>
      rw [hs] at hpost hsm
      rw [hsm]
      exact ⟨M, Mo, h.below hpost, GMv.below hpost⟩
    | some m =>
      rw [hs] at hpost hsm
      obtain ⟨hm, he⟩ := hsm
      obtain ⟨hO, hg'⟩ := hpost
      obtain ⟨z1, z2⟩ := h.cut hg (by omega : m ≤ op.length) hO hg'
      have ht : txOf ns (shutM ns (inL A) (inL B) op op) = 0 := by
        rcases hsc with e | e
        · exfalso
          rw [he] at e
          have := congrArg List.length e
          rw [List.length_drop] at this
          omega
        · unfold txOf; rw [e]; rfl
      rw [ht, he]
      exact ⟨M, Mo, z1, z2⟩
end Go.Proofs.YtkaeenafejdkfaaGreatDoor

/- The program: what a start tag makes of a grower. -/
namespace Go.Proofs.YtkaeenafejdkfaaGreatDoor
open Go.RowKit

def closesL (name : ByteArray) : List ByteArray := (closeT name).1
def upToL (name : ByteArray) : List ByteArray := (closeT name).2
def opAfter (ns : List Nd) (op : List Nat) (name : ByteArray) : List Nat := shutM ns (inL (closesL name)) (inL (upToL name)) op op
def opThen (ns : List Nd) (op1 : List Nat) (name : ByteArray) : List Nat := if (!voidB name && decide (op1.length < 40)) = true then ns.length :: op1 else op1
def startM (ns : List Nd) (op : List Nat) (name : ByteArray) (l : List (ByteArray × ByteArray)) : Option (List Nd × List Nat) :=
  if ns.length < 400 then some (addN ns (inn (opAfter ns op name)) (elN name (firsts l)), opThen ns (opAfter ns op name) name) else none

/-- blocks that are neither the tree's nor the grower's -/
def Held (w : World) (M Mo : Nat → Lab) (gb : Nat) (X : List (Nat × Obj)) : Prop := ∀ x ∈ X, w.heap[x.1]? = some x.2 ∧ M x.1 = .other ∧ Mo x.1 = .other ∧ x.1 ≠ gb
theorem Held.mv {w w' : World} {M Mo M' Mo' : Nat → Lab} {gb : Nat} {X : List (Nat × Obj)} (h : Held w M Mo gb X) (hm : GMv gb w M Mo w' M' Mo') : Held w' M' Mo' gb X := fun x hx => by
  obtain ⟨h1, h2, h3, h4⟩ := h x hx
  obtain ⟨e1, e2, e3⟩ := hm.keep x.1 (lt_of_heap h1) h2 h3 h4
  exact ⟨e1.trans h1, e2, e3, h4⟩
/-- a grower lies there, and these blocks are as they were -/
def SAt (w0 : World) (gb tb : Nat) (M0 Mo0 : Nat → Lab) (X : List (Nat × Obj)) (ns : List Nd) (op : List Nat) (tx u : Nat) (w : World) : Prop :=
  ∃ M Mo, GS w gb tb ns op tx u M Mo ∧ GMv gb w0 M0 Mo0 w M Mo ∧ Held w M Mo gb X
section
variable {w0 w w' : World} {gb tb : Nat} {M0 Mo0 : Nat → Lab} {X : List (Nat × Obj)} {ns ns' : List Nd} {op op' : List Nat} {tx tx' u u' : Nat}
theorem SAt.done (h : SAt w0 gb tb M0 Mo0 X ns op tx u w) : GDone w0 gb tb ns op tx u M0 Mo0 w := by
  obtain ⟨M, Mo, h1, h2, _⟩ := h
  exact ⟨M, Mo, h1, h2⟩
theorem SAt.below (h : SAt w0 gb tb M0 Mo0 X ns op tx u w) (hb : Below w.heap.size w w') : SAt w0 gb tb M0 Mo0 X ns op tx u w' := by
  obtain ⟨M, Mo, h1, h2, h3⟩ := h
  exact ⟨M, Mo, h1.below hb, h2.trans (GMv.below hb), h3.mv (GMv.below hb)⟩
theorem SAt.held (h : SAt w0 gb tb M0 Mo0 X ns op tx u w) {b : Nat} {o : Obj} (hx : (b, o) ∈ X) : w.heap[b]? = some o := by
  obtain ⟨M, Mo, _, _, h3⟩ := h
  exact (h3 (b, o) hx).1
theorem SAt.cells (h : SAt w0 gb tb M0 Mo0 X ns op tx u w) : ∃ a cap, w.heap[gb]? = some (.cells #[.pointer (some ⟨tb, 0, none⟩), .slice a op.length cap, .int .i64 tx] 117 (0, 0)) := by
  obtain ⟨M, Mo, h1, _, _⟩ := h
  obtain ⟨a, cap, h4, _⟩ := h1.head
  exact ⟨a, cap, h4⟩
theorem SAt.more (h : SAt w0 gb tb M0 Mo0 X ns op tx u w) {u2 : Nat} (hu : u ≤ u2) : SAt w0 gb tb M0 Mo0 X ns op tx u2 w := by
  obtain ⟨M, Mo, h1, h2, h3⟩ := h
  obtain ⟨nv, uv, ps, us, g1, g2, g3⟩ := h1.tree
  exact ⟨M, Mo, ⟨⟨nv, uv, ps, us, g1, g2, Nat.le_trans g3 hu⟩, h1.head, h1.gm, h1.gO, h1.apart, h1.fresh, h1.errs, h1.errO⟩, h2, h3⟩
theorem SAt.shut {i : Nat} (h : SAt w0 gb tb M0 Mo0 X ns op (txOf ns op) u w) (hI : Inv ns op i) {a1 a2 : Option Addr} {n1 c1 n2 c2 : Nat} {A B : List ByteArray} (hA : StrsAt w (.slice a1 n1 c1) A) (hB : StrsAt w (.slice a2 n2 c2) B) :
    Calls Tryz.prog 114 #[.pointer (some ⟨gb, 0, none⟩), .slice a1 n1 c1, .slice a2 n2 c2] w fun e w' => e = .returned (.tuple #[]) ∧ SAt w0 gb tb M0 Mo0 X ns (shutM ns (inL A) (inL B) op op) (txOf ns (shutM ns (inL A) (inL B) op op)) u w' := by
  obtain ⟨M, Mo, h1, h2, h3⟩ := h
  refine (h1.shut hI hA hB).mono ?_
  rintro e w' ⟨rfl, M', Mo', g1, g2⟩
  exact ⟨rfl, M', Mo', g1, h2.trans g2, h3.mv g2⟩
theorem SAt.mkElement (h : SAt w0 gb tb M0 Mo0 X ns op tx u w) (hu : u ≤ 1000000) (hl : ns.length < 400) (t : ByteArray) (ht : nameB t = true) :
    Calls Tryz.prog 38 #[.pointer (some ⟨tb, 0, none⟩), .string t] w fun e w' => e = .returned (.tuple #[.int .i64 ns.length, .nilIface]) ∧ SAt w0 gb tb M0 Mo0 X (ns ++ [elN t []]) op tx (u + 1) w' := by
  obtain ⟨M, Mo, h1, h2, h3⟩ := h
  refine (h1.mkElement hu hl t ht).mono ?_
  rintro e w' ⟨rfl, M', g1, g2⟩
  exact ⟨rfl, M', Mo, g1, h2.trans g2, h3.mv g2⟩
theorem SAt.noElement (h : SAt w0 gb tb M0 Mo0 X ns op tx u w) (hl : ns.length = 400) (t : ByteArray) (ht : nameB t = true) :
    Calls Tryz.prog 38 #[.pointer (some ⟨tb, 0, none⟩), .string t] w fun e w' => ∃ v, e = .returned (.tuple #[.int .i64 0, v]) ∧ isErr v ∧ w.cell? ⟨0, 0, none⟩ = some v ∧ Below w.heap.size w w' := by
  obtain ⟨M, Mo, h1, h2, h3⟩ := h
  exact h1.noElement hl t ht
theorem SAt.noComment (h : SAt w0 gb tb M0 Mo0 X ns op tx u w) (hl : ns.length = 400) (t : ByteArray) :
    Calls Tryz.prog 39 #[.pointer (some ⟨tb, 0, none⟩), .string t] w fun e w' => ∃ v, e = .returned (.tuple #[.int .i64 0, v]) ∧ isErr v ∧ w.cell? ⟨0, 0, none⟩ = some v ∧ Below w.heap.size w w' := by
  obtain ⟨M, Mo, h1, h2, h3⟩ := h
  exact h1.noComment hl t
theorem SAt.mkComment (h : SAt w0 gb tb M0 Mo0 X ns op tx u w) (hu : u ≤ 1000000) (hl : ns.length < 400) (t : ByteArray) (ht : t.size ≤ 20000) :
    Calls Tryz.prog 39 #[.pointer (some ⟨tb, 0, none⟩), .string t] w fun e w' => e = .returned (.tuple #[.int .i64 ns.length, .nilIface]) ∧ SAt w0 gb tb M0 Mo0 X (ns ++ [comN t]) op tx (u + 1) w' := by
  obtain ⟨M, Mo, h1, h2, h3⟩ := h
  refine (h1.mkComment hu hl t ht).mono ?_
  rintro e w' ⟨rfl, M', g1, g2⟩
  exact ⟨rfl, M', Mo, g1, h2.trans g2, h3.mv g2⟩
theorem SAt.add {n : Nd} (h : SAt w0 gb tb M0 Mo0 X (ns ++ [n]) op tx u w) (hW : WF ns) (hC : Chain ns op) (hl : ns.length < 400) (hn : n.parent = -1) (hk : n.kids = []) (hu : u ≤ 1000000) (hop : op.length ≤ 1000) (k0 : Int) (i0 : Nat) (s1 s2 : ByteArray) (a0 : Option Addr) (l0 c0 : Nat) :
    Calls Tryz.prog 112 #[.pointer (some ⟨gb, 0, none⟩), pcv k0 i0 s1 s2 (.slice a0 l0 c0), .int .i64 ns.length, .nilIface] w fun e w' => e = .returned (.tuple #[]) ∧ SAt w0 gb tb M0 Mo0 X (addN ns (inn op) n) op 0 (u + 1) w' := by
  obtain ⟨M, Mo, h1, h2, h3⟩ := h
  refine (add_good h1 hW hC hl hn hk hu hop k0 i0 s1 s2 a0 l0 c0).mono ?_
  rintro e w' ⟨rfl, M', Mo', g1, g2⟩
  exact ⟨rfl, M', Mo', g1, h2.trans g2, h3.mv g2⟩
theorem SAt.attr (h : SAt w0 gb tb M0 Mo0 X ns op tx u w) {i : Nat} {n : Nd} (hn : ns[i]? = some n) (ha : n.attrs.length ≤ 1000000) (name : ByteArray) :
    Calls Tryz.prog 141 #[.pointer (some ⟨tb, 0, none⟩), .int .i64 i, .string name] w fun e w' => e = .returned (attrW n.attrs name) ∧ Below w.heap.size w w' := by
  obtain ⟨M, Mo, h1, h2, h3⟩ := h
  obtain ⟨nv, uv, ps, us, g1, g2, g3⟩ := h1.tree
  obtain ⟨p, hp, rfl⟩ := node_back g2 hn
  exact attr_some g1 hp ha name
theorem SAt.set (h : SAt w0 gb tb M0 Mo0 X ns op tx u w) (hu : u ≤ 1000000) {i : Nat} {n : Nd} (hn : ns[i]? = some n) (hk : n.kind = 2) (ha : n.attrs.length ≤ 1000000) (name value : ByteArray) (hb : nameB name = true) (hv : value.size ≤ 20000) (hf : findA n.attrs name = none) :
    Calls Tryz.prog 41 #[.pointer (some ⟨tb, 0, none⟩), .int .i64 i, .string name, .string value] w fun e w' => e = .returned .nilIface ∧ SAt w0 gb tb M0 Mo0 X (ns.set i { n with attrs := n.attrs ++ [(name, value)] }) op tx (u + 1) w' := by
  obtain ⟨M, Mo, h1, h2, h3⟩ := h
  obtain ⟨nv, uv, ps, us, g1, g2, g3⟩ := h1.tree
  obtain ⟨p, hp, rfl⟩ := node_back g2 hn
  refine (set_new g1 h1.errs hp name value hk hb hv (by omega) (by omega) hf).mono ?_
  rintro e w' ⟨rfl, M', uv', av', f, hL, hm⟩
  have hs : setAttr p.n.attrs name value = p.n.attrs ++ [(name, value)] := by unfold setAttr; rw [hf]
  obtain ⟨z1, z2⟩ := h1.change hL (u' := u + 1) (ns' := ns.set i { p.n with attrs := p.n.attrs ++ [(name, value)] }) (by rw [← g2, ← hs]; simp [nodesOf, List.map_set]) (by simp; omega) hm
  exact ⟨rfl, M', Mo, z1, h2.trans z2, h3.mv z2⟩
end
theorem beqB (a b : ByteArray) : (a == b) = true ↔ a = b := by
  cases a with | mk x =>
  cases b with | mk y =>
  show (x == y) = true ↔ _
  rw [beq_iff_eq, ByteArray.mk.injEq]
theorem firsts_find (l : List (ByteArray × ByteArray)) (x : ByteArray) : (l.any fun y => y.1 == x) = (findA l x).isSome := by
  have e : (fun (y : ByteArray × ByteArray) => y.1 == x) = fun y => eqS y.1 x := by
    funext y
    unfold eqS
    rw [Bool.eq_iff_iff, beqB, beq_iff_eq]
    exact ⟨fun h => by rw [h], fun h => toList_inj' h⟩
  rw [e]
  unfold findA
  simp [List.findIdx?_isSome]
theorem firsts_some {l : List (ByteArray × ByteArray)} {x : ByteArray × ByteArray} (h : (findA (firsts l) x.1).isSome = true) : firsts (l ++ [x]) = firsts l := by
  rw [firsts_snoc, firsts_find, if_pos h]
theorem firsts_none {l : List (ByteArray × ByteArray)} {x : ByteArray × ByteArray} (h : findA (firsts l) x.1 = none) : firsts (l ++ [x]) = firsts l ++ [x] := by
  rw [firsts_snoc, firsts_find, if_neg (by rw [h]; simp)]
theorem add_set {ns : List Nd} {p : Nat} {m : Nd} (hp : ns[p]? = some m) (name : ByteArray) (a b : List (ByteArray × ByteArray)) : (addN ns p (elN name a)).set ns.length { (elN name a) with parent := p, attrs := b } = addN ns p (elN name b) := by
  unfold addN
  rw [hp]
  simp only
  rw [List.set_append_right _ _ (by simp)]
  simp [elN]
theorem add_at {ns : List Nd} {p : Nat} {m : Nd} (hp : ns[p]? = some m) (n : Nd) : (addN ns p n)[ns.length]? = some { n with parent := p } := by rw [add_get hp, if_pos rfl]
end Go.Proofs.YtkaeenafejdkfaaGreatDoor

/- The document's answer: whether a text is among others; elements without kids; what a start tag closes. -/
namespace Go.Proofs.YtkaeenafejdkfaaGreatDoor
open Go.RowKit

set_option maxHeartbeats 4000000 in
set_option maxRecDepth 100000 in
theorem among_any {w : World} {v : Value} {A : List ByteArray} (h : StrsAt w v A) (x : ByteArray) :
    Calls Tryz.prog 65 #[.string x, v] w fun e w' => e = .returned (.bool (inL A x)) ∧ w' = w := by
  obtain ⟨r, hr⟩ : ∃ r, r = inL A x := ⟨_, rfl⟩
  rw [← hr]
  have hiff : r = true ↔ x ∈ A := by rw [hr]; exact Lib.containsS_iff _ _
  obtain ⟨a, n, c, rfl, hn, hcell, hcc⟩ : ∃ a n c, v = .slice a n c ∧ n = A.length ∧ (∀ j, j < n → ∃ b, a = some ⟨b, 0, none⟩ ∧ b < w.heap.size ∧ w.cell? ⟨b, j, none⟩ = some (.string (A.getD j ByteArray.empty))) ∧ n ≤ 100 := by
    rcases h with ⟨rfl, a, c, rfl⟩ | ⟨b, c, rfl, h2, h3, h4⟩
    · exact ⟨a, 0, c, rfl, rfl, fun j hj => by omega, by omega⟩
    · exact ⟨_, _, c, rfl, rfl, fun j hj => ⟨b, rfl, h3, h4 j hj⟩, h2⟩
  have HN := hid hn
  have HI := hid hiff
  have HCL := hid hcell
  clear hr h hn hiff hcell
  go_enter Tryz.func65, Tryz.ntmps65
  go_wp2
  go_loop [5] (fun i => ∃ k : Nat, k ≤ n ∧ i = .int .i64 k ∧ Hid (∀ j, j < k → A.getD j ByteArray.empty ≠ x)) (fun i => n - (intOf i).toNat)
  case atStart => exact ⟨0, by omega, rfl, hid (fun j hj => by omega)⟩
  case round =>
    obtain ⟨k, hk, rfl, hno⟩ := hrel
    by_cases hlt : k < n
    · obtain ⟨b, rfl, hbl, hcell⟩ := HCL.out k hlt
      obtain ⟨y, hy⟩ : ∃ y, y = A.getD k ByteArray.empty := ⟨_, rfl⟩
      rw [← hy] at hcell
      have HY := hid hy
      clear hy
      have i1 : (k : Int) < (n : Int) := by omega
      by_cases he : y = x
      · subst he
        have HR : Hid (r = true) := hid (HI.out.2 (by
          rw [HY.out, List.getD_eq_getElem?_getD, List.getElem?_eq_getElem (by rw [← HN.out]; exact hlt)]
          exact List.getElem_mem _))
        go_wp2
        all_goals go_light
        go_ret
        exact ⟨retb HR.out.symm, rfl⟩
      · have hbq : (y.toList == x.toList) = false := by rw [beq_eq_false_iff_ne]; exact fun e => he (toList_inj' e)
        have HX : Hid (∀ j, j < k + 1 → A.getD j ByteArray.empty ≠ x) := hid (by
          intro j hj
          by_cases e : j = k
          · subst e; rw [← HY.out]; exact he
          · exact hno.out j (by omega))
        clear he
        go_wp2
        all_goals go_light
        refine ⟨⟨k + 1, by omega, by go_num, HX⟩, ?_⟩
        simp [intOf]
        omega
    · have HR : Hid (r = false) := hid (by
        cases e : r
        · rfl
        · exfalso
          obtain ⟨j, hj, hjx⟩ := List.getElem_of_mem (HI.out.1 e)
          refine hno.out j (by have := HN.out; omega) ?_
          rw [List.getD_eq_getElem?_getD, List.getElem?_eq_getElem hj]
          exact hjx)
      go_wp2
      go_ret
      exact ⟨retb HR.out.symm, rfl⟩

def voidL : List ByteArray := [⟨#[98, 114]⟩, ⟨#[104, 114]⟩, ⟨#[105, 109, 103]⟩, ⟨#[105, 110, 112, 117, 116]⟩, ⟨#[108, 105, 110, 107]⟩, ⟨#[109, 101, 116, 97]⟩, ⟨#[119, 98, 114]⟩]
def blockL : List ByteArray := [⟨#[100, 105, 118]⟩, ⟨#[112]⟩, ⟨#[117, 108]⟩, ⟨#[111, 108]⟩, ⟨#[100, 108]⟩, ⟨#[116, 97, 98, 108, 101]⟩, ⟨#[104, 49]⟩, ⟨#[104, 50]⟩, ⟨#[104, 51]⟩, ⟨#[112, 114, 101]⟩, ⟨#[115, 101, 99, 116, 105, 111, 110]⟩, ⟨#[102, 111, 114, 109]⟩, ⟨#[104, 114]⟩]
theorem eq_list {s : ByteArray} {l : List UInt8} : s = ⟨l.toArray⟩ ↔ s.toList = l := by
  constructor
  · rintro rfl; rw [Lib.toList_data]
  · exact of_list
theorem void_same (s : ByteArray) : inL voidL s = voidB s := by
  rw [Bool.eq_iff_iff]
  unfold inL voidB
  rw [Lib.containsS_iff, decide_eq_true_eq]
  unfold voidL
  simp only [List.mem_cons, List.not_mem_nil, or_false, eq_list]
set_option maxHeartbeats 4000000 in
set_option maxRecDepth 100000 in
theorem rvoid_any (s : ByteArray) (w : World) : Calls Tryz.prog 66 #[.string s] w fun e w' => e = .returned (.bool (voidB s)) ∧ Below w.heap.size w w' := by
  have hst := StrsAt.new w voidL (by decide)
  have ham := among_any hst s
  rw [void_same] at ham
  have HB : Hid (Below w.heap.size w (w.alloc (.cells (voidL.map Value.string).toArray 9))) := hid ((Below.refl _ _).alloc (Nat.le_refl _) _)
  have HA := hid ham
  clear hst ham
  generalize voidB s = r at HA ⊢
  go_enter Tryz.func66, Tryz.ntmps66
  go_wp2_with (go_at_call 65; refine HA.out.mono ?_; rintro e w' ⟨rfl, rfl⟩)
  go_ret
  exact ⟨rfl, HB.out⟩

theorem block_close {s : ByteArray} (h : inL blockL s = true) : closeT s = ([⟨#[112]⟩], [⟨#[116, 100]⟩, ⟨#[116, 104]⟩, ⟨#[108, 105]⟩, ⟨#[100, 105, 118]⟩, ⟨#[115, 101, 99, 116, 105, 111, 110]⟩, ⟨#[98, 117, 116, 116, 111, 110]⟩]) := by
  have h := (Lib.containsS_iff _ _).1 h
  unfold blockL at h
  simp only [List.mem_cons, List.not_mem_nil, or_false] at h
  rcases h with h | h | h | h | h | h | h | h | h | h | h | h | h <;> (rw [eq_list] at h; unfold closeT; rw [h]; decide)
theorem not_block {s : ByteArray} (h : inL blockL s = false) : ¬ (s.toList = [100, 105, 118] ∨ s.toList = [112] ∨ s.toList = [117, 108] ∨ s.toList = [111, 108] ∨ s.toList = [100, 108] ∨ s.toList = [116, 97, 98, 108, 101] ∨ s.toList = [104, 49] ∨ s.toList = [104, 50] ∨ s.toList = [104, 51] ∨ s.toList = [112, 114, 101] ∨ s.toList = [115, 101, 99, 116, 105, 111, 110] ∨ s.toList = [102, 111, 114, 109] ∨ s.toList = [104, 114]) := by
  intro hh
  have : inL blockL s = true := (Lib.containsS_iff _ _).2 (by
    unfold blockL
    simp only [List.mem_cons, List.not_mem_nil, or_false, eq_list]
    exact hh)
  rw [h] at this
  cases this
theorem close_from {w w1 : World} {A B : List ByteArray} (hb : Below w.heap.size w w1) {e : Ending} {w' : World} (h : ClosePost w1 A B e w') : ClosePost w A B e w' := by
  obtain ⟨a1, n1, c1, a2, n2, c2, h1, h2, h3, h4⟩ := h
  exact ⟨a1, n1, c1, a2, n2, c2, h1, h2, h3, hb.trans (h4.mono hb.size)⟩

set_option maxHeartbeats 4000000 in
set_option maxRecDepth 100000 in
theorem table_block (s : ByteArray) (w : World) (h : inL blockL s = true) : Calls Tryz.prog 64 #[.string s] w (ClosePost w (closeT s).1 (closeT s).2) := by
  rw [block_close h]
  have hst := StrsAt.new w blockL (by decide)
  have ham := among_any hst s
  rw [h] at ham
  have HA := hid ham
  have HB : Hid (Below w.heap.size w (w.alloc (.cells (blockL.map Value.string).toArray 9))) := hid ((Below.refl _ _).alloc (Nat.le_refl _) _)
  clear hst ham h
  go_enter Tryz.func64, Tryz.ntmps64
  go_wp2_with (go_at_call 65; refine HA.out.mono ?_; rintro e w' ⟨rfl, rfl⟩)
  go_ret2
  exact close_from HB.out (by have := close_two (w.alloc (.cells (blockL.map Value.string).toArray 9)) [⟨#[112]⟩] [⟨#[116, 100]⟩, ⟨#[116, 104]⟩, ⟨#[108, 105]⟩, ⟨#[100, 105, 118]⟩, ⟨#[115, 101, 99, 116, 105, 111, 110]⟩, ⟨#[98, 117, 116, 116, 111, 110]⟩] (by decide) (by decide); rw [World.size_alloc] at this; exact this)

set_option maxHeartbeats 4000000 in
set_option maxRecDepth 100000 in
theorem table_lit (s : ByteArray) (A B : List ByteArray) (w : World) (h : inL blockL s = false) (hs : closeT s = (A, B)) (hl : s ∈ [(⟨#[108, 105]⟩ : ByteArray), ⟨#[100, 116]⟩, ⟨#[100, 100]⟩, ⟨#[111, 112, 116, 105, 111, 110]⟩, ⟨#[116, 114]⟩, ⟨#[116, 100]⟩, ⟨#[116, 104]⟩]) : Calls Tryz.prog 64 #[.string s] w (ClosePost w A B) := by
  have hst := StrsAt.new w blockL (by decide)
  have ham := among_any hst s
  rw [h] at ham
  have HA := hid ham
  have HB : Hid (Below w.heap.size w (w.alloc (.cells (blockL.map Value.string).toArray 9))) := hid ((Below.refl _ _).alloc (Nat.le_refl _) _)
  have HC := hid (fun A B (hA : A.length ≤ 100) (hB : B.length ≤ 100) => (by have := close_two (w.alloc (.cells (blockL.map Value.string).toArray 9)) A B hA hB; rw [World.size_alloc] at this; exact this : ClosePost (w.alloc (.cells (blockL.map Value.string).toArray 9)) A B (.returned (.tuple #[.slice (some ⟨w.heap.size + 1, 0, none⟩) A.length A.length, .slice (some ⟨w.heap.size + 1 + 1, 0, none⟩) B.length B.length])) _))
  clear hst ham h
  simp only [List.mem_cons, List.not_mem_nil, or_false] at hl
  rcases hl with hl | hl | hl | hl | hl | hl | hl
  all_goals (
    have hs2 := hs
    unfold closeT at hs2
    rw [eq_list.1 hl] at hs2
    simp at hs2
    obtain ⟨rfl, rfl⟩ := hs2
    subst hl
    clear hs
    go_enter Tryz.func64, Tryz.ntmps64
    go_wp2_with (go_at_call 65; refine HA.out.mono ?_; rintro e w' ⟨rfl, rfl⟩)
    go_ret2
    first
      | exact close_from HB.out (HC.out [⟨#[108, 105]⟩] [⟨#[117, 108]⟩, ⟨#[111, 108]⟩] (by decide) (by decide))
      | exact close_from HB.out (HC.out [⟨#[100, 116]⟩, ⟨#[100, 100]⟩] [⟨#[100, 108]⟩] (by decide) (by decide))
      | exact close_from HB.out (HC.out [⟨#[111, 112, 116, 105, 111, 110]⟩] [⟨#[115, 101, 108, 101, 99, 116]⟩] (by decide) (by decide))
      | exact close_from HB.out (HC.out [⟨#[116, 114]⟩] [⟨#[116, 97, 98, 108, 101]⟩] (by decide) (by decide))
      | exact close_from HB.out (HC.out [⟨#[116, 100]⟩, ⟨#[116, 104]⟩] [⟨#[116, 114]⟩, ⟨#[116, 97, 98, 108, 101]⟩] (by decide) (by decide)))

set_option maxHeartbeats 4000000 in
set_option maxRecDepth 100000 in
theorem table_none (s : ByteArray) (w : World) (h : inL blockL s = false) (h0 : ¬ s.toList = [108, 105]) (h1 : ¬ s.toList = [100, 116]) (h2 : ¬ s.toList = [100, 100]) (h3 : ¬ s.toList = [111, 112, 116, 105, 111, 110]) (h4 : ¬ s.toList = [116, 114]) (h5 : ¬ s.toList = [116, 100]) (h6 : ¬ s.toList = [116, 104]) : Calls Tryz.prog 64 #[.string s] w (ClosePost w [] []) := by
  have e0 : (s.toList == [108, 105]) = false := by rw [beq_eq_false_iff_ne]; exact h0
  have e1 : (s.toList == [100, 116]) = false := by rw [beq_eq_false_iff_ne]; exact h1
  have e2 : (s.toList == [100, 100]) = false := by rw [beq_eq_false_iff_ne]; exact h2
  have e3 : (s.toList == [111, 112, 116, 105, 111, 110]) = false := by rw [beq_eq_false_iff_ne]; exact h3
  have e4 : (s.toList == [116, 114]) = false := by rw [beq_eq_false_iff_ne]; exact h4
  have e5 : (s.toList == [116, 100]) = false := by rw [beq_eq_false_iff_ne]; exact h5
  have e6 : (s.toList == [116, 104]) = false := by rw [beq_eq_false_iff_ne]; exact h6
  have hst := StrsAt.new w blockL (by decide)
  have ham := among_any hst s
  rw [h] at ham
  have HA := hid ham
  have HB : Hid (Below w.heap.size w (w.alloc (.cells (blockL.map Value.string).toArray 9))) := hid ((Below.refl _ _).alloc (Nat.le_refl _) _)
  clear hst ham h h0 h1 h2 h3 h4 h5 h6
  go_enter Tryz.func64, Tryz.ntmps64
  go_wp2_with (go_at_call 65; refine HA.out.mono ?_; rintro e w' ⟨rfl, rfl⟩)
  go_ret2
  exact ⟨none, 0, 0, none, 0, 0, rfl, .inl ⟨rfl, _, _, rfl⟩, .inl ⟨rfl, _, _, rfl⟩, HB.out⟩

theorem table_any (s : ByteArray) (w : World) : Calls Tryz.prog 64 #[.string s] w (ClosePost w (closeT s).1 (closeT s).2) := by
  cases h : inL blockL s with
  | true => exact table_block s w h
  | false =>
    by_cases hl : s ∈ [(⟨#[108, 105]⟩ : ByteArray), ⟨#[100, 116]⟩, ⟨#[100, 100]⟩, ⟨#[111, 112, 116, 105, 111, 110]⟩, ⟨#[116, 114]⟩, ⟨#[116, 100]⟩, ⟨#[116, 104]⟩]
    · exact table_lit s _ _ w h rfl hl
    · simp only [List.mem_cons, List.not_mem_nil, or_false, eq_list, not_or] at hl
      obtain ⟨h0, h1, h2, h3, h4, h5, h6⟩ := hl
      have e : closeT s = ([], []) := by
        unfold closeT
        rw [if_neg h0, if_neg (by rintro (e | e); exact h1 e; exact h2 e), if_neg h3, if_neg h4, if_neg (by rintro (e | e); exact h5 e; exact h6 e), if_neg (not_block h)]
      rw [e]
      exact table_none s w h h0 h1 h2 h3 h4 h5 h6
end Go.Proofs.YtkaeenafejdkfaaGreatDoor

/- What a start tag shuts is shut for good: read again, it shuts nothing. -/
namespace Go.Proofs.YtkaeenafejdkfaaGreatDoor

/-- is the innermost one of two sorts of the first sort? -/
def hitsO (ns : List Nd) (A B : ByteArray → Bool) : List Nat → Bool
  | [] => false
  | k :: l => if A (tagOf ns k) = true then true else if B (tagOf ns k) = true then false else hitsO ns A B l
/-- one of the first sort has, further out, one of the second sort next, or none -/
def OkO (ns : List Nd) (A B : ByteArray → Bool) : List Nat → Prop
  | [] => True
  | k :: l => (A (tagOf ns k) = true → hitsO ns A B l = false) ∧ OkO ns A B l
theorem shut_facts {ns : List Nd} {A B : ByteArray → Bool} {op0 : List Nat} : ∀ {l : List Nat}, OkO ns A B l → (hitsO ns A B l = true → hitsO ns A B (shutM ns A B op0 l) = false ∧ OkO ns A B (shutM ns A B op0 l)) ∧ (hitsO ns A B l = false → shutM ns A B op0 l = op0)
  | [], _ => ⟨fun h => by simp [hitsO] at h, fun _ => rfl⟩
  | k :: l, h => by
    have ih := shut_facts (op0 := op0) h.2
    by_cases hA : A (tagOf ns k) = true
    · have e1 : hitsO ns A B (k :: l) = true := by rw [hitsO, if_pos hA]
      have e2 : shutM ns A B op0 (k :: l) = l := by rw [shutM, if_pos hA]
      rw [e1, e2]
      exact ⟨fun _ => ⟨h.1 hA, h.2⟩, fun h => by cases h⟩
    · by_cases hB : B (tagOf ns k) = true
      · have e1 : hitsO ns A B (k :: l) = false := by rw [hitsO, if_neg hA, if_pos hB]
        have e2 : shutM ns A B op0 (k :: l) = op0 := by rw [shutM, if_neg hA, if_pos hB]
        rw [e1, e2]
        exact ⟨fun h => (by cases h), fun _ => rfl⟩
      · have e1 : hitsO ns A B (k :: l) = hitsO ns A B l := by rw [hitsO, if_neg hA, if_neg hB]
        have e2 : shutM ns A B op0 (k :: l) = shutM ns A B op0 l := by rw [shutM, if_neg hA, if_neg hB]
        rw [e1, e2]
        exact ih
theorem shut_again {ns : List Nd} {A B : ByteArray → Bool} {op : List Nat} (h : OkO ns A B op) : shutM ns A B (shutM ns A B op op) (shutM ns A B op op) = shutM ns A B op op ∧ hitsO ns A B (shutM ns A B op op) = false := by
  cases hh : hitsO ns A B op with
  | true =>
    obtain ⟨h1, h2⟩ := (shut_facts (op0 := op) h).1 hh
    exact ⟨(shut_facts h2).2 h1, h1⟩
  | false =>
    have e := (shut_facts (op0 := op) h).2 hh
    rw [e]
    exact ⟨e, hh⟩
/-- shutting leaves all, or a tail -/
theorem shut_tail {ns : List Nd} {A B : ByteArray → Bool} {op0 : List Nat} : ∀ {l : List Nat}, shutM ns A B op0 l = op0 ∨ ∃ x, l = x ++ shutM ns A B op0 l
  | [] => .inl rfl
  | k :: l => by
    have ih := shut_tail (ns := ns) (A := A) (B := B) (op0 := op0) (l := l)
    unfold shutM
    split
    · exact .inr ⟨[k], rfl⟩
    · split
      · exact .inl rfl
      · rcases ih with h | ⟨x, h⟩
        · exact .inl h
        · refine .inr ⟨k :: x, ?_⟩
          rw [List.cons_append, ← h]
theorem OkO.tail {ns : List Nd} {A B : ByteArray → Bool} : ∀ {x y : List Nat}, OkO ns A B (x ++ y) → OkO ns A B y
  | [], _, h => h
  | _ :: x, _, h => OkO.tail (x := x) h.2
theorem OkO.shut {ns : List Nd} {A B C D : ByteArray → Bool} {op : List Nat} (h : OkO ns A B op) : OkO ns A B (shutM ns C D op op) := by
  rcases shut_tail (ns := ns) (A := C) (B := D) (op0 := op) (l := op) with e | ⟨x, e⟩
  · rw [e]; exact h
  · rw [e] at h
    exact h.tail
theorem hits_same {ns ns' : List Nd} {A B : ByteArray → Bool} : ∀ {l : List Nat}, (∀ k ∈ l, tagOf ns' k = tagOf ns k) → hitsO ns' A B l = hitsO ns A B l
  | [], _ => rfl
  | k :: l, h => by
    unfold hitsO
    rw [h k (by simp), hits_same (l := l) (fun x hx => h x (by simp [hx]))]
theorem OkO.same {ns ns' : List Nd} {A B : ByteArray → Bool} : ∀ {l : List Nat}, OkO ns A B l → (∀ k ∈ l, tagOf ns' k = tagOf ns k) → OkO ns' A B l
  | [], _, _ => trivial
  | k :: l, h, hs => ⟨fun hA => by
      rw [hs k (by simp)] at hA
      rw [hits_same (fun x hx => hs x (by simp [hx]))]
      exact h.1 hA, OkO.same h.2 (fun x hx => hs x (by simp [hx]))⟩
/-- tags of one class shut the same -/
theorem close_class {name t : ByteArray} (h : inL (closesL name) t = true) : closeT name = closeT t := by
  have hm := (Lib.containsS_iff _ _).1 h
  unfold closesL at hm
  have key : ∀ A B : List ByteArray, closeT name = (A, B) → (∀ x ∈ A, closeT x = (A, B)) → closeT name = closeT t := by
    intro A B e hx
    rw [e] at hm
    rw [e, hx t hm]
  have hE : closeT name = ([], []) ∨ closeT name = closeT ⟨#[108, 105]⟩ ∨ closeT name = closeT ⟨#[100, 116]⟩ ∨ closeT name = closeT ⟨#[111, 112, 116, 105, 111, 110]⟩ ∨ closeT name = closeT ⟨#[116, 114]⟩ ∨ closeT name = closeT ⟨#[116, 100]⟩ ∨ closeT name = closeT ⟨#[112]⟩ := by
    cases hb : inL blockL name with
    | true =>
      right; right; right; right; right; right
      rw [block_close hb, block_close (s := ⟨#[112]⟩) (by decide)]
    | false =>
      by_cases h0 : name.toList = [108, 105]
      · rw [of_list h0]; exact .inr (.inl rfl)
      · by_cases h1 : name.toList = [100, 116] ∨ name.toList = [100, 100]
        · right; right; left
          rcases h1 with h1 | h1
          · rw [of_list h1]
          · rw [of_list h1]
            unfold closeT
            rw [Lib.toList_data, Lib.toList_data]
            decide
        · by_cases h3 : name.toList = [111, 112, 116, 105, 111, 110]
          · rw [of_list h3]; exact .inr (.inr (.inr (.inl rfl)))
          · by_cases h4 : name.toList = [116, 114]
            · rw [of_list h4]; exact .inr (.inr (.inr (.inr (.inl rfl))))
            · by_cases h5 : name.toList = [116, 100] ∨ name.toList = [116, 104]
              · right; right; right; right; right; left
                rcases h5 with h5 | h5
                · rw [of_list h5]
                · rw [of_list h5]
                  unfold closeT
                  rw [Lib.toList_data, Lib.toList_data]
                  decide
              · left
                unfold closeT
                rw [if_neg h0, if_neg h1, if_neg h3, if_neg h4, if_neg h5, if_neg (not_block hb)]
  have one : ∀ (x : ByteArray) (B : List ByteArray), closeT x = ([x], B) → closeT name = closeT x → closeT name = closeT t := by
    intro x B e e2
    refine key [x] B (e2.trans e) ?_
    intro y hy
    rw [List.mem_singleton.1 hy, e]
  have two : ∀ (x y : ByteArray) (B : List ByteArray), closeT x = ([x, y], B) → closeT y = ([x, y], B) → closeT name = closeT x → closeT name = closeT t := by
    intro x y B e e' e2
    refine key [x, y] B (e2.trans e) ?_
    intro z hz
    rcases List.mem_cons.1 hz with rfl | hz
    · exact e
    · rw [List.mem_singleton.1 hz, e']
  rcases hE with e | e | e | e | e | e | e
  · rw [e] at hm; simp at hm
  · exact one _ [⟨#[117, 108]⟩, ⟨#[111, 108]⟩] (by unfold closeT; rw [Lib.toList_data]; decide) e
  · exact two _ ⟨#[100, 100]⟩ [⟨#[100, 108]⟩] (by unfold closeT; rw [Lib.toList_data]; decide) (by unfold closeT; rw [Lib.toList_data]; decide) e
  · exact one _ [⟨#[115, 101, 108, 101, 99, 116]⟩] (by unfold closeT; rw [Lib.toList_data]; decide) e
  · exact one _ [⟨#[116, 97, 98, 108, 101]⟩] (by unfold closeT; rw [Lib.toList_data]; decide) e
  · exact two _ ⟨#[116, 104]⟩ [⟨#[116, 114]⟩, ⟨#[116, 97, 98, 108, 101]⟩] (by unfold closeT; rw [Lib.toList_data]; decide) (by unfold closeT; rw [Lib.toList_data]; decide) e
  · exact one _ _ (block_close (s := ⟨#[112]⟩) (by decide)) e
/-- of every start tag -/
def OkAll (ns : List Nd) (op : List Nat) : Prop := ∀ name, OkO ns (inL (closesL name)) (inL (upToL name)) op
theorem OkAll.nil (ns : List Nd) : OkAll ns [] := fun _ => trivial
theorem OkAll.shut {ns : List Nd} {op : List Nat} (h : OkAll ns op) (C D : ByteArray → Bool) : OkAll ns (shutM ns C D op op) := fun name => (h name).shut
theorem OkAll.same {ns ns' : List Nd} {op : List Nat} (h : OkAll ns op) (hs : ∀ k ∈ op, tagOf ns' k = tagOf ns k) : OkAll ns' op := fun name => (h name).same hs
/-- the element whose tag has just shut what it shuts is open -/
theorem OkAll.open {ns : List Nd} {op : List Nat} (h : OkAll ns op) {j : Nat} {t : ByteArray} (ht : tagOf ns j = t) (hh : hitsO ns (inL (closesL t)) (inL (upToL t)) op = false) : OkAll ns (j :: op) := fun name => by
  refine ⟨fun hA => ?_, h name⟩
  rw [ht] at hA
  have e := close_class hA
  unfold closesL upToL at hh ⊢
  rw [e]
  exact hh
/-- what a start tag has shut it doesn't shut again -/
theorem OkAll.again {ns : List Nd} {op : List Nat} (h : OkAll ns op) (name : ByteArray) : opAfter ns (opAfter ns op name) name = opAfter ns op name ∧ hitsO ns (inL (closesL name)) (inL (upToL name)) (opAfter ns op name) = false := shut_again (h name)
end Go.Proofs.YtkaeenafejdkfaaGreatDoor

/- What is read at a place where a text goes on in a certain way. -/
namespace Go.Proofs.YtkaeenafejdkfaaGreatDoor

/-- from a place on a text is that -/
def OnL (s : ByteArray) (i : Nat) (l : List UInt8) : Prop := i ≤ s.size ∧ s.data.toList.drop i = l
theorem OnL.size {s : ByteArray} {i : Nat} {l : List UInt8} (h : OnL s i l) : i + l.length = s.size := by
  have := congrArg List.length h.2
  rw [List.length_drop] at this
  have e : s.data.toList.length = s.size := by simp
  have := h.1
  omega
theorem OnL.head {s : ByteArray} {i : Nat} {c : UInt8} {l : List UInt8} (h : OnL s i (c :: l)) : ∃ hi : i < s.size, s[i] = c := by
  have hs := h.size
  rw [List.length_cons] at hs
  have hi : i < s.size := by omega
  refine ⟨hi, ?_⟩
  have h2 : s.data.toList[i]? = some c := by
    have := congrArg (fun x => x[0]?) h.2
    simpa using this
  have h3 : s.data.toList[i]? = some s[i] := by
    rw [Array.getElem?_toList]
    rw [Array.getElem?_eq_getElem (show i < s.data.size from hi)]
    rfl
  rw [h3] at h2
  exact Option.some.inj h2
theorem OnL.tail {s : ByteArray} {i : Nat} {c : UInt8} {l : List UInt8} (h : OnL s i (c :: l)) : OnL s (i + 1) l := by
  obtain ⟨hi, _⟩ := h.head
  refine ⟨hi, ?_⟩
  rw [← List.drop_drop, h.2]
  rfl
theorem OnL.byte {s : ByteArray} {i : Nat} {c : UInt8} {l : List UInt8} (h : OnL s i (c :: l)) : bt s i = c.toNat := by
  obtain ⟨hi, e⟩ := h.head
  rw [bt_lt hi, e]
theorem OnL.byteE {s : ByteArray} {i : Nat} (h : OnL s i []) : bt s i = 256 := bt_ge (by have := h.size; simp at this; omega)
theorem OnL.skip {s : ByteArray} : ∀ {a : List UInt8} {i : Nat} {b : List UInt8}, OnL s i (a ++ b) → OnL s (i + a.length) b
  | [], _, _, h => h
  | c :: a, i, b, h => by
    have := OnL.skip (a := a) h.tail
    rw [List.length_cons, show i + (a.length + 1) = i + 1 + a.length by omega]
    exact this
theorem OnL.cut {s : ByteArray} {a : List UInt8} {i : Nat} {b : List UInt8} (h : OnL s i (a ++ b)) : s.extract i (i + a.length) = ⟨a.toArray⟩ := by
  apply ByteArray.ext
  apply Array.toList_inj.1
  rw [ByteArray.data_extract, Array.toList_extract]
  show List.take (i + a.length - i) (List.drop i s.data.toList) = a
  rw [h.2, show i + a.length - i = a.length by omega, List.take_left']
  rfl
theorem span_on {p : Nat → Bool} {s : ByteArray} : ∀ {a : List UInt8} {i : Nat} {b : List UInt8}, OnL s i (a ++ b) → (∀ c ∈ a, p c.toNat = true) → (∀ c l, b = c :: l → p c.toNat = false) → spanE p s i = i + a.length
  | [], i, b, h, _, hb => by
    cases b with
    | nil =>
      have := h.size
      simp at this
      rw [spanE_end (by omega)]; rfl
    | cons c l =>
      obtain ⟨hi, e⟩ := OnL.head (c := c) (l := l) h
      rw [spanE_stop hi (by rw [e]; exact hb c l rfl)]; rfl
  | c :: a, i, b, h, ha, hb => by
    obtain ⟨hi, e⟩ := OnL.head (c := c) (l := a ++ b) h
    rw [spanE_step hi (by rw [e]; exact ha c (by simp)), span_on (a := a) (OnL.tail (c := c) h) (fun x hx => ha x (by simp [hx])) hb, List.length_cons]
    omega
theorem onl_one {s : ByteArray} {c d : UInt8} {i : Nat} {l : List UInt8} (h : OnL s i (d :: l)) : standsAt ⟨#[c]⟩ s i ↔ d = c := by
  obtain ⟨hi, e⟩ := h.head
  have e1 := OnL.cut (a := [d]) (b := l) h
  have e2 : (⟨#[c]⟩ : ByteArray).size = 1 := rfl
  unfold standsAt
  rw [e2]
  simp only [List.length_cons, List.length_nil, Nat.zero_add] at e1
  rw [e1]
  constructor
  · rintro ⟨_, h2⟩
    have := congrArg (fun x : ByteArray => x.data.toList) h2
    simpa using this
  · rintro rfl
    exact ⟨hi, rfl⟩
theorem find_one {s : ByteArray} {c : UInt8} : ∀ {a : List UInt8} {i : Nat} {b : List UInt8}, OnL s i (a ++ c :: b) → c ∉ a → findE ⟨#[c]⟩ s i = some (i + a.length)
  | [], i, b, h, _ => by
    rw [findE_hit ((onl_one h).2 rfl)]; rfl
  | d :: a, i, b, h, hn => by
    obtain ⟨hi, _⟩ := OnL.head (c := d) (l := a ++ c :: b) h
    have e2 : (⟨#[c]⟩ : ByteArray).size = 1 := rfl
    rw [findE_step (by rw [e2]; exact hi) (fun hs => hn (by rw [(onl_one (l := a ++ c :: b) h).1 hs]; simp)) (by rw [e2]; decide), find_one (a := a) (OnL.tail (c := d) h) (fun hm => hn (by simp [hm])), List.length_cons]
    congr 1
    omega
/-- a piece that is no text begins so -/
def startL (l : List UInt8) : Bool := match l with
  | 60 :: 33 :: _ => true
  | 60 :: 63 :: _ => true
  | 60 :: 47 :: c :: _ => alphaB c.toNat
  | 60 :: c :: _ => alphaB c.toNat
  | _ => false
theorem word_on {s : ByteArray} : ∀ {a : List UInt8} {i : Nat} {b : List UInt8}, OnL s i (a ++ b) → (60 : UInt8) ∉ a → (b = [] ∨ startB s (i + a.length) = true) → wordN s i = i + a.length
  | [], i, b, h, _, hb => by
    rcases hb with rfl | hb
    · have := h.size
      simp at this
      rw [wordN_end (by omega)]; rfl
    · have hlt : i < s.size := by
        apply Classical.byContradiction
        intro hn
        unfold startB at hb
        simp [bt_ge (show s.size ≤ i by omega)] at hb
      rw [wordN_hit hlt (by simpa using hb)]; rfl
  | c :: a, i, b, h, hn, hb => by
    obtain ⟨hi, e⟩ := OnL.head (c := c) (l := a ++ b) h
    have hs : startB s i = false := by
      unfold startB
      rw [bt_lt hi, e]
      have : c.toNat ≠ 60 := fun e => hn (by
        have : c = 60 := UInt8.toNat_inj.1 e
        rw [this]; simp)
      simp [this]
    rw [wordN_step hi hs, word_on (a := a) (OnL.tail (c := c) h) (fun hm => hn (by simp [hm])) (hb.imp id (fun h => by rw [List.length_cons] at h; rw [show i + 1 + a.length = i + (a.length + 1) by omega]; exact h)), List.length_cons]
    omega
/-- a text's piece -/
theorem piece_text {s : ByteArray} {q b : List UInt8} {i : Nat} (h : OnL s i (q ++ b)) (hq : q ≠ []) (hn : (60 : UInt8) ∉ q) (hb : b = [] ∨ startB s (i + q.length) = true) : pieceP nameB s i = .text (meantS ⟨q.toArray⟩) (i + q.length) := by
  cases q with
  | nil => exact absurd rfl hq
  | cons c a =>
    obtain ⟨hi, e⟩ := OnL.head (c := c) (l := a ++ b) h
    have hs : startB s i = false := by
      unfold startB
      rw [bt_lt hi, e]
      have : c.toNat ≠ 60 := fun e => hn (by
        have : c = 60 := UInt8.toNat_inj.1 e
        rw [this]; simp)
      simp [this]
    have hw := word_on (a := a) (OnL.tail (c := c) h) (fun hm => hn (by simp [hm])) (hb.imp id (fun h => by rw [List.length_cons] at h; rw [show i + 1 + a.length = i + (a.length + 1) by omega]; exact h))
    have he : wordN s (i + 1) = i + (c :: a).length := by rw [hw, List.length_cons]; omega
    unfold pieceP
    rw [if_pos hs, he, OnL.cut h]
end Go.Proofs.YtkaeenafejdkfaaGreatDoor
