/- Widths of blocks, as plain numbers. -/
import Derived.Test.YthpffpgbmgnkcaaFMarg
namespace Go.Proofs.Ythpffpgbmgnkcaa

def bnd1 (n most : Int) : Int := if 0 ≤ most ∧ most < n then most else n
def bndV (n least most : Int) : Int := max (bnd1 n most) (max least 0)
def bndB (n least most : Int) : Bool := decide (0 ≤ most ∧ most < n) || decide (bnd1 n most < max least 0)

/-- margins on both sides, where what is left goes to those that are auto -/
def takeN (l r rest : Int) (aL aR : Bool) : Int × Int :=
  match aL, aR with
  | true, true => (max rest 0 / 2, rest - max rest 0 / 2)
  | true, false => (rest, r)
  | false, true => (l, rest)
  | false, false => (l, r)

def z (a : Bool) (n : Int) : Int := if a then 0 else n

/-- a block's left margin, inner width, right margin -/
def widthN (R L I T A Mn Mx : Int) (aL aI aR : Bool) : Int × Int × Int :=
  let free := R - A - z aL L - z aR T
  let i0 := if aI then max free 0 else I
  let i := bndV i0 Mn Mx
  if aI && !bndB i0 Mn Mx then (z aL L, i, z aR T)
  else
    let p := takeN (z aL L) (z aR T) (free - i) aL aR
    (p.1, i, if !aL && !aR then p.2 + (free - i) else p.2)
end Go.Proofs.Ythpffpgbmgnkcaa
