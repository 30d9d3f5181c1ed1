/- slices.DeleteFunc at []int: its contract laid. -/
import Derived.Shelf.SlicesE.DeleteFunc
import Derived.Ground.SlgfProg
import Derived.Test.YtlfepdecgfcifaaGreatDoorM24
namespace Go.Proofs
open Go.Shelf Go.RowKit Go.Lib Go.Sort
shelf_lay_g SlLaysH.n10 Slgf 10 at Tryz 41 as Tryz.lDel
end Go.Proofs
