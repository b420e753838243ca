/- The library's sort of roots, as this program calls it. -/
import Derived.Test.YtmkbijclbogjhaaOrd1
import Derived.Shelf.SlSortCmp.NoneTotal
import Derived.Shelf.SlGeneric
import Derived.Ground.SlsfProg
namespace Go.Proofs
open Go.Shelf Go.RowKit Go.Lib Go.Sort
shelf_lay_g SlLaysF0.n6 Slsf 6 at Try 15 as Try.sortT
end Go.Proofs
