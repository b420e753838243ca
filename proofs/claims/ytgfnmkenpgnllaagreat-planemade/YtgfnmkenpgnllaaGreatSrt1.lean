/- The library's sort, as this program calls it. -/
import Derived.Test.YtgfnmkenpgnllaaGreatOrd1
import Derived.Shelf.SlSortCmp.NoneTotal
import Derived.Shelf.SlGeneric
import Derived.Ground.SlsfProg
namespace Go.Proofs
open Go.Shelf Go.RowKit Go.Lib Go.Sort
shelf_lay_g SlLaysF.n6 Slsf 6 at Tryz 110 as Tryz.sortM
end Go.Proofs
