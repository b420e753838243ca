/- The library's sort of flats, as this program calls it. -/
import Derived.Test.YtgfnmkenpgnllaaGreatOrd1
import Derived.Shelf.SlSortCmp.NoneTotal
import Derived.Shelf.SlGeneric
import Derived.Ground.SlsfProg
namespace Go.Proofs
open Go.Shelf Go.RowKit Go.Lib Go.Sort
shelf_lay_g SlLaysF0.n6 Slsf 6 at Tryz 60 as Tryz.sortF
end Go.Proofs
