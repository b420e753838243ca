/- The program's products; points looked through for one beyond a row. -/
import Derived.Test.YtgfnmkenpgnllaaGreatDif1
import Derived.Test.YtgfnmkenpgnllaaGreatLinAll
import Derived.Test.YtgfnmkenpgnllaaGreatMade1
namespace Go.Proofs.YtgfnmkenpgnllaaGreat
open Go.RowKit
attribute [local go_sem ↓] Go.wp_at_zero Go.wp_at_succ

/-- The products, added. -/
def dotL (a x : List Int) : Int := Lin.sumN a.length fun i => a.getD i 0 * x.getD i 0

end Go.Proofs.YtgfnmkenpgnllaaGreat
