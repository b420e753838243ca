import Derived.Test.YtflgabcacljbjaaRunD
import Derived.Lib.JoinLaws
import Derived.Test.YtflgabcacljbjaaLinAll
import Derived.Test.YtflgabcacljbjaaMade1
/- The program's differences of points. -/
namespace Go.Proofs.Ytflgabcacljbjaa
open Go.RowKit
attribute [local go_sem ↓] Go.wp_at_zero Go.wp_at_succ

theorem Touch.below {g M : Nat} {w w2 wr : World} (h : Touch g w2 wr) (hb : Below M w w2) (hg : M ≤ g) : Below M w wr :=
  ⟨h.os.trans hb.os, h.tape.trans hb.tape, h.output.trans hb.output, by rw [h.size]; exact hb.size, fun b hlt => (h.block b (by omega)).trans (hb.block b hlt)⟩

end Go.Proofs.Ytflgabcacljbjaa

/- The program's products; points looked through for one beyond a row. -/
namespace Go.Proofs.Ytflgabcacljbjaa
open Go.RowKit
attribute [local go_sem ↓] Go.wp_at_zero Go.wp_at_succ

/-- The products, added. -/
def dotL (a x : List Int) : Int := Lin.sumN a.length fun i => a.getD i 0 * x.getD i 0

end Go.Proofs.Ytflgabcacljbjaa
