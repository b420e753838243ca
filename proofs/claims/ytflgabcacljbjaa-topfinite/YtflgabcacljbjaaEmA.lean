import Derived.Test.YtflgabcacljbjaaFk0
import Derived.Test.YtflgabcacljbjaaWay1
import Derived.Test.YtflgabcacljbjaaPkd
import Derived.Test.YtflgabcacljbjaaOfAll
import Derived.Test.YtflgabcacljbjaaEmp1
import Derived.Test.YtflgabcacljbjaaNrm
import Derived.Test.YtflgabcacljbjaaRefs6
import Derived.Test.YtflgabcacljbjaaRefB
import Derived.Test.YtflgabcacljbjaaRowA
import Derived.Test.YtflgabcacljbjaaRefA
import Derived.Test.YtflgabcacljbjaaRowB
import Derived.Deep.DeepCutAuto
/- What Empty and Greatest share: rows laid together, products of small by great, axes. -/
namespace Go.Proofs.Ytflgabcacljbjaa
open Go.RowKit Lin
attribute [local go_sem ↓] Go.wp_at_zero Go.wp_at_succ

theorem mul_bwe {a x : Int} (ha : a.natAbs ≤ 1000) (hx : x.natAbs ≤ 1000000000000) : (a * x).natAbs ≤ 1000000000000000 := by
  rw [Int.natAbs_mul]
  exact Nat.le_trans (Nat.mul_le_mul ha hx) (by decide)

end Go.Proofs.Ytflgabcacljbjaa

/- The document's CutMay (of cuts that may be) and GoalMay. -/
namespace Go.Proofs.Ytflgabcacljbjaa
open Go.RowKit Lin
attribute [local go_sem ↓] Go.wp_at_zero Go.wp_at_succ

theorem far20 {r : List Int} (h : ∀ z ∈ r, z.natAbs ≤ 20) : r.any (farB · 20) = false := far_no (n := 20) h

end Go.Proofs.Ytflgabcacljbjaa
