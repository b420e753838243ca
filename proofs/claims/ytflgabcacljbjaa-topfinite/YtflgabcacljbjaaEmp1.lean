/- half.Check and half.Empty, of cuts that may be. -/
import Derived.Test.YtflgabcacljbjaaWay1
import Derived.Test.YtflgabcacljbjaaPkd
import Derived.Test.YtflgabcacljbjaaOfAll
import Derived.Test.YtflgabcacljbjaaRowB
import Derived.Test.YtflgabcacljbjaaRunB
import Derived.Deep.Onto
import Derived.Test.YtflgabcacljbjaaDatA
import Derived.Maps.AppendAt
import Derived.Test.YtflgabcacljbjaaWi1
namespace Go.Proofs.Ytflgabcacljbjaa
open Go.RowKit

theorem far_no {r : List Int} {n : Nat} (h : ∀ z ∈ r, z.natAbs ≤ n) : r.any (farB · n) = false := by
  rw [List.any_eq_false]
  intro z hz
  have := h z hz
  simp [farB]
  omega

end Go.Proofs.Ytflgabcacljbjaa
