/- named.isEven and named.CheckSquare. -/
import Derived.Test.YteddigbjmhnfbaaNp0
import Derived.Test.YteddigbjmhnfbaaReads
import Derived.Deep.OwnRows
namespace Go.Proofs.Yteddigbjmhnfbaa
open Go.RowKit
attribute [local go_sem ↓] Go.wp_at_zero Go.wp_at_succ

end Go.Proofs.Yteddigbjmhnfbaa
