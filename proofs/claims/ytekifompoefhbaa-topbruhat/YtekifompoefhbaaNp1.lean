/- named.isEven and named.CheckSquare. -/
import Derived.Test.YtekifompoefhbaaNp0
import Derived.Test.YtekifompoefhbaaReads
import Derived.Deep.OwnRows
namespace Go.Proofs.Ytekifompoefhbaa
open Go.RowKit
attribute [local go_sem ↓] Go.wp_at_zero Go.wp_at_succ

end Go.Proofs.Ytekifompoefhbaa
