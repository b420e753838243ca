/- matroid.heaviestFirst: the walk. -/
import Derived.Test.YtaoadagpknhgiaaDoorMt12
namespace Go.Proofs.YtaoadagpknhgiaaDoor
open Go.RowKit
attribute [local go_sem ↓] Go.wp_at_zero Go.wp_at_succ

end Go.Proofs.YtaoadagpknhgiaaDoor
