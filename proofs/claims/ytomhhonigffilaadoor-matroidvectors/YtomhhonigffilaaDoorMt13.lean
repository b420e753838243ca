/- matroid.heaviestFirst: the walk. -/
import Derived.Test.YtomhhonigffilaaDoorMt12
namespace Go.Proofs.YtomhhonigffilaaDoor
open Go.RowKit
attribute [local go_sem ↓] Go.wp_at_zero Go.wp_at_succ

end Go.Proofs.YtomhhonigffilaaDoor
