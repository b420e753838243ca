/- matroid.heaviestFirst: the walk. -/
import Derived.Test.YtofbffagpjjfmaaDoorMt12
namespace Go.Proofs.YtofbffagpjjfmaaDoor
open Go.RowKit
attribute [local go_sem ↓] Go.wp_at_zero Go.wp_at_succ

end Go.Proofs.YtofbffagpjjfmaaDoor
