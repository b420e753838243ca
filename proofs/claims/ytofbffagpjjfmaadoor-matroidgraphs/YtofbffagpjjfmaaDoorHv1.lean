/- What the laws don't look at, and how they hold two numbers against each other. -/
import Derived.Test.YtofbffagpjjfmaaDoorReads
import Derived.Test.YtofbffagpjjfmaaDoorRefs2
namespace Go.Proofs.YtofbffagpjjfmaaDoor
open Go.RowKit
attribute [local go_sem ↓] Go.wp_at_zero Go.wp_at_succ

end Go.Proofs.YtofbffagpjjfmaaDoor
