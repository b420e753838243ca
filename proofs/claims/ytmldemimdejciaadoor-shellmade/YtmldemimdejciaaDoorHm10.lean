/- The program: the rows of a polytope. -/
import Derived.Test.YtmldemimdejciaaDoorWhrAll
import Derived.Test.YtmldemimdejciaaDoorHm7
namespace Go.Proofs.YtmldemimdejciaaDoor
open Go.RowKit
attribute [local go_sem ↓] Go.wp_at_zero Go.wp_at_succ

end Go.Proofs.YtmldemimdejciaaDoor
