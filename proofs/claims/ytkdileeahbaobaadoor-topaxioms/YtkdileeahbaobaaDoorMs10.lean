/- matroid.ofOthers by Contract; matroid.Contract. -/
import Derived.Test.YtkdileeahbaobaaDoorMsA
namespace Go.Proofs.YtkdileeahbaobaaDoor
open Go.RowKit
attribute [local go_sem ↓] Go.wp_at_zero Go.wp_at_succ

end Go.Proofs.YtkdileeahbaobaaDoor
