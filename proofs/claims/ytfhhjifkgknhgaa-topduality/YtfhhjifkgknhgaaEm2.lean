/- The document's Greatest. -/
import Derived.Test.YtfhhjifkgknhgaaEmA
import Derived.Deep.DeepCutAuto
namespace Go.Proofs.Ytfhhjifkgknhgaa
open Go.RowKit Lin
attribute [local go_sem ↓] Go.wp_at_zero Go.wp_at_succ

end Go.Proofs.Ytfhhjifkgknhgaa
