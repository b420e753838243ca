/- The document's Greatest. -/
import Derived.Test.YtmedmmanbdofnaaEmA
import Derived.Deep.DeepCutAuto
namespace Go.Proofs.Ytmedmmanbdofnaa
open Go.RowKit Lin
attribute [local go_sem ↓] Go.wp_at_zero Go.wp_at_succ

end Go.Proofs.Ytmedmmanbdofnaa
