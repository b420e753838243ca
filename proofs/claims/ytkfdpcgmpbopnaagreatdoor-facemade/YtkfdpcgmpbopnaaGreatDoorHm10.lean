/- The program: the rows of a polytope. -/
import Derived.Test.YtkfdpcgmpbopnaaGreatDoorWhr3
import Derived.Test.YtkfdpcgmpbopnaaGreatDoorHm7
namespace Go.Proofs.YtkfdpcgmpbopnaaGreatDoor
open Go.RowKit
attribute [local go_sem ↓] Go.wp_at_zero Go.wp_at_succ

end Go.Proofs.YtkfdpcgmpbopnaaGreatDoor
