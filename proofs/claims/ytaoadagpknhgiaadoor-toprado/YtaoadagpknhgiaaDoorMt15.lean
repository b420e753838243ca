/- matroid.Greedy: the walk. -/
import Derived.Test.YtaoadagpknhgiaaDoorMt14
namespace Go.Proofs.YtaoadagpknhgiaaDoor
open Go.RowKit
attribute [local go_sem ↓] Go.wp_at_zero Go.wp_at_succ

def grA (N : Int) (bs ws : List Int) : Nat × Int := if grE N bs ws = 0 then grT bs ws (hvL ws) ws.length else (0, 0)

end Go.Proofs.YtaoadagpknhgiaaDoor
