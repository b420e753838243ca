/- Squares of rank 4: their roots by rows, looked at by the kernel. Made by mkrv0.py. -/
import Derived.Test.YtkgljfnbaoncbaaRv0
namespace Go.Proofs.Ytkgljfnbaoncbaa

set_option maxRecDepth 100000 in
set_option maxHeartbeats 0 in
theorem wk4e : ∀ q ∈ [(3, 0), (3, 1), (3, 2), (3, 3), (3, 4), (3, 5), (4, 0), (4, 1), (4, 2), (4, 3), (4, 4), (4, 5), (5, 0), (5, 1), (5, 2), (5, 3), (5, 4), (5, 5)], Wk4 q.1 q.2 := by decide +kernel

end Go.Proofs.Ytkgljfnbaoncbaa
