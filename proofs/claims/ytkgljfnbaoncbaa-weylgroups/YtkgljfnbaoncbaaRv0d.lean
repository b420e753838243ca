/- Squares of rank 4: their roots by rows, looked at by the kernel. Made by mkrv0.py. -/
import Derived.Test.YtkgljfnbaoncbaaRv0
namespace Go.Proofs.Ytkgljfnbaoncbaa

set_option maxRecDepth 100000 in
set_option maxHeartbeats 0 in
theorem wk4d : ∀ q ∈ [(1, 1), (1, 2), (1, 3), (1, 4), (1, 5), (2, 0), (2, 1), (2, 2), (2, 3), (2, 4), (2, 5)], Wk4 q.1 q.2 := by decide +kernel

end Go.Proofs.Ytkgljfnbaoncbaa
