/- Squares of rank 4, looked at by the kernel. Made by mkrq3.py. -/
import Derived.Test.YtilblfoapjnmaaaGreatDoorRq3
namespace Go.Proofs.YtilblfoapjnmaaaGreatDoor

set_option maxRecDepth 100000 in
set_option maxHeartbeats 0 in
theorem ok4e : ∀ q ∈ [(3, 0), (3, 1), (3, 2), (3, 3), (3, 4), (3, 5), (4, 0), (4, 1), (4, 2), (4, 3), (4, 4), (4, 5), (5, 0), (5, 1), (5, 2), (5, 3), (5, 4), (5, 5)], Ok4 q.1 q.2 := by decide +kernel

end Go.Proofs.YtilblfoapjnmaaaGreatDoor
