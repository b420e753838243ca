/- Squares of rank 4, looked at by the kernel. Made by mkrq3.py. -/
import Derived.Test.YtilblfoapjnmaaaGreatDoorRq3
namespace Go.Proofs.YtilblfoapjnmaaaGreatDoor

set_option maxRecDepth 100000 in
set_option maxHeartbeats 0 in
theorem ok4a : ∀ q ∈ [(0, 0)], Ok4 q.1 q.2 := by decide +kernel

end Go.Proofs.YtilblfoapjnmaaaGreatDoor
