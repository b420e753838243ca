/- Squares of rank 4: their groups, looked at by the kernel. Made by mkgr9.py. -/
import Derived.Test.YtkgljfnbaoncbaaMgAR
namespace Go.Proofs.Ytkgljfnbaoncbaa

set_option maxRecDepth 100000 in
set_option maxHeartbeats 0 in
theorem gk_000 : Gk4 0 0 0 := by decide +kernel

set_option maxRecDepth 100000 in
set_option maxHeartbeats 0 in
theorem gk_103 : Gk4 1 0 3 := by decide +kernel

set_option maxRecDepth 100000 in
set_option maxHeartbeats 0 in
theorem gk_310 : Gk4 3 1 0 := by decide +kernel

set_option maxRecDepth 100000 in
set_option maxHeartbeats 0 in
theorem gk_500 : Gk4 5 0 0 := by decide +kernel

theorem gk4a : ∀ q ∈ ([(0, 0, 0), (1, 0, 3), (3, 1, 0), (5, 0, 0)] : List (Nat × Nat × Nat)), Gk4 q.1 q.2.1 q.2.2 := by
  intro q hq
  simp only [List.mem_cons, List.not_mem_nil, or_false] at hq
  rcases hq with rfl | rfl | rfl | rfl
  · exact gk_000
  · exact gk_103
  · exact gk_310
  · exact gk_500

end Go.Proofs.Ytkgljfnbaoncbaa
