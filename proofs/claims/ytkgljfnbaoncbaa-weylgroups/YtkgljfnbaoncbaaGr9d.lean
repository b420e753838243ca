/- Squares of rank 4: their groups, looked at by the kernel. Made by mkgr9.py. -/
import Derived.Test.YtkgljfnbaoncbaaMgAR
namespace Go.Proofs.Ytkgljfnbaoncbaa

set_option maxRecDepth 100000 in
set_option maxHeartbeats 0 in
theorem gk_100 : Gk4 1 0 0 := by decide +kernel

set_option maxRecDepth 100000 in
set_option maxHeartbeats 0 in
theorem gk_102 : Gk4 1 0 2 := by decide +kernel

set_option maxRecDepth 100000 in
set_option maxHeartbeats 0 in
theorem gk_110 : Gk4 1 1 0 := by decide +kernel

set_option maxRecDepth 100000 in
set_option maxHeartbeats 0 in
theorem gk_301 : Gk4 3 0 1 := by decide +kernel

set_option maxRecDepth 100000 in
set_option maxHeartbeats 0 in
theorem gk_400 : Gk4 4 0 0 := by decide +kernel

theorem gk4d : ∀ q ∈ ([(1, 0, 0), (1, 0, 2), (1, 1, 0), (3, 0, 1), (4, 0, 0)] : List (Nat × Nat × Nat)), Gk4 q.1 q.2.1 q.2.2 := by
  intro q hq
  simp only [List.mem_cons, List.not_mem_nil, or_false] at hq
  rcases hq with rfl | rfl | rfl | rfl | rfl
  · exact gk_100
  · exact gk_102
  · exact gk_110
  · exact gk_301
  · exact gk_400

end Go.Proofs.Ytkgljfnbaoncbaa
