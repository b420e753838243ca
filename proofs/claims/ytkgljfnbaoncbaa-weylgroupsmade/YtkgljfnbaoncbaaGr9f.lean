/- Squares of rank 4: their groups, looked at by the kernel. Made by mkgr9.py. -/
import Derived.Test.YtkgljfnbaoncbaaMgAS
namespace Go.Proofs.Ytkgljfnbaoncbaa

set_option maxRecDepth 100000 in
set_option maxHeartbeats 0 in
theorem gk_003 : Gk4 0 0 3 := by decide +kernel

set_option maxRecDepth 100000 in
set_option maxHeartbeats 0 in
theorem gk_005 : Gk4 0 0 5 := by decide +kernel

set_option maxRecDepth 100000 in
set_option maxHeartbeats 0 in
theorem gk_013 : Gk4 0 1 3 := by decide +kernel

set_option maxRecDepth 100000 in
set_option maxHeartbeats 0 in
theorem gk_030 : Gk4 0 3 0 := by decide +kernel

set_option maxRecDepth 100000 in
set_option maxHeartbeats 0 in
theorem gk_130 : Gk4 1 3 0 := by decide +kernel

set_option maxRecDepth 100000 in
set_option maxHeartbeats 0 in
theorem gk_300 : Gk4 3 0 0 := by decide +kernel

theorem gk4f : ∀ q ∈ ([(0, 0, 3), (0, 0, 5), (0, 1, 3), (0, 3, 0), (1, 3, 0), (3, 0, 0)] : List (Nat × Nat × Nat)), Gk4 q.1 q.2.1 q.2.2 := by
  intro q hq
  simp only [List.mem_cons, List.not_mem_nil, or_false] at hq
  rcases hq with rfl | rfl | rfl | rfl | rfl | rfl
  · exact gk_003
  · exact gk_005
  · exact gk_013
  · exact gk_030
  · exact gk_130
  · exact gk_300

end Go.Proofs.Ytkgljfnbaoncbaa
