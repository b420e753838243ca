/- Squares of rank 4: their groups, looked at by the kernel. Made by mkgr9.py. -/
import Derived.Test.YtkgljfnbaoncbaaMgAR
namespace Go.Proofs.Ytkgljfnbaoncbaa

set_option maxRecDepth 100000 in
set_option maxHeartbeats 0 in
theorem gk_010 : Gk4 0 1 0 := by decide +kernel

set_option maxRecDepth 100000 in
set_option maxHeartbeats 0 in
theorem gk_031 : Gk4 0 3 1 := by decide +kernel

set_option maxRecDepth 100000 in
set_option maxHeartbeats 0 in
theorem gk_050 : Gk4 0 5 0 := by decide +kernel

set_option maxRecDepth 100000 in
set_option maxHeartbeats 0 in
theorem gk_101 : Gk4 1 0 1 := by decide +kernel

set_option maxRecDepth 100000 in
set_option maxHeartbeats 0 in
theorem gk_210 : Gk4 2 1 0 := by decide +kernel

theorem gk4c : ∀ q ∈ ([(0, 1, 0), (0, 3, 1), (0, 5, 0), (1, 0, 1), (2, 1, 0)] : List (Nat × Nat × Nat)), Gk4 q.1 q.2.1 q.2.2 := by
  intro q hq
  simp only [List.mem_cons, List.not_mem_nil, or_false] at hq
  rcases hq with rfl | rfl | rfl | rfl | rfl
  · exact gk_010
  · exact gk_031
  · exact gk_050
  · exact gk_101
  · exact gk_210

end Go.Proofs.Ytkgljfnbaoncbaa
