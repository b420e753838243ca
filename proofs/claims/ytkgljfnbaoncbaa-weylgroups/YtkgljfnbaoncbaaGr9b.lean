/- Squares of rank 4: their groups, looked at by the kernel. Made by mkgr9.py. -/
import Derived.Test.YtkgljfnbaoncbaaMgAR
namespace Go.Proofs.Ytkgljfnbaoncbaa

set_option maxRecDepth 100000 in
set_option maxHeartbeats 0 in
theorem gk_001 : Gk4 0 0 1 := by decide +kernel

set_option maxRecDepth 100000 in
set_option maxHeartbeats 0 in
theorem gk_011 : Gk4 0 1 1 := by decide +kernel

set_option maxRecDepth 100000 in
set_option maxHeartbeats 0 in
theorem gk_021 : Gk4 0 2 1 := by decide +kernel

set_option maxRecDepth 100000 in
set_option maxHeartbeats 0 in
theorem gk_040 : Gk4 0 4 0 := by decide +kernel

set_option maxRecDepth 100000 in
set_option maxHeartbeats 0 in
theorem gk_201 : Gk4 2 0 1 := by decide +kernel

theorem gk4b : ∀ q ∈ ([(0, 0, 1), (0, 1, 1), (0, 2, 1), (0, 4, 0), (2, 0, 1)] : List (Nat × Nat × Nat)), Gk4 q.1 q.2.1 q.2.2 := by
  intro q hq
  simp only [List.mem_cons, List.not_mem_nil, or_false] at hq
  rcases hq with rfl | rfl | rfl | rfl | rfl
  · exact gk_001
  · exact gk_011
  · exact gk_021
  · exact gk_040
  · exact gk_201

end Go.Proofs.Ytkgljfnbaoncbaa
