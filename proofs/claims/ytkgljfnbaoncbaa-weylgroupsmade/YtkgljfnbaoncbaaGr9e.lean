/- Squares of rank 4: their groups, looked at by the kernel. Made by mkgr9.py. -/
import Derived.Test.YtkgljfnbaoncbaaMgAS
namespace Go.Proofs.Ytkgljfnbaoncbaa

set_option maxRecDepth 100000 in
set_option maxHeartbeats 0 in
theorem gk_002 : Gk4 0 0 2 := by decide +kernel

set_option maxRecDepth 100000 in
set_option maxHeartbeats 0 in
theorem gk_004 : Gk4 0 0 4 := by decide +kernel

set_option maxRecDepth 100000 in
set_option maxHeartbeats 0 in
theorem gk_012 : Gk4 0 1 2 := by decide +kernel

set_option maxRecDepth 100000 in
set_option maxHeartbeats 0 in
theorem gk_020 : Gk4 0 2 0 := by decide +kernel

set_option maxRecDepth 100000 in
set_option maxHeartbeats 0 in
theorem gk_120 : Gk4 1 2 0 := by decide +kernel

set_option maxRecDepth 100000 in
set_option maxHeartbeats 0 in
theorem gk_200 : Gk4 2 0 0 := by decide +kernel

theorem gk4e : ∀ q ∈ ([(0, 0, 2), (0, 0, 4), (0, 1, 2), (0, 2, 0), (1, 2, 0), (2, 0, 0)] : List (Nat × Nat × Nat)), Gk4 q.1 q.2.1 q.2.2 := by
  intro q hq
  simp only [List.mem_cons, List.not_mem_nil, or_false] at hq
  rcases hq with rfl | rfl | rfl | rfl | rfl | rfl
  · exact gk_002
  · exact gk_004
  · exact gk_012
  · exact gk_020
  · exact gk_120
  · exact gk_200

end Go.Proofs.Ytkgljfnbaoncbaa
