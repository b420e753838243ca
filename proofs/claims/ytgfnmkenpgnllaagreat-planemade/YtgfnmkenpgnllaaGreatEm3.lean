/- The document's CutMay (of cuts that may be) and GoalMay. -/
import Derived.Test.YtgfnmkenpgnllaaGreatEm1
import Derived.Test.YtgfnmkenpgnllaaGreatEmp1
namespace Go.Proofs.YtgfnmkenpgnllaaGreat
open Go.RowKit Lin
attribute [local go_sem ↓] Go.wp_at_zero Go.wp_at_succ

/-- A cut in a box of its own. -/
theorem cut_box (w : World) (d : Nat) (v : Value) : ∃ W0, W0 = w.alloc (.cells #[.int .i64 d, v] 61) ∧ Below w.heap.size w W0 ∧ W0.heap.size = w.heap.size + 1 ∧ ∀ W', Below W0.heap.size W0 W' → W'.cell? ⟨w.heap.size, 0, none⟩ = some (.int .i64 d) ∧ W'.cell? ⟨w.heap.size, 1, none⟩ = some v := by
  refine ⟨_, rfl, alloc_keep _ _, size_alloc _ _, fun W' hB => ?_⟩
  have h0 := (hB.block w.heap.size (by rw [size_alloc]; omega)).trans (alloc_new w (.cells #[.int .i64 d, v] 61))
  exact ⟨by simp [World.cell?, h0], by simp [World.cell?, h0]⟩

theorem far20 {r : List Int} (h : ∀ z ∈ r, z.natAbs ≤ 20) : r.any (farB · 20) = false := far_no (n := 20) h

/-- What is wrong with a goal. -/
def gmE (d : Nat) (rows : List (List Int)) (g : List Int) : Int := if empB d rows = true then 6 else if waysL rows g = [] then 7 else 0

theorem CutOk.rw {d : Nat} {rows : List (List Int)} (h : CutOk d rows) : RwE d rows := fun r hr => ⟨h.len r hr, h.bd r hr⟩

end Go.Proofs.YtgfnmkenpgnllaaGreat
