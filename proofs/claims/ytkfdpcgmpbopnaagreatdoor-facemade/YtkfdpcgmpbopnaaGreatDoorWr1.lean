/- How two points lie that are seen along a flat. -/
import Derived.Test.YtkfdpcgmpbopnaaGreatDoorWhr1
namespace Go.Proofs.YtkfdpcgmpbopnaaGreatDoor
open Go.RowKit
attribute [local go_sem ↓] Go.wp_at_zero Go.wp_at_succ

def arr2 (a b : Int) : Value := .agg #[.int .i64 a, .int .i64 b]

set_option maxRecDepth 100000 in
theorem turn_any (a b c e : Int) (w : World) (h1 : -4000000000000000000 ≤ c * b ∧ c * b ≤ 4000000000000000000) (h2 : -4000000000000000000 ≤ e * a ∧ e * a ≤ 4000000000000000000) :
    Calls Tryz.prog 123 #[arr2 a b, arr2 c e] w fun r w' => r = .returned (.int .i64 (c * b - e * a)) ∧ Below w.heap.size w w' := by
  unfold arr2
  obtain ⟨h1a, h1b⟩ := h1
  obtain ⟨h2a, h2b⟩ := h2
  go_enter Tryz.func123, Tryz.ntmps123
  go_wp2
  go_ret
  exact ⟨rfl, ((Below.refl _ _).alloc (Nat.le_refl _) _).alloc (by rw [size_alloc]; omega) _⟩

end Go.Proofs.YtkfdpcgmpbopnaaGreatDoor
