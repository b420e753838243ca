/- matroid.givesAll: each thing of a set that another has not can be given for one of it. -/
import Derived.Test.YtomhhonigffilaaDoorMt2
namespace Go.Proofs.YtomhhonigffilaaDoor
open Go.RowKit
attribute [local go_sem ↓] Go.wp_at_zero Go.wp_at_succ

/-- A set with one thing given for another. -/
def swp (a x y : Nat) : Nat := outN a (2 ^ x) ||| 2 ^ y

theorem outN_le (a b : Nat) : outN a b ≤ a := by
  unfold outN
  refine Nat.le_of_testBit fun i => ?_
  rw [Nat.testBit_xor, Nat.testBit_and]
  cases a.testBit i <;> simp

theorem swp_lt {a x y : Nat} (ha : a < 256) (hy : y < 8) : swp a x y < 256 := by
  unfold swp
  exact Nat.or_lt_two_pow (n := 8) (Nat.lt_of_le_of_lt (outN_le _ _) ha) (Nat.pow_lt_pow_right (by omega) hy)

end Go.Proofs.YtomhhonigffilaaDoor
