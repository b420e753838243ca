/- check.Within: a list of so many numbers, none of them below the least or above the most. -/
import Derived.Test.YtiadekblckngiaaReads
import Derived.Test.YtiadekblckngiaaCycAll
import Derived.Test.YtiadekblckngiaaRefs2
namespace Go.Proofs.Ytiadekblckngiaa
open Go.RowKit
attribute [local go_sem ↓] Go.wp_at_zero Go.wp_at_succ

def outB (lo hi x : Int) : Bool := decide (x < lo) || decide (hi < x)

def withE (c : Nat) (lo hi : Int) (r : List Int) : Int := if r.length ≠ c then 3 else if r.any (outB lo hi) then 4 else 0

theorem outB_far (most : Int) : outB (-most) most = (farB · most) := by
  funext x
  rw [Bool.eq_iff_iff]
  simp [outB, farB, Bool.or_comm]

end Go.Proofs.Ytiadekblckngiaa
