/- A polytope that may be; where a point is. -/
import Derived.Test.YtkfdpcgmpbopnaaGreatDoorWhr1
namespace Go.Proofs.YtkfdpcgmpbopnaaGreatDoor
open Go.RowKit
attribute [local go_sem ↓] Go.wp_at_zero Go.wp_at_succ

/-- A polytope of small numbers that does not lie flat. -/
structure Good (d : Nat) (P : List (List Int)) : Prop where
  d1 : 1 ≤ d
  d4 : d ≤ 4
  n2 : 2 ≤ P.length
  n24 : P.length ≤ 24
  box : Box d 30 P
  full : (pickL d (diffL P)).length = d

end Go.Proofs.YtkfdpcgmpbopnaaGreatDoor
