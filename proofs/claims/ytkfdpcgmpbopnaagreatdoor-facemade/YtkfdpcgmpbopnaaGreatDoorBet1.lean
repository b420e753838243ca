/- Two lists, added. -/
import Derived.Test.YtkfdpcgmpbopnaaGreatDoorRefs2
namespace Go.Proofs.YtkfdpcgmpbopnaaGreatDoor
open Go.RowKit
attribute [local go_sem ↓] Go.wp_at_zero Go.wp_at_succ

def addL (a b : List Int) : List Int := (List.range a.length).map fun i => a.getD i 0 + b.getD i 0

theorem addL_length (a b : List Int) : (addL a b).length = a.length := by simp [addL]

theorem addL_snoc (a b : List Int) (k : Nat) (h : k < a.length) : (addL a b).take (k + 1) = (addL a b).take k ++ [a.getD k 0 + b.getD k 0] := by
  rw [List.take_succ_eq_append_getElem (by rw [addL_length]; exact h)]
  congr 1
  simp [addL]

end Go.Proofs.YtkfdpcgmpbopnaaGreatDoor
