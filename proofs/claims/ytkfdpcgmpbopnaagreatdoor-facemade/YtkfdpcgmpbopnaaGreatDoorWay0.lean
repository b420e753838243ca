/- The least of a list. -/
import Derived.Test.YtkfdpcgmpbopnaaGreatDoorRun1
namespace Go.Proofs.YtkfdpcgmpbopnaaGreatDoor
open Go.RowKit

def lowB (x : Int) : Bool := decide (x ≤ 0)

theorem min_if (m z : Int) : (if z < m then z else m) = min m z := by split <;> omega

theorem low_snoc {zs : List Int} {k : Nat} {m : Int} (hk : k < zs.length) (h : decide (m ≤ 0) = (zs.take k).any lowB) : decide (min m (zs.getD k 0) ≤ 0) = (zs.take (k + 1)).any lowB := by
  rw [List.take_succ_eq_append_getElem hk, List.any_append, ← h]
  simp only [List.any_cons, List.any_nil, Bool.or_false, lowB]
  rw [Bool.eq_iff_iff]
  simp only [decide_eq_true_eq, Bool.or_eq_true, List.getD_eq_getElem?_getD, List.getElem?_eq_getElem hk, Option.getD_some]
  omega

end Go.Proofs.YtkfdpcgmpbopnaaGreatDoor
