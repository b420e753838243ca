/- cone.acrossOf. -/
import Derived.Test.YtkfdpcgmpbopnaaGreatDoorWay1
namespace Go.Proofs.YtkfdpcgmpbopnaaGreatDoor
open Go.RowKit
attribute [local go_sem ↓] Go.wp_at_zero Go.wp_at_succ

theorem acr_snoc {rs : List (List Int)} {t : Nat} (h : t < rs.length) (i : Nat) :
    (rs.take (t + 1)).map (fun r => r.getD i 0) = (rs.take t).map (fun r => r.getD i 0) ++ [(rs.getD t []).getD i 0] := by
  rw [List.take_succ_eq_append_getElem h, List.map_append, List.getD_eq_getElem?_getD (l := rs), List.getElem?_eq_getElem h]
  rfl

theorem acrL_at {g : List Int} {rs : List (List Int)} {k : Nat} (h : k < g.length) : (acrL g rs).getD k [] = acrR rs g k := by simp [acrL, h]

end Go.Proofs.YtkfdpcgmpbopnaaGreatDoor
