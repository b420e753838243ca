/- Where a point is. -/
import Derived.Test.YtkfdpcgmpbopnaaGreatDoorWhr2
namespace Go.Proofs.YtkfdpcgmpbopnaaGreatDoor
open Go.RowKit
attribute [local go_sem ↓] Go.wp_at_zero Go.wp_at_succ

/-- The greatest of what the rows say. -/
def whr (rows : List (List Int)) (x : List Int) : Int := rows.foldl (fun p r => max p (agn r x)) (-1)

theorem whr_snoc (rows : List (List Int)) (x : List Int) (k : Nat) (h : k < rows.length) : whr (rows.take (k + 1)) x = max (whr (rows.take k) x) (agn (rows.getD k []) x) := by
  rw [List.take_succ_eq_append_getElem h]
  unfold whr
  rw [List.foldl_append]; simp [h]

theorem agn_bd (r x : List Int) : -1 ≤ agn r x ∧ agn r x ≤ 1 := by
  unfold agn cmpI
  split
  · omega
  · split <;> omega

theorem whr_bd (rows : List (List Int)) (x : List Int) : ∀ k, k ≤ rows.length → -1 ≤ whr (rows.take k) x ∧ whr (rows.take k) x ≤ 1 := by
  intro k
  induction k with
  | zero => intro _; simp [whr]
  | succ k ih =>
    intro hk
    rw [whr_snoc _ _ _ (by omega)]
    have h1 := ih (by omega)
    have h2 := agn_bd (rows.getD k []) x
    omega

/-- What is held of rows, so that products with them are small. -/
def RowsFit (d : Nat) (rows : List (List Int)) : Prop := ∀ r ∈ rows, r.length = d + 1 ∧ ∀ z ∈ r.take d, z.natAbs ≤ 1000000000000


end Go.Proofs.YtkfdpcgmpbopnaaGreatDoor
