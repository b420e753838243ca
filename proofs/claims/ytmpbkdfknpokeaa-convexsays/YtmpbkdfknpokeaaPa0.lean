/- The points around 0 that are made of raw numbers. -/
import Derived.Test.YtmpbkdfknpokeaaData
namespace Go.Proofs.Ytmpbkdfknpokeaa

def onesL (n : Nat) : List Int := (List.range n).map fun _ => 1
theorem onesL_len (n : Nat) : (onesL n).length = n := by simp [onesL]
theorem onesL_succ (n : Nat) : onesL (n + 1) = onesL n ++ [1] := by simp [onesL, List.range_succ]

/-- A point on an axis. -/
def axL (n k : Nat) (a : Int) : List Int := (List.range n).map fun j => if j = k then a else 0
theorem axL_len (n k : Nat) (a : Int) : (axL n k a).length = n := by simp [axL]

/-- The points around 0. -/
def aroL (n : Nat) (m : List (List Int)) (α : Nat → Int) (k : Nat) : List (List Int) := m ++ (List.range k).map fun j => axL n j (α j)
theorem aroL_len (n : Nat) (m : List (List Int)) (α : Nat → Int) (k : Nat) : (aroL n m α k).length = m.length + k := by simp [aroL]

theorem aroL_put (n : Nat) (m : List (List Int)) (α : Nat → Int) (k : Nat) (a : Int) : aroL n m (fun j => if j = k then a else α j) (k + 1) = aroL n m α k ++ [axL n k a] := by
  unfold aroL
  rw [List.range_succ, List.map_append, ← List.append_assoc]
  congr 1
  · congr 1
    exact List.map_congr_left fun j hj => by
      show axL n j (if j = k then a else α j) = _
      rw [if_neg (by have := List.mem_range.1 hj; omega)]
  · simp

end Go.Proofs.Ytmpbkdfknpokeaa
