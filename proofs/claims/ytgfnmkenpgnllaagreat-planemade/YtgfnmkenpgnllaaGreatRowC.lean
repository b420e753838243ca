/- All choices of points, one after another: their rows. -/
import Derived.Test.YtgfnmkenpgnllaaGreatRow4
import Derived.Test.YtgfnmkenpgnllaaGreatChz
namespace Go.Proofs.YtgfnmkenpgnllaaGreat
open Go.RowKit

/-- All choices of k out of a list, in their order. -/
def chs : Nat → List (List Int) → List (List (List Int))
  | 0, _ => [[]]
  | _ + 1, [] => []
  | k + 1, x :: xs => ((chs k xs).map (x :: ·)) ++ chs (k + 1) xs

theorem chs_len : ∀ k l, (chs k l).length ≤ (l.length + 1) ^ k
  | 0, _ => by simp [chs]
  | k + 1, [] => by simp [chs]
  | k + 1, x :: xs => by
    have h1 := chs_len k xs
    have h2 := chs_len (k + 1) xs
    simp only [chs, List.length_append, List.length_map, List.length_cons]
    have h3 : (xs.length + 1) ^ (k + 1) = (xs.length + 1) ^ k * (xs.length + 1) := Nat.pow_succ _ _
    have h4 : (xs.length + 1 + 1) ^ (k + 1) = (xs.length + 1 + 1) ^ k * (xs.length + 1 + 1) := Nat.pow_succ _ _
    have h5 : (xs.length + 1) ^ k ≤ (xs.length + 1 + 1) ^ k := Nat.pow_le_pow_left (by omega) k
    have h6 : (xs.length + 1) ^ k * (xs.length + 1) + (xs.length + 1) ^ k ≤ (xs.length + 1 + 1) ^ k * (xs.length + 1 + 1) := by
      have : (xs.length + 1) ^ k * (xs.length + 1) + (xs.length + 1) ^ k = (xs.length + 1) ^ k * (xs.length + 1 + 1) := (Nat.mul_succ _ _).symm
      rw [this]; exact Nat.mul_le_mul_right _ h5
    omega

theorem chs_chz : ∀ (k : Nat) (l : List (List Int)), chs k l = chz k l
  | 0, l => by cases l <;> simp [chs, chz]
  | k + 1, [] => by simp [chs, chz]
  | k + 1, x :: xs => by
    simp only [chs, chz]
    rw [chs_chz k xs, chs_chz (k + 1) xs]

end Go.Proofs.YtgfnmkenpgnllaaGreat
