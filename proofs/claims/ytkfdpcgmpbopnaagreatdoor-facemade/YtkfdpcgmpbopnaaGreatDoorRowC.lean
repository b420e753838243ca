/- All choices of points, one after another: their rows. -/
import Derived.Test.YtkfdpcgmpbopnaaGreatDoorRow4
import Derived.Test.YtkfdpcgmpbopnaaGreatDoorChz
namespace Go.Proofs.YtkfdpcgmpbopnaaGreatDoor
open Go.RowKit

/-- All choices of k out of a list, in their order. -/
def chs : Nat → List (List Int) → List (List (List Int))
  | 0, _ => [[]]
  | _ + 1, [] => []
  | k + 1, x :: xs => ((chs k xs).map (x :: ·)) ++ chs (k + 1) xs

theorem chs_len : ∀ k l, (chs k l).length ≤ (l.length + 1) ^ k
  | 0, _ => by simp [chs]
  | k + 1, [] => by simp [chs]
  | k + 1, x :: xs => by
    have h1 := chs_len k xs
    have h2 := chs_len (k + 1) xs
    simp only [chs, List.length_append, List.length_map, List.length_cons]
    have h3 : (xs.length + 1) ^ (k + 1) = (xs.length + 1) ^ k * (xs.length + 1) := Nat.pow_succ _ _
    have h4 : (xs.length + 1 + 1) ^ (k + 1) = (xs.length + 1 + 1) ^ k * (xs.length + 1 + 1) := Nat.pow_succ _ _
    have h5 : (xs.length + 1) ^ k ≤ (xs.length + 1 + 1) ^ k := Nat.pow_le_pow_left (by omega) k
    have h6 : (xs.length + 1) ^ k * (xs.length + 1) + (xs.length + 1) ^ k ≤ (xs.length + 1 + 1) ^ k * (xs.length + 1 + 1) := by
      have : (xs.length + 1) ^ k * (xs.length + 1) + (xs.length + 1) ^ k = (xs.length + 1) ^ k * (xs.length + 1 + 1) := (Nat.mul_succ _ _).symm
      rw [this]; exact Nat.mul_le_mul_right _ h5
    omega

/-- The rows of all choices that begin so. -/
def rowsC (P pre : List (List Int)) (k : Nat) (l : List (List Int)) : List (List Int) := (chs k l).flatMap fun c => (rowT (pre ++ c) P).toList

theorem rowsC_len (P pre : List (List Int)) (k : Nat) (l : List (List Int)) : (rowsC P pre k l).length ≤ (chs k l).length := by
  unfold rowsC
  have : ∀ L : List (List (List Int)), (L.flatMap fun c => (rowT (pre ++ c) P).toList).length ≤ L.length := by
    intro L
    induction L with
    | nil => simp
    | cons c L ih =>
      simp only [List.flatMap_cons, List.length_append, List.length_cons]
      have : (rowT (pre ++ c) P).toList.length ≤ 1 := by cases rowT (pre ++ c) P <;> simp
      omega
  exact this _

theorem rowsC_zero (P pre l : List (List Int)) : rowsC P pre 0 l = (rowT pre P).toList := by simp [rowsC, chs]

theorem rowsC_nil (P pre : List (List Int)) (k : Nat) : rowsC P pre (k + 1) [] = [] := by simp [rowsC, chs]

theorem rowsC_cons (P pre : List (List Int)) (k : Nat) (x : List Int) (xs : List (List Int)) : rowsC P pre (k + 1) (x :: xs) = rowsC P (pre ++ [x]) k xs ++ rowsC P pre (k + 1) xs := by
  simp only [rowsC, chs, List.flatMap_append, List.flatMap_map, List.append_assoc, List.singleton_append]

theorem chs_chz : ∀ (k : Nat) (l : List (List Int)), chs k l = chz k l
  | 0, l => by cases l <;> simp [chs, chz]
  | k + 1, [] => by simp [chs, chz]
  | k + 1, x :: xs => by
    simp only [chs, chz]
    rw [chs_chz k xs, chs_chz (k + 1) xs]

/-- The rows of the choices, by numbers. -/
theorem rows_ext (P : List (List Int)) (d : Nat) : (ext P.length d 0).flatMap (fun c => (rowT (pks P [] c) P).toList) = rowsC P [] d P := by
  unfold rowsC
  have h := chz_ext P [] d 0
  rw [List.drop_zero] at h
  rw [chs_chz, ← h, List.flatMap_map]
  simp

end Go.Proofs.YtkfdpcgmpbopnaaGreatDoor
