/- Which simplices may be: one list, by the program. -/
import Derived.Test.YtkfdpcgmpbopnaaGreatDoorSh3
namespace Go.Proofs.YtkfdpcgmpbopnaaGreatDoor
open Go.RowKit
attribute [local go_sem ↓] Go.wp_at_zero Go.wp_at_succ

/-- The first that is not 0. -/
def firstE (f : Nat → Int) : Nat → Int
  | 0 => 0
  | n + 1 => if firstE f n = 0 then f n else firstE f n

theorem firstE_step {f : Nat → Int} {k : Nat} (h : firstE f k = 0) (h2 : f k = 0) : firstE f (k + 1) = 0 := by
  rw [firstE, if_pos h, h2]

theorem firstE_hit {f : Nat → Int} {k : Nat} (h : firstE f k = 0) (h2 : f k ≠ 0) : ∀ n, k < n → firstE f n = f k := by
  intro n
  induction n with
  | zero => intro hn; omega
  | succ n ih =>
    intro hn
    by_cases hk : k = n
    · subst hk; rw [firstE, if_pos h]
    · have := ih (by omega)
      rw [firstE, if_neg (by rw [this]; exact h2), this]

theorem firstE_zero {f : Nat → Int} : ∀ n, firstE f n = 0 → ∀ k, k < n → f k = 0
  | 0, _, k, hk => by omega
  | n + 1, h, k, hk => by
    rw [firstE] at h
    by_cases h0 : firstE f n = 0
    · rw [if_pos h0] at h
      by_cases hkn : k = n
      · subst hkn; exact h
      · exact firstE_zero n h0 k (by omega)
    · rw [if_neg h0] at h
      exact absurd h h0

/-- One number of a list. -/
def numE (x : List Int) (k : Nat) : Int :=
  if x.getD k 0 < 0 ∨ 63 < x.getD k 0 then 4 else if 0 < k ∧ x.getD k 0 ≤ x.getD (k - 1) 0 then 3 else 0

/-- One list. -/
def listE (c : Nat) (x : List Int) : Int := if x.length ≠ c ∨ c < 1 ∨ 5 < c then 3 else firstE (numE x) x.length

/-- One list among others. -/
def simE (m : List (List Int)) (i : Nat) : Int :=
  if listE (m.getD 0 []).length (m.getD i []) = 0 then (if (m.take i).contains (m.getD i []) then 8 else 0) else listE (m.getD 0 []).length (m.getD i [])

/-- All lists. -/
def facetsE (m : List (List Int)) : Int := if m.length < 1 ∨ 40 < m.length then 2 else firstE (simE m) m.length

end Go.Proofs.YtkfdpcgmpbopnaaGreatDoor
