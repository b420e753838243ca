/- Sets with one thing given for another, as numbers. -/
import Derived.Test.YtkdileeahbaobaaDoorMt8
namespace Go.Proofs.YtkdileeahbaobaaDoor
open Go.RowKit

theorem and255 {a b : Nat} (ha : a < 256) (hb : b < 256) : a &&& (255 - b) = outN a b := Nat.eq_of_testBit_eq fun i => by
  rw [outN_bit, Nat.testBit_and, show 255 - b = 2 ^ 8 - (b + 1) by omega, Nat.testBit_two_pow_sub_succ (by omega)]
  by_cases hi : i < 8
  · simp [hi]
  · have : a.testBit i = false := Nat.testBit_lt_two_pow (Nat.lt_of_lt_of_le ha (Nat.pow_le_pow_right (n := 2) (by omega) (show 8 ≤ i by omega)))
    simp [this]

theorem swp_num : ∀ a, a < 256 → ∀ x, x < 8 → ∀ y, y < 8 → a.testBit x = true → a.testBit y = false → a + 2 ^ y = swp a x y + 2 ^ x := by
  decide +kernel

theorem mem_bit {a b x : Nat} (h : (x : Int) ∈ mem8 (outN a b)) : x < 8 ∧ a.testBit x = true ∧ b.testBit x = false := by
  obtain ⟨i, h1, h2, h3⟩ := mem8_iff.1 h
  have : i = x := by omega
  subst this
  rw [outN_bit] at h2
  simp only [Bool.and_eq_true, Bool.not_eq_true'] at h2
  exact ⟨h1, h2.1, h2.2⟩

theorem bit_lt {b y n : Nat} (hb : b < 2 ^ n) (h : b.testBit y = true) : y < n := by
  by_cases hy : y < n
  · exact hy
  · have : b.testBit y = false := Nat.testBit_lt_two_pow (Nat.lt_of_lt_of_le hb (Nat.pow_le_pow_right (n := 2) (by omega) (by omega)))
    rw [this] at h
    cases h

theorem swp_ltn {a x y n : Nat} (ha : a < 2 ^ n) (hy : y < n) : swp a x y < 2 ^ n :=
  Nat.or_lt_two_pow (Nat.lt_of_le_of_lt (outN_le _ _) ha) (Nat.pow_lt_pow_right (by omega) hy)

end Go.Proofs.YtkdileeahbaobaaDoor
