/- Lists of numbers as sets: what they have in common, sides of simplices, bits. -/
import Derived.Test.YtgfnmkenpgnllaaGreatData
import Derived.Lib.TrailingZeros
import Derived.Laws.Bits64b
namespace Go.Proofs.YtgfnmkenpgnllaaGreat
open Go.RowKit

/-- A list of numbers as bits. -/
def setN : List Int → Nat
  | [] => 0
  | v :: l => 2 ^ v.toNat ||| setN l

/-- Numbers of 0 to 63. -/
def B64 (l : List Int) : Prop := ∀ x ∈ l, 0 ≤ x ∧ x ≤ 63

theorem B64.tail {v : Int} {l : List Int} (h : B64 (v :: l)) : B64 l := fun x hx => h x (by simp [hx])

theorem setN_lt : ∀ (l : List Int), B64 l → setN l < 2 ^ 64
  | [], _ => by simp [setN]
  | v :: l, h => by
    have hv := h v (by simp)
    exact Nat.or_lt_two_pow (Nat.pow_lt_pow_right (by omega) (by omega)) (setN_lt l h.tail)

theorem setN_append : ∀ (a b : List Int), setN (a ++ b) = setN a ||| setN b
  | [], b => by simp [setN]
  | v :: a, b => by simp only [List.cons_append, setN]; rw [setN_append a b, Nat.or_assoc]

/-- What is in the one and not in the other. -/
def outN (a b : Nat) : Nat := a ^^^ (a &&& b)

theorem outN_bit (a b i : Nat) : (outN a b).testBit i = ((a.testBit i) && !(b.testBit i)) := by
  unfold outN
  rw [Nat.testBit_xor, Nat.testBit_and]
  cases a.testBit i <;> cases b.testBit i <;> rfl

theorem outN_lt (a b : Nat) (ha : a < 2 ^ 64) : outN a b < 2 ^ 64 := Nat.xor_lt_two_pow ha (Nat.lt_of_le_of_lt Nat.and_le_left ha)

theorem bits_andNot_u64_nat (a b : Nat) (ha : a < 18446744073709551616) (hb : b < 18446744073709551616) :
    bits .andNot .u64 (a : Int) (b : Int) = ((outN a b : Nat) : Int) := by
  have h1 : (BitVec.ofInt 64 (a : Int)).toNat = a := by
    rw [BitVec.ofInt_natCast, BitVec.toNat_ofNat]; exact Nat.mod_eq_of_lt (by omega)
  have h2 : (BitVec.ofInt 64 (b : Int)).toNat = b := by
    rw [BitVec.ofInt_natCast, BitVec.toNat_ofNat]; exact Nat.mod_eq_of_lt (by omega)
  show IntKind.u64.wrap ((BitVec.ofInt 64 (a : Int) &&& ~~~ BitVec.ofInt 64 (b : Int)).toNat : Int) = _
  have h3 : (BitVec.ofInt 64 (a : Int) &&& ~~~ BitVec.ofInt 64 (b : Int)).toNat = outN a b := by
    apply Nat.eq_of_testBit_eq
    intro i
    rw [outN_bit]
    by_cases hi : i < 64
    · rw [BitVec.toNat_and, Nat.testBit_and, h1]
      have : (~~~ BitVec.ofInt 64 (b : Int)).toNat.testBit i = !(b.testBit i) := by
        rw [BitVec.testBit_toNat, BitVec.getLsbD_not, ← BitVec.testBit_toNat, h2]
        simp [hi]
      rw [this]
    · have e1 : a.testBit i = false := Nat.testBit_lt_two_pow (Nat.lt_of_lt_of_le ha (Nat.le_trans (by decide : 18446744073709551616 ≤ 2 ^ 64) (Nat.pow_le_pow_right (by omega) (by omega))))
      rw [BitVec.toNat_and, Nat.testBit_and, h1, e1]
      rfl
  rw [h3, IntKind.wrap_u64]
  have := outN_lt a b (by simpa using ha)
  omega


end Go.Proofs.YtgfnmkenpgnllaaGreat
