/- Free sets: facetref.IsFree, matroid.freeIn. -/
import Derived.Test.YteflgnggopcdcaaDoorMtB
namespace Go.Proofs.YteflgnggopcdcaaDoor
open Go.RowKit
attribute [local go_sem ↓] Go.wp_at_zero Go.wp_at_succ

theorem ofInt_nat {a : Nat} (ha : a < 4611686018427387904) : (BitVec.ofInt 64 (a : Int)).toNat = a := by
  rw [BitVec.toNat_ofInt]
  omega

theorem wrap_small {a : Nat} (ha : a < 4611686018427387904) : IntKind.i64.wrap (a : Int) = (a : Int) := by
  rw [IntWalk.i64_left]
  exact IntWalk.wrap64_in _ ⟨by omega, by omega⟩

theorem bits_or_i64_nat (a b : Nat) (ha : a < 4611686018427387904) (hb : b < 4611686018427387904) : bits .or .i64 (a : Int) (b : Int) = ((a ||| b : Nat) : Int) := by
  show IntKind.i64.wrap ((BitVec.ofInt 64 (a : Int) ||| BitVec.ofInt 64 (b : Int)).toNat : Int) = _
  rw [BitVec.toNat_or, ofInt_nat ha, ofInt_nat hb]
  exact wrap_small (Nat.or_lt_two_pow (n := 62) ha hb)

theorem bits_and_i64_nat (a b : Nat) (ha : a < 4611686018427387904) (hb : b < 4611686018427387904) : bits .and .i64 (a : Int) (b : Int) = ((a &&& b : Nat) : Int) := by
  show IntKind.i64.wrap ((BitVec.ofInt 64 (a : Int) &&& BitVec.ofInt 64 (b : Int)).toNat : Int) = _
  rw [BitVec.toNat_and, ofInt_nat ha, ofInt_nat hb]
  exact wrap_small (Nat.lt_of_le_of_lt Nat.and_le_left ha)

/-- A set is part of one of these. -/
def frB (s : Nat) (b : Int) : Bool := outN s b.toNat == 0
def freeB (bs : List Int) (s : Nat) : Bool := bs.any (frB s)

theorem xor0 {a b : Nat} (h : a ^^^ b = 0) : a = b := Nat.eq_of_testBit_eq fun i => by
  have h2 := congrArg (fun x => Nat.testBit x i) h
  simp only [Nat.testBit_xor, Nat.zero_testBit] at h2
  cases ha : a.testBit i <;> cases hb : b.testBit i <;> simp_all

theorem frB_doc (s y : Nat) : frB s (y : Int) = (((y &&& s : Nat) : Int) == (s : Int)) := by
  unfold frB outN
  rw [Int.toNat_natCast, Bool.eq_iff_iff]
  simp only [beq_iff_eq]
  constructor
  · intro h
    have := xor0 h
    rw [Nat.and_comm, ← this]
  · intro h
    have : y &&& s = s := by omega
    rw [Nat.and_comm, this, Nat.xor_self]

theorem any_snocM {p : Int → Bool} {l : List Int} {k : Nat} (h : k < l.length) (h0 : (l.take k).any p = false) : (l.take (k + 1)).any p = p (l.getD k 0) := by
  rw [List.take_succ_eq_append_getElem h, List.any_append, h0]; simp [h]

theorem any_hitM {p : Int → Bool} {l : List Int} {k : Nat} (h : k < l.length) (h0 : p (l.getD k 0) = true) : l.any p = true := by
  rw [List.any_eq_true]
  exact ⟨l.getD k 0, by simp [h], h0⟩

end Go.Proofs.YteflgnggopcdcaaDoor
