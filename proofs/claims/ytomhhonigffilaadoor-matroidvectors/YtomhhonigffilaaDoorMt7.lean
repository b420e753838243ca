/- matroid.Check. -/
import Derived.Test.YtomhhonigffilaaDoorMt6
namespace Go.Proofs.YtomhhonigffilaaDoor
open Go.RowKit
attribute [local go_sem ↓] Go.wp_at_zero Go.wp_at_succ

theorem pow8_le : ∀ N : Nat, N ≤ 8 → (2 : Int) ^ N ≤ 256 := by decide +kernel

theorem matE_ok {N : Nat} {bs : List Int} (hN : N ≤ 8) (hl : 0 < bs.length) : matE (N : Int) bs = if scanE (stepE N bs) bs.length ≠ 0 then scanE (stepE N bs) bs.length else if exB bs = true then 0 else 3 := by
  unfold matE
  rw [if_neg (by omega), if_neg (by omega), Int.toNat_natCast]

theorem matE_hit {N : Nat} {bs : List Int} {k : Nat} (hN : N ≤ 8) (hk : k < bs.length) (h0 : ∀ i, i < k → stepE N bs i = 0) (h1 : stepE N bs k ≠ 0) : matE (N : Int) bs = stepE N bs k := by
  rw [matE_ok hN (by omega), scan_hit h0 h1 hk, if_pos h1]

theorem matE_end {N : Nat} {bs : List Int} (hN : N ≤ 8) (hl : 0 < bs.length) (h0 : ∀ i, i < bs.length → stepE N bs i = 0) : matE (N : Int) bs = if exB bs = true then 0 else 3 := by
  rw [matE_ok hN hl, scan_zero h0, if_neg (by simp)]

theorem step4 {N : Nat} {bs : List Int} {k : Nat} (h : (decide (0 ≤ bs.getD k 0) && decide (bs.getD k 0 < 2 ^ N)) = false) : stepE N bs k = 4 := by
  unfold stepE; rw [if_pos h]

theorem step3 {N : Nat} {bs : List Int} {k : Nat} (h : (decide (0 ≤ bs.getD k 0) && decide (bs.getD k 0 < 2 ^ N)) = true) (h2 : (0 < k ∧ bs.getD k 0 ≤ bs.getD (k - 1) 0) ∨ szI (bs.getD k 0) ≠ szI (bs.getD 0 0)) : stepE N bs k = 3 := by
  unfold stepE
  rw [h, if_neg (by decide), if_pos]
  rcases h2 with h2 | h2
  · left; simp only [Bool.and_eq_true, decide_eq_true_eq]; exact h2
  · right; exact h2

end Go.Proofs.YtomhhonigffilaaDoor
