/- The program's products; points looked through for one beyond a row. -/
import Derived.Test.YtmpbkdfknpokeaaDif1
import Derived.Test.YtmpbkdfknpokeaaLinAll
import Derived.Test.YtmpbkdfknpokeaaMade1
namespace Go.Proofs.Ytmpbkdfknpokeaa
open Go.RowKit
attribute [local go_sem ↓] Go.wp_at_zero Go.wp_at_succ

/-- The products, added. -/
def dotL (a x : List Int) : Int := Lin.sumN a.length fun i => a.getD i 0 * x.getD i 0

/-- Small enough that nothing passes 64 bits. -/
def Sm (a x : List Int) : Prop := a.length ≤ x.length ∧ a.length ≤ 8 ∧ (∀ z ∈ a, z.natAbs ≤ 1000000000000) ∧ ∀ z ∈ x, z.natAbs ≤ 1000

theorem mul_bd {a x : Int} (ha : a.natAbs ≤ 1000000000000) (hx : x.natAbs ≤ 1000) : (a * x).natAbs ≤ 1000000000000000 := by
  rw [Int.natAbs_mul]
  exact Nat.le_trans (Nat.mul_le_mul ha hx) (by decide)

theorem sum_sm {a x : List Int} (h : Sm a x) : ∀ k, k ≤ a.length → (Lin.sumN k fun i => a.getD i 0 * x.getD i 0).natAbs ≤ k * 1000000000000000 := by
  intro k
  induction k with
  | zero => intro _; simp [Lin.sumN]
  | succ k ih =>
    intro hk
    have h1 := ih (by omega)
    have h2 : (a.getD k 0 * x.getD k 0).natAbs ≤ 1000000000000000 := mul_bd (h.2.2.1 _ (by simp [show k < a.length by omega])) (h.2.2.2 _ (by simp [show k < x.length by have := h.1; omega]))
    simp only [Lin.sumN]
    omega

end Go.Proofs.Ytmpbkdfknpokeaa
