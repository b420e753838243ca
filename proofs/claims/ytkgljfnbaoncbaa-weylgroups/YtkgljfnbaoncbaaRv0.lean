/- Squares that have an end: their roots by rows and by columns, looked at by the kernel: ranks 1 to 3. -/
import Derived.Test.YtkgljfnbaoncbaaMgAK
import Derived.Test.YtkgljfnbaoncbaaRq2
namespace Go.Proofs.Ytkgljfnbaoncbaa

/-- What the laws of words want of a square that has an end. -/
def wgP (c : List (List Int)) (n : Nat) : Bool :=
  decide (RtP c (posR c)) && decide ((posR c).length ≤ 24) && decide (qS n (posR c) (ones n) ≤ 1000) &&
  ((abL c).all fun b => b.all fun x => decide (-1000 ≤ x ∧ x ≤ 1000)) &&
  (tcs n).any fun tl => (List.range n).all fun r => (List.range n).all fun k => decide (tl.getD r 1 * cE c k r = tl.getD k 1 * cE c r k)

def Wk4 (i j : Nat) : Prop := ∀ k ∈ List.range 6, t3 i j k = true → ∀ s ∈ List.range 6, ∀ t ∈ List.range 6, t3 i s t = true → ∀ u ∈ List.range 6, t3 j s u = true → t3 k t u = true → (abL (sq4 (pq i) (pq j) (pq k) (pq s) (pq t) (pq u))).length ≤ 24 → wgP (sq4 (pq i) (pq j) (pq k) (pq s) (pq t) (pq u)) 4 = true

instance (i j : Nat) : Decidable (Wk4 i j) := by unfold Wk4; infer_instance

set_option maxRecDepth 100000 in
set_option maxHeartbeats 0 in
theorem wk1 : wgP [[2]] 1 = true := by decide +kernel

set_option maxRecDepth 100000 in
set_option maxHeartbeats 0 in
theorem wk2 : ∀ i ∈ List.range 6, wgP (sq2 (pq i)) 2 = true := by decide +kernel

set_option maxRecDepth 100000 in
set_option maxHeartbeats 0 in
theorem wk3 : ∀ i ∈ List.range 6, ∀ j ∈ List.range 6, ∀ k ∈ List.range 6, t3 i j k = true → wgP (sq3 (pq i) (pq j) (pq k)) 3 = true := by decide +kernel

end Go.Proofs.Ytkgljfnbaoncbaa
