/- Squares that have an end, looked at by the kernel: ranks 1 to 3. -/
import Derived.Test.YtilblfoapjnmaaaGreatDoorMgAT
import Derived.Test.YtilblfoapjnmaaaGreatDoorRq2
namespace Go.Proofs.YtilblfoapjnmaaaGreatDoor

/-- What the law wants of a square that has an end. -/
def sqOk (c : List (List Int)) (n : Nat) : Bool := rtB c n && (abL c).all fun b => b.all fun x => decide (-1000 ≤ x ∧ x ≤ 1000)

def Ok4 (i j : Nat) : Prop := ∀ k ∈ List.range 6, t3 i j k = true → ∀ s ∈ List.range 6, ∀ t ∈ List.range 6, t3 i s t = true → ∀ u ∈ List.range 6, t3 j s u = true → t3 k t u = true → (abL (sq4 (pq i) (pq j) (pq k) (pq s) (pq t) (pq u))).length ≤ 24 → sqOk (sq4 (pq i) (pq j) (pq k) (pq s) (pq t) (pq u)) 4 = true

instance (i j : Nat) : Decidable (Ok4 i j) := by unfold Ok4; infer_instance

set_option maxRecDepth 100000 in
set_option maxHeartbeats 0 in
theorem ok1 : sqOk [[2]] 1 = true := by decide +kernel

set_option maxRecDepth 100000 in
set_option maxHeartbeats 0 in
theorem ok2 : ∀ i ∈ List.range 6, sqOk (sq2 (pq i)) 2 = true := by decide +kernel

set_option maxRecDepth 100000 in
set_option maxHeartbeats 0 in
theorem ok3 : ∀ i ∈ List.range 6, ∀ j ∈ List.range 6, ∀ k ∈ List.range 6, t3 i j k = true → sqOk (sq3 (pq i) (pq j) (pq k)) 3 = true := by decide +kernel

end Go.Proofs.YtilblfoapjnmaaaGreatDoor
