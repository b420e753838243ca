/- half.Check and half.Empty, of cuts that may be. -/
import Derived.Test.YtkfdpcgmpbopnaaGreatDoorRef1
import Derived.Test.YtkfdpcgmpbopnaaGreatDoorWi1
namespace Go.Proofs.YtkfdpcgmpbopnaaGreatDoor
open Go.RowKit

/-- A cut that may be, of few dimensions. -/
structure CutOk (d : Nat) (rows : List (List Int)) : Prop where
  d1 : 1 ≤ d
  d3 : d ≤ 3
  n12 : rows.length ≤ 12
  len : ∀ r ∈ rows, r.length = d + 1
  bd : ∀ r ∈ rows, ∀ z ∈ r, z.natAbs ≤ 20

/-- Nothing is in it: there is a way in which rows say that 0 is below 0. -/
def empB (d : Nat) (rows : List (List Int)) : Bool := !(waysL rows (refG d)).isEmpty

theorem far_no {r : List Int} {n : Nat} (h : ∀ z ∈ r, z.natAbs ≤ n) : r.any (farB · n) = false := by
  rw [List.any_eq_false]
  intro z hz
  have := h z hz
  simp [farB]
  omega

set_option maxRecDepth 100000 in
set_option maxHeartbeats 400000 in
theorem list_ok (B : Nat) (r : List Int) (v : Value) (many : Int) (w : World) (hv : Sl B 3 w v (ints r)) (hd : (r.length : Int) = many) (hn : r.any (farB · 20) = false) :
    Calls Tryz.prog 85 #[v, .int .i64 many, .int .i64 20] w fun e w' => e = .returned (.int .i64 0) ∧ Below w.heap.size w w' := by
  subst hd
  refine (chkL_any B r.length 20 r v w hv (by decide) (by decide)).mono ?_
  rintro e w1 ⟨rfl, hb1⟩
  rw [hn]
  exact ⟨by simp, hb1⟩

end Go.Proofs.YtkfdpcgmpbopnaaGreatDoor
