/- What is divided by what divides all of it (pure; the same as in Pq3: not beside it). -/
import Derived.Test.YtgfnmkenpgnllaaGreatNrm
namespace Go.Proofs.YtgfnmkenpgnllaaGreat
open Lin

theorem low_mul (l : List Int) : (low l).map ((gc l : Int) * ·) = l := by
  unfold low
  rw [List.map_map]
  have : ∀ z ∈ l, (((gc l : Int) * ·) ∘ (· / (gc l : Int))) z = z := fun z hz => by
    show (gc l : Int) * (z / (gc l : Int)) = z
    exact Int.mul_ediv_cancel' (gc_dvd hz)
  rw [List.map_congr_left this, List.map_id']

end Go.Proofs.YtgfnmkenpgnllaaGreat
