/- Rows of the call's own, from a lesser block on. -/
import Derived.Test.YtgfnmkenpgnllaaGreatRow4
namespace Go.Proofs.YtgfnmkenpgnllaaGreat
open Go.RowKit

theorem Fr.mono {B B' : Nat} {w : World} {v : Value} {m : List (List Int)} (h : Fr B 22 3 w v m) (hB : B' ≤ B) : Fr B' 22 3 w v m := by
  obtain ⟨vs, h1, h2, h3⟩ := h
  exact ⟨vs, h1, h2.mono hB, h3⟩

end Go.Proofs.YtgfnmkenpgnllaaGreat
