/- The normal of rows: what it is, and when there is one; a way by rows. -/
import Derived.Test.YtflgabcacljbjaaWay1
import Derived.Test.YtflgabcacljbjaaRowB
import Derived.Test.YtflgabcacljbjaaRunB
import Derived.Deep.Onto
import Derived.Test.YtflgabcacljbjaaDatA
import Derived.Maps.AppendAt
import Derived.Test.YtflgabcacljbjaaLinAll

namespace Go.Proofs.Ytflgabcacljbjaa
open Lin

def V (l : List Int) : Nat → Int := fun j => l.getD j 0

theorem mem_fm {m : List (List Int)} {r : Nat → Int} : r ∈ fm m ↔ ∃ l ∈ m, r = V l := by
  simp only [fm, List.mem_map]
  constructor
  · rintro ⟨l, hl, rfl⟩; exact ⟨l, hl, rfl⟩
  · rintro ⟨l, hl, rfl⟩; exact ⟨l, hl, rfl⟩

end Go.Proofs.Ytflgabcacljbjaa
