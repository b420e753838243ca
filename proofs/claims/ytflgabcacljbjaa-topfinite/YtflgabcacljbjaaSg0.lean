/- Signs of planes (pure): which signs places have, and how texts of signs grow. -/
import Derived.Test.YtflgabcacljbjaaLp1
import Derived.Test.YtflgabcacljbjaaFk0
import Derived.Test.YtflgabcacljbjaaWay1
import Derived.Test.YtflgabcacljbjaaPkd
import Derived.Test.YtflgabcacljbjaaOfAll
import Derived.Test.YtflgabcacljbjaaEmp1
import Derived.Test.YtflgabcacljbjaaNrm
import Derived.Test.YtflgabcacljbjaaRefs6
import Derived.Test.YtflgabcacljbjaaRowB
import Derived.Test.YtflgabcacljbjaaRefB
import Derived.Test.YtflgabcacljbjaaRowA
import Derived.Sort.CutIn
namespace Go.Proofs.Ytflgabcacljbjaa
open Lin

/-- How far a place (its last number: of what) is above a plane. -/
def hv (d : Nat) (r : List Int) (z : Nat → Int) : Int := dot d (V r) z - V r d * z d

/-! ### Texts that grow -/

open Classical in
theorem getD_snoc {α : Type} (t : List α) (c e : α) (i : Nat) : (t ++ [c]).getD i e = if i < t.length then t.getD i e else if i = t.length then c else e := by
  by_cases h : i < t.length
  · rw [if_pos h]
    simp [List.getD_eq_getElem?_getD, List.getElem?_append_left h]
  · rw [if_neg h]
    by_cases h2 : i = t.length
    · subst h2; simp
    · rw [if_neg h2]
      simp [List.getD_eq_getElem?_getD, List.getElem?_append_right (by omega : t.length ≤ i), show i - t.length ≠ 0 by omega]

end Go.Proofs.Ytflgabcacljbjaa
