import Derived.Test.YtkpdgpdicafeiaaWz3
import Derived.Test.YtkpdgpdicafeiaaRefs3
import Derived.Test.YtkpdgpdicafeiaaDatA
import Derived.Deep.RegionHeld3
import Derived.Deep.RegionLaw
import Derived.Test.YtkpdgpdicafeiaaTpA
import Derived.Test.YtkpdgpdicafeiaaCycAll
import Derived.Test.YtkpdgpdicafeiaaRefs
import Derived.Deep.DrawnRows
import Derived.Test.YtkpdgpdicafeiaaTs1
/- facetref.NameFrom: some of the names, in a row. -/
namespace Go.Proofs.Ytkpdgpdicafeiaa
open Go.RowKit
attribute [local go_sem ↓] Go.wp_at_zero Go.wp_at_succ

/-- A piece's rank. -/
def rkP (p : UInt8 × UInt8) : Nat := p.2.toNat - 48

end Go.Proofs.Ytkpdgpdicafeiaa

/- Even squares and their parts, pure. -/
namespace Go.Proofs.Ytkpdgpdicafeiaa

/-! Parts -/

def setM (R : List (List Int)) (i j : Nat) (z : Int) : List (List Int) := R.set i ((R.getD i []).set j z)

end Go.Proofs.Ytkpdgpdicafeiaa
