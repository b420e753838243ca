/- plane.grown: texts of signs grow plane by plane. -/
import Derived.Test.YtflgabcacljbjaaSg0
import Derived.Test.YtflgabcacljbjaaSgi
import Derived.Test.YtflgabcacljbjaaRgn
import Derived.Test.YtflgabcacljbjaaStepsAll
import Derived.Maps.AppendAt
import Derived.Test.YtflgabcacljbjaaTk1
import Derived.Laws.RangeString
import Derived.Deep.LoopGhost
namespace Go.Proofs.Ytflgabcacljbjaa
open Go.RowKit Lin
attribute [local go_sem ↓] Go.wp_at_zero Go.wp_at_succ

def strT (t : List UInt8) : Value := .string ⟨t.toArray⟩
def strs (ts : List (List UInt8)) : List Value := ts.map strT

@[simp] theorem strs_len (ts : List (List UInt8)) : (strs ts).length = ts.length := by simp [strs]
end Go.Proofs.Ytflgabcacljbjaa
