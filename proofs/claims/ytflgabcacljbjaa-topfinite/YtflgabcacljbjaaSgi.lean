/- A cut's box that is appended to, beside rows of rows that are read. -/
import Derived.Test.YtflgabcacljbjaaRefA
import Derived.Lib.OthersKept
import Derived.Test.YtflgabcacljbjaaStepsAll
import Derived.Deep.Onto
import Derived.Maps.AppendAt
namespace Go.Proofs.Ytflgabcacljbjaa
open Go.RowKit

theorem infoSlC : (Try.prog.info? 22).map (fun i => (i.zero, i.size, i.bytes)) = some (some (.slice none 0 0), 1, 24) := by kernel_rfl

/-! ### Beside an iterator over a text -/

end Go.Proofs.Ytflgabcacljbjaa
