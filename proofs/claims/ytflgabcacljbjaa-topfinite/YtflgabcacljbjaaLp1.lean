/- lp.said, and which of two ways says less. -/
import Derived.Test.YtflgabcacljbjaaEmA
import Derived.Laws.AppendOwnNone
import Derived.Test.YtflgabcacljbjaaTk1
namespace Go.Proofs.Ytflgabcacljbjaa
open Go.RowKit Lin
attribute [local go_sem ↓] Go.wp_at_zero Go.wp_at_succ

theorem getD_memR {l : List (List Int)} {i : Nat} (h : i < l.length) : l.getD i [] ∈ l := by simp [h]

end Go.Proofs.Ytflgabcacljbjaa
