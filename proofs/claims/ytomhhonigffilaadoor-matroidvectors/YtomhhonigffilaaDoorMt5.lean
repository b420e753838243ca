/- matroid.exchanges, isSet. -/
import Derived.Test.YtomhhonigffilaaDoorMt4
namespace Go.Proofs.YtomhhonigffilaaDoor
open Go.RowKit
attribute [local go_sem ↓] Go.wp_at_zero Go.wp_at_succ

def exB (bs : List Int) : Bool := bs.all fun a => bs.all fun b => gvB bs a.toNat b.toNat

/-- All are sets of at most eight things. -/
def B8 (bs : List Int) : Prop := ∀ b ∈ bs, 0 ≤ b ∧ b < 256

end Go.Proofs.YtomhhonigffilaaDoor
