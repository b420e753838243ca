/- The program's rank and determinant. -/
import Derived.Test.YtfolfhodicjcaaaLin10
namespace Go.Proofs.Ytfolfhodicjcaaa
open Go.RowKit Lin
attribute [local go_sem ↓] Go.wp_at_zero Go.wp_at_succ

theorem bd60 {c : Nat} {m : List (List Int)} (hx : Mx c 60 m) : Bd (mOf m) m.length c := bd_of hx (by decide) had60

theorem field1 (a b c d : Value) (w : World) : (Instr.field 100 (.agg #[a, b, c, d]) 1).run Try.prog w = .ok b w := by kernel_rfl

end Go.Proofs.Ytfolfhodicjcaaa
