/- The program's rank and determinant. -/
import Derived.Test.YtgfnmkenpgnllaaGreatLin10
namespace Go.Proofs.YtgfnmkenpgnllaaGreat
open Go.RowKit Lin
attribute [local go_sem ↓] Go.wp_at_zero Go.wp_at_succ

theorem bd60 {c : Nat} {m : List (List Int)} (hx : Mx c 60 m) : Bd (mOf m) m.length c := bd_of hx (by decide) had60

theorem field1 (a b c d : Value) (w : World) : (Instr.field 113 (.agg #[a, b, c, d]) 1).run Tryz.prog w = .ok b w := by kernel_rfl

end Go.Proofs.YtgfnmkenpgnllaaGreat
