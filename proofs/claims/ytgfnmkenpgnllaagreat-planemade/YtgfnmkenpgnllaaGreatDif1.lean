/- The program's differences of points. -/
import Derived.Test.YtgfnmkenpgnllaaGreatRun9
import Derived.Lib.JoinLaws
namespace Go.Proofs.YtgfnmkenpgnllaaGreat
open Go.RowKit
attribute [local go_sem ↓] Go.wp_at_zero Go.wp_at_succ

theorem Touch.below {g M : Nat} {w w2 wr : World} (h : Touch g w2 wr) (hb : Below M w w2) (hg : M ≤ g) : Below M w wr :=
  ⟨h.os.trans hb.os, h.tape.trans hb.tape, h.output.trans hb.output, by rw [h.size]; exact hb.size, fun b hlt => (h.block b (by omega)).trans (hb.block b hlt)⟩

end Go.Proofs.YtgfnmkenpgnllaaGreat
