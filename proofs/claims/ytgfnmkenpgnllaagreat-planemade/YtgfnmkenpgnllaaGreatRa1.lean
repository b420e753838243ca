/- The rows around points: all choices, by the iterator. -/
import Derived.Test.YtgfnmkenpgnllaaGreatSrt3
import Derived.Test.YtgfnmkenpgnllaaGreatOf3
import Derived.Test.YtgfnmkenpgnllaaGreatRowC
import Derived.Test.YtgfnmkenpgnllaaGreatRow3
import Derived.Test.YtgfnmkenpgnllaaGreatPkd
namespace Go.Proofs.YtgfnmkenpgnllaaGreat
open Go.RowKit Go.Shelf
attribute [local go_sem] Oper.semAt_some
attribute [local go_sem ↓] Go.wp_at_zero Go.wp_at_succ

theorem pickedP_any (B : Nat) (P : List (List Int)) (x : List Int) (v u : Value) (w : World) (hv : Mat B 22 3 w v P) (hu : Sl B 3 w u (ints x)) (hx : ∀ i, i < x.length → 0 ≤ x.getD i 0 ∧ x.getD i 0 < P.length) (hl : x.length ≤ 1000) :
    Calls Tryz.prog 59 #[v, u] w fun e w' => ∃ z, e = .returned z ∧ Rws w.heap.size 22 3 w' z (pks P [] x) ∧ Below w.heap.size w w' :=
  pickedK_any B P x v u w hv hu hx hl

end Go.Proofs.YtgfnmkenpgnllaaGreat
