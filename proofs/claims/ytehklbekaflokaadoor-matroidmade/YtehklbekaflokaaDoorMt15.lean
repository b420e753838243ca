/- matroid.Greedy: the walk. -/
import Derived.Test.YtehklbekaflokaaDoorMt14
namespace Go.Proofs.YtehklbekaflokaaDoor
open Go.RowKit
attribute [local go_sem ↓] Go.wp_at_zero Go.wp_at_succ

def grA (N : Int) (bs ws : List Int) : Nat × Int := if grE N bs ws = 0 then grT bs ws (hvL ws) ws.length else (0, 0)

set_option maxRecDepth 100000 in
theorem freeIn_any (N : Int) (v : Value) (w : World) :
    Calls Tryd.prog 33 #[.agg #[.int .i64 N, v]] w fun e w' => e = .returned (.func (.func 53) #[] #[.pointer (some ⟨w.heap.size, 0, none⟩)]) ∧ w' = w.alloc (.cells #[.int .i64 N, v] 24) := by
  go_enter Tryd.func33, Tryd.ntmps33
  go_wp2
  go_ret
  exact ⟨rfl, rfl⟩

end Go.Proofs.YtehklbekaflokaaDoor
