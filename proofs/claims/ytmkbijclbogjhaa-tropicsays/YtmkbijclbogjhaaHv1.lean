/- What the laws don't look at, and how they hold two numbers against each other. -/
import Derived.Test.YtmkbijclbogjhaaReads
import Derived.Test.YtmkbijclbogjhaaRefs2
namespace Go.Proofs.Ytmkbijclbogjhaa
open Go.RowKit
attribute [local go_sem ↓] Go.wp_at_zero Go.wp_at_succ

set_option maxRecDepth 100000 in
theorem num_true (a e b f : Int) (w : World) (he : e = f) (h1 : f ≠ 0 → a = 0) (h2 : f = 0 → a = b) :
    Calls Try.prog 10 #[.int .i64 a, .int .i64 e, .int .i64 b, .int .i64 f] w fun x w' => x = .returned (.bool true) ∧ w' = w := by
  subst he
  by_cases h0 : e = 0
  · have ha := h2 h0
    subst h0 ha
    clear h1 h2
    go_enter Try.func10, Try.ntmps10
    go_wp2
    go_ret
    exact ⟨ret_bool (by simp), rfl⟩
  · have ha := h1 h0
    subst ha
    have hb : (e != 0) = true := by simp [h0]
    clear h1 h2
    go_enter Try.func10, Try.ntmps10
    go_wp2
    go_ret
    exact ⟨ret_bool (by simp), rfl⟩

end Go.Proofs.Ytmkbijclbogjhaa
