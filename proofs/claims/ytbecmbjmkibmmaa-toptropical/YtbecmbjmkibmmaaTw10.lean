/- The document's least choice. -/
import Derived.Test.YtbecmbjmkibmmaaTw9
import Derived.Test.YtbecmbjmkibmmaaTw5
import Derived.Lib.SliceRun
import Derived.Deep.QuietTactic
namespace Go.Proofs.Ytbecmbjmkibmmaa
open Go.RowKit
attribute [local go_sem ↓] Go.wp_at_zero Go.wp_at_succ

theorem leastP_len {M : List (List Int)} {n : Nat} {l : List (List Int)} (h : ∀ o ∈ l, o.length = n) : (leastP M n l).2.length = n ∨ (leastP M n l).2 = [] := by
  suffices H : ∀ (l : List (List Int)) (s : Int × List Int), (∀ o ∈ l, o.length = n) → (s.2.length = n ∨ s.2 = []) → ((l.foldl (lstp M n) s).2.length = n ∨ (l.foldl (lstp M n) s).2 = []) from H l (0, []) h (.inr rfl)
  intro l
  induction l with
  | nil => intro s _ h; exact h
  | cons o l ih =>
    intro s hl hs
    rw [List.foldl_cons]
    refine ih _ (fun x hx => hl x (by simp [hx])) ?_
    unfold lstp
    split
    · exact .inl (hl o (by simp))
    · exact hs

end Go.Proofs.Ytbecmbjmkibmmaa
