/- slices.Backward over a list of numbers: what it hands over. -/
import Derived.Test.YtjpmhgidckmdoaaRfs
import Derived.Test.YtjpmhgidckmdoaaReads
namespace Go.Proofs.Ytjpmhgidckmdoaa
open Go.RowKit Go.Shelf
attribute [local go_sem] Oper.semAt_some

/-- What is handed over: a place and what is there. -/
def HandB (l : List Int) (_ : World) (S : Nat → Prop) (x : Nat) (vs : Array Value) : Prop := vs = #[.int .i64 x, .int .i64 (l.getD x 0)] ∧ ∀ b, ¬ S b

def dnL (n : Nat) : List Nat := (List.range n).reverse

theorem dnL_len (n : Nat) : (dnL n).length = n := by simp [dnL]

theorem dnL_get {n k : Nat} (h : k < n) : (dnL n).take (k + 1) = (dnL n).take k ++ [n - 1 - k] := by
  rw [List.take_succ_eq_append_getElem (by rw [dnL_len]; exact h)]
  simp [dnL]

end Go.Proofs.Ytjpmhgidckmdoaa
