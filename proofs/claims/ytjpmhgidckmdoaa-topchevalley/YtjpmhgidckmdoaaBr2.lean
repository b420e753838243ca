/- weyl.isPart. -/
import Derived.Test.YtjpmhgidckmdoaaWy5
import Derived.Test.YtjpmhgidckmdoaaTpA
import Derived.Test.YtjpmhgidckmdoaaWlA
namespace Go.Proofs.Ytjpmhgidckmdoaa
open Go.RowKit Go.Shelf
attribute [local go_sem] Oper.semAt_some

theorem isp_snoc (c : List (List Int)) (l : List Nat) (r : Nat) (m : List Int) : isp c (l ++ [r]) m = if (isp c l m).getD r 0 < 0 then ovL c (isp c l m) r else isp c l m := by
  unfold isp; rw [List.foldl_append]; rfl

end Go.Proofs.Ytjpmhgidckmdoaa
