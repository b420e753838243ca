import Derived.Test.YtjpmhgidckmdoaaCh1
/- What is to be seen of all squares of names in every order, part 1. -/
namespace Go.Proofs.Ytjpmhgidckmdoaa

set_option maxRecDepth 100000 in
set_option maxHeartbeats 0 in
theorem ch_p1 : ∀ ps ∈ (nmL.drop 0).take 9, ∀ o ∈ ords (mkL ps).length (mkL ps).length [], ChP (pmM o (mkL ps)) (ohL (abL (mkL ps))) (abL (mkL ps)).length := by decide +kernel

end Go.Proofs.Ytjpmhgidckmdoaa

/- What is to be seen of all squares of names in every order, part 2. -/
namespace Go.Proofs.Ytjpmhgidckmdoaa

set_option maxRecDepth 100000 in
set_option maxHeartbeats 0 in
theorem ch_p2 : ∀ ps ∈ (nmL.drop 9).take 2, ∀ o ∈ ords (mkL ps).length (mkL ps).length [], ChP (pmM o (mkL ps)) (ohL (abL (mkL ps))) (abL (mkL ps)).length := by decide +kernel

end Go.Proofs.Ytjpmhgidckmdoaa
