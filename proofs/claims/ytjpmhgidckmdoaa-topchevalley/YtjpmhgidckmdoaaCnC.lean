import Derived.Test.YtjpmhgidckmdoaaCh1
/- What is to be seen of all squares of names in every order, part 5. -/
namespace Go.Proofs.Ytjpmhgidckmdoaa

set_option maxRecDepth 100000 in
set_option maxHeartbeats 0 in
theorem ch_p5 : ∀ ps ∈ (nmL.drop 28).take 6, ∀ o ∈ ords (mkL ps).length (mkL ps).length [], ChP (pmM o (mkL ps)) (ohL (abL (mkL ps))) (abL (mkL ps)).length := by decide +kernel

end Go.Proofs.Ytjpmhgidckmdoaa

/- What is to be seen of all squares of names in every order, part 6. -/
namespace Go.Proofs.Ytjpmhgidckmdoaa

set_option maxRecDepth 100000 in
set_option maxHeartbeats 0 in
theorem ch_p6 : ∀ ps ∈ (nmL.drop 34).take 10, ∀ o ∈ ords (mkL ps).length (mkL ps).length [], ChP (pmM o (mkL ps)) (ohL (abL (mkL ps))) (abL (mkL ps)).length := by decide +kernel

end Go.Proofs.Ytjpmhgidckmdoaa
