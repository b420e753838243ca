import Derived.Test.YtjpmhgidckmdoaaCh1
/- What is to be seen of all squares of names in every order, part 3. -/
namespace Go.Proofs.Ytjpmhgidckmdoaa

set_option maxRecDepth 100000 in
set_option maxHeartbeats 0 in
theorem ch_p3 : ∀ ps ∈ (nmL.drop 11).take 9, ∀ o ∈ ords (mkL ps).length (mkL ps).length [], ChP (pmM o (mkL ps)) (ohL (abL (mkL ps))) (abL (mkL ps)).length := by decide +kernel

end Go.Proofs.Ytjpmhgidckmdoaa

/- What is to be seen of all squares of names in every order, part 4. -/
namespace Go.Proofs.Ytjpmhgidckmdoaa

set_option maxRecDepth 100000 in
set_option maxHeartbeats 0 in
theorem ch_p4 : ∀ ps ∈ (nmL.drop 20).take 8, ∀ o ∈ ords (mkL ps).length (mkL ps).length [], ChP (pmM o (mkL ps)) (ohL (abL (mkL ps))) (abL (mkL ps)).length := by decide +kernel

end Go.Proofs.Ytjpmhgidckmdoaa
