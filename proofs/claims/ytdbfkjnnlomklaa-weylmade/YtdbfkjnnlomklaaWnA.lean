import Derived.Test.YtdbfkjnnlomklaaWkC
/- All squares of names in every order are good: part 1. -/
namespace Go.Proofs.Ytdbfkjnnlomklaa

set_option maxRecDepth 100000 in
set_option maxHeartbeats 0 in
theorem gd_p1 : ∀ ps ∈ (nmL.drop 0).take 6, ∀ o ∈ ords (mkL ps).length (mkL ps).length [], GdP (mkL ps).length (pmM o (mkL ps)) := by decide +kernel

end Go.Proofs.Ytdbfkjnnlomklaa

/- All squares of names in every order are good: part 10. -/
namespace Go.Proofs.Ytdbfkjnnlomklaa

set_option maxRecDepth 100000 in
set_option maxHeartbeats 0 in
theorem gd_p10 : ∀ ps ∈ (nmL.drop 9).take 1, ∀ o ∈ ords (mkL ps).length (mkL ps).length [], GdP (mkL ps).length (pmM o (mkL ps)) := by decide +kernel

end Go.Proofs.Ytdbfkjnnlomklaa

/- All squares of names in every order are good: part 12. -/
namespace Go.Proofs.Ytdbfkjnnlomklaa

set_option maxRecDepth 100000 in
set_option maxHeartbeats 0 in
theorem gd_p12 : ∀ ps ∈ (nmL.drop 34).take 2, ∀ o ∈ ords (mkL ps).length (mkL ps).length [], GdP (mkL ps).length (pmM o (mkL ps)) := by decide +kernel

end Go.Proofs.Ytdbfkjnnlomklaa
