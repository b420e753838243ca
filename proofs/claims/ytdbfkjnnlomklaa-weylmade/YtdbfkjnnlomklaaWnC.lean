import Derived.Test.YtdbfkjnnlomklaaWkC
/- All squares of names in every order are good: part 8. -/
namespace Go.Proofs.Ytdbfkjnnlomklaa

set_option maxRecDepth 100000 in
set_option maxHeartbeats 0 in
theorem gd_p8 : ∀ ps ∈ (nmL.drop 6).take 2, ∀ o ∈ ords (mkL ps).length (mkL ps).length [], GdP (mkL ps).length (pmM o (mkL ps)) := by decide +kernel

end Go.Proofs.Ytdbfkjnnlomklaa

/- All squares of names in every order are good: part 9. -/
namespace Go.Proofs.Ytdbfkjnnlomklaa

set_option maxRecDepth 100000 in
set_option maxHeartbeats 0 in
theorem gd_p9 : ∀ ps ∈ (nmL.drop 8).take 1, ∀ o ∈ ords (mkL ps).length (mkL ps).length [], GdP (mkL ps).length (pmM o (mkL ps)) := by decide +kernel

end Go.Proofs.Ytdbfkjnnlomklaa
