import Derived.Test.YtdbfkjnnlomklaaWkC
/- All squares of names in every order are good: part 5. -/
namespace Go.Proofs.Ytdbfkjnnlomklaa

set_option maxRecDepth 100000 in
set_option maxHeartbeats 0 in
theorem gd_p5 : ∀ ps ∈ (nmL.drop 28).take 3, ∀ o ∈ ords (mkL ps).length (mkL ps).length [], GdP (mkL ps).length (pmM o (mkL ps)) := by decide +kernel

end Go.Proofs.Ytdbfkjnnlomklaa

/- All squares of names in every order are good: part 11. -/
namespace Go.Proofs.Ytdbfkjnnlomklaa

set_option maxRecDepth 100000 in
set_option maxHeartbeats 0 in
theorem gd_p11 : ∀ ps ∈ (nmL.drop 31).take 3, ∀ o ∈ ords (mkL ps).length (mkL ps).length [], GdP (mkL ps).length (pmM o (mkL ps)) := by decide +kernel

end Go.Proofs.Ytdbfkjnnlomklaa
