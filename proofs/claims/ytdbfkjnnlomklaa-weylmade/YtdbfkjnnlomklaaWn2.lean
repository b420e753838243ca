/- All squares of names in every order are good: part 2. -/
import Derived.Test.YtdbfkjnnlomklaaWkC
namespace Go.Proofs.Ytdbfkjnnlomklaa

set_option maxRecDepth 100000 in
set_option maxHeartbeats 0 in
theorem gd_p2 : ∀ ps ∈ (nmL.drop 10).take 1, ∀ o ∈ ords (mkL ps).length (mkL ps).length [], GdP (mkL ps).length (pmM o (mkL ps)) := by decide +kernel

end Go.Proofs.Ytdbfkjnnlomklaa
