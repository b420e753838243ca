/- All squares of names in every order are good: part 4. -/
import Derived.Test.YtdbfkjnnlomklaaWkC
namespace Go.Proofs.Ytdbfkjnnlomklaa

set_option maxRecDepth 100000 in
set_option maxHeartbeats 0 in
theorem gd_p4 : ∀ ps ∈ (nmL.drop 20).take 8, ∀ o ∈ ords (mkL ps).length (mkL ps).length [], GdP (mkL ps).length (pmM o (mkL ps)) := by decide +kernel

end Go.Proofs.Ytdbfkjnnlomklaa
