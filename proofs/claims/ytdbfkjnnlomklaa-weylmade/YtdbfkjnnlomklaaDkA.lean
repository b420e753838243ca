import Derived.Test.YtdbfkjnnlomklaaWdA
/- The other way around, part 1. -/
namespace Go.Proofs.Ytdbfkjnnlomklaa

set_option maxRecDepth 100000 in
set_option maxHeartbeats 0 in
theorem du_p1 : ∀ ps ∈ (nmL.drop 0).take 9, ∀ o ∈ ords (mkL ps).length (mkL ps).length [], DuP (mkL ps).length (pmM o (mkL ps)) (ps.map duP) := by decide +kernel

end Go.Proofs.Ytdbfkjnnlomklaa

/- The other way around, part 2. -/
namespace Go.Proofs.Ytdbfkjnnlomklaa

set_option maxRecDepth 100000 in
set_option maxHeartbeats 0 in
theorem du_p2 : ∀ ps ∈ (nmL.drop 9).take 2, ∀ o ∈ ords (mkL ps).length (mkL ps).length [], DuP (mkL ps).length (pmM o (mkL ps)) (ps.map duP) := by decide +kernel

end Go.Proofs.Ytdbfkjnnlomklaa

/- The other way around, part 3. -/
namespace Go.Proofs.Ytdbfkjnnlomklaa

set_option maxRecDepth 100000 in
set_option maxHeartbeats 0 in
theorem du_p3 : ∀ ps ∈ (nmL.drop 11).take 17, ∀ o ∈ ords (mkL ps).length (mkL ps).length [], DuP (mkL ps).length (pmM o (mkL ps)) (ps.map duP) := by decide +kernel

end Go.Proofs.Ytdbfkjnnlomklaa

/- The other way around, part 4. -/
namespace Go.Proofs.Ytdbfkjnnlomklaa

set_option maxRecDepth 100000 in
set_option maxHeartbeats 0 in
theorem du_p4 : ∀ ps ∈ (nmL.drop 28).take 16, ∀ o ∈ ords (mkL ps).length (mkL ps).length [], DuP (mkL ps).length (pmM o (mkL ps)) (ps.map duP) := by decide +kernel

end Go.Proofs.Ytdbfkjnnlomklaa
