/- Farkas's lemma (after Bartl): what is no sum of so much of rows lies beyond a plane that they don't cross (pure). -/
import Derived.Test.YtflgabcacljbjaaNrm
namespace Go.Proofs.Ytflgabcacljbjaa
open Lin

/-- So much of each row, added: the j-th number. -/
def sm (t : List (Nat → Int)) (a : Nat → Int) (j : Nat) : Int := sumN t.length fun i => a i * (t.getD i fun _ => 0) j

end Go.Proofs.Ytflgabcacljbjaa
