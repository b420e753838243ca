import Derived.Test.YteflgnggopcdcaaDoorMsA
import Derived.Test.YteflgnggopcdcaaDoorTk1
import Derived.Test.YteflgnggopcdcaaDoorMtD
import Derived.Laws.EntriesVeiled
/- matroid.Circuits' closures. -/
namespace Go.Proofs.YteflgnggopcdcaaDoor
open Go.RowKit
attribute [local go_sem ↓] Go.wp_at_zero Go.wp_at_succ

end Go.Proofs.YteflgnggopcdcaaDoor

/- matroid.Circuits: its sets, gone through by setsThat. -/
namespace Go.Proofs.YteflgnggopcdcaaDoor
open Go.RowKit
attribute [local go_sem ↓] Go.wp_at_zero Go.wp_at_succ

/-- What Circuits answers. -/
def circL (N : Int) (bs : List Int) : List Int := if matE N bs = 0 then setsTo (circB bs) (2 ^ N.toNat) else []

end Go.Proofs.YteflgnggopcdcaaDoor

/- matroid.Flats' closures. -/
namespace Go.Proofs.YteflgnggopcdcaaDoor
open Go.RowKit
attribute [local go_sem ↓] Go.wp_at_zero Go.wp_at_succ

end Go.Proofs.YteflgnggopcdcaaDoor

/- matroid.Flats: its sets, gone through by setsThat. -/
namespace Go.Proofs.YteflgnggopcdcaaDoor
open Go.RowKit
attribute [local go_sem ↓] Go.wp_at_zero Go.wp_at_succ

/-- What Flats answers. -/
def flatL (N : Int) (bs : List Int) : List Int := if matE N bs = 0 then setsTo (flatB N.toNat bs) (2 ^ N.toNat) else []

end Go.Proofs.YteflgnggopcdcaaDoor
