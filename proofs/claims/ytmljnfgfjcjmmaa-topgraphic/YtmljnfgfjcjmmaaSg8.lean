/- plane.Regions, plane.Bounded. -/
import Derived.Test.YtmljnfgfjcjmmaaSgC
import Derived.Test.YtmljnfgfjcjmmaaWiA
import Derived.Test.YtmljnfgfjcjmmaaCycAll
import Derived.Lib.SliceRun
import Derived.Lib.LazyBuf
import Derived.Laws.EntriesVeiled
import Derived.Test.YtmljnfgfjcjmmaaSgE
import Derived.Test.YtmljnfgfjcjmmaaWysA
import Derived.Test.YtmljnfgfjcjmmaaOwnA
import Derived.Test.YtmljnfgfjcjmmaaRefB
import Derived.Test.YtmljnfgfjcjmmaaWyA
import Derived.Test.YtmljnfgfjcjmmaaLinAll
import Derived.Test.YtmljnfgfjcjmmaaOfAll
import Derived.Deep.DeepCutAuto
import Derived.Deep.RegionHeld3
import Derived.Test.YtmljnfgfjcjmmaaLpA
import Derived.Test.YtmljnfgfjcjmmaaOrdB
import Derived.Test.YtmljnfgfjcjmmaaAcA
import Derived.Maps.OwnIn
import Derived.Test.YtmljnfgfjcjmmaaSgA
import Derived.Sort.CutIn
namespace Go.Proofs.Ytmljnfgfjcjmmaa
open Go.RowKit Lin
attribute [local go_sem ↓] Go.wp_at_zero Go.wp_at_succ

set_option maxRecDepth 100000 in
theorem regions_any (d : Nat) (P : List (List Int)) (v : Value) (w : World) (hd1 : 1 ≤ d) (hd3 : d ≤ 3) (hG : PlG d P) (h6 : P.length ≤ 6) (hv : Mat 0 22 3 w v P) :
    Calls Try.prog 9 #[.int .i64 d, v] w fun e w' => ∃ uo uc, e = .returned (.tuple #[.slice uo (grTR d P P.length).length uc, .int .i64 0]) ∧ w'.ownsRow w.heap.size 9 1 (.slice uo (grTR d P P.length).length uc) (grTR d P P.length).length (strs (grTR d P P.length)) ∧ Below w.heap.size w w' := by
  have H1 : Hid (Calls Try.prog 14 #[.int .i64 d, v] w fun e w' => e = .returned (.int .i64 0) ∧ Below w.heap.size w w') := planeCheck_any d P v w hd1 hd3 hG h6 hv
  have H2 : Hid (∀ X, Below w.heap.size w X → Calls Try.prog 17 #[.int .i64 d, v, .string ⟨#[43, 45]⟩] X fun e w' => ∃ u, e = .returned u ∧ w'.ownsRow X.heap.size 9 1 u (grTR d P P.length).length (strs (grTR d P P.length)) ∧ Below X.heap.size X w') := fun X hX => grownR_any d P v X (hv.below hX (Nat.le_refl _)) hG.row hd1 hd3 h6
  clear hv hG
  go_enter Try.func9, Try.ntmps9
  go_wp2_with fail
  refine H1.out.mono ?_
  rintro e w1 ⟨rfl, hb1⟩
  have HB1 : Hid (Below w.heap.size w w1) := hb1
  clear hb1
  go_wp2_with fail
  refine (H2.out w1 HB1.out).mono ?_
  rintro e w2 ⟨u, rfl, hs, hb2⟩
  obtain ⟨uo, uc, rfl⟩ := owns_form hs
  have HS : Hid (w2.ownsRow w.heap.size 9 1 (.slice uo (grTR d P P.length).length uc) (grTR d P P.length).length (strs (grTR d P P.length))) := own_low hs HB1.out.size
  have HB2 : Hid (Below w.heap.size w w2) := HB1.out.trans (hb2.mono HB1.out.size)
  clear hs hb2
  go_wp2
  refine bodyPost_ret (v := .tuple #[.slice uo (grTR d P P.length).length uc, .int .i64 0]) (by simp [results, Try.results9, go_sem]) rfl ⟨uo, uc, rfl, HS.out, HB2.out⟩

end Go.Proofs.Ytmljnfgfjcjmmaa
